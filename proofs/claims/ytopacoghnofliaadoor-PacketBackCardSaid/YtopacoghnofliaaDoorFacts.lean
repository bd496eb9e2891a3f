/-
  WHAT IS OF NO PROGRAM: what was sealed opens; cut, it is too short; one behind the other.
-/
import Derived.Test.YtopacoghnofliaaDoorRWhole
namespace Go.Proofs.YtopacoghnofliaaDoor


theorem getN4 (v : Nat) (h : v < 4294967296) : getN (putL 4 v) = v := by rw [getN_putL]; exact Nat.mod_eq_of_lt h


theorem sealL_eq (b : List UInt8) (h : b.length ≤ 1048576) : sealL b = headL b ++ putL 4 (crc (headL b)) := by unfold sealL; rw [if_pos h]

theorem cnt_seal (b rest : List UInt8) (h : b.length ≤ 1048576) : cntO (sealL b ++ rest) = b.length := by
  unfold cntO
  rw [sealL_eq b h, headL, List.append_assoc, List.append_assoc, List.take_left' (putL_length 4 _), getN4 _ (by omega)]

theorem born_seal (b rest : List UInt8) (h : b.length ≤ 1048576) : bornO (sealL b ++ rest) = crc (headL b) := by
  unfold bornO
  rw [cnt_seal b rest h, sealL_eq b h, List.append_assoc, List.drop_left' (by rw [headL_length]; omega), List.take_left' (putL_length 4 _), getN4 _ (crc_lt _)]

theorem open_seal (b rest : List UInt8) (h : b.length ≤ 1048576) : errO (sealL b ++ rest) = 0 := by
  have hl := sealL_length b h
  refine errO_ok _ (by simp; omega) (by rw [cnt_seal b rest h]; omega) (by rw [cnt_seal b rest h]; simp; omega) ?_
  rw [born_seal b rest h, cnt_seal b rest h, sealL_eq b h, List.append_assoc, List.take_left' (by rw [headL_length]; omega)]

theorem cont_seal (b rest : List UInt8) (h : b.length ≤ 1048576) : contO (sealL b ++ rest) = b := by
  rw [(openO_good _ (open_seal b rest h)).1, cnt_seal b rest h, sealL_eq b h, headL, List.append_assoc, List.append_assoc, List.drop_left' (putL_length 4 _), List.take_left' rfl]

theorem size_seal (b rest : List UInt8) (h : b.length ≤ 1048576) : sizeO (sealL b ++ rest) = b.length + 8 := by
  rw [(openO_good _ (open_seal b rest h)).2, cnt_seal b rest h]

theorem wholeC_seal (b rest : List UInt8) (h : b.length ≤ 1048576) : wholeC (sealL b ++ rest) = b :: wholeC rest := by
  rw [wholeC_ok _ (open_seal b rest h), cont_seal b rest h, size_seal b rest h, List.drop_left' (sealL_length b h)]

theorem wholeS_seal (b rest : List UInt8) (h : b.length ≤ 1048576) : wholeS (sealL b ++ rest) = b.length + 8 + wholeS rest := by
  rw [wholeS_ok _ (open_seal b rest h), size_seal b rest h, List.drop_left' (sealL_length b h)]

/-- Cut, it is too short. -/
theorem open_cut (b : List UInt8) (h : b.length ≤ 1048576) (k : Nat) (hk : k < b.length + 8) : errO ((sealL b).take k) = 8 := by
  have hl := sealL_length b h
  by_cases h4 : k < 4
  · exact errO_short _ (by rw [List.length_take]; omega)
  · have hc : cntO ((sealL b).take k) = b.length := by
      have := cnt_seal b [] h
      unfold cntO at this ⊢
      rw [List.append_nil] at this
      rw [List.take_take, Nat.min_eq_left (by omega)]
      exact this
    refine errO_cut _ (by rw [List.length_take]; omega) (by rw [hc]; omega) (by rw [hc, List.length_take]; omega)

theorem errO_few (bs : List UInt8) (h : bs.length < 8) : errO bs ≠ 0 := fun he => by have := errO_zero bs he; omega

theorem lives_c : wholeC (sealL [] ++ (sealL [1] ++ [7])) = [[], [1]] := by
  rw [wholeC_seal _ _ (by simp), wholeC_seal _ _ (by simp), wholeC_end _ (errO_few _ (by simp))]

theorem lives_s : wholeS (sealL [] ++ (sealL [1] ++ [7])) = 17 := by
  rw [wholeS_seal _ _ (by simp), wholeS_seal _ _ (by simp), wholeS_end _ (errO_few _ (by simp))]
  simp

end Go.Proofs.YtopacoghnofliaaDoor
