/-
  THE WALK of the document's Words.
-/
import Derived.Test.YtopacoghnofliaaDoorWords
import Derived.Laws.DeepStrings4
import Derived.Laws.Concat
namespace Go.Proofs.YtopacoghnofliaaDoor
open Go.RowKit Go.Shelf


theorem strs_append (a b : List Txt) : strs (a ++ b) = strs a ++ strs b := by simp [strs]

theorem strs_length (a : List Txt) : (strs a).length = a.length := by simp [strs]


/-- 's[i:j]'. -/
theorem run_sub {P : Program} (W : World) (t : TypeId) (h : P.underlying t = some .string) (s : ByteArray) (i j : Nat) (hij : i ≤ j) (hj : j ≤ s.size) (i' j' : Int) (hi' : i' = i) (hj' : j' = j) :
    (Instr.slice t (.string s) (some (.int .i64 i')) (some (.int .i64 j')) none).run P W = .ok (.string (s.extract i j)) W := by
  subst hi' hj'
  rw [run_slice_string_if W t s .i64 .i64 i j h, if_pos (by omega), if_pos (by omega)]
  simp

/-- 'a + b'. -/
theorem run_plus {P : Program} (W : World) (a b : ByteArray) (ha : a.size ≤ 8388608) (hb : b.size ≤ 8388608) :
    (Op.stringOp .add a b).run P W = .ok (.string (str (txt a ++ txt b))) W := by
  rw [run_string_add W a b (by omega) (by omega)]
  congr 2


set_option maxHeartbeats 1000000 in
theorem rwords_in (s : ByteArray) (w : World) (hs : s.size ≤ 1000000) (hs0 : s ≠ ⟨#[]⟩) :
    Calls Tryd.prog 63 #[.string s] w fun e W' => ∃ v, e = .returned v ∧ Own1 W' w.heap.size 9 v (scells (strs (pieces (txt s)))) ∧ Below w.heap.size w W' := by
  have hne : s.toList.isEmpty = false := by
    rw [ByteArray.toList_eq]
    cases h : s.data.toList with
    | nil => exact absurd (txt_inj (show txt s = txt ⟨#[]⟩ from h)) hs0
    | cons b l => rfl
  have hpc := pieces_cut (txt s)
  go_enter Tryd.func63, Tryd.ntmps63
  go_wp2
  go_loopw [3, 4, 5] (fun l p i wr => ∃ k : Nat, k ≤ s.size ∧ i = .int .i64 k ∧ p = .string (str (cutP ((txt s).take k)).2) ∧ Own1 wr w.heap.size 9 l (scells (strs (cutP ((txt s).take k)).1)) ∧ Below w.heap.size w wr) (fun _ _ i _ => s.size - (intOf i).toNat)
  case atStart => exact ⟨0, Nat.zero_le _, rfl, rfl, own1_nil _ _ _, Below.refl _ _⟩
  case round =>
    obtain ⟨k, hk, rfl, rfl, hown, hB⟩ := hrel
    have hln := cutP_len ((txt s).take k)
    have hlk : ((txt s).take k).length ≤ k := List.length_take_le _ _
    have hsl := hB.size
    by_cases hlt : k < s.size
    · have hsn := txt_snoc s k hlt
      by_cases hd : s[k] = 46
      · have hcd := cutP_dot ((txt s).take k)
        rw [hd] at hsn
        rw [← hsn] at hcd
        have HC : Hid _ := hcd
        clear hcd hsn
        go_wp2_with (at_builtin; refine wpList_append_row rfl _ _ 84 9 (.string ⟨#[]⟩) 16 elemS rfl w.heap.size _ _ (scells (strs (cutP ((txt s).take k)).1)) [.string (str (cutP ((txt s).take k)).2)] rfl rfl (hown.alloc _) (row_one _ _ _) (by simp [Value.oneCell']) (by simp [scells, strs]; omega) (by simp [scells, strs]; omega) (by simp; omega) ?_; intro v' w1 hown' hb1 hs1)
        go_roundw
        case rel =>
          refine ⟨k + 1, by omega, by go_num, by rw [HC.out]; rfl, ?_, ((hB.alloc hsl _).trans (hb1.mono (by omega)))⟩
          rw [HC.out, strs_append, scells_append]
          exact hown'
        case measure => simp [intOf]; omega
      · have hd' : ¬ ((s[k].toNat : Int) = 46) := fun e => hd (UInt8.toNat_inj.1 (show s[k].toNat = 46 by omega))
        have hcd := cutP_snoc ((txt s).take k) s[k] hd
        rw [← hsn] at hcd
        have HC : Hid _ := hcd
        clear hcd hsn
        have hsub : ∀ W, (Instr.slice 9 (.string s) (some (.int .i64 (k : Int))) (some (.int .i64 ((k : Int) + 1))) none).run Tryd.prog W = .ok (.string (s.extract k (k + 1))) W := fun W => run_sub W 9 Tryd.underlying9 s k (k + 1) (by omega) (by omega) _ _ rfl (by omega)
        have hadd : ∀ W, (Op.stringOp .add (str (cutP ((txt s).take k)).2) (s.extract k (k + 1))).run Tryd.prog W = .ok (.string (str ((cutP ((txt s).take k)).2 ++ [s[k]]))) W := fun W => by
          rw [run_plus W _ _ (by rw [← txt_length, txt_str]; omega) (by rw [ByteArray.size_extract]; omega), txt_str, txt_extract]
          congr 4
          rw [show k + 1 - k = 1 by omega, List.drop_eq_getElem_cons (by rw [txt_length]; omega), List.take_succ_cons, List.take_zero]
          rfl
        go_wp2
        go_roundw
        case rel =>
          refine ⟨k + 1, by omega, by go_num, ?_, by rw [HC.out]; exact hown, hB⟩
          rw [HC.out]
        case measure => simp [intOf]; omega
    · have htk : (txt s).take k = txt s := List.take_of_length_le (by rw [txt_length]; omega)
      rw [htk] at hown hln ⊢
      clear htk hlk
      rw [txt_length] at hln
      have HP : Hid _ := hpc
      clear hpc
      go_wp2_with (at_builtin; refine wpList_append_row rfl _ _ 84 9 (.string ⟨#[]⟩) 16 elemS rfl w.heap.size _ _ (scells (strs (cutP (txt s)).1)) [.string (str (cutP (txt s)).2)] rfl rfl (hown.alloc _) (row_one _ _ _) (by simp [Value.oneCell']) (by simp [scells, strs]; omega) (by simp [scells, strs]; omega) (by simp; omega) ?_; intro v' w1 hown' hb1 hs1)
      go_ret
      refine ⟨_, rfl, ?_, (hB.alloc hsl _).trans hb1⟩
      rw [HP.out, strs_append, scells_append]
      exact hown'


theorem rwords_any (s : ByteArray) (w : World) (hs : s.size ≤ 1000000) :
    Calls Tryd.prog 63 #[.string s] w fun e W' => ∃ v, e = .returned v ∧ Own1 W' w.heap.size 9 v (scells (strs (wordsL (txt s)))) ∧ Below w.heap.size w W' := by
  by_cases h : s = ⟨#[]⟩
  · subst h
    go_enter Tryd.func63, Tryd.ntmps63
    go_wp2
    go_ret
    exact ⟨_, rfl, own1_nil _ _ _, Below.refl _ _⟩
  · rw [wordsL_txt s h]
    exact rwords_in s w hs h

end Go.Proofs.YtopacoghnofliaaDoor
