/-
  THE WALKS of the document's Cut, Lend and Kept, and of 'lives': the document's examples are as it says.
-/
import Derived.Test.YtpdmcodnnhbchaaDoorGet
import Derived.RegionTactic
import Derived.Outline
namespace Go.Proofs.YtpdmcodnnhbchaaDoor
open Go.RowKit

theorem tab_pos {w : World} (h : Tab w) : 0 < w.heap.size := h.pos

theorem putL_last (n v : Nat) : putL (n + 1) v = putL n (v / 256) ++ [UInt8.ofNat v] := by
  unfold putL
  rw [List.range_succ, List.map_append]
  congr 1
  · refine List.map_congr_left fun i hi => ?_
    have hi' : i < n := by simpa using hi
    rw [show 8 * (n + 1 - 1 - i) = 8 + 8 * (n - 1 - i) by omega, Nat.shiftRight_add, Nat.shiftRight_eq_div_pow v 8]
  · simp

theorem getN_putL : ∀ n v : Nat, getN (putL n v) = v % 256 ^ n
  | 0, v => by simp [getN, putL, Nat.mod_one]
  | n + 1, v => by
    rw [putL_last, getN_snoc, getN_putL n (v / 256), Nat.pow_succ, Nat.mul_comm (256 ^ n) 256, Nat.mod_mul]
    simp
    omega

theorem getB_putI (n : Int) (v : Nat) (rest : List UInt8) : getB (putI n v ++ rest) n = goodB n := by
  unfold getB putI
  cases hg : goodB n with
  | false => simp
  | true =>
    have hn : n = 1 ∨ n = 2 ∨ n = 4 ∨ n = 8 := by unfold goodB at hg; simp at hg; omega
    simp [putL_length]
    omega

theorem getI_putI (n : Int) (v : Nat) (rest : List UInt8) : ((getI (putI n v ++ rest) n : Nat) : Int) = cutI (v % 18446744073709551616) n := by
  unfold getI
  rw [getB_putI]
  rcases five n with rfl | rfl | rfl | rfl | ⟨h1, h2, h4, h8⟩
  case inr.inr.inr.inr =>
    have hg : goodB n = false := by unfold goodB; simp; omega
    simp [cutI, *]
  all_goals
    simp only [putI, goodB]
    simp [putL_length, getN_putL, cutI]
    try omega

set_option maxHeartbeats 400000 in
theorem lend_any (s : Value) (bs : List UInt8) (w : World) (hs : Holds w s bs) (hl : bs.length ≤ 100000000) :
    Calls Tryd.prog 10 #[s] w fun e w' => ∃ v1 v2, e = .returned (.tuple #[v1, v2]) ∧ Owns w' w.heap.size 5 v1 ([167, 59] ++ bs ++ [94, 193]) ∧ Holds w' v2 bs ∧ Below w.heap.size w w' := by
  obtain ⟨a, cap, rfl⟩ := hs.slice
  go_enter Tryd.func10, Tryd.ntmps10
  go_wp2_with (first
    | (at_builtin; refine wpList_append_bytes rfl (.tmp 5) (.tmp 6) 22 5 isU8 rfl w.heap.size _ _ [167, 59] bs rfl rfl (owns_new _ _ _ [167, 59] (Nat.le_refl _) (by simp [maxLen])) (hs.below ((Below.refl _ _).alloc (Nat.le_refl _) _) (Nat.le_refl _)) (by simp; omega) (by simp) ?_; intro v1 w1 own1 bel1 sz1)
    | (at_builtin; refine wpList_append_bytes rfl (.tmp 7) (.tmp 8) 22 5 isU8 rfl w.heap.size _ _ ([167, 59] ++ bs) [94, 193] rfl rfl (World.ownsRow.alloc own1 _) (owns_new _ w1.heap.size _ [94, 193] (Nat.le_refl _) (by simp [maxLen])).holds (by simp; omega) (by simp; omega) ?_; intro v2 w2 own2 bel2 sz2))
  have belT : Below w.heap.size w w2 := (((Below.refl _ _).alloc (Nat.le_refl _) _).trans bel1).trans ((Below.refl _ _).alloc sz1 _ |>.trans bel2)
  obtain ⟨g, cap2, hv2, hcap2, hmax2, hcell2⟩ : ∃ g cap2, v2 = .slice (some ⟨g, 0, none⟩) (2 + bs.length + 2) cap2 ∧ 2 + bs.length + 2 ≤ cap2 ∧ cap2 ≤ maxLen ∧ ∀ j (hj : j < bs.length), w2.cell? ⟨g, 2 + j, none⟩ = some (.int .u8 (bs[j].toNat : Int)) := by
    obtain ⟨b, off, c, hv, h1, h2, h3⟩ := own2.holds.at (by simp)
    rcases own2.2 with ⟨h, _⟩ | ⟨g, cap, cur, h, _⟩
    · rw [hv] at h; simp at h
    · rw [hv] at h
      simp at h
      obtain ⟨⟨rfl, rfl⟩, rfl⟩ := h
      refine ⟨b, c, by rw [hv]; simp; omega, by simp at h1; omega, h2, fun j hj => ?_⟩
      have hc := h3 (2 + j) (by simp; omega)
      rw [Nat.zero_add] at hc
      rw [hc]
      simp [List.getElem_cons, hj]
  rw [hv2] at own2 ⊢
  clear hv2 v2
  unfold maxLen at hmax2
  go_wp2
  go_region
  go_wp2
  go_ret2
  refine ⟨_, _, rfl, own2, ?_, belT.drew⟩
  refine .inr ⟨⟨g, 2, none⟩, cap2 - 2, ?_, by omega, by unfold maxLen; omega, fun j u hj => ?_⟩
  · exact congrArg (fun n => Value.slice (some ⟨g, 2, none⟩) n (cap2 - 2)) (show 2 + bs.length - 2 = bs.length by omega)
  · have hj' : j < bs.length := by
      have := (List.getElem?_eq_some_iff.1 hj).1
      simpa [bcells] using this
    rw [Go.WideShapes.add_plain]
    have hc := hcell2 j hj'
    have hu : u = .int .u8 (bs[j].toNat : Int) := by simpa [bcells, hj'] using hj.symm
    rw [hu]
    exact hc

/-- Kept: the memory is as it was lent. -/
theorem kept_any (x s : Value) (xs bs : List UInt8) (w : World) (hx : Holds w x xs) (hs : Holds w s bs) (hl : bs.length ≤ 100000000) :
    Calls Tryd.prog 16 #[x, s] w fun e w' => e = .returned (.bool (xs == [167, 59] ++ bs ++ [94, 193])) ∧ Below w.heap.size w w' := by
  go_enter Tryd.func16, Tryd.ntmps16
  go_wp2_with fail
  refine (lend_any _ bs _ hs hl).mono ?_
  rintro e w1 ⟨v1, v2, rfl, own1, hold2, bel1⟩
  have kx := run_string_of (hx.below bel1 (Nat.le_refl _)) 22 9 5 Tryd.underlying22 Tryd.underlying5 Tryd.underlying9
  have ky := run_string_of own1.holds 22 9 5 Tryd.underlying22 Tryd.underlying5 Tryd.underlying9
  go_wp2
  go_ret
  exact ⟨ret_bool rfl, bel1⟩
end Go.Proofs.YtpdmcodnnhbchaaDoor
