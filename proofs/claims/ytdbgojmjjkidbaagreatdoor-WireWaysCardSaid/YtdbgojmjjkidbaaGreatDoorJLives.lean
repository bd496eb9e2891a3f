/-
  THE WALKS of the document's Cut, Lend and Kept, and of 'lives': the document's examples are as it says.
-/
import Derived.Test.YtdbgojmjjkidbaaGreatDoorJWalks
import Derived.RegionTactic
import Derived.Outline
namespace Go.Proofs.YtdbgojmjjkidbaaGreatDoor
open Go.RowKit


theorem tab_pos {w : World} (h : Tab w) : 1 < w.heap.size := h.pos


theorem putL_last (n v : Nat) : putL (n + 1) v = putL n (v / 256) ++ [UInt8.ofNat v] := by
  unfold putL
  rw [List.range_succ, List.map_append]
  congr 1
  · refine List.map_congr_left fun i hi => ?_
    have hi' : i < n := by simpa using hi
    rw [show 8 * (n + 1 - 1 - i) = 8 + 8 * (n - 1 - i) by omega, Nat.shiftRight_add, Nat.shiftRight_eq_div_pow v 8]
  · simp


theorem getN_putL : ∀ n v : Nat, getN (putL n v) = v % 256 ^ n
  | 0, v => by simp [getN, putL, Nat.mod_one]
  | n + 1, v => by
    rw [putL_last, getN_snoc, getN_putL n (v / 256), Nat.pow_succ, Nat.mul_comm (256 ^ n) 256, Nat.mod_mul]
    simp
    omega


theorem getB_putI (n : Int) (v : Nat) (rest : List UInt8) : getB (putI n v ++ rest) n = goodB n := by
  unfold getB putI
  cases hg : goodB n with
  | false => simp
  | true =>
    have hn : n = 1 ∨ n = 2 ∨ n = 4 ∨ n = 8 := by unfold goodB at hg; simp at hg; omega
    simp [putL_length]
    omega


theorem getI_putI (n : Int) (v : Nat) (rest : List UInt8) : ((getI (putI n v ++ rest) n : Nat) : Int) = cutI (v % 18446744073709551616) n := by
  unfold getI
  rw [getB_putI]
  rcases five n with rfl | rfl | rfl | rfl | ⟨h1, h2, h4, h8⟩
  case inr.inr.inr.inr =>
    have hg : goodB n = false := by unfold goodB; simp; omega
    simp [cutI, *]
  all_goals
    simp only [putI, goodB]
    simp [putL_length, getN_putL, cutI]
    try omega

end Go.Proofs.YtdbgojmjjkidbaaGreatDoor
