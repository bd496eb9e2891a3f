/-
  THE WALKS of the document's Cut, Lend and Kept, and of 'lives': the document's examples are as it says.
-/
import Derived.Test.YtbnelhcmoihliabDoorGet
import Derived.RegionTactic
import Derived.Outline
namespace Go.Proofs.YtbnelhcmoihliabDoor
open Go.RowKit

theorem tab_pos {w : World} (h : Tab w) : 0 < w.heap.size := h.pos

set_option maxHeartbeats 400000 in
theorem lives_any (w : World) (ht : Tab w) :
    Calls Tryd.prog 6 #[] w fun e w' => e = .returned (.bool true) ∧ Below w.heap.size w w' := by
  have hp : putI 2 258 = [1, 2] := by decide
  go_enter Tryd.func6, Tryd.ntmps6
  go_wp2_with fail
  refine (put_any _ [] 2 258 _ ht (.inl ⟨rfl, rfl⟩) (by simp) (by omega)).mono ?_
  rintro e w1 ⟨v1, rfl, own1, bel1⟩
  go_wp2_with fail
  rw [hp] at own1
  have own2 := owns_new w1 w1.heap.size 5 [1, 2] (Nat.le_refl _) (by simp [maxLen])
  have bel2 : Below w1.heap.size w1 (w1.alloc (.cells #[.int .u8 1, .int .u8 2] 5)) := (Below.refl _ _).alloc (Nat.le_refl _) _
  refine (same_any _ _ [1, 2] [1, 2] _ (own1.holds.below bel2 (Nat.le_refl _)) own2.holds).mono ?_
  rintro e w2 ⟨rfl, rfl⟩
  go_wp2_with (first | (go_at_call 9; refine (signed_any _ _ _).mono ?_; rintro e w3 ⟨rfl, rfl⟩) | (go_at_call 10; refine (far_any _ _ _).mono ?_; rintro e w3 ⟨rfl, rfl⟩))
  go_ret
  exact ⟨ret_bool (by decide), bel1.alloc bel1.size _⟩

theorem putL_last (n v : Nat) : putL (n + 1) v = putL n (v / 256) ++ [UInt8.ofNat v] := by
  unfold putL
  rw [List.range_succ, List.map_append]
  congr 1
  · refine List.map_congr_left fun i hi => ?_
    have hi' : i < n := by simpa using hi
    rw [show 8 * (n + 1 - 1 - i) = 8 + 8 * (n - 1 - i) by omega, Nat.shiftRight_add, Nat.shiftRight_eq_div_pow v 8]
  · simp

theorem getN_putL : ∀ n v : Nat, getN (putL n v) = v % 256 ^ n
  | 0, v => by simp [getN, putL, Nat.mod_one]
  | n + 1, v => by
    rw [putL_last, getN_snoc, getN_putL n (v / 256), Nat.pow_succ, Nat.mul_comm (256 ^ n) 256, Nat.mod_mul]
    simp
    omega

end Go.Proofs.YtbnelhcmoihliabDoor
