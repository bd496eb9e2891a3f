/-
  THE WALKS of the statements: each returns true, and leaves what was there as it was.
-/
import Derived.Test.YtbnelhcmoihliaaDoorLives
import Derived.Outline
namespace Go.Proofs.YtbnelhcmoihliaaDoor
open Go.RowKit

theorem rounds_law (a b n : Int) (w : World) (ht : Tab w) :
    Calls Tryd.prog 5 #[.int .u16 a, .int .u16 b, .int .i64 n] w fun e w' => e = .returned (.bool true) ∧ Below w.heap.size w w' := by
  have hless : (lessB a b == decide (0 < farI a b)) = true := by simp [lessB]
  go_enter Tryd.func5, Tryd.ntmps5
  go_wp2_with (first
    | (go_at_call 25; refine (far_any _ _ _).mono ?_; rintro e w1 ⟨rfl, rfl⟩)
    | (go_at_call 26; refine (rfar_any _ _ _).mono ?_; rintro e w1 ⟨rfl, rfl⟩)
    | (go_at_call 27; refine (less_any _ _ _).mono ?_; rintro e w1 ⟨rfl, rfl⟩)
    | (go_at_call 28; refine (move_any _ _ _).mono ?_; rintro e w1 ⟨rfl, rfl⟩)
    | (go_at_call 29; refine (rmove_any _ _ _).mono ?_; rintro e w1 ⟨rfl, rfl⟩)
    | (go_at_call 9; refine (lives_any _ ht).mono ?_; rintro e w1 ⟨rfl, bel⟩))
  go_ret
  exact ⟨rfl, bel⟩

theorem cuts_law (v : Nat) (n k : Int) (w : World) (ht : Tab w) (hv : v < 18446744073709551616) :
    Calls Tryd.prog 4 #[.int .u64 v, .int .i64 n, .int .i64 k] w fun e w' => e = .returned (.bool true) ∧ Below w.heap.size w w' := by
  go_enter Tryd.func4, Tryd.ntmps4
  go_wp2_with (first
    | (go_at_call 17; refine (good_any _ _ ht).mono ?_; rintro e w1 ⟨rfl, rfl⟩)
    | (go_at_call 18; refine (rgood_any _ _).mono ?_; rintro e w1 ⟨rfl, rfl⟩)
    | (go_at_call 19; refine (cut_any _ _ _ (by omega)).mono ?_; rintro e w1 ⟨rfl, rfl⟩))
  refine (rcut_any v k _ hv).mono ?_
  rintro e w2 ⟨rfl, bel2⟩
  have ht2 : Tab w2 := ht.below bel2 ht.pos
  go_wp2_with (first
    | (go_at_call 21; refine (signed_any _ _ _).mono ?_; rintro e w3 ⟨rfl, rfl⟩)
    | (go_at_call 22; refine (rsigned_any _ _ _).mono ?_; rintro e w3 ⟨rfl, rfl⟩)
    | (go_at_call 23; refine (fits_any _ _ _ ht2).mono ?_; rintro e w3 ⟨rfl, rfl⟩)
    | (go_at_call 24; refine (rfits_any _ _ _).mono ?_; rintro e w3 ⟨rfl, rfl⟩)
    | (go_at_call 9; refine (lives_any _ ht2).mono ?_; rintro e w4 ⟨rfl, bel4⟩))
  go_ret
  exact ⟨rfl, bel2.trans (bel4.mono bel2.size)⟩

theorem signs_fit (n m : Int) (hm : m = 1 ∨ m = 2 ∨ m = 4 ∨ m = 8) : fitsB n m = (signedI (IntKind.u64.wrap n) m == n) := by
  have hg : goodB m = true := by unfold goodB; simp; omega
  simp [fitsB, hg, IntKind.wrap_u64]
theorem signs_twice (n m : Int) (hm : m = 1 ∨ m = 2 ∨ m = 4 ∨ m = 8) : fitsB (signedI (IntKind.u64.wrap n) m) m = true := by
  rw [signs_fit _ m hm, beq_iff_eq, IntKind.wrap_u64, IntKind.wrap_u64]
  rcases hm with rfl | rfl | rfl | rfl <;> simp only [signedI] <;> simp <;> omega
theorem signs_wide (n m : Int) (hm : m = 1 ∨ m = 2 ∨ m = 4) : fitsB (wrap64 (cutI (IntKind.u64.wrap n) m)) (2 * m) = true := by
  rw [signs_fit _ _ (by omega), beq_iff_eq, IntKind.wrap_u64, IntKind.wrap_u64]
  rcases hm with rfl | rfl | rfl <;> simp only [signedI, cutI, wrap64] <;> simp <;> omega
theorem signs_cut (n m : Int) (hm : m = 1 ∨ m = 2 ∨ m = 4 ∨ m = 8) : cutI (IntKind.u64.wrap (signedI (IntKind.u64.wrap n) m)) m = cutI (IntKind.u64.wrap n) m := by
  rw [IntKind.wrap_u64, IntKind.wrap_u64]
  rcases hm with rfl | rfl | rfl | rfl <;> simp only [signedI, cutI] <;> simp <;> omega
theorem width_of (k : Int) (_hk : 0 ≤ k) : ∃ m : Int, wrap64 (2 ^ (k % 4).toNat) = m ∧ (m = 1 ∨ m = 2 ∨ m = 4 ∨ m = 8) := by
  have h4 : k % 4 = 0 ∨ k % 4 = 1 ∨ k % 4 = 2 ∨ k % 4 = 3 := by omega
  rcases h4 with h | h | h | h <;> rw [h]
  · exact ⟨1, by simp [wrap64], by omega⟩
  · exact ⟨2, by simp [wrap64], by omega⟩
  · exact ⟨4, by simp [wrap64], by omega⟩
  · exact ⟨8, by simp [wrap64], by omega⟩
theorem wrap_u64_range (n : Int) : 0 ≤ IntKind.u64.wrap n ∧ IntKind.u64.wrap n ≤ 18446744073709551615 := by rw [IntKind.wrap_u64]; omega

set_option maxHeartbeats 400000 in
theorem signs_law (n k : Int) (w : World) (ht : Tab w) (hk : 0 ≤ k) :
    Calls Tryd.prog 7 #[.int .i64 n, .int .u64 k] w fun e w' => e = .returned (.bool true) ∧ Below w.heap.size w w' := by
  obtain ⟨m, hm, hcase⟩ := width_of k hk
  have f1 := signs_fit n m hcase
  have f2 := signs_twice n m hcase
  have f4 : (cutI (IntKind.u64.wrap (signedI (IntKind.u64.wrap n) m)) m == cutI (IntKind.u64.wrap n) m) = true := by rw [signs_cut n m hcase]; simp
  have g1 := wrap_u64_range n
  have g2 := wrap_u64_range (signedI (IntKind.u64.wrap n) m)
  by_cases h8 : m = 8
  · have h8' : (m == 8) = true := by simp [h8]
    clear h8 hcase
    go_enter Tryd.func7, Tryd.ntmps7
    go_wp2_with (first
      | (go_at_call 19; refine (cut_any _ _ _ (by assumption)).mono ?_; rintro e w1 ⟨rfl, rfl⟩)
      | (go_at_call 21; refine (signed_any _ _ _).mono ?_; rintro e w3 ⟨rfl, rfl⟩)
      | (go_at_call 23; refine (fits_any _ _ _ ht).mono ?_; rintro e w3 ⟨rfl, rfl⟩)
      | (go_at_call 9; refine (lives_any _ ht).mono ?_; rintro e w4 ⟨rfl, bel4⟩))
    go_ret
    exact ⟨rfl, bel4⟩
  · have f3 := signs_wide n m (by omega)
    have h8' : (m == 8) = false := by simp [h8]
    have hb : wrap64 (2 * m) = 2 * m := by unfold wrap64; omega
    clear h8 hcase
    go_enter Tryd.func7, Tryd.ntmps7
    go_wp2_with (first
      | (go_at_call 19; refine (cut_any _ _ _ (by assumption)).mono ?_; rintro e w1 ⟨rfl, rfl⟩)
      | (go_at_call 21; refine (signed_any _ _ _).mono ?_; rintro e w3 ⟨rfl, rfl⟩)
      | (go_at_call 23; refine (fits_any _ _ _ ht).mono ?_; rintro e w3 ⟨rfl, rfl⟩)
      | (go_at_call 9; refine (lives_any _ ht).mono ?_; rintro e w4 ⟨rfl, bel4⟩))
    go_ret
    exact ⟨rfl, bel4⟩

theorem steps_there (a b : Int) (hb : 0 ≤ b ∧ b ≤ 65535) : moveI a (farI a b) = b := by unfold moveI farI; omega
theorem steps_self (a : Int) : farI a a = 0 := by unfold farI; omega
theorem steps_both (a b : Int) : (lessB a b && lessB b a) = false := by
  simp [lessB, farI]; omega
theorem steps_none (a b : Int) (ha : 0 ≤ a ∧ a ≤ 65535) (hb : 0 ≤ b ∧ b ≤ 65535) : (!lessB a b && !lessB b a) = (a == b || farI a b == -32768) := by
  rw [Bool.eq_iff_iff]
  simp [lessB, farI]
  omega
theorem steps_back (a k : Int) (ha : 0 ≤ a ∧ a ≤ 65535) : moveI (moveI a k) (-k) = a := by unfold moveI; omega
theorem steps_low (a n : Int) : moveI a (n % 65536) = moveI a n := by unfold moveI; omega

theorem and_low (n : Int) : bits .and .i64 n 65535 = n % 65536 := by
  have h65535 : (BitVec.ofInt 64 65535).toNat = 2 ^ 16 - 1 := by decide
  have key : (BitVec.ofInt 64 n &&& BitVec.ofInt 64 65535).toNat = (n % ((2 ^ 64 : Nat) : Int)).toNat % 2 ^ 16 := by
    rw [BitVec.toNat_and, BitVec.toNat_ofInt, h65535, Nat.and_two_pow_sub_one_eq_mod]
  show IntKind.i64.wrap ((BitVec.ofInt 64 n &&& BitVec.ofInt 64 65535).toNat : Nat) = n % 65536
  rw [key, IntKind.wrap_i64]
  omega

set_option maxHeartbeats 400000 in
theorem steps_walk (a b n : Int) (w : World) (ht : Tab w) (x y p q : Bool) (hx : lessB a b = x) (hy : lessB b a = y) (hp : (a == b) = p) (hq : (farI a b == -32768) = q) (hxy : (x && y) = false) (hpq : (!x && !y) = (p || q))
    (s1 : (moveI a (farI a b) != b) = false) (s2 : farI a a = 0) (s3 : lessB a a = false) (s4 : bits .and .i64 n 65535 = n % 65536) (s5 : (moveI (moveI a (n % 65536)) (-(n % 65536)) == a) = true) (s6 : (moveI a n == moveI a (n % 65536)) = true) :
    Calls Tryd.prog 8 #[.int .u16 a, .int .u16 b, .int .i64 n] w fun e w' => e = .returned (.bool true) ∧ Below w.heap.size w w' := by
  have h0 : 0 ≤ n % 65536 ∧ n % 65536 ≤ 65535 := by omega
  cases x <;> cases y <;> cases p <;> cases q <;> first | (exact absurd hxy (by decide)) | (exact absurd hpq (by decide)) | skip
  all_goals clear hxy hpq
  all_goals go_enter Tryd.func8, Tryd.ntmps8
  all_goals go_wp2_with (first
    | (go_at_call 25; refine (far_any _ _ _).mono ?_; rintro e w1 ⟨rfl, rfl⟩)
    | (go_at_call 27; refine (less_any _ _ _).mono ?_; rintro e w1 ⟨rfl, rfl⟩)
    | (go_at_call 28; refine (move_any _ _ _).mono ?_; rintro e w1 ⟨rfl, rfl⟩)
    | (go_at_call 9; refine (lives_any _ ht).mono ?_; rintro e w1 ⟨rfl, bel⟩))
  all_goals go_ret
  all_goals exact ⟨rfl, bel⟩

theorem steps_law (a b n : Int) (w : World) (ht : Tab w) (ha : 0 ≤ a ∧ a ≤ 65535) (hb : 0 ≤ b ∧ b ≤ 65535) :
    Calls Tryd.prog 8 #[.int .u16 a, .int .u16 b, .int .i64 n] w fun e w' => e = .returned (.bool true) ∧ Below w.heap.size w w' :=
  steps_walk a b n w ht _ _ _ _ rfl rfl rfl rfl (steps_both a b) (steps_none a b ha hb) (by rw [steps_there a b hb]; simp) (steps_self a) (by simp [lessB, steps_self]) (and_low n)
    (by rw [steps_back a _ ha]; simp) (by rw [steps_low]; simp)
end Go.Proofs.YtbnelhcmoihliaaDoor
