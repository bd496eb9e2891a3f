/-
  THE WALK of WordHalves.
-/
import Derived.Test.YtbnelhcmoihliabDoorLives
import Derived.Deep.RegionWith
import Derived.Outline
namespace Go.Proofs.YtbnelhcmoihliabDoor
open Go.RowKit

theorem Tab.drew {w : World} (h : Tab w) : Tab w.drew := h

theorem third_of (k : Int) (_hk : 0 ≤ k) : ∃ m : Nat, wrap64 (2 ^ (k % 3).toNat) = m ∧ (m = 1 ∨ m = 2 ∨ m = 4) := by
  have h4 : k % 3 = 0 ∨ k % 3 = 1 ∨ k % 3 = 2 := by omega
  rcases h4 with h | h | h <;> rw [h]
  · exact ⟨1, by simp [wrap64], by omega⟩
  · exact ⟨2, by simp [wrap64], by omega⟩
  · exact ⟨4, by simp [wrap64], by omega⟩

theorem cast_shift (u m : Nat) : ((u : Int) / 2 ^ m) = ((u / 2 ^ m : Nat) : Int) := by
  rw [Int.natCast_ediv, Int.natCast_pow]; rfl

theorem putL_append (a : Nat) : ∀ b u : Nat, putL (a + b) u = putL a (u / 2 ^ (8 * b)) ++ putL b u
  | 0, u => by simp [putL]
  | b + 1, u => by
    rw [← Nat.add_assoc, putL_last, putL_append a b (u / 256), putL_last, Nat.div_div_eq_div_mul, List.append_assoc, show 256 * 2 ^ (8 * b) = 2 ^ (8 * (b + 1)) by rw [show 8 * (b + 1) = 8 + 8 * b by omega, Nat.pow_add]]
theorem putL_cons (n u : Nat) : putL (n + 1) u = UInt8.ofNat (u / 256 ^ n) :: putL n u := by
  rw [Nat.add_comm, putL_append 1 n u, show (256 : Nat) = 2 ^ 8 by decide, ← Nat.pow_mul]
  simp [putL, List.range, List.range.loop]
theorem putL_less : ∀ n u v : Nat, Op.bytesLess (putL n u) (putL n v) = decide (u % 256 ^ n < v % 256 ^ n)
  | 0, u, v => by simp [putL, Op.bytesLess, Nat.mod_one]
  | n + 1, u, v => by
    rw [putL_cons, putL_cons, Op.bytesLess, putL_less n u v, Nat.pow_succ, Nat.mod_mul, Nat.mod_mul]
    have hP : 0 < 256 ^ n := Nat.pow_pos (by decide)
    have hx := Nat.mod_lt u hP
    have hy := Nat.mod_lt v hP
    generalize 256 ^ n = P at *
    generalize u % P = x at *
    generalize v % P = y at *
    rw [Bool.eq_iff_iff]
    simp only [Bool.or_eq_true, Bool.and_eq_true, decide_eq_true_eq, beq_iff_eq, UInt8.lt_iff_toNat_lt, ← UInt8.toNat_inj, UInt8.toNat_ofNat']
    rw [show (2 : Nat) ^ 8 = 256 by decide]
    generalize u / P % 256 = a
    generalize v / P % 256 = b
    rcases Nat.lt_trichotomy a b with h | h | h
    · have h1 : P * (a + 1) ≤ P * b := Nat.mul_le_mul_left P h
      rw [Nat.mul_add, Nat.mul_one] at h1
      omega
    · subst h; omega
    · have h1 : P * (b + 1) ≤ P * a := Nat.mul_le_mul_left P h
      rw [Nat.mul_add, Nat.mul_one] at h1
      omega
theorem putL_mod : ∀ n u : Nat, putL n (u % 256 ^ n) = putL n u
  | 0, u => by simp [putL]
  | n + 1, u => by
    rw [putL_last, putL_last, Nat.pow_succ, Nat.mul_comm, Nat.mod_mul_right_div_self, putL_mod n (u / 256)]
    congr 1
    congr 1
    rw [← UInt8.toNat_inj, UInt8.toNat_ofNat', UInt8.toNat_ofNat', Nat.mod_mul_right_mod]
theorem putL_eq (n u v : Nat) : (putL n u == putL n v) = (u % 256 ^ n == v % 256 ^ n) := by
  rw [Bool.eq_iff_iff, beq_iff_eq, beq_iff_eq]
  constructor
  · intro h
    rw [← getN_putL n u, ← getN_putL n v, h]
  · intro h
    rw [← putL_mod n u, ← putL_mod n v, h]
theorem cutI_mod (u : Nat) (m : Nat) (hm : m = 1 ∨ m = 2 ∨ m = 4 ∨ m = 8) (hu : u < 18446744073709551616) : cutI u (m : Int) = ((u % 256 ^ m : Nat) : Int) := by
  rcases hm with rfl | rfl | rfl | rfl <;> simp [cutI] <;> omega

set_option maxHeartbeats 1000000 in
theorem halves_walk (u v : Nat) (k : Int) (m : Nat) (w : World) (ht : Tab w) (hm : wrap64 (2 ^ (k % 3).toNat) = m) (hk : 0 ≤ k) (h1 : 1 ≤ m) (h4 : m ≤ 4) (hu : u < 18446744073709551616) (hv : v < 18446744073709551616)
    (hB : [] ++ putI m (u / 2 ^ (8 * m)) ++ putI m u = putI (2 * m) u) (hless : Op.bytesLess (putI (2 * m) u) (putI (2 * m) v) = decide (cutI u (2 * m) < cutI v (2 * m))) (heq : (putI (2 * m) u == putI (2 * m) v) = (cutI u (2 * m) == cutI v (2 * m))) :
    Calls Tryd.prog 3 #[.int .u64 u, .int .u64 v, .int .u64 k] w fun e w' => e = .returned (.bool true) ∧ Below w.heap.size w w' := by
  have h2 : wrap64 (2 * (m : Int)) = ((2 * m : Nat) : Int) := by unfold wrap64; omega
  go_enter Tryd.func3, Tryd.ntmps3
  go_wp2_with fail
  rw [cast_shift u (8 * m)]
  refine (put_any _ [] m (u / 2 ^ (8 * m)) _ ht (.inl ⟨rfl, rfl⟩) (by simp) (Nat.lt_of_le_of_lt (Nat.div_le_self _ _) hu)).mono ?_
  rintro e w1 ⟨v1, rfl, own1, bel1⟩
  have ht1 := ht.below bel1 ht.pos
  go_wp2_with fail
  refine (put_any _ ([] ++ putI m (u / 2 ^ (8 * m))) m u _ ht1 own1.holds (by simp only [List.nil_append, putI]; split <;> simp [putL_length]; omega) hu).mono ?_
  rintro e w2 ⟨v2, rfl, own2, bel2⟩
  have ht2 := ht1.below bel2 ht1.pos
  rw [hB] at own2
  clear hB
  go_wp2_with fail
  go_region_with (first
    | (go_at_call_of 4 (Value.int IntKind.u64 ↑u)
       refine (put_any _ [] (2 * m : Int) u _ ?_ (.inl ⟨rfl, rfl⟩) (by simp) hu).mono ?_
       first | exact ht2 | exact htv
       rintro e wu ⟨vu, rfl, ownu, belu⟩
       have htu : Tab wu := by first | exact ht2.drew.below belu ht2.pos | exact htv.below belu htv.pos
       have ku := run_string_of ownu.holds 24 9 5 Tryd.underlying24 Tryd.underlying5 Tryd.underlying9
       try have kv' := run_string_of (ownv.holds.below belu (Nat.le_refl _)) 24 9 5 Tryd.underlying24 Tryd.underlying5 Tryd.underlying9)
    | (go_at_call_of 4 (Value.int IntKind.u64 ↑v)
       refine (put_any _ [] (2 * m : Int) v _ ?_ (.inl ⟨rfl, rfl⟩) (by simp) hv).mono ?_
       first | exact ht2 | exact htu
       rintro e wv ⟨vv, rfl, ownv, belv⟩
       have htv : Tab wv := by first | exact ht2.drew.below belv ht2.pos | exact htu.below belv htu.pos
       have kv := run_string_of ownv.holds 24 9 5 Tryd.underlying24 Tryd.underlying5 Tryd.underlying9
       try have ku' := run_string_of (ownu.holds.below belv (Nat.le_refl _)) 24 9 5 Tryd.underlying24 Tryd.underlying5 Tryd.underlying9))
  all_goals have belT : Below w.heap.size w wv := bel1.trans ((bel2.mono bel1.size).trans (((Below.refl _ _).drew.trans (belu.mono (Nat.le_trans bel1.size bel2.size))).trans (belv.mono (Nat.le_trans bel1.size (Nat.le_trans bel2.size belu.size)))))
  all_goals have kB := run_string_of ((own2.holds.below ((Below.refl w2.heap.size w2).drew.trans belu) (Nat.le_refl _)).below belv (Nat.le_refl _)) 24 9 5 Tryd.underlying24 Tryd.underlying5 Tryd.underlying9
  all_goals go_wp2_with (first
    | (go_at_call 5; refine (cut_any _ _ _ (by omega)).mono ?_; rintro e w5 ⟨rfl, rfl⟩)
    | (go_at_call 6; refine (lives_any _ htv).mono ?_; rintro e w6 ⟨rfl, bel6⟩))
  all_goals go_ret
  all_goals exact ⟨rfl, belT.trans (bel6.mono belT.size)⟩

theorem halves_law (u v : Nat) (k : Int) (w : World) (ht : Tab w) (hk : 0 ≤ k) (hu : u < 18446744073709551616) (hv : v < 18446744073709551616) :
    Calls Tryd.prog 3 #[.int .u64 u, .int .u64 v, .int .u64 k] w fun e w' => e = .returned (.bool true) ∧ Below w.heap.size w w' := by
  obtain ⟨m, hm, hc⟩ := third_of k hk
  have hg : goodB m = true := by unfold goodB; simp; omega
  have hg2 : goodB (2 * m : Int) = true := by unfold goodB; simp; omega
  have hn : ((2 * m : Int)).toNat = 2 * m := by omega
  have hc2 : (2 * m : Int) = ((2 * m : Nat) : Int) := by omega
  refine halves_walk u v k m w ht hm hk (by omega) (by omega) hu hv ?_ ?_ ?_
  · simp only [putI, hg, hg2, if_true, List.nil_append, hn, Int.toNat_natCast]
    rw [← putL_append m m u, Nat.two_mul]
  · simp only [putI, hg2, if_true, hn]
    rw [putL_less, hc2, cutI_mod u (2 * m) (by omega) hu, cutI_mod v (2 * m) (by omega) hv, Bool.eq_iff_iff, decide_eq_true_eq, decide_eq_true_eq]
    omega
  · simp only [putI, hg2, if_true, hn]
    rw [putL_eq, hc2, cutI_mod u (2 * m) (by omega) hu, cutI_mod v (2 * m) (by omega) hv, Bool.eq_iff_iff, beq_iff_eq, beq_iff_eq]
    omega
end Go.Proofs.YtbnelhcmoihliabDoor
