/-
  WHAT IS OF NO PROGRAM: what follows of sets: there and back, runs, one more and one fewer.
-/
import Derived.Test.YtkdjpleedaldcaaSets
namespace Go.Proofs.Ytkdjpleedaldcaa


/-- The set without those below k. -/
def restS (m : Nat) (k : Int) : Nat := m &&& (18446744073709551615 - belowS k)

theorem restS_test {m : Nat} (k : Int) (h : IsSet m) (i : Nat) : (restS m k).testBit i = (m.testBit i && decide (k ≤ (i : Int))) := by
  unfold restS
  rw [Nat.testBit_and, show 18446744073709551615 - belowS k = 2 ^ 64 - (belowS k + 1) by omega, Nat.testBit_two_pow_sub_succ (by have := belowS_set k; simpa using this), belowS_test]
  by_cases hi : i < 64
  · by_cases hk : k ≤ (i : Int)
    · rw [decide_eq_false (show ¬ ((i : Int) < k ∧ i < 64) by omega), decide_eq_true hk]; simp [hi]
    · rw [decide_eq_true (show (i : Int) < k ∧ i < 64 by omega), decide_eq_false hk]; simp
  · rw [set_high h (by omega)]; simp

theorem restS_set {m : Nat} (k : Int) (h : IsSet m) : IsSet (restS m k) := set_lt fun i hi => by rw [restS_test k h, set_high h hi]; simp

theorem slide_zero {m : Nat} : slideS m 0 = m := by unfold slideS; simp

theorem slide_back {m : Nat} (k : Int) (h : IsSet m) (h0 : 0 ≤ k) : slideS (slideS m k) (-k) = restS m k := Nat.eq_of_testBit_eq fun i => by
  rw [slideS_test _ (slideS_set k h), restS_test k h, slideS_test k h]
  by_cases hi : i < 64
  · by_cases hk : k ≤ (i : Int)
    · rw [show ((((i : Int) + -k).toNat : Nat) : Int) + k = i by omega, decide_eq_true (show 0 ≤ (i : Int) + -k ∧ i < 64 by omega), decide_eq_true (show 0 ≤ (i : Int) ∧ ((i : Int) + -k).toNat < 64 by omega), decide_eq_true hk]
      simp
    · rw [decide_eq_false (show ¬ (0 ≤ (i : Int) + -k ∧ i < 64) by omega), decide_eq_false hk]
      simp
  · rw [set_high (i := i) h (by omega)]
    rw [decide_eq_false (show ¬ (0 ≤ (i : Int) + -k ∧ i < 64) by omega)]
    simp

theorem listN_count (m : Nat) : (listN m).length = (List.range 64).countP fun i => m.testBit i := by
  unfold listN
  rw [List.countP_eq_length_filter]

theorem range_cut (k n : Nat) : List.range (k + n) = List.range k ++ List.range' k n := by
  rw [List.range_eq_range', List.range_eq_range', ← List.range'_append]
  simp

theorem slide_size {m : Nat} (k : Nat) (h : IsSet m) (hk : k ≤ 64) : (listN (slideS m k)).length = (listN (restS m k)).length := by
  rw [listN_count, listN_count]
  have e1 : List.range 64 = List.range (64 - k) ++ List.range' (64 - k) k := by rw [← range_cut]; congr 1; omega
  have e2 : List.range 64 = List.range k ++ List.range' k (64 - k) := by rw [← range_cut]; congr 1; omega
  have z1 : (List.range' (64 - k) k).countP (fun i => (slideS m k).testBit i) = 0 := List.countP_eq_zero.2 fun i hi => by
    simp only [List.mem_range'_1] at hi
    rw [slideS_test _ h, set_high h (show 64 ≤ ((i : Int) + k).toNat by omega)]
    simp
  have z2 : (List.range k).countP (fun i => (restS m k).testBit i) = 0 := List.countP_eq_zero.2 fun i hi => by
    simp only [List.mem_range] at hi
    rw [restS_test _ h, decide_eq_false (by omega)]
    simp
  have z3 : (List.range' k (64 - k)).countP (fun i => (restS m k).testBit i) = (List.range (64 - k)).countP (fun i => (slideS m k).testBit i) := by
    rw [List.range'_eq_map_range, List.countP_map]
    apply List.countP_congr
    intro i hi
    simp only [List.mem_range] at hi
    simp only [Function.comp]
    rw [restS_test _ h, slideS_test _ h, show ((i : Int) + (k : Int)).toNat = k + i by omega, decide_eq_true (show (k : Int) ≤ ((k + i : Nat) : Int) by omega), decide_eq_true (show 0 ≤ (i : Int) + k ∧ i < 64 by omega)]
    simp
  rw [e1, List.countP_append, z1, Nat.add_zero, ← z3, ← e1, e2, List.countP_append, z2, Nat.zero_add]

/-! the run -/

theorem run_and {m : Nat} : m &&& belowS (runS m) = belowS (runS m) := Nat.eq_of_testBit_eq fun i => by
  rw [Nat.testBit_and, belowS_test]
  by_cases hi : i < runS m
  · rw [runS_all m i hi]; simp
  · rw [decide_eq_false (by omega), Bool.and_false]

theorem run_has {m : Nat} (h : IsSet m) : hasS m (runS m) = false := by rw [hasS_test h]; exact runS_end h

theorem run_slide {m : Nat} (h : IsSet m) : hasS (slideS m (runS m)) 0 = false := by
  rw [show (0 : Int) = ((0 : Nat) : Int) from rfl, hasS_test (slideS_set _ h), slideS_test _ h, show (((0 : Nat) : Int) + (runS m : Int)).toNat = runS m by omega, runS_end h, Bool.and_false]

theorem run_below (r : Nat) (hr : r ≤ 64) : runS (belowS r) = r := by
  refine runS_eq hr ?_ (fun i hi => ?_)
  · rw [belowS_test]; exact decide_eq_false (by omega)
  · rw [belowS_test]; exact decide_eq_true (by omega)

/-! one more, one fewer -/

theorem with_twice (m : Nat) (n : Int) : withS (withS m n) n = withS m n := Nat.eq_of_testBit_eq fun i => by
  rw [withS_test, withS_test, Bool.or_assoc, Bool.or_self]

theorem without_twice {m : Nat} (n : Int) (h : IsSet m) : withoutS (withoutS m n) n = withoutS m n := Nat.eq_of_testBit_eq fun i => by
  rw [withoutS_test _ (withoutS_set n h), withoutS_test _ h, Bool.and_assoc, Bool.and_self]

theorem has_without {m : Nat} (n : Int) (h : IsSet m) : hasS (withoutS m n) n = false := by
  unfold hasS
  by_cases hn : 0 ≤ n ∧ n < 64
  · rw [withoutS_test _ h, decide_eq_true (show ((n.toNat : Nat) : Int) = n by omega)]
    simp
  · rw [decide_eq_false hn, Bool.false_and]

theorem has_with (m : Nat) (n : Int) : hasS (withS m n) n = decide (0 ≤ n ∧ n < 64) := by
  unfold hasS
  by_cases hn : 0 ≤ n ∧ n < 64
  · rw [withS_test, decide_eq_true (show ((n.toNat : Nat) : Int) = n ∧ n.toNat < 64 by omega)]
    simp
  · rw [decide_eq_false hn, Bool.false_and]

theorem has_with_other (m : Nat) {n k : Int} (hk : n ≠ k) : hasS (withS m n) k = hasS m k := by
  unfold hasS
  by_cases hn : 0 ≤ k ∧ k < 64
  · rw [withS_test, decide_eq_false (show ¬ (((k.toNat : Nat) : Int) = n ∧ k.toNat < 64) by omega), Bool.or_false]
  · rw [decide_eq_false hn, Bool.false_and, Bool.false_and]

theorem has_without_other {m : Nat} {n k : Int} (h : IsSet m) (hk : n ≠ k) : hasS (withoutS m n) k = hasS m k := by
  unfold hasS
  by_cases hn : 0 ≤ k ∧ k < 64
  · rw [withoutS_test _ h, decide_eq_false (show ¬ (((k.toNat : Nat) : Int) = n) by omega)]
    simp
  · rw [decide_eq_false hn, Bool.false_and, Bool.false_and]

theorem with_out (m : Nat) {n : Int} (hn : ¬ (0 ≤ n ∧ n < 64)) : withS m n = m := by
  unfold withS bitS
  rw [if_neg hn, Nat.or_zero]

theorem without_out {m : Nat} {n : Int} (h : IsSet m) (hn : ¬ (0 ≤ n ∧ n < 64)) : withoutS m n = m := Nat.eq_of_testBit_eq fun i => by
  rw [withoutS_test _ h]
  by_cases hi : i < 64
  · rw [decide_eq_false (by omega)]; simp
  · rw [set_high h (by omega)]; simp

theorem with_size {m : Nat} (n : Nat) (h : IsSet m) (hn : n < 64) : (listN (withS m n)).length = (listN (withoutS m n)).length + 1 := by
  rw [listN_count, listN_count]
  have e : List.range 64 = List.range n ++ (n :: List.range' (n + 1) (63 - n)) := by
    rw [← List.range'_succ (s := n) (n := 63 - n) (step := 1), ← range_cut]
    congr 1
    omega
  have z1 : (List.range n).countP (fun i => (withS m n).testBit i) = (List.range n).countP (fun i => (withoutS m n).testBit i) := by
    apply List.countP_congr
    intro i hi
    simp only [List.mem_range] at hi
    rw [withS_test, withoutS_test _ h, decide_eq_false (show ¬ ((i : Int) = n ∧ i < 64) by omega), decide_eq_false (show ¬ ((i : Int) = n) by omega)]
    simp
  have z2 : (List.range' (n + 1) (63 - n)).countP (fun i => (withS m n).testBit i) = (List.range' (n + 1) (63 - n)).countP (fun i => (withoutS m n).testBit i) := by
    apply List.countP_congr
    intro i hi
    simp only [List.mem_range'_1] at hi
    rw [withS_test, withoutS_test _ h, decide_eq_false (show ¬ ((i : Int) = n ∧ i < 64) by omega), decide_eq_false (show ¬ ((i : Int) = n) by omega)]
    simp
  have z3 : (withS m n).testBit n = true := by rw [withS_test, decide_eq_true (show (n : Int) = n ∧ n < 64 from ⟨rfl, hn⟩), Bool.or_true]
  have z4 : (withoutS m n).testBit n = false := by rw [withoutS_test _ h]; simp
  rw [e, List.countP_append, List.countP_append, List.countP_cons, List.countP_cons, z1, z2, z3, z4]
  simp
  omega

end Go.Proofs.Ytkdjpleedaldcaa
