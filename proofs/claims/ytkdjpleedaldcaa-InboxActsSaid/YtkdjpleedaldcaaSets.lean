/-
  WHAT IS OF NO PROGRAM: sets of the numbers 0 to 63 as numbers, told bit by bit.
-/
import Derived.Lib.TrailingZeros
namespace Go.Proofs.Ytkdjpleedaldcaa


/-- The set of one number; the empty one if the number may be in none. -/
def bitS (n : Int) : Nat := if 0 ≤ n ∧ n < 64 then 2 ^ n.toNat else 0

def hasS (m : Nat) (n : Int) : Bool := decide (0 ≤ n ∧ n < 64) && m.testBit n.toNat

def withS (m : Nat) (n : Int) : Nat := m ||| bitS n

def withoutS (m : Nat) (n : Int) : Nat := m &&& (18446744073709551615 - bitS n)

def belowS (n : Int) : Nat := 2 ^ (min (max n 0) 64).toNat - 1

def slideS (m : Nat) (n : Int) : Nat := if n ≤ -64 ∨ 64 ≤ n then 0 else if n < 0 then m * 2 ^ (-n).toNat % 18446744073709551616 else m / 2 ^ n.toNat

def listN (m : Nat) : List Nat := (List.range 64).filter fun i => m.testBit i

def listS (m : Nat) : List Int := (listN m).map fun i : Nat => (i : Int)

def ofS (l : List Int) : Nat := l.foldl withS 0

def runF : Nat → Nat → Nat → Nat
  | 0, _, k => k
  | f + 1, m, k => if m.testBit k then runF f m (k + 1) else k

/-- How many numbers from 0 on are all there. -/
def runS (m : Nat) : Nat := runF 64 m 0


/-- A set: below 2^64. -/
abbrev IsSet (m : Nat) : Prop := m < 18446744073709551616


theorem set_lt {m : Nat} (h : ∀ i, 64 ≤ i → m.testBit i = false) : IsSet m := by
  have : m < 2 ^ 64 := Nat.lt_pow_two_of_testBit m h
  simpa using this

theorem set_high {m : Nat} (h : IsSet m) {i : Nat} (hi : 64 ≤ i) : m.testBit i = false :=
  Nat.testBit_lt_two_pow (Nat.lt_of_lt_of_le (show m < 2 ^ 64 by simpa using h) (Nat.pow_le_pow_right (by decide) hi))


theorem bitS_test (n : Int) (i : Nat) : (bitS n).testBit i = decide ((i : Int) = n ∧ i < 64) := by
  unfold bitS
  split
  · rename_i h
    rw [Nat.testBit_two_pow]
    apply decide_eq_decide.2
    omega
  · rename_i h
    rw [Nat.zero_testBit]
    symm
    apply decide_eq_false
    omega

theorem bitS_set (n : Int) : IsSet (bitS n) := set_lt fun i hi => by rw [bitS_test]; apply decide_eq_false; omega

theorem withS_test (m : Nat) (n : Int) (i : Nat) : (withS m n).testBit i = (m.testBit i || decide ((i : Int) = n ∧ i < 64)) := by
  unfold withS
  rw [Nat.testBit_or, bitS_test]

theorem withS_set {m : Nat} (n : Int) (h : IsSet m) : IsSet (withS m n) := set_lt fun i hi => by
  rw [withS_test, set_high h hi]
  simp
  omega

theorem withoutS_test {m : Nat} (n : Int) (h : IsSet m) (i : Nat) : (withoutS m n).testBit i = (m.testBit i && !decide ((i : Int) = n)) := by
  unfold withoutS
  rw [Nat.testBit_and, show 18446744073709551615 - bitS n = 2 ^ 64 - (bitS n + 1) by omega, Nat.testBit_two_pow_sub_succ (by have := bitS_set n; simpa using this), bitS_test]
  by_cases hi : i < 64
  · simp [hi]
  · rw [set_high h (by omega)]; simp

theorem withoutS_set {m : Nat} (n : Int) (h : IsSet m) : IsSet (withoutS m n) := set_lt fun i hi => by
  rw [withoutS_test n h, set_high h hi]; simp

theorem belowS_test (n : Int) (i : Nat) : (belowS n).testBit i = decide ((i : Int) < n ∧ i < 64) := by
  unfold belowS
  rw [Nat.testBit_two_pow_sub_one]
  apply decide_eq_decide.2
  omega

theorem belowS_set (n : Int) : IsSet (belowS n) := set_lt fun i hi => by rw [belowS_test]; apply decide_eq_false; omega

theorem slideS_test {m : Nat} (n : Int) (h : IsSet m) (i : Nat) : (slideS m n).testBit i = (decide (0 ≤ (i : Int) + n ∧ i < 64) && m.testBit ((i : Int) + n).toNat) := by
  unfold slideS
  split
  · rename_i hn
    rw [Nat.zero_testBit]
    by_cases hi : 0 ≤ (i : Int) + n ∧ i < 64
    · rw [set_high h (show 64 ≤ ((i : Int) + n).toNat by omega)]; simp
    · simp [hi]
  · split
    · rename_i h1 h2
      rw [show (18446744073709551616 : Nat) = 2 ^ 64 by decide, Nat.testBit_mod_two_pow, Nat.testBit_mul_two_pow]
      by_cases hi : 0 ≤ (i : Int) + n ∧ i < 64
      · rw [show i - (-n).toNat = ((i : Int) + n).toNat by omega]
        simp [hi, show (-n).toNat ≤ i by omega]
      · simp only [hi, decide_false, Bool.false_and]
        by_cases h64 : i < 64
        · simp [h64, show ¬ (-n).toNat ≤ i by omega]
        · simp [h64]
    · rename_i h1 h2
      rw [Nat.testBit_div_two_pow]
      rw [show i + n.toNat = ((i : Int) + n).toNat by omega]
      by_cases h64 : i < 64
      · simp [h64, show 0 ≤ (i : Int) + n by omega]
      · rw [set_high h (show 64 ≤ ((i : Int) + n).toNat by omega)]; simp

theorem slideS_set {m : Nat} (n : Int) (h : IsSet m) : IsSet (slideS m n) := set_lt fun i hi => by
  rw [slideS_test n h]
  simp
  omega

theorem hasS_test {m : Nat} (h : IsSet m) (i : Nat) : hasS m i = m.testBit i := by
  unfold hasS
  by_cases hi : i < 64
  · rw [decide_eq_true (by omega)]; simp
  · rw [Int.toNat_natCast, set_high h (by omega)]; simp

/-! the list of a set -/

theorem listN_mem {m : Nat} (h : IsSet m) (i : Nat) : i ∈ listN m ↔ m.testBit i = true := by
  unfold listN
  simp only [List.mem_filter, List.mem_range]
  constructor
  · exact fun h => h.2
  · intro hb
    refine ⟨?_, hb⟩
    apply Nat.lt_of_not_le
    intro hi
    rw [set_high h hi] at hb
    cases hb

theorem listN_lt {m i : Nat} (h : i ∈ listN m) : i < 64 := by
  unfold listN at h
  simp only [List.mem_filter, List.mem_range] at h
  exact h.1

theorem listN_sorted (m : Nat) : (listN m).Pairwise (· < ·) := List.Pairwise.filter _ List.pairwise_lt_range

theorem listN_length (m : Nat) : (listN m).length ≤ 64 := by
  have := List.length_filter_le (fun i => m.testBit i) (List.range 64)
  simpa [listN] using this

theorem listS_length (m : Nat) : (listS m).length = (listN m).length := by simp [listS]

theorem listS_bound {m : Nat} {x : Int} (h : x ∈ listS m) : 0 ≤ x ∧ x < 64 := by
  simp only [listS, List.mem_map] at h
  obtain ⟨i, hi, rfl⟩ := h
  have := listN_lt hi
  omega

theorem listN_zero : listN 0 = [] := by simp [listN]

theorem listS_zero : listS 0 = [] := by simp [listS, listN_zero]

theorem listN_step {m k : Nat} (h : IsSet m) (hk : m.testBit k = true) (hl : ∀ i, i < k → m.testBit i = false) : listN m = k :: listN (withoutS m k) := by
  have hk64 : k < 64 := by
    apply Nat.lt_of_not_le
    intro hi
    rw [set_high h hi] at hk
    cases hk
  have e : List.range 64 = List.range' 0 k ++ (k :: List.range' (k + 1) (63 - k)) := by
    rw [← List.range'_succ (s := k) (n := 63 - k) (step := 1), List.range_eq_range', show (64 : Nat) = k + (63 - k + 1) by omega, ← List.range'_append]
    simp
  have f1 : (List.range' 0 k).filter (fun i => m.testBit i) = [] := List.filter_eq_nil_iff.2 fun i hi => by
    rw [hl i (by simpa using hi)]
    decide
  have f2 : (List.range' 0 k).filter (fun i => (withoutS m k).testBit i) = [] := List.filter_eq_nil_iff.2 fun i hi => by
    rw [withoutS_test _ h, hl i (by simpa using hi)]
    simp
  have f3 : (List.range' (k + 1) (63 - k)).filter (fun i => (withoutS m k).testBit i) = (List.range' (k + 1) (63 - k)).filter (fun i => m.testBit i) := List.filter_congr fun i hi => by
    simp only [List.mem_range'_1] at hi
    rw [withoutS_test _ h]
    have : ¬ (i : Int) = (k : Int) := by omega
    simp [this]
  have f4 : (withoutS m k).testBit k = false := by rw [withoutS_test _ h]; simp
  unfold listN
  rw [e, List.filter_append, List.filter_append, f1, f2, List.filter_cons, List.filter_cons, hk, f4, f3]
  simp

theorem ctz_test {m : Nat} (h : IsSet m) (h0 : m ≠ 0) : m.testBit (Lib.ctz 64 m) = true ∧ ∀ i, i < Lib.ctz 64 m → m.testBit i = false := by
  obtain ⟨q, hq, _⟩ := Lib.ctzFrom_spec 64 m (by omega) (by simpa using h)
  have e : Lib.ctz 64 m = Lib.ctzFrom 64 m := by simp [Lib.ctz, h0]
  rw [e]
  generalize Lib.ctzFrom 64 m = k at hq
  subst hq
  rw [Nat.mul_comm]
  refine ⟨?_, fun i hi => ?_⟩
  · rw [Nat.testBit_mul_two_pow]
    simp [Nat.testBit_zero]
  · rw [Nat.testBit_mul_two_pow]
    simp
    omega

theorem listN_ctz {m : Nat} (h : IsSet m) (h0 : m ≠ 0) : listN m = Lib.ctz 64 m :: listN (withoutS m (Lib.ctz 64 m : Nat)) :=
  listN_step h (ctz_test h h0).1 (ctz_test h h0).2

theorem listS_ctz {m : Nat} (h : IsSet m) (h0 : m ≠ 0) : listS m = ((Lib.ctz 64 m : Nat) : Int) :: listS (withoutS m (Lib.ctz 64 m : Nat)) := by
  unfold listS
  rw [listN_ctz h h0]
  rfl

theorem ctz_lt {m : Nat} (h : IsSet m) (h0 : m ≠ 0) : Lib.ctz 64 m < 64 := (Lib.lowest_bit 64 m h0 (by simpa using h)).2

/-! the set of a list -/

theorem foldl_withS_test (l : List Int) (i : Nat) : ∀ m : Nat, (l.foldl withS m).testBit i = (m.testBit i || decide ((i : Int) ∈ l ∧ i < 64)) := by
  induction l with
  | nil => intro m; simp
  | cons x l ih =>
    intro m
    rw [List.foldl_cons, ih, withS_test, Bool.or_assoc]
    congr 1
    rw [← Bool.decide_or]
    apply decide_eq_decide.2
    simp only [List.mem_cons]
    constructor
    · rintro (⟨h1, h2⟩ | ⟨h1, h2⟩)
      · exact ⟨.inl h1, h2⟩
      · exact ⟨.inr h1, h2⟩
    · rintro ⟨h1 | h1, h2⟩
      · exact .inl ⟨h1, h2⟩
      · exact .inr ⟨h1, h2⟩

theorem ofS_test (l : List Int) (i : Nat) : (ofS l).testBit i = decide ((i : Int) ∈ l ∧ i < 64) := by
  unfold ofS
  rw [foldl_withS_test, Nat.zero_testBit, Bool.false_or]

theorem foldl_withS_set (l : List Int) : ∀ m : Nat, IsSet m → IsSet (l.foldl withS m) := by
  induction l with
  | nil => intro m h; exact h
  | cons x l ih => intro m h; exact ih _ (withS_set x h)

theorem ofS_set (l : List Int) : IsSet (ofS l) := foldl_withS_set l 0 (by decide)

theorem listS_mem {m : Nat} (h : IsSet m) (i : Nat) : (i : Int) ∈ listS m ↔ m.testBit i = true := by
  rw [← listN_mem h]
  simp only [listS, List.mem_map]
  constructor
  · rintro ⟨a, ha, he⟩
    obtain rfl : a = i := by omega
    exact ha
  · exact fun ha => ⟨i, ha, rfl⟩

theorem of_list {m : Nat} (h : IsSet m) : ofS (listS m) = m := Nat.eq_of_testBit_eq fun i => by
  rw [ofS_test]
  by_cases hb : m.testBit i = true
  · rw [hb]
    refine decide_eq_true ⟨(listS_mem h i).2 hb, ?_⟩
    exact listN_lt ((listN_mem h i).2 hb)
  · rw [Bool.not_eq_true] at hb
    rw [hb]
    exact decide_eq_false fun hh => by rw [(listS_mem h i).1 hh.1] at hb; cases hb

/-- The document's Without: all but the one. -/
theorem without_of {m : Nat} (n : Int) (h : IsSet m) : ofS ((listS m).filter fun k => k != n) = withoutS m n := Nat.eq_of_testBit_eq fun i => by
  rw [ofS_test, withoutS_test n h, Bool.eq_iff_iff]
  simp only [List.mem_filter, listS_mem h, decide_eq_true_eq, Bool.and_eq_true, bne_iff_ne, ne_eq, Bool.not_eq_true', decide_eq_false_iff_not]
  constructor
  · rintro ⟨⟨h1, h2⟩, _⟩; exact ⟨h1, h2⟩
  · rintro ⟨h1, h2⟩; exact ⟨⟨h1, h2⟩, listN_lt ((listN_mem h i).2 h1)⟩

/-- The document's Slide: each less by n. -/
theorem slide_of {m : Nat} (n : Int) (h : IsSet m) : ofS ((listS m).map fun k => k - n) = slideS m n := Nat.eq_of_testBit_eq fun i => by
  rw [ofS_test, slideS_test n h, Bool.eq_iff_iff]
  simp only [List.mem_map, decide_eq_true_eq, Bool.and_eq_true]
  constructor
  · rintro ⟨⟨k, hk, he⟩, hi⟩
    have hb := listS_bound hk
    refine ⟨⟨by omega, hi⟩, ?_⟩
    rw [show (i : Int) + n = k by omega]
    apply (listS_mem h _).1
    rw [Int.toNat_of_nonneg hb.1]
    exact hk
  · rintro ⟨⟨h1, h2⟩, h3⟩
    refine ⟨⟨(i : Int) + n, ?_, by omega⟩, h2⟩
    have := (listS_mem h _).2 h3
    rw [Int.toNat_of_nonneg h1] at this
    exact this

/-- The document's Below: the numbers one by one. -/
theorem below_succ (k : Nat) (hk : k < 64) : withS (belowS k) k = belowS ((k : Int) + 1) := Nat.eq_of_testBit_eq fun i => by
  rw [withS_test, belowS_test, belowS_test, ← Bool.decide_or]
  apply decide_eq_decide.2
  omega

theorem below_end (n : Int) (k : Nat) (hk : k ≤ 64) (h1 : (k : Int) ≤ n ∨ k = 0) (h2 : k = 64 ∨ n ≤ k) : belowS k = belowS n := by
  unfold belowS
  congr 2
  omega

/-! the run -/

theorem runF_eq (m j : Nat) (hj : m.testBit j = false) : ∀ f k, k ≤ j → j ≤ k + f → (∀ i, k ≤ i → i < j → m.testBit i = true) → runF f m k = j
  | 0, k, h1, h2, _ => by unfold runF; omega
  | f + 1, k, h1, h2, h3 => by
    unfold runF
    by_cases hk : k = j
    · subst hk; simp [hj]
    · rw [if_pos (h3 k (Nat.le_refl _) (by omega))]
      exact runF_eq m j hj f (k + 1) (by omega) (by omega) (fun i h4 h5 => h3 i (by omega) h5)

theorem runS_eq {m j : Nat} (h64 : j ≤ 64) (hj : m.testBit j = false) (h : ∀ i, i < j → m.testBit i = true) : runS m = j :=
  runF_eq m j hj 64 0 (by omega) (by omega) (fun i _ hi => h i hi)

theorem runF_spec (m : Nat) : ∀ f k, k ≤ runF f m k ∧ runF f m k ≤ k + f ∧ (∀ i, k ≤ i → i < runF f m k → m.testBit i = true) ∧ (runF f m k < k + f → m.testBit (runF f m k) = false)
  | 0, k => by simp [runF]; omega
  | f + 1, k => by
    unfold runF
    split
    · rename_i hb
      obtain ⟨h1, h2, h3, h4⟩ := runF_spec m f (k + 1)
      refine ⟨by omega, by omega, fun i hi hj => ?_, fun hh => h4 (by omega)⟩
      by_cases he : i = k
      · subst he; exact hb
      · exact h3 i (by omega) hj
    · rename_i hb
      refine ⟨Nat.le_refl _, by omega, fun i hi hj => by omega, fun _ => by simpa using hb⟩

theorem runS_le (m : Nat) : runS m ≤ 64 := by have := (runF_spec m 64 0).2.1; unfold runS; omega

theorem runS_all (m i : Nat) (h : i < runS m) : m.testBit i = true := (runF_spec m 64 0).2.2.1 i (by omega) h

theorem runS_end {m : Nat} (hm : IsSet m) : m.testBit (runS m) = false := by
  by_cases h : runS m < 64
  · exact (runF_spec m 64 0).2.2.2 (by unfold runS at h; omega)
  · exact set_high hm (by omega)

/-- The list begins with 0 .. j - 1 and then another than j, or ends: the run is j. -/
theorem runS_list {m j : Nat} {rest : List Nat} (hm : IsSet m) (e : listN m = List.range j ++ rest) (hr : ∀ x r, rest = x :: r → x ≠ j) : runS m = j := by
  have hlen := listN_length m
  have hj : j ≤ 64 := by rw [e] at hlen; simp at hlen; omega
  refine runS_eq hj ?_ (fun i hi => (listN_mem hm i).1 (by rw [e]; simp [hi]))
  rw [← Bool.not_eq_true, ← listN_mem hm, e]
  intro hin
  have hs := listN_sorted m
  rw [e, List.pairwise_append] at hs
  obtain ⟨_, s2, s3⟩ := hs
  simp only [List.mem_append, List.mem_range, Nat.lt_irrefl, false_or] at hin
  cases rest with
  | nil => cases hin
  | cons x r =>
    have hx := hr x r rfl
    rcases List.mem_cons.1 hin with h1 | h1
    · exact hx h1.symm
    · have h2 := (List.pairwise_cons.1 s2).1 j h1
      have hxm : m.testBit x = true := (listN_mem hm x).1 (by rw [e]; simp)
      have h3 : ∀ i, i < j → i < x := fun i hi => s3 i (by simp [hi]) x (by simp)
      have : x < j := h2
      have := h3 x this
      omega

end Go.Proofs.Ytkdjpleedaldcaa
