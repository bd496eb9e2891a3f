/-
  WHAT IS OF NO PROGRAM: a range put into ranges; ranges melted; ranges that are as they should be.
-/
import Derived.Test.YtnlllpgdhnmccaaSpans
namespace Go.Proofs.Ytnlllpgdhnmccaa

/-- Ranges with one more. -/
def putL : List (Nat × Nat) → Nat × Nat → List (Nat × Nat)
  | [], x => [x]
  | r :: t, x => if r.2 + 1 < x.1 then r :: putL t x else if x.2 + 1 < r.1 then x :: r :: t else putL t (min x.1 r.1, max x.2 r.2)
theorem putL_ok : ∀ (l : List (Nat × Nat)) (x : Nat × Nat) (b : Nat), Apart b l → b ≤ x.1 → x.1 ≤ x.2 → Apart b (putL l x) ∧ ∀ m, Mem (putL l x) m ↔ Mem l m ∨ (x.1 ≤ m ∧ m ≤ x.2)
  | [], x, b, _, hb, hx => ⟨⟨hb, hx, trivial⟩, fun m => by
      rw [putL, mem_cons]
      constructor
      · rintro (h | h)
        · exact .inr h
        · exact absurd h (mem_nil m)
      · rintro (h | h)
        · exact absurd h (mem_nil m)
        · exact .inl h⟩
  | r :: t, x, b, h, hb, hx => by
    have h0 := h.1
    have h1 := h.2.1
    rw [putL]
    by_cases c1 : r.2 + 1 < x.1
    · rw [if_pos c1]
      obtain ⟨i1, i2⟩ := putL_ok t x (r.2 + 2) h.2.2 (by omega) hx
      refine ⟨⟨h0, h1, i1⟩, fun m => ?_⟩
      rw [mem_cons, mem_cons, i2 m, or_assoc]
    · rw [if_neg c1]
      by_cases c2 : x.2 + 1 < r.1
      · rw [if_pos c2]
        refine ⟨⟨hb, hx, by omega, h1, h.2.2⟩, fun m => ?_⟩
        rw [mem_cons]
        constructor
        · rintro (h | h)
          · exact .inr h
          · exact .inl h
        · rintro (h | h)
          · exact .inr h
          · exact .inl h
      · rw [if_neg c2]
        obtain ⟨i1, i2⟩ := putL_ok t (min x.1 r.1, max x.2 r.2) b (h.2.2.mono (by omega)) (by simp only; omega) (by simp only; omega)
        refine ⟨i1, fun m => ?_⟩
        rw [i2 m, mem_cons]
        simp only
        constructor
        · rintro (h | h)
          · exact .inl (.inr h)
          · by_cases hm : r.1 ≤ m ∧ m ≤ r.2
            · exact .inl (.inl hm)
            · exact .inr ⟨by omega, by omega⟩
        · rintro ((h | h) | h)
          · exact .inr ⟨by omega, by omega⟩
          · exact .inl h
          · exact .inr ⟨by omega, by omega⟩
theorem putL_upto : ∀ (l : List (Nat × Nat)) (x : Nat × Nat) (N : Nat), Upto N l → x.2 < N → Upto N (putL l x)
  | [], x, N, _, hx => fun r hr => by
    have : r = x := by simpa [putL] using hr
    subst this; exact hx
  | r :: t, x, N, h, hx => by
    have hr := h r (by simp)
    have ht : Upto N t := fun q hq => h q (by simp [hq])
    rw [putL]
    split
    · intro q hq
      rcases List.mem_cons.1 hq with rfl | hq
      · exact hr
      · exact putL_upto t x N ht hx q hq
    · split
      · intro q hq
        rcases List.mem_cons.1 hq with rfl | hq
        · exact hx
        · exact h q hq
      · exact putL_upto t _ N ht (by simp only; omega)
theorem putL_length : ∀ (l : List (Nat × Nat)) (x : Nat × Nat), (putL l x).length ≤ l.length + 1
  | [], _ => by simp [putL]
  | r :: t, x => by
    rw [putL]
    split
    · have := putL_length t x; simp; exact this
    · split
      · simp
      · have := putL_length t (min x.1 r.1, max x.2 r.2); simp; omega

/-- All of b put into a. -/
def joinL (a b : List (Nat × Nat)) : List (Nat × Nat) := b.foldl putL a
theorem joinL_ok : ∀ (b a : List (Nat × Nat)), Apart 1 a → (∀ r ∈ b, 1 ≤ r.1 ∧ r.1 ≤ r.2) → Apart 1 (joinL a b) ∧ ∀ m, Mem (joinL a b) m ↔ Mem a m ∨ Mem b m
  | [], a, ha, _ => ⟨ha, fun m => ⟨.inl, fun h => h.elim id fun h => absurd h (mem_nil m)⟩⟩
  | r :: t, a, ha, hb => by
    have hr := hb r (by simp)
    obtain ⟨p1, p2⟩ := putL_ok a r 1 ha hr.1 hr.2
    obtain ⟨i1, i2⟩ := joinL_ok t (putL a r) p1 fun q hq => hb q (by simp [hq])
    refine ⟨i1, fun m => ?_⟩
    show Mem (joinL (putL a r) t) m ↔ _
    rw [i2 m, p2 m, mem_cons, or_assoc]
theorem joinL_upto : ∀ (b a : List (Nat × Nat)) (N : Nat), Upto N a → Upto N b → Upto N (joinL a b)
  | [], _, _, h, _ => h
  | r :: t, a, N, h, hb => joinL_upto t (putL a r) N (putL_upto a r N h (hb r (by simp))) fun q hq => hb q (by simp [hq])
theorem joinL_length : ∀ (b a : List (Nat × Nat)), (joinL a b).length ≤ a.length + b.length
  | [], a => by simp [joinL]
  | r :: t, a => by
    have h1 := joinL_length t (putL a r)
    have h2 := putL_length a r
    show (joinL (putL a r) t).length ≤ _
    rw [List.length_cons]; omega

/-- Ranges whose beginnings rise, melted: 'cur' is the last so far. -/
def meltR : Nat × Nat → List (Nat × Nat) → List (Nat × Nat)
  | cur, [] => [cur]
  | cur, r :: t => if r.1 ≤ cur.2 + 1 then meltR (cur.1, max cur.2 r.2) t else cur :: meltR r t
def meltL : List (Nat × Nat) → List (Nat × Nat)
  | [] => []
  | r :: t => meltR r t
/-- Beginnings rise from b on; no range is empty. -/
def Rise : Nat → List (Nat × Nat) → Prop
  | _, [] => True
  | b, r :: t => b ≤ r.1 ∧ r.1 ≤ r.2 ∧ Rise r.1 t
theorem meltR_ok : ∀ (l : List (Nat × Nat)) (cur : Nat × Nat), cur.1 ≤ cur.2 → Rise cur.1 l → Apart cur.1 (meltR cur l) ∧ ∀ m, Mem (meltR cur l) m ↔ (cur.1 ≤ m ∧ m ≤ cur.2) ∨ Mem l m
  | [], cur, hc, _ => ⟨⟨Nat.le_refl _, hc, trivial⟩, fun m => by rw [meltR, mem_cons]⟩
  | r :: t, cur, hc, h => by
    have h0 := h.1
    have h1 := h.2.1
    rw [meltR]
    by_cases c : r.1 ≤ cur.2 + 1
    · rw [if_pos c]
      have hR : Rise cur.1 t := by
        cases t with
        | nil => trivial
        | cons s u => exact ⟨by have := h.2.2.1; omega, h.2.2.2⟩
      obtain ⟨i1, i2⟩ := meltR_ok t (cur.1, max cur.2 r.2) (by simp only; omega) hR
      refine ⟨i1, fun m => ?_⟩
      rw [i2 m, mem_cons]
      simp only
      constructor
      · rintro (h | h)
        · by_cases hm : m ≤ cur.2
          · exact .inl ⟨by omega, hm⟩
          · exact .inr (.inl ⟨by omega, by omega⟩)
        · exact .inr (.inr h)
      · rintro (h | h | h)
        · exact .inl ⟨by omega, by omega⟩
        · exact .inl ⟨by omega, by omega⟩
        · exact .inr h
    · rw [if_neg c]
      obtain ⟨i1, i2⟩ := meltR_ok t r h1 h.2.2
      refine ⟨⟨Nat.le_refl _, hc, i1.mono (by omega)⟩, fun m => ?_⟩
      rw [mem_cons, mem_cons, i2 m]
theorem meltL_ok (l : List (Nat × Nat)) (b : Nat) (h : Rise b l) : Apart b (meltL l) ∧ ∀ m, Mem (meltL l) m ↔ Mem l m := by
  cases l with
  | nil => exact ⟨trivial, fun _ => Iff.rfl⟩
  | cons r t =>
    obtain ⟨i1, i2⟩ := meltR_ok t r h.2.1 h.2.2
    exact ⟨i1.mono h.1, fun m => by rw [meltL, i2 m, mem_cons]⟩
theorem meltR_upto : ∀ (l : List (Nat × Nat)) (cur : Nat × Nat) (N : Nat), cur.2 < N → Upto N l → Upto N (meltR cur l)
  | [], cur, N, hc, _ => fun r hr => by
    have : r = cur := by simpa [meltR] using hr
    subst this; exact hc
  | r :: t, cur, N, hc, h => by
    have hr := h r (by simp)
    have ht : Upto N t := fun q hq => h q (by simp [hq])
    rw [meltR]
    split
    · exact meltR_upto t _ N (by simp only; omega) ht
    · intro q hq
      rcases List.mem_cons.1 hq with rfl | hq
      · exact hc
      · exact meltR_upto t r N hr ht q hq
theorem meltL_upto (l : List (Nat × Nat)) (N : Nat) (h : Upto N l) : Upto N (meltL l) := by
  cases l with
  | nil => exact h
  | cons r t => exact meltR_upto t r N (h r (by simp)) fun q hq => h q (by simp [hq])
theorem meltR_length : ∀ (l : List (Nat × Nat)) (cur : Nat × Nat), (meltR cur l).length ≤ l.length + 1
  | [], _ => by simp [meltR]
  | r :: t, cur => by
    rw [meltR]
    split
    · have := meltR_length t (cur.1, max cur.2 r.2); simp; omega
    · have := meltR_length t r; simp; exact this

/-- Place k is as it should be. -/
def stepB (l : List (Nat × Nat)) (k : Nat) : Prop := ∃ h : k < l.length, 1 ≤ l[k].1 ∧ l[k].1 ≤ l[k].2 ∧ (∀ h0 : 0 < k, (l[k - 1]'(by omega)).2 + 1 < l[k].1)
theorem apart_of_steps : ∀ (l : List (Nat × Nat)) (b : Nat), (∀ k (h : k < l.length), b ≤ l[k].1 ∧ l[k].1 ≤ l[k].2 ∧ (∀ h0 : 0 < k, (l[k - 1]'(by omega)).2 + 1 < l[k].1)) → Apart b l
  | [], _, _ => trivial
  | r :: t, b, h => by
    have h0 := h 0 (by simp)
    refine ⟨h0.1, h0.2.1, apart_of_steps t (r.2 + 2) fun k hk => ?_⟩
    have hk1 := h (k + 1) (by simpa using hk)
    simp only [List.getElem_cons_succ] at hk1
    refine ⟨?_, hk1.2.1, fun h0 => ?_⟩
    · -- r ends below all that follow
      have hall : ∀ j (hj : j < t.length), r.2 + 2 ≤ t[j].1 := by
        intro j
        induction j with
        | zero =>
          intro hj
          have i0 := (h 1 (by simpa using hj)).2.2 (by omega)
          simp only [List.getElem_cons_succ, Nat.sub_self, List.getElem_cons_zero] at i0
          omega
        | succ j ih =>
          intro hj
          have i1 := ih (by omega)
          have i2 := (h (j + 1) (by simp; omega)).2.1
          have i3 := (h (j + 2) (by simp; omega)).2.2 (by omega)
          simp only [List.getElem_cons_succ, show j + 2 - 1 = j + 1 from rfl] at i2 i3
          omega
      exact hall k hk
    · have := hk1.2.2 (by omega)
      obtain ⟨j, rfl⟩ : ∃ j, k = j + 1 := ⟨k - 1, by omega⟩
      simpa using this
theorem steps_of_apart {l : List (Nat × Nat)} {b : Nat} (h : Apart b l) (k : Nat) (hk : k < l.length) : b ≤ l[k].1 ∧ l[k].1 ≤ l[k].2 ∧ (∀ h0 : 0 < k, (l[k - 1]'(by omega)).2 + 1 < l[k].1) := by
  have h1 := h.lowR (List.getElem_mem hk)
  refine ⟨h1.1, h1.2, fun h0 => ?_⟩
  have := h.rising (i := k - 1) (j := k) (by omega) hk (by omega)
  omega
/-- Are the ranges as they should be? -/
def goodB : Nat → List (Nat × Nat) → Bool
  | _, [] => true
  | b, r :: t => decide (b ≤ r.1) && (decide (r.1 ≤ r.2) && goodB (r.2 + 2) t)
theorem goodB_iff : ∀ (l : List (Nat × Nat)) (b : Nat), goodB b l = true ↔ Apart b l
  | [], _ => by simp [goodB, Apart]
  | r :: t, b => by simp [goodB, Apart, goodB_iff t]
theorem goodB_true {l : List (Nat × Nat)} (h : ∀ k, k < l.length → stepB l k) : goodB 1 l = true := by
  rw [goodB_iff]
  exact apart_of_steps l 1 fun k hk => (h k hk).2
theorem goodB_false {l : List (Nat × Nat)} {k : Nat} (hk : k < l.length) (h : ¬ stepB l k) : goodB 1 l = false := by
  rw [Bool.eq_false_iff, Ne, goodB_iff]
  intro ha
  exact h ⟨hk, steps_of_apart ha k hk⟩
end Go.Proofs.Ytnlllpgdhnmccaa
