/-
  THE WALK of 'lives' and of 'alike'.
-/
import Derived.Test.YtdgbcjdikkmgdabAdd
import Derived.Test.YtdgbcjdikkmgdabRefs2
namespace Go.Proofs.Ytdgbcjdikkmgdab
open Go.RowKit

/-- Ranges as a set has them. -/
def Fine (l : List (Nat × Nat)) : Prop := Apart 1 l ∧ Upto 18446744073709551616 l
theorem fine_nil : Fine [] := ⟨trivial, fun r h => by cases h⟩
theorem Fine.add {l : List (Nat × Nat)} {n : Nat} (h : Fine l) (hn : n < 18446744073709551616) : Fine (addS l n) := by
  by_cases hh : n = 0 ∨ Mem l n
  · rw [addS_no hh]; exact h
  · rw [addS_yes hh]
    exact ⟨(addL_ok h.1 (fun h0 => hh (.inl h0)) (fun hm => hh (.inr hm))).1, addL_upto h.2 hn⟩
theorem addS_mem {l : List (Nat × Nat)} {n : Nat} (h : Apart 1 l) (m : Nat) : Mem (addS l n) m ↔ Mem l m ∨ (m = n ∧ n ≠ 0) := by
  by_cases hh : n = 0 ∨ Mem l n
  · rw [addS_no hh]
    constructor
    · exact .inl
    · rintro (h1 | ⟨rfl, h1⟩)
      · exact h1
      · exact hh.elim (fun h0 => absurd h0 h1) id
  · rw [addS_yes hh, (addL_ok h (fun h0 => hh (.inl h0)) (fun hm => hh (.inr hm))).2.1 m]
    constructor
    · rintro (h1 | rfl)
      · exact .inl h1
      · exact .inr ⟨rfl, fun h0 => hh (.inl h0)⟩
    · rintro (h1 | ⟨h1, _⟩)
      · exact .inl h1
      · exact .inr h1
theorem addS_size {l : List (Nat × Nat)} {n : Nat} (h : Apart 1 l) : sizeL (addS l n) = sizeL l + (if newB l n = true then 1 else 0) := by
  by_cases hh : n = 0 ∨ Mem l n
  · rw [addS_no hh, if_neg fun h' => (newB_true l n).1 h' hh]; rfl
  · rw [addS_yes hh, (addL_ok h (fun h0 => hh (.inl h0)) (fun hm => hh (.inr hm))).2.2, if_pos ((newB_true l n).2 hh)]

/-- A set of the call's own: all its blocks lie from base on. -/
structure Mine (base : Nat) (w w' : World) (B : Nat) (v : Value) (l : List (Nat × Nat)) : Prop where
  set : SetAt w' B v l
  bel : Below base w w'
  fr : From0 base B v
  sz : base ≤ w'.heap.size
theorem Mine.add {base : Nat} {w w1 w2 : World} {B : Nat} {v v' : Value} {l l' : List (Nat × Nat)} (h : Mine base w w1 B v l) (hs : SetAt w2 B v' l') (t : Turned w1 w2 B v) (nw : NewOr w1 v v') : Mine base w w2 B v' l' := by
  refine ⟨hs, h.bel.trans ⟨t.os, t.tape, t.output, t.size, fun k hk => t.block k (by have := h.sz; omega) (by have := h.fr.1; omega) (fun he => by have := h.fr.2 k he; omega)⟩, ⟨h.fr.1, fun g hg => ?_⟩, Nat.le_trans h.sz t.size⟩
  rcases nw with e | ⟨g', e, hg'⟩
  · exact h.fr.2 g (by rw [← e]; exact hg)
  · rw [e] at hg
    injection hg with hg
    have := h.sz
    omega
theorem Mine.go {base : Nat} {w w1 w2 : World} {B : Nat} {v : Value} {l : List (Nat × Nat)} (h : Mine base w w1 B v l) (b : Below w1.heap.size w1 w2) : Mine base w w2 B v l :=
  ⟨h.set.kept b (Nat.le_refl _), h.bel.trans (b.mono h.sz), h.fr, Nat.le_trans h.sz b.size⟩
theorem mine_new (w : World) : Mine w.heap.size w (w.alloc (.cells #[.bool true, .slice none 0 0] 34)) w.heap.size (.slice none 0 0) [] :=
  ⟨setAt_new (own2_nil _ _), (Below.refl _ _).alloc (Nat.le_refl _) _, ⟨Nat.le_refl _, fun g hg => by simp [Value.ownBlock] at hg⟩, by simp⟩

theorem goodB_fine {l : List (Nat × Nat)} (h : goodB 1 l = true) (h2 : l.all (fun r => decide (r.2 < 18446744073709551616)) = true) : Fine l :=
  ⟨(goodB_iff l 1).1 h, fun r hr => by simpa using List.all_eq_true.1 h2 r hr⟩

set_option maxHeartbeats 1000000 in
theorem lives_any (w : World) : Calls Try.prog 11 #[] w fun e w' => e = .returned (.bool true) ∧ Below w.heap.size w w' := by
  have a1 : Hid (addS [] 1 = [(1, 1)] ∧ newB [] 1 = true) := (by decide : addS [] 1 = [(1, 1)] ∧ newB [] 1 = true)
  have a2 : Hid (addS [(1, 1)] 2 = [(1, 2)] ∧ newB [(1, 1)] 2 = true) := (by decide : addS [(1, 1)] 2 = [(1, 2)] ∧ newB [(1, 1)] 2 = true)
  have a3 : Hid (addS [(1, 2)] 5 = [(1, 2), (5, 5)] ∧ newB [(1, 2)] 5 = true) := (by decide : addS [(1, 2)] 5 = [(1, 2), (5, 5)] ∧ newB [(1, 2)] 5 = true)
  have a4 : Hid (addS [(1, 2), (5, 5)] 3 = [(1, 3), (5, 5)] ∧ newB [(1, 2), (5, 5)] 3 = true) := (by decide : addS [(1, 2), (5, 5)] 3 = [(1, 3), (5, 5)] ∧ newB [(1, 2), (5, 5)] 3 = true)
  have a5 : Hid (addS [(1, 3), (5, 5)] 4 = [(1, 5)] ∧ newB [(1, 3), (5, 5)] 4 = true) := (by decide : addS [(1, 3), (5, 5)] 4 = [(1, 5)] ∧ newB [(1, 3), (5, 5)] 4 = true)
  have a6 : Hid (addS [(1, 5)] 3 = [(1, 5)] ∧ newB [(1, 5)] 3 = false) := (by decide : addS [(1, 5)] 3 = [(1, 5)] ∧ newB [(1, 5)] 3 = false)
  have f0 := fine_nil
  have f1 : Fine [(1, 1)] := goodB_fine (by decide) (by decide)
  have f2 : Fine [(1, 2)] := goodB_fine (by decide) (by decide)
  have f3 : Fine [(1, 2), (5, 5)] := goodB_fine (by decide) (by decide)
  have f4 : Fine [(1, 3), (5, 5)] := goodB_fine (by decide) (by decide)
  have f5 : Fine [(1, 5)] := goodB_fine (by decide) (by decide)
  go_enter Try.func11, Try.ntmps11
  go_wp2_with fail
  refine (new_any w).mono ?_
  rintro e w0 ⟨rfl, _, rfl⟩
  have m0 := mine_new w
  go_wp2_with fail
  refine (add_any w.heap.size 1 _ [] _ m0.set f0.1 f0.2 (by decide) (by decide)).mono ?_
  rintro e w1 ⟨rfl, v1, s1, t1, n1⟩
  have m1 := m0.add s1 t1 n1
  rw [a1.out.1] at m1
  rw [a1.out.2]
  clear s1 t1 n1 m0
  go_wp2_with fail
  refine (add_any w.heap.size 2 _ _ _ m1.set f1.1 f1.2 (by decide) (by decide)).mono ?_
  rintro e w2 ⟨rfl, v2, s2, t2, n2⟩
  have m2 := m1.add s2 t2 n2
  rw [a2.out.1] at m2
  rw [a2.out.2]
  clear s2 t2 n2 m1
  go_wp2_with fail
  refine (add_any w.heap.size 5 _ _ _ m2.set f2.1 f2.2 (by decide) (by decide)).mono ?_
  rintro e w3 ⟨rfl, v3, s3, t3, n3⟩
  have m3 := m2.add s3 t3 n3
  rw [a3.out.1] at m3
  rw [a3.out.2]
  clear s3 t3 n3 m2
  go_wp2_with fail
  refine (low_any _ _ _ m3.set.lies).mono ?_
  rintro e w' ⟨rfl, rfl⟩
  go_wp2_with fail
  refine (top_any _ _ _ m3.set.lies).mono ?_
  rintro e w' ⟨rfl, rfl⟩
  go_wp2_with fail
  refine (gaps_any _ _ _ m3.set.lies f3.1).mono ?_
  rintro e w' ⟨rfl, rfl⟩
  go_wp2_with fail
  refine (add_any w.heap.size 3 _ _ _ m3.set f3.1 f3.2 (by decide) (by decide)).mono ?_
  rintro e w4 ⟨rfl, v4, s4, t4, n4⟩
  have m4 := m3.add s4 t4 n4
  rw [a4.out.1] at m4
  rw [a4.out.2]
  clear s4 t4 n4 m3
  go_wp2_with fail
  refine (add_any w.heap.size 4 _ _ _ m4.set f4.1 f4.2 (by decide) (by decide)).mono ?_
  rintro e w5 ⟨rfl, v5, s5, t5, n5⟩
  have m5 := m4.add s5 t5 n5
  rw [a5.out.1] at m5
  rw [a5.out.2]
  clear s5 t5 n5 m4
  go_wp2_with fail
  refine (add_any w.heap.size 3 _ _ _ m5.set f5.1 f5.2 (by decide) (by decide)).mono ?_
  rintro e w6 ⟨rfl, v6, s6, t6, n6⟩
  have m6 := m5.add s6 t6 n6
  rw [a6.out.1] at m6
  rw [a6.out.2]
  clear s6 t6 n6 m5
  go_wp2_with fail
  refine (ranges_any _ _ _ m6.set.lies (by decide)).mono ?_
  rintro e w7 ⟨v7, rfl, o7, b7⟩
  have m7 := m6.go b7
  obtain ⟨va, vc, hva⟩ : ∃ a c, v7 = .slice a 1 c := o7.rng.slice
  subst hva
  clear o7 b7 m6
  go_wp2_with fail
  refine (low_any _ _ _ m7.set.lies).mono ?_
  rintro e w' ⟨rfl, rfl⟩
  go_wp2_with fail
  refine (has_any _ _ 4 _ m7.set.lies f5.1 (by decide)).mono ?_
  rintro e w8 ⟨rfl, b8⟩
  have m8 := m7.go b8
  clear b8 m7
  rw [show memB [(1, 5)] 4 = true by decide]
  go_wp2_with fail
  refine (has_any _ _ 6 _ m8.set.lies f5.1 (by decide)).mono ?_
  rintro e w9 ⟨rfl, b9⟩
  have m9 := m8.go b9
  clear b9 m8
  rw [show memB [(1, 5)] 6 = false by decide]
  go_wp2
  go_ret
  exact ⟨rfl, m9.bel⟩
end Go.Proofs.Ytdgbcjdikkmgdab
