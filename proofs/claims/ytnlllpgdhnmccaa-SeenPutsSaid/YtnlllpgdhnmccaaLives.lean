/-
  THE WALK of 'lives' and of 'alike'.
-/
import Derived.Test.YtnlllpgdhnmccaaAdd
import Derived.Test.YtnlllpgdhnmccaaRefs2
namespace Go.Proofs.Ytnlllpgdhnmccaa
open Go.RowKit

/-- Ranges as a set has them. -/
def Fine (l : List (Nat × Nat)) : Prop := Apart 1 l ∧ Upto 18446744073709551616 l
theorem fine_nil : Fine [] := ⟨trivial, fun r h => by cases h⟩
theorem Fine.add {l : List (Nat × Nat)} {n : Nat} (h : Fine l) (hn : n < 18446744073709551616) : Fine (addS l n) := by
  by_cases hh : n = 0 ∨ Mem l n
  · rw [addS_no hh]; exact h
  · rw [addS_yes hh]
    exact ⟨(addL_ok h.1 (fun h0 => hh (.inl h0)) (fun hm => hh (.inr hm))).1, addL_upto h.2 hn⟩
theorem addS_mem {l : List (Nat × Nat)} {n : Nat} (h : Apart 1 l) (m : Nat) : Mem (addS l n) m ↔ Mem l m ∨ (m = n ∧ n ≠ 0) := by
  by_cases hh : n = 0 ∨ Mem l n
  · rw [addS_no hh]
    constructor
    · exact .inl
    · rintro (h1 | ⟨rfl, h1⟩)
      · exact h1
      · exact hh.elim (fun h0 => absurd h0 h1) id
  · rw [addS_yes hh, (addL_ok h (fun h0 => hh (.inl h0)) (fun hm => hh (.inr hm))).2.1 m]
    constructor
    · rintro (h1 | rfl)
      · exact .inl h1
      · exact .inr ⟨rfl, fun h0 => hh (.inl h0)⟩
    · rintro (h1 | ⟨h1, _⟩)
      · exact .inl h1
      · exact .inr h1
theorem addS_size {l : List (Nat × Nat)} {n : Nat} (h : Apart 1 l) : sizeL (addS l n) = sizeL l + (if newB l n = true then 1 else 0) := by
  by_cases hh : n = 0 ∨ Mem l n
  · rw [addS_no hh, if_neg fun h' => (newB_true l n).1 h' hh]; rfl
  · rw [addS_yes hh, (addL_ok h (fun h0 => hh (.inl h0)) (fun hm => hh (.inr hm))).2.2, if_pos ((newB_true l n).2 hh)]

/-- A set of the call's own: all its blocks lie from base on. -/
structure Mine (base : Nat) (w w' : World) (B : Nat) (v : Value) (l : List (Nat × Nat)) : Prop where
  set : SetAt w' B v l
  bel : Below base w w'
  fr : From0 base B v
  sz : base ≤ w'.heap.size
theorem Mine.add {base : Nat} {w w1 w2 : World} {B : Nat} {v v' : Value} {l l' : List (Nat × Nat)} (h : Mine base w w1 B v l) (hs : SetAt w2 B v' l') (t : Turned w1 w2 B v) (nw : NewOr w1 v v') : Mine base w w2 B v' l' := by
  refine ⟨hs, h.bel.trans ⟨t.os, t.tape, t.output, t.size, fun k hk => t.block k (by have := h.sz; omega) (by have := h.fr.1; omega) (fun he => by have := h.fr.2 k he; omega)⟩, ⟨h.fr.1, fun g hg => ?_⟩, Nat.le_trans h.sz t.size⟩
  rcases nw with e | ⟨g', e, hg'⟩
  · exact h.fr.2 g (by rw [← e]; exact hg)
  · rw [e] at hg
    injection hg with hg
    have := h.sz
    omega
theorem Mine.go {base : Nat} {w w1 w2 : World} {B : Nat} {v : Value} {l : List (Nat × Nat)} (h : Mine base w w1 B v l) (b : Below w1.heap.size w1 w2) : Mine base w w2 B v l :=
  ⟨h.set.kept b (Nat.le_refl _), h.bel.trans (b.mono h.sz), h.fr, Nat.le_trans h.sz b.size⟩
theorem mine_new (w : World) : Mine w.heap.size w (w.alloc (.cells #[.bool true, .slice none 0 0] 80)) w.heap.size (.slice none 0 0) [] :=
  ⟨setAt_new (own2_nil _ _), (Below.refl _ _).alloc (Nat.le_refl _) _, ⟨Nat.le_refl _, fun g hg => by simp [Value.ownBlock] at hg⟩, by simp⟩

theorem goodB_fine {l : List (Nat × Nat)} (h : goodB 1 l = true) (h2 : l.all (fun r => decide (r.2 < 18446744073709551616)) = true) : Fine l :=
  ⟨(goodB_iff l 1).1 h, fun r hr => by simpa using List.all_eq_true.1 h2 r hr⟩

end Go.Proofs.Ytnlllpgdhnmccaa
