/-
  WHAT IS SO of books told by functions: what an Add changes, and what it does not.
-/
import Derived.Test.YtnlllpgdhnmccaaTwo9
namespace Go.Proofs.Ytnlllpgdhnmccaa
open Go.RowKit Go.Sort

theorem ofF_add_ne {f : Nat → List (Nat × Nat)} {o x : Int} {s : Nat} (h : o ≠ x) : ofF (addF f o s) x = ofF f x := by
  unfold ofF addF
  by_cases hx : 1 ≤ x ∧ x ≤ 8
  · rw [if_pos hx, if_pos hx]
    by_cases ho : 1 ≤ o ∧ o ≤ 8
    · rw [if_pos ho, putF_ne _ _ (by omega)]
    · rw [if_neg ho]
  · rw [if_neg hx, if_neg hx]
theorem ofF_add_eq {f : Nat → List (Nat × Nat)} {o : Int} {s : Nat} (h : 1 ≤ o ∧ o ≤ 8) : ofF (addF f o s) o = addS (ofF f o) s := by
  unfold ofF addF
  rw [if_pos h, if_pos h, if_pos h, putF_at]
theorem addS_has {l : List (Nat × Nat)} {s : Nat} (h : Apart 1 l) (hs : s ≠ 0) : Mem (addS l s) s := (addS_mem h s).2 (.inr ⟨rfl, hs⟩)
theorem newB_has {l : List (Nat × Nat)} {s : Nat} (h : s = 0 ∨ Mem l s) : newB l s = false := Bool.eq_false_iff.2 fun h' => (newB_true l s).1 h' h
/-- An id is new once. -/
theorem fresh_again {f : Nat → List (Nat × Nat)} {o : Int} {s : Nat} (hf : FineF f) : freshF (addF f o s) o s = false := by
  by_cases ho : 1 ≤ o ∧ o ≤ 8
  · unfold freshF
    rw [ofF_add_eq ho, newB_has, Bool.and_false]
    by_cases hs : s = 0
    · exact .inl hs
    · exact .inr (addS_has (hf.of o).1 hs)
  · exact freshF_out ho
theorem fresh_none (o : Int) (s : Nat) : freshF (fun _ => []) o s = (decide (0 < s) && decide (1 ≤ o) && decide (o ≤ 8)) := by
  unfold freshF
  rw [show ofF (fun _ => []) o = [] by unfold ofF; split <;> rfl]
  have : newB [] s = decide (0 < s) := by
    unfold newB
    by_cases h : s = 0
    · subst h; rfl
    · simp [memB, h]; omega
  rw [this]
  by_cases h1 : 1 ≤ o <;> by_cases h2 : o ≤ 8 <;> simp [h1, h2]
theorem has_first (o : Int) (s : Nat) : memB (ofF (addF (fun _ => []) o s) o) s = freshF (fun _ => []) o s := by
  by_cases ho : 1 ≤ o ∧ o ≤ 8
  · have e : ofF (fun _ => ([] : List (Nat × Nat))) o = [] := by unfold ofF; split <;> rfl
    rw [ofF_add_eq ho, e]
    unfold freshF
    rw [e, decide_eq_true ho, Bool.true_and]
    by_cases hs : s = 0
    · subst hs; rfl
    · rw [(memB_iff _ _).2 (addS_has (l := []) fine_nil.1 hs)]
      exact ((newB_true [] s).2 (fun h => h.elim hs (mem_nil s))).symm
  · rw [ofF_out ho, freshF_out ho]
    rfl
theorem fresh_of {f g : Nat → List (Nat × Nat)} {o : Int} {s : Nat} (h : ofF f o = ofF g o) : freshF f o s = freshF g o s := by
  unfold freshF
  rw [h]
/-- A row beside a book. -/
structure Once9 (w wr : World) (p : Nat) (F : Nat → Prop) (f : Nat → List (Nat × Nat)) (v : Value) (l : List (Nat × Nat)) : Prop where
  own : Own9 w wr p F f
  row : Own2 wr 0 v l
  ap : ∀ g, v.ownBlock = some g → ¬ F g
theorem Once9.to {w wr wr' : World} {p : Nat} {F F' : Nat → Prop} {f f' : Nat → List (Nat × Nat)} {v : Value} {l : List (Nat × Nat)} (h : Once9 w wr p F f v l) (b : Bk wr' p F' f') (m : Moved wr wr' F F') (hf : FineF f') : Once9 w wr' p F' f' v l := by
  have hm := fun g (hg : v.ownBlock = some g) => m.miss (h.ap g hg) (World.ownsRow.lt h.row g hg).2
  exact ⟨h.own.to b m hf, h.row.same fun g hg => (hm g hg).2, fun g hg => (hm g hg).1⟩
theorem Once9.go {w wr wr' : World} {p : Nat} {F : Nat → Prop} {f : Nat → List (Nat × Nat)} {v : Value} {l : List (Nat × Nat)} (h : Once9 w wr p F f v l) (b : Below wr.heap.size wr wr') : Once9 w wr' p F f v l := h.to (h.own.b.kept b) (.of_below b) h.own.fine
end Go.Proofs.Ytnlllpgdhnmccaa
