/-
  A ROW WITH ONE MORE AT MOST, run through beside the row without. Of no program.
-/
import Derived.Test.YtlfehneojkfmjaaGreatDoorGrows
namespace Go.Proofs.YtlfehneojkfmjaaGreatDoor
open Go.RowKit Go.Sort

/-- Where one is in X, where one is at k in Y: X, or X with one more. -/
structure Idx (X Y : List ByteArray) (bq : ByteArray) (f : Nat → Nat) : Prop where
  zero : f 0 = 0
  last : f Y.length = X.length
  le : ∀ k, f k ≤ k
  step : ∀ k (hk : k < Y.length), (∃ h2 : f k < X.length, X[f k] = Y[k] ∧ f (k + 1) = f k + 1) ∨ (Y[k] = bq ∧ f (k + 1) = f k ∧ ∀ h2 : f k < X.length, ¬ X[f k] = Y[k])
theorem idx_same (X : List ByteArray) (bq : ByteArray) : Idx X X bq id := ⟨rfl, rfl, fun _ => Nat.le_refl _, fun _ hk => .inl ⟨hk, rfl, rfl⟩⟩
theorem idx_more (p1 p2 : List ByteArray) (bq : ByteArray) (h : bq ∉ p1 ++ p2) : Idx (p1 ++ p2) (p1 ++ (bq :: p2)) bq (fun k => if k ≤ p1.length then k else k - 1) := by
  refine ⟨by simp, ?_, fun k => ?_, fun k hk => ?_⟩
  · simp only [List.length_append, List.length_cons]
    rw [if_neg (by omega)]
    omega
  · show (if k ≤ p1.length then k else k - 1) ≤ k
    split <;> omega
  · simp only [List.length_append, List.length_cons] at hk
    by_cases h1 : k < p1.length
    · left
      simp only [if_pos (show k ≤ p1.length by omega), if_pos (show k + 1 ≤ p1.length by omega)]
      refine ⟨by simp; omega, ?_, trivial⟩
      rw [List.getElem_append_left h1, List.getElem_append_left h1]
    · by_cases h2 : k = p1.length
      · right
        subst h2
        simp only [if_pos (Nat.le_refl _), if_neg (show ¬ p1.length + 1 ≤ p1.length by omega)]
        have e : (p1 ++ bq :: p2)[p1.length]'(by simp) = bq := by simp
        refine ⟨e, by omega, fun h3 he => h ?_⟩
        rw [← e, ← he]
        exact List.getElem_mem h3
      · left
        simp only [if_neg (show ¬ k ≤ p1.length by omega), if_neg (show ¬ k + 1 ≤ p1.length by omega)]
        refine ⟨by simp; omega, ?_, by omega⟩
        rw [List.getElem_append_right (by omega), List.getElem_append_right (by omega)]
        obtain ⟨j, rfl⟩ : ∃ j, k = p1.length + 1 + j := ⟨k - p1.length - 1, by omega⟩
        simp only [show p1.length + 1 + j - 1 - p1.length = j by omega, show p1.length + 1 + j - p1.length = j + 1 by omega]
        rfl
theorem grows_idx (s : Tb) (b : Bd) (key : ByteArray) : ∃ f, Idx (queuesT s b.ex key) (queuesT (s.bind b).2 b.ex key) b.que f := by
  obtain ⟨p1, mid, p2, h1, h2, h3⟩ := grows_own s b key
  rcases h3 with rfl | ⟨rfl, hn⟩
  · rw [h1, h2]
    exact ⟨_, idx_same _ _⟩
  · rw [h2] at hn
    rw [h1, h2]
    exact ⟨_, idx_more p1 p2 b.que hn⟩
end Go.Proofs.YtlfehneojkfmjaaGreatDoor
