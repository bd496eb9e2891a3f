/-
  THE WALKS of the document's Without, Below, Slide, Run and Ints.
-/
import Derived.Test.YtkdjpleedaldcaaDoorLists
namespace Go.Proofs.YtkdjpleedaldcaaDoor
open Go.RowKit


/-- The document's Without and Slide behind k rounds. -/
def outT (l : List Int) (n : Int) (k : Nat) : Nat := foldS 0 ((l.take k).filter fun x => x != n)

def slideT (l : List Int) (n : Int) (k : Nat) : Nat := foldS 0 ((l.take k).map fun x => x - n)

theorem outT_zero (l : List Int) (n : Int) : outT l n 0 = 0 := rfl

theorem slideT_zero (l : List Int) (n : Int) : slideT l n 0 = 0 := rfl

theorem outT_set (l : List Int) (n : Int) (k : Nat) : IsSet (outT l n k) := foldS_set 0 _ (by decide)

theorem slideT_set (l : List Int) (n : Int) (k : Nat) : IsSet (slideT l n k) := foldS_set 0 _ (by decide)

theorem outT_succ (l : List Int) (n : Int) (k : Nat) (h : k < l.length) : outT l n (k + 1) = if l[k] = n then outT l n k else withS (outT l n k) l[k] := by
  unfold outT
  rw [List.take_succ_eq_append_getElem h, List.filter_append]
  unfold foldS
  rw [List.foldl_append]
  by_cases hk : l[k] = n
  · simp [hk]
  · simp [hk]

theorem slideT_succ (l : List Int) (n : Int) (k : Nat) (h : k < l.length) : slideT l n (k + 1) = withS (slideT l n k) (l[k] - n) := by
  unfold slideT
  rw [List.take_succ_eq_append_getElem h, List.map_append]
  unfold foldS
  rw [List.foldl_append]
  rfl

theorem outT_all (l : List Int) (n : Int) : outT l n l.length = ofS (l.filter fun x => x != n) := by
  unfold outT
  rw [List.take_of_length_le (Nat.le_refl _)]
  rfl

theorem slideT_all (l : List Int) (n : Int) : slideT l n l.length = ofS (l.map fun x => x - n) := by
  unfold slideT
  rw [List.take_of_length_le (Nat.le_refl _)]
  rfl


theorem take_step (a b : List Int) (h : a.length = b.length) (k : Nat) (hk : k < a.length) (he : a.take k = b.take k) : (a[k] = b[k]'(by omega)) ↔ a.take (k + 1) = b.take (k + 1) := by
  have e1 := List.take_succ_eq_append_getElem hk
  have e2 := List.take_succ_eq_append_getElem (show k < b.length by omega)
  rw [e1, e2, he]
  exact ⟨fun h => by rw [h], fun h => (List.cons.inj (List.append_cancel_left h)).1⟩

end Go.Proofs.YtkdjpleedaldcaaDoor
