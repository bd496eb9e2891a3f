/-
  only, by its contract.
-/
import Derived.Test.YtopacoghnofliaaDoorOnly
import Derived.Laws.CopyOwn
import Derived.Laws.Tables
import Derived.Laws.Rows
namespace Go.Proofs.YtopacoghnofliaaDoor
open Go.RowKit


theorem box_at {w : World} {b j : Nat} {L : List Value} {t : TypeId} {v : Value} (h : w.heap[b]? = some (.cells L.toArray t (0, 0))) (hj : L[j]? = some v) : w.cell? ⟨b, j, none⟩ = some v := by
  simp only [World.cell?]
  rw [h]
  simpa using hj

theorem box_free {w : World} {b : Nat} {L : List Value} {t : TypeId} (h : w.heap[b]? = some (.cells L.toArray t (0, 0))) (j : Nat) : w.frozen? ⟨b, j, none⟩ = false := by
  simp only [World.frozen?]
  rw [h]
  simp

theorem one17 (z : Ax) : (xcells z).toArray.all (·.oneCell') = true := by simp [xcells, Value.oneCell']

end Go.Proofs.YtopacoghnofliaaDoor
