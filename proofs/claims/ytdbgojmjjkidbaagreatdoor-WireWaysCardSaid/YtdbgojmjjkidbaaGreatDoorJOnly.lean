/-
  only, by its contract.
-/
import Derived.Test.YtdbgojmjjkidbaaGreatDoorJModel13
import Derived.Lib.OthersKept
import Derived.Laws.CopyOwn
import Derived.Laws.Tables
import Derived.Laws.Rows
namespace Go.Proofs.YtdbgojmjjkidbaaGreatDoor
open Go.RowKit


theorem set_list {w : World} {p i : Nat} {C : List Value} {t : TypeId} (h : w.heap[p]? = some (.cells C.toArray t (0, 0))) (v : Value) : (w.setCell ⟨p, i, none⟩ v).heap[p]? = some (.cells (C.set i v).toArray t (0, 0)) := by
  have := heap_setCell_same w p i _ _ v h
  simpa using this

end Go.Proofs.YtdbgojmjjkidbaaGreatDoor

/-
  only, by its contract.
-/
namespace Go.Proofs.YtdbgojmjjkidbaaGreatDoor
open Go.RowKit


theorem box_at {w : World} {b j : Nat} {L : List Value} {t : TypeId} {v : Value} (h : w.heap[b]? = some (.cells L.toArray t (0, 0))) (hj : L[j]? = some v) : w.cell? ⟨b, j, none⟩ = some v := by
  simp only [World.cell?]
  rw [h]
  simpa using hj

theorem box_free {w : World} {b : Nat} {L : List Value} {t : TypeId} (h : w.heap[b]? = some (.cells L.toArray t (0, 0))) (j : Nat) : w.frozen? ⟨b, j, none⟩ = false := by
  simp only [World.frozen?]
  rw [h]
  simp

theorem one17 (z : Ax) : (xcells z).toArray.all (·.oneCell') = true := by simp [xcells, Value.oneCell']

end Go.Proofs.YtdbgojmjjkidbaaGreatDoor
