/-
  only, by its contract.
-/
import Derived.Test.YtopacoghnofliaaDoorFits13
import Derived.Lib.OthersKept
namespace Go.Proofs.YtopacoghnofliaaDoor
open Go.RowKit


theorem set_list {w : World} {p i : Nat} {C : List Value} {t : TypeId} (h : w.heap[p]? = some (.cells C.toArray t (0, 0))) (v : Value) : (w.setCell ⟨p, i, none⟩ v).heap[p]? = some (.cells (C.set i v).toArray t (0, 0)) := by
  have := heap_setCell_same w p i _ _ v h
  simpa using this

end Go.Proofs.YtopacoghnofliaaDoor
