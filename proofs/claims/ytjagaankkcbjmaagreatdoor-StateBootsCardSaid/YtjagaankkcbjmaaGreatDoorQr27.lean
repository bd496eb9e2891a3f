import Derived.Test.YtjagaankkcbjmaaGreatDoorQr26
import Derived.Test.YtjagaankkcbjmaaGreatDoorQr25
import Derived.Deep.CutRange
import Derived.Deep.CutBlock
import Derived.BigRegion
namespace Go.Proofs.YtjagaankkcbjmaaGreatDoor
open Go.RowKit
structure GIn (w U : World) (A B : Nat) (a z : Ax) : Prop where
 hA : U.heap[A]? = some (.cells (xcells a).toArray 42 (0,0))
 hB : U.heap[B]? = some (.cells (xcells z).toArray 42 (0,0))
 bel : Below w.heap.size w U
 ne : A ≠ B
 wB : w.heap.size <= B
def GPost (w wx : World) (A B : Nat) (a : Ax) (r : Bool) : Prop := ∃ z,GIn w wx A B a z /\ goodA a = (r && decide (a = z))
end Go.Proofs.YtjagaankkcbjmaaGreatDoor
