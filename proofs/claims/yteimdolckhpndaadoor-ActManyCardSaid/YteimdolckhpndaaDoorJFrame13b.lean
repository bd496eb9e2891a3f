/-
  A ROW OF ACTS that came in.
-/
import Derived.Test.YteimdolckhpndaaDoorFrame13
import Derived.Test.YteimdolckhpndaaDoorJLists13
import Derived.Test.YteimdolckhpndaaDoorStructs
namespace Go.Proofs.YteimdolckhpndaaDoor
open Go.ChangeShapes Go.WideShapes Go.ChangeAt Go.RowKit

set_option maxRecDepth 20000 in
theorem open_xacts {H : Type} {enc : TypeId × Value → H} {W : World} {base : Nat} {v : Value} {d : DataW H} {p : List MemPlace} (hval : Value.okWide Tryd.prog W .any base 49 v)
    (h : DataW.Trod enc Tryd.prog W 0 (fun _ => true) true 49 v d p) (hw : ∀ n ∈ d.weights Tryd.prog 49, n ≤ reachBytes) : ∃ l, K.RowOf xcells W v l ∧ (∀ a ∈ l, a.Fits ∧ a.Small) := by
  exact K.open_structs (enc := xcells) (K := 17) Tryd.underlying49 cells_xact (fun a => a.Fits ∧ a.Small) (fun n cs x hx hw => xact_fits hx hw) hval h hw
end Go.Proofs.YteimdolckhpndaaDoor
