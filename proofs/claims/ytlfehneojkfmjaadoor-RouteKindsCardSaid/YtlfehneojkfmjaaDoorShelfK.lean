/-
  THE SHELF's CONTRACTS of strings.Compare and of slices.SortFunc at exchanges and bindings, at this dump.
-/
import Derived.Shelf.SlSortCmp.WholeK
import Derived.Shelf.SlSortCmp.NoneTotal
import Derived.Shelf.Small.Strs
import Derived.Shelf.LaySoft
import Derived.Shelf.Lay
import Derived.Test.YtlfehneojkfmjaaDoorProg
namespace Go.Proofs
open Go.Shelf

shelf_try shelf_lay Lays.n106 Nm 106 at Tryd as Tryd.lays106

shelf_try shelf_lay_g SlLaysF0.n6 Slsf 6 at Tryd 52 as Tryd.sortB

shelf_tried
end Go.Proofs
