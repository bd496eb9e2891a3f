/-
  shed, Drop, Find, by their contracts.
-/
import Derived.Test.YtlfehneojkfmjaaDoorShed
namespace Go.Proofs.YtlfehneojkfmjaaDoor
open Go.RowKit Go.Sort Go.Maps Go.Shelf

end Go.Proofs.YtlfehneojkfmjaaDoor
