/-
  shed, Drop, Find, by their contracts.
-/
import Derived.Test.YtlfehneojkfmjaaGreatDoorShed
namespace Go.Proofs.YtlfehneojkfmjaaGreatDoor
open Go.RowKit Go.Sort Go.Maps Go.Shelf

end Go.Proofs.YtlfehneojkfmjaaGreatDoor
