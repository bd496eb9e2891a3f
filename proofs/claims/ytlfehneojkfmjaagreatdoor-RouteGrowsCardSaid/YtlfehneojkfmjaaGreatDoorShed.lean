/-
  maps.DeleteFunc at bindings, shed, Drop, Forget, by their contracts.
-/
import Derived.Test.YtlfehneojkfmjaaGreatDoorBind
import Derived.Maps.RangeWalk
import Derived.Laws.IdiomRangeMap
namespace Go.Proofs.YtlfehneojkfmjaaGreatDoor
open Go.RowKit Go.Sort Go.Maps Go.Shelf

theorem atKey_absent {H : Type} {es : List (Lit × DataW H)} {z : Lit} (h : ∀ p ∈ es, p.1 ≠ z) (zd : DataW H) : (DataW.map es).atKey z zd = zd := by
  unfold DataW.atKey
  have : es.find? (fun p => p.1.sameKey z) = none := by
    rw [List.find?_eq_none]
    intro p hp
    rw [sameKey_false (h p hp)]; simp
  simp only [this]

end Go.Proofs.YtlfehneojkfmjaaGreatDoor
