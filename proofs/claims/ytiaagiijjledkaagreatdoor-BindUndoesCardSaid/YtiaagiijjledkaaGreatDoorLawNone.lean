/-
  THE STATEMENT BindNone, walked.
-/
import Derived.Test.YtiaagiijjledkaaGreatDoorNone
namespace Go.Proofs.YtiaagiijjledkaaGreatDoor
open Go.RowKit Go.Sort Go.Maps Go.Shelf

/-- Something that is done to a table. -/
structure Ac where
  kind : Int
  x : Ex
  b : Bd
def acells (a : Ac) : List Value := [.int .i64 a.kind, .string a.x.name, .int .i64 a.x.kind, .bool a.x.fed, .string a.b.ex, .string a.b.que, .string a.b.pat]
abbrev acv (a : Ac) : Value := .agg #[.int .i64 a.kind, .string a.x.name, .int .i64 a.x.kind, .bool a.x.fed, .string a.b.ex, .string a.b.que, .string a.b.pat]
instance : Enc acells 7 := ⟨fun _ => rfl, fun m u hu => by simp [acells] at hu; rcases hu with rfl | rfl | rfl | rfl | rfl | rfl | rfl <;> rfl, by decide⟩

end Go.Proofs.YtiaagiijjledkaaGreatDoor
