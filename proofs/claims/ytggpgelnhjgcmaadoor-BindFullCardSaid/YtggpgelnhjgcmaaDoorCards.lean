/-
  DERIVED. GIVEN WITH THE SEED: THE CARDS: each row of YtggpgelnhjgcmaaDoorRows.lean that lists a variable, with what it lists TIED to the program's text (the seventh form; the later family's looks); each row that meets fmt, with fmt's text TOLD by the authors' own Lean function (tested against real Go, not proved from fmt's source: count such statements apart). THE CARD IS WHAT COUNTS. Prove the row's statement (the work); the ties are given (YtggpgelnhjgcmaaDoorTie.lean); close each card by the builder's one call (the guide's Derived/Test/ToyasCard.lean, 'card_holds'). Laid BY PROGRAM, IN A SANDBOX (cutbox-door.mjs). By AI agents, Wed Nov 11 2026. No macro, syntax, notation, axiom, sorry.
-/
import Derived.Test.YtggpgelnhjgcmaaDoorRows
import GoSem.ClaimSeven
namespace Go.Proofs.YtggpgelnhjgcmaaDoor
namespace Rows

/-- THE TIED CARD OF 'staithlaw07.BindFull'. -/
def bindFullCard : Claim7 := { stood := { row := bindFullRow, standIns := [], harness := (true, "0f865427d8185644e4914acecddc89641e3bdff53890477e22e2834cde9e6e04"), looks := false }, kinds := [], alts := [], laidByText := true, laidKinds := [.data, .pinned], laidTests := true, laidLooks := .later }
def BindFullCardSaid : Prop := Claim7.holds Tryd.pinned (.plain (OpenSpec.ofChange bindFullSpec)) bindFullCard

/-- THE SECOND FORM's CARD OF 'staithlaw07.BindFull'. -/
def bindFullUptoCard : Claim7 := { stood := { row := bindFullUptoRow, standIns := [], harness := (true, "0f865427d8185644e4914acecddc89641e3bdff53890477e22e2834cde9e6e04"), looks := false }, kinds := [], alts := [], laidByText := true, laidKinds := [.data, .pinned], laidTests := true, laidLooks := .later }
def BindFullUptoCardSaid : Prop := Claim7.holds Tryd.pinned (.plain (OpenSpec.upto bindFullSpec)) bindFullUptoCard
end Rows
end Go.Proofs.YtggpgelnhjgcmaaDoor
