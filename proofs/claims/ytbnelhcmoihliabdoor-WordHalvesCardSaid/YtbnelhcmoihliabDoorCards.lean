/-
  DERIVED. GIVEN WITH THE SEED: THE CARDS: each row of YtbnelhcmoihliabDoorRows.lean that lists a variable, with what it lists TIED to the program's text (the seventh form; the later family's looks); each row that meets fmt, with fmt's text TOLD by the authors' own Lean function (tested against real Go, not proved from fmt's source: count such statements apart). THE CARD IS WHAT COUNTS. Prove the row's statement (the work); the ties are given (YtbnelhcmoihliabDoorTie.lean); close each card by the builder's one call (the guide's Derived/Test/ToyasCard.lean, 'card_holds'). Laid BY PROGRAM, IN A SANDBOX (cutbox-door.mjs). By AI agents, Wed Nov 11 2026. No macro, syntax, notation, axiom, sorry.
-/
import Derived.Test.YtbnelhcmoihliabDoorRows
import GoSem.ClaimSeven
namespace Go.Proofs.YtbnelhcmoihliabDoor
namespace Rows

/-- THE TIED CARD OF 'staithlaw01.WordHalves'. -/
def wordHalvesCard : Claim7 := { stood := { row := wordHalvesRow, standIns := [], harness := (true, "4dfa5b4a673e580dbf84fa1d6795001fe578644f68e01924994bf1b4618a67a0"), looks := false }, kinds := [], alts := [], laidByText := true, laidKinds := [.data], laidTests := true, laidLooks := .later }
def WordHalvesCardSaid : Prop := Claim7.holds Tryd.pinned (.plain (OpenSpec.ofChange wordHalvesSpec)) wordHalvesCard

/-- THE SECOND FORM's CARD OF 'staithlaw01.WordHalves'. -/
def wordHalvesUptoCard : Claim7 := { stood := { row := wordHalvesUptoRow, standIns := [], harness := (true, "4dfa5b4a673e580dbf84fa1d6795001fe578644f68e01924994bf1b4618a67a0"), looks := false }, kinds := [], alts := [], laidByText := true, laidKinds := [.data], laidTests := true, laidLooks := .later }
def WordHalvesUptoCardSaid : Prop := Claim7.holds Tryd.pinned (.plain (OpenSpec.upto wordHalvesSpec)) wordHalvesUptoCard
end Rows
end Go.Proofs.YtbnelhcmoihliabDoor
