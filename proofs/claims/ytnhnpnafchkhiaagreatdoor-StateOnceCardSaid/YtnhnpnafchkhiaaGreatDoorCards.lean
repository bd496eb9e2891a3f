/-
  DERIVED. GIVEN WITH THE SEED: THE CARDS: each row of YtnhnpnafchkhiaaGreatDoorRows.lean that lists a variable, with what it lists TIED to the program's text (the seventh form; the later family's looks); each row that meets fmt, with fmt's text TOLD by the authors' own Lean function (tested against real Go, not proved from fmt's source: count such statements apart). THE CARD IS WHAT COUNTS. Prove the row's statement (the work); the ties are given (YtnhnpnafchkhiaaGreatDoorTie.lean); close each card by the builder's one call (the guide's Derived/Test/ToyasCard.lean, 'card_holds'). Laid BY PROGRAM, IN A SANDBOX (cutbox-door.mjs). By AI agents, Wed Nov 11 2026. No macro, syntax, notation, axiom, sorry.
-/
import Derived.Test.YtnhnpnafchkhiaaGreatDoorRows
import GoSem.ClaimSeven
namespace Go.Proofs.YtnhnpnafchkhiaaGreatDoor
namespace Rows

/-- THE TIED CARD OF 'staithlaw14.StateOnce'. -/
def stateOnceCard : Claim7 := { stood := { row := stateOnceRow, standIns := [], harness := (true, "36075383d620a9163379d1a0937d82d3466bcf056bc70ce0e2291b583a43ce62"), looks := true }, kinds := [], alts := [], laidByText := true, laidKinds := [.data, .data, .pinned], laidTests := true, laidLooks := .later }
def StateOnceCardSaid : Prop := Claim7.holds Tryz.pinned (.plain (OpenSpec.ofChange stateOnceSpec)) stateOnceCard

/-- THE TIED CARD OF 'staithlaw14.StateRoutes'. -/
def stateRoutesCard : Claim7 := { stood := { row := stateRoutesRow, standIns := [], harness := (true, "36075383d620a9163379d1a0937d82d3466bcf056bc70ce0e2291b583a43ce62"), looks := true }, kinds := [], alts := [], laidByText := true, laidKinds := [.data, .data, .pinned], laidTests := true, laidLooks := .later }
def StateRoutesCardSaid : Prop := Claim7.holds Tryz.pinned (.plain (OpenSpec.ofChange stateRoutesSpec)) stateRoutesCard

/-- THE SECOND FORM's CARD OF 'staithlaw14.StateOnce'. -/
def stateOnceUptoCard : Claim7 := { stood := { row := stateOnceUptoRow, standIns := [], harness := (true, "36075383d620a9163379d1a0937d82d3466bcf056bc70ce0e2291b583a43ce62"), looks := true }, kinds := [], alts := [], laidByText := true, laidKinds := [.data, .data, .pinned], laidTests := true, laidLooks := .later }
def StateOnceUptoCardSaid : Prop := Claim7.holds Tryz.pinned (.plain (OpenSpec.upto stateOnceSpec)) stateOnceUptoCard

/-- THE SECOND FORM's CARD OF 'staithlaw14.StateRoutes'. -/
def stateRoutesUptoCard : Claim7 := { stood := { row := stateRoutesUptoRow, standIns := [], harness := (true, "36075383d620a9163379d1a0937d82d3466bcf056bc70ce0e2291b583a43ce62"), looks := true }, kinds := [], alts := [], laidByText := true, laidKinds := [.data, .data, .pinned], laidTests := true, laidLooks := .later }
def StateRoutesUptoCardSaid : Prop := Claim7.holds Tryz.pinned (.plain (OpenSpec.upto stateRoutesSpec)) stateRoutesUptoCard
end Rows
end Go.Proofs.YtnhnpnafchkhiaaGreatDoor
