/-
  DERIVED. GIVEN WITH THE SEED: THE CARDS: each row of YtdbgojmjjkidbaaGreatDoorRows.lean that lists a variable, with what it lists TIED to the program's text (the seventh form; the later family's looks); each row that meets fmt, with fmt's text TOLD by the authors' own Lean function (tested against real Go, not proved from fmt's source: count such statements apart). THE CARD IS WHAT COUNTS. Prove the row's statement (the work); the ties are given (YtdbgojmjjkidbaaGreatDoorTie.lean); close each card by the builder's one call (the guide's Derived/Test/ToyasCard.lean, 'card_holds'). Laid BY PROGRAM, IN A SANDBOX (cutbox-door.mjs). By AI agents, Wed Nov 11 2026. No macro, syntax, notation, axiom, sorry.
-/
import Derived.Test.YtdbgojmjjkidbaaGreatDoorRows
import GoSem.ClaimSeven
namespace Go.Proofs.YtdbgojmjjkidbaaGreatDoor
namespace Rows

/-- THE TIED CARD OF 'staithlaw22.WireActs'. -/
def wireActsCard : Claim7 := { stood := { row := wireActsRow, standIns := [], harness := (true, "c27b787b77a5dcfb2cf6a59d2c2c289a3b82c26d9bb8aac21d2d4bd408c8ea3e"), looks := false }, kinds := [], alts := [], laidByText := true, laidKinds := [.data, .data, .data, .pinned], laidTests := true, laidLooks := .later }
def WireActsCardSaid : Prop := Claim7.holds Tryz.pinned (.plain (OpenSpec.ofChange wireActsSpec)) wireActsCard

/-- THE TIED CARD OF 'staithlaw22.WireTells'. -/
def wireTellsCard : Claim7 := { stood := { row := wireTellsRow, standIns := [], harness := (true, "c27b787b77a5dcfb2cf6a59d2c2c289a3b82c26d9bb8aac21d2d4bd408c8ea3e"), looks := false }, kinds := [], alts := [], laidByText := true, laidKinds := [.data, .data, .data, .pinned], laidTests := true, laidLooks := .later }
def WireTellsCardSaid : Prop := Claim7.holds Tryz.pinned (.plain (OpenSpec.ofChange wireTellsSpec)) wireTellsCard

/-- THE TIED CARD OF 'staithlaw22.WireWays'. -/
def wireWaysCard : Claim7 := { stood := { row := wireWaysRow, standIns := [], harness := (true, "c27b787b77a5dcfb2cf6a59d2c2c289a3b82c26d9bb8aac21d2d4bd408c8ea3e"), looks := false }, kinds := [], alts := [], laidByText := true, laidKinds := [.data, .data, .data, .pinned], laidTests := true, laidLooks := .later }
def WireWaysCardSaid : Prop := Claim7.holds Tryz.pinned (.plain (OpenSpec.ofChange wireWaysSpec)) wireWaysCard

/-- THE TIED CARD OF 'staithlaw22.WireNone'. -/
def wireNoneCard : Claim7 := { stood := { row := wireNoneRow, standIns := [], harness := (true, "c27b787b77a5dcfb2cf6a59d2c2c289a3b82c26d9bb8aac21d2d4bd408c8ea3e"), looks := false }, kinds := [], alts := [], laidByText := true, laidKinds := [.data, .data, .data, .pinned], laidTests := true, laidLooks := .later }
def WireNoneCardSaid : Prop := Claim7.holds Tryz.pinned (.plain (OpenSpec.ofChange wireNoneSpec)) wireNoneCard

/-- THE TIED CARD OF 'staithlaw22.WireRows'. -/
def wireRowsCard : Claim7 := { stood := { row := wireRowsRow, standIns := [], harness := (true, "c27b787b77a5dcfb2cf6a59d2c2c289a3b82c26d9bb8aac21d2d4bd408c8ea3e"), looks := false }, kinds := [], alts := [], laidByText := true, laidKinds := [.data, .data, .data, .pinned], laidTests := true, laidLooks := .later }
def WireRowsCardSaid : Prop := Claim7.holds Tryz.pinned (.plain (OpenSpec.ofChange wireRowsSpec)) wireRowsCard

/-- THE SECOND FORM's CARD OF 'staithlaw22.WireActs'. -/
def wireActsUptoCard : Claim7 := { stood := { row := wireActsUptoRow, standIns := [], harness := (true, "c27b787b77a5dcfb2cf6a59d2c2c289a3b82c26d9bb8aac21d2d4bd408c8ea3e"), looks := false }, kinds := [], alts := [], laidByText := true, laidKinds := [.data, .data, .data, .pinned], laidTests := true, laidLooks := .later }
def WireActsUptoCardSaid : Prop := Claim7.holds Tryz.pinned (.plain (OpenSpec.upto wireActsSpec)) wireActsUptoCard

/-- THE SECOND FORM's CARD OF 'staithlaw22.WireTells'. -/
def wireTellsUptoCard : Claim7 := { stood := { row := wireTellsUptoRow, standIns := [], harness := (true, "c27b787b77a5dcfb2cf6a59d2c2c289a3b82c26d9bb8aac21d2d4bd408c8ea3e"), looks := false }, kinds := [], alts := [], laidByText := true, laidKinds := [.data, .data, .data, .pinned], laidTests := true, laidLooks := .later }
def WireTellsUptoCardSaid : Prop := Claim7.holds Tryz.pinned (.plain (OpenSpec.upto wireTellsSpec)) wireTellsUptoCard

/-- THE SECOND FORM's CARD OF 'staithlaw22.WireWays'. -/
def wireWaysUptoCard : Claim7 := { stood := { row := wireWaysUptoRow, standIns := [], harness := (true, "c27b787b77a5dcfb2cf6a59d2c2c289a3b82c26d9bb8aac21d2d4bd408c8ea3e"), looks := false }, kinds := [], alts := [], laidByText := true, laidKinds := [.data, .data, .data, .pinned], laidTests := true, laidLooks := .later }
def WireWaysUptoCardSaid : Prop := Claim7.holds Tryz.pinned (.plain (OpenSpec.upto wireWaysSpec)) wireWaysUptoCard

/-- THE SECOND FORM's CARD OF 'staithlaw22.WireNone'. -/
def wireNoneUptoCard : Claim7 := { stood := { row := wireNoneUptoRow, standIns := [], harness := (true, "c27b787b77a5dcfb2cf6a59d2c2c289a3b82c26d9bb8aac21d2d4bd408c8ea3e"), looks := false }, kinds := [], alts := [], laidByText := true, laidKinds := [.data, .data, .data, .pinned], laidTests := true, laidLooks := .later }
def WireNoneUptoCardSaid : Prop := Claim7.holds Tryz.pinned (.plain (OpenSpec.upto wireNoneSpec)) wireNoneUptoCard

/-- THE SECOND FORM's CARD OF 'staithlaw22.WireRows'. -/
def wireRowsUptoCard : Claim7 := { stood := { row := wireRowsUptoRow, standIns := [], harness := (true, "c27b787b77a5dcfb2cf6a59d2c2c289a3b82c26d9bb8aac21d2d4bd408c8ea3e"), looks := false }, kinds := [], alts := [], laidByText := true, laidKinds := [.data, .data, .data, .pinned], laidTests := true, laidLooks := .later }
def WireRowsUptoCardSaid : Prop := Claim7.holds Tryz.pinned (.plain (OpenSpec.upto wireRowsSpec)) wireRowsUptoCard
end Rows
end Go.Proofs.YtdbgojmjjkidbaaGreatDoor
