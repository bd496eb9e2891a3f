/-
  DERIVED. GIVEN WITH THE SEED: THE CARDS: each row of YtiaagiijjledkaaGreatDoorRows.lean that lists a variable, with what it lists TIED to the program's text (the seventh form; the later family's looks); each row that meets fmt, with fmt's text TOLD by the authors' own Lean function (tested against real Go, not proved from fmt's source: count such statements apart). THE CARD IS WHAT COUNTS. Prove the row's statement (the work); the ties are given (YtiaagiijjledkaaGreatDoorTie.lean); close each card by the builder's one call (the guide's Derived/Test/ToyasCard.lean, 'card_holds'). Laid BY PROGRAM, IN A SANDBOX (cutbox-door.mjs). By AI agents, Wed Nov 11 2026. No macro, syntax, notation, axiom, sorry.
-/
import Derived.Test.YtiaagiijjledkaaGreatDoorRows
import GoSem.ClaimSeven
namespace Go.Proofs.YtiaagiijjledkaaGreatDoor
namespace Rows

/-- THE TIED CARD OF 'staithlaw07.BindActs'. -/
def bindActsCard : Claim7 := { stood := { row := bindActsRow, standIns := [], harness := (true, "839ded98547e353ebdcf9ec2c31df6c75d69d752258cc5f5b3fd99fd61e12013"), looks := true }, kinds := [], alts := [], laidByText := true, laidKinds := [.data, .pinned], laidTests := true, laidLooks := .later }
def BindActsCardSaid : Prop := Claim7.holds Tryz.pinned (.plain (OpenSpec.ofChange bindActsSpec)) bindActsCard

/-- THE TIED CARD OF 'staithlaw07.BindHolds'. -/
def bindHoldsCard : Claim7 := { stood := { row := bindHoldsRow, standIns := [], harness := (true, "839ded98547e353ebdcf9ec2c31df6c75d69d752258cc5f5b3fd99fd61e12013"), looks := true }, kinds := [], alts := [], laidByText := true, laidKinds := [.data, .pinned], laidTests := true, laidLooks := .later }
def BindHoldsCardSaid : Prop := Claim7.holds Tryz.pinned (.plain (OpenSpec.ofChange bindHoldsSpec)) bindHoldsCard

/-- THE TIED CARD OF 'staithlaw07.BindUndoes'. -/
def bindUndoesCard : Claim7 := { stood := { row := bindUndoesRow, standIns := [], harness := (true, "839ded98547e353ebdcf9ec2c31df6c75d69d752258cc5f5b3fd99fd61e12013"), looks := true }, kinds := [], alts := [], laidByText := true, laidKinds := [.data, .pinned], laidTests := true, laidLooks := .later }
def BindUndoesCardSaid : Prop := Claim7.holds Tryz.pinned (.plain (OpenSpec.ofChange bindUndoesSpec)) bindUndoesCard

/-- THE SECOND FORM's CARD OF 'staithlaw07.BindActs'. -/
def bindActsUptoCard : Claim7 := { stood := { row := bindActsUptoRow, standIns := [], harness := (true, "839ded98547e353ebdcf9ec2c31df6c75d69d752258cc5f5b3fd99fd61e12013"), looks := true }, kinds := [], alts := [], laidByText := true, laidKinds := [.data, .pinned], laidTests := true, laidLooks := .later }
def BindActsUptoCardSaid : Prop := Claim7.holds Tryz.pinned (.plain (OpenSpec.upto bindActsSpec)) bindActsUptoCard

/-- THE SECOND FORM's CARD OF 'staithlaw07.BindHolds'. -/
def bindHoldsUptoCard : Claim7 := { stood := { row := bindHoldsUptoRow, standIns := [], harness := (true, "839ded98547e353ebdcf9ec2c31df6c75d69d752258cc5f5b3fd99fd61e12013"), looks := true }, kinds := [], alts := [], laidByText := true, laidKinds := [.data, .pinned], laidTests := true, laidLooks := .later }
def BindHoldsUptoCardSaid : Prop := Claim7.holds Tryz.pinned (.plain (OpenSpec.upto bindHoldsSpec)) bindHoldsUptoCard

/-- THE SECOND FORM's CARD OF 'staithlaw07.BindUndoes'. -/
def bindUndoesUptoCard : Claim7 := { stood := { row := bindUndoesUptoRow, standIns := [], harness := (true, "839ded98547e353ebdcf9ec2c31df6c75d69d752258cc5f5b3fd99fd61e12013"), looks := true }, kinds := [], alts := [], laidByText := true, laidKinds := [.data, .pinned], laidTests := true, laidLooks := .later }
def BindUndoesUptoCardSaid : Prop := Claim7.holds Tryz.pinned (.plain (OpenSpec.upto bindUndoesSpec)) bindUndoesUptoCard
end Rows
end Go.Proofs.YtiaagiijjledkaaGreatDoor
