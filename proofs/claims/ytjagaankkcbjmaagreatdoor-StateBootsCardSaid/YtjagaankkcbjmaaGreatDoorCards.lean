/-
  DERIVED. GIVEN WITH THE SEED: THE CARDS: each row of YtjagaankkcbjmaaGreatDoorRows.lean that lists a variable, with what it lists TIED to the program's text (the seventh form; the later family's looks); each row that meets fmt, with fmt's text TOLD by the authors' own Lean function (tested against real Go, not proved from fmt's source: count such statements apart). THE CARD IS WHAT COUNTS. Prove the row's statement (the work); the ties are given (YtjagaankkcbjmaaGreatDoorTie.lean); close each card by the builder's one call (the guide's Derived/Test/ToyasCard.lean, 'card_holds'). Laid BY PROGRAM, IN A SANDBOX (cutbox-door.mjs). By AI agents, Wed Nov 11 2026. No macro, syntax, notation, axiom, sorry.
-/
import Derived.Test.YtjagaankkcbjmaaGreatDoorRows
import GoSem.ClaimSeven
namespace Go.Proofs.YtjagaankkcbjmaaGreatDoor
namespace Rows

/-- THE TIED CARD OF 'staithlaw14.StateActs'. -/
def stateActsCard : Claim7 := { stood := { row := stateActsRow, standIns := [], harness := (true, "50da8da1c4601abe6666fbd59f53cc9f10695de772e5e00fcda373f7726090a8"), looks := true }, kinds := [], alts := [], laidByText := true, laidKinds := [.data, .data, .pinned], laidTests := true, laidLooks := .later }
def StateActsCardSaid : Prop := Claim7.holds Tryz.pinned (.plain (OpenSpec.ofChange stateActsSpec)) stateActsCard

/-- THE TIED CARD OF 'staithlaw14.StateFroms'. -/
def stateFromsCard : Claim7 := { stood := { row := stateFromsRow, standIns := [], harness := (true, "50da8da1c4601abe6666fbd59f53cc9f10695de772e5e00fcda373f7726090a8"), looks := true }, kinds := [], alts := [], laidByText := true, laidKinds := [.data, .data, .pinned], laidTests := true, laidLooks := .later }
def StateFromsCardSaid : Prop := Claim7.holds Tryz.pinned (.plain (OpenSpec.ofChange stateFromsSpec)) stateFromsCard

/-- THE TIED CARD OF 'staithlaw14.StateOnce'. -/
def stateOnceCard : Claim7 := { stood := { row := stateOnceRow, standIns := [], harness := (true, "50da8da1c4601abe6666fbd59f53cc9f10695de772e5e00fcda373f7726090a8"), looks := true }, kinds := [], alts := [], laidByText := true, laidKinds := [.data, .data, .pinned], laidTests := true, laidLooks := .later }
def StateOnceCardSaid : Prop := Claim7.holds Tryz.pinned (.plain (OpenSpec.ofChange stateOnceSpec)) stateOnceCard

/-- THE TIED CARD OF 'staithlaw14.StateNone'. -/
def stateNoneCard : Claim7 := { stood := { row := stateNoneRow, standIns := [], harness := (true, "50da8da1c4601abe6666fbd59f53cc9f10695de772e5e00fcda373f7726090a8"), looks := true }, kinds := [], alts := [], laidByText := true, laidKinds := [.data, .data, .pinned], laidTests := true, laidLooks := .later }
def StateNoneCardSaid : Prop := Claim7.holds Tryz.pinned (.plain (OpenSpec.ofChange stateNoneSpec)) stateNoneCard

/-- THE TIED CARD OF 'staithlaw14.StateBoots'. -/
def stateBootsCard : Claim7 := { stood := { row := stateBootsRow, standIns := [], harness := (true, "50da8da1c4601abe6666fbd59f53cc9f10695de772e5e00fcda373f7726090a8"), looks := true }, kinds := [], alts := [], laidByText := true, laidKinds := [.data, .data, .pinned], laidTests := true, laidLooks := .later }
def StateBootsCardSaid : Prop := Claim7.holds Tryz.pinned (.plain (OpenSpec.ofChange stateBootsSpec)) stateBootsCard

/-- THE TIED CARD OF 'staithlaw14.StateRoutes'. -/
def stateRoutesCard : Claim7 := { stood := { row := stateRoutesRow, standIns := [], harness := (true, "50da8da1c4601abe6666fbd59f53cc9f10695de772e5e00fcda373f7726090a8"), looks := true }, kinds := [], alts := [], laidByText := true, laidKinds := [.data, .data, .pinned], laidTests := true, laidLooks := .later }
def StateRoutesCardSaid : Prop := Claim7.holds Tryz.pinned (.plain (OpenSpec.ofChange stateRoutesSpec)) stateRoutesCard

/-- THE SECOND FORM's CARD OF 'staithlaw14.StateActs'. -/
def stateActsUptoCard : Claim7 := { stood := { row := stateActsUptoRow, standIns := [], harness := (true, "50da8da1c4601abe6666fbd59f53cc9f10695de772e5e00fcda373f7726090a8"), looks := true }, kinds := [], alts := [], laidByText := true, laidKinds := [.data, .data, .pinned], laidTests := true, laidLooks := .later }
def StateActsUptoCardSaid : Prop := Claim7.holds Tryz.pinned (.plain (OpenSpec.upto stateActsSpec)) stateActsUptoCard

/-- THE SECOND FORM's CARD OF 'staithlaw14.StateFroms'. -/
def stateFromsUptoCard : Claim7 := { stood := { row := stateFromsUptoRow, standIns := [], harness := (true, "50da8da1c4601abe6666fbd59f53cc9f10695de772e5e00fcda373f7726090a8"), looks := true }, kinds := [], alts := [], laidByText := true, laidKinds := [.data, .data, .pinned], laidTests := true, laidLooks := .later }
def StateFromsUptoCardSaid : Prop := Claim7.holds Tryz.pinned (.plain (OpenSpec.upto stateFromsSpec)) stateFromsUptoCard

/-- THE SECOND FORM's CARD OF 'staithlaw14.StateOnce'. -/
def stateOnceUptoCard : Claim7 := { stood := { row := stateOnceUptoRow, standIns := [], harness := (true, "50da8da1c4601abe6666fbd59f53cc9f10695de772e5e00fcda373f7726090a8"), looks := true }, kinds := [], alts := [], laidByText := true, laidKinds := [.data, .data, .pinned], laidTests := true, laidLooks := .later }
def StateOnceUptoCardSaid : Prop := Claim7.holds Tryz.pinned (.plain (OpenSpec.upto stateOnceSpec)) stateOnceUptoCard

/-- THE SECOND FORM's CARD OF 'staithlaw14.StateNone'. -/
def stateNoneUptoCard : Claim7 := { stood := { row := stateNoneUptoRow, standIns := [], harness := (true, "50da8da1c4601abe6666fbd59f53cc9f10695de772e5e00fcda373f7726090a8"), looks := true }, kinds := [], alts := [], laidByText := true, laidKinds := [.data, .data, .pinned], laidTests := true, laidLooks := .later }
def StateNoneUptoCardSaid : Prop := Claim7.holds Tryz.pinned (.plain (OpenSpec.upto stateNoneSpec)) stateNoneUptoCard

/-- THE SECOND FORM's CARD OF 'staithlaw14.StateBoots'. -/
def stateBootsUptoCard : Claim7 := { stood := { row := stateBootsUptoRow, standIns := [], harness := (true, "50da8da1c4601abe6666fbd59f53cc9f10695de772e5e00fcda373f7726090a8"), looks := true }, kinds := [], alts := [], laidByText := true, laidKinds := [.data, .data, .pinned], laidTests := true, laidLooks := .later }
def StateBootsUptoCardSaid : Prop := Claim7.holds Tryz.pinned (.plain (OpenSpec.upto stateBootsSpec)) stateBootsUptoCard

/-- THE SECOND FORM's CARD OF 'staithlaw14.StateRoutes'. -/
def stateRoutesUptoCard : Claim7 := { stood := { row := stateRoutesUptoRow, standIns := [], harness := (true, "50da8da1c4601abe6666fbd59f53cc9f10695de772e5e00fcda373f7726090a8"), looks := true }, kinds := [], alts := [], laidByText := true, laidKinds := [.data, .data, .pinned], laidTests := true, laidLooks := .later }
def StateRoutesUptoCardSaid : Prop := Claim7.holds Tryz.pinned (.plain (OpenSpec.upto stateRoutesSpec)) stateRoutesUptoCard
end Rows
end Go.Proofs.YtjagaankkcbjmaaGreatDoor
