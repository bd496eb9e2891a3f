/-
  DERIVED. GIVEN WITH THE SEED: THE CARDS: each row of YtlfehneojkfmjaaGreatDoorRows.lean that lists a variable, with what it lists TIED to the program's text (the seventh form; the later family's looks); each row that meets fmt, with fmt's text TOLD by the authors' own Lean function (tested against real Go, not proved from fmt's source: count such statements apart). THE CARD IS WHAT COUNTS. Prove the row's statement (the work); the ties are given (YtlfehneojkfmjaaGreatDoorTie.lean); close each card by the builder's one call (the guide's Derived/Test/ToyasCard.lean, 'card_holds'). Laid BY PROGRAM, IN A SANDBOX (cutbox-door.mjs). By AI agents, Wed Nov 11 2026. No macro, syntax, notation, axiom, sorry.
-/
import Derived.Test.YtlfehneojkfmjaaGreatDoorRows
import GoSem.ClaimSeven
namespace Go.Proofs.YtlfehneojkfmjaaGreatDoor
namespace Rows

/-- THE TIED CARD OF 'staithlaw08.RouteQueues'. -/
def routeQueuesCard : Claim7 := { stood := { row := routeQueuesRow, standIns := [], harness := (true, "04dcde641f9ad261efb56378c26086675dcb332ebd9acac43733f301c302adc8"), looks := true }, kinds := [], alts := [], laidByText := true, laidKinds := [.data, .pinned], laidTests := true, laidLooks := .later }
def RouteQueuesCardSaid : Prop := Claim7.holds Tryz.pinned (.plain (OpenSpec.ofChange routeQueuesSpec)) routeQueuesCard

/-- THE TIED CARD OF 'staithlaw08.RouteSames'. -/
def routeSamesCard : Claim7 := { stood := { row := routeSamesRow, standIns := [], harness := (true, "04dcde641f9ad261efb56378c26086675dcb332ebd9acac43733f301c302adc8"), looks := true }, kinds := [], alts := [], laidByText := true, laidKinds := [.data, .pinned], laidTests := true, laidLooks := .later }
def RouteSamesCardSaid : Prop := Claim7.holds Tryz.pinned (.plain (OpenSpec.ofChange routeSamesSpec)) routeSamesCard

/-- THE TIED CARD OF 'staithlaw08.RouteGrows'. -/
def routeGrowsCard : Claim7 := { stood := { row := routeGrowsRow, standIns := [], harness := (true, "04dcde641f9ad261efb56378c26086675dcb332ebd9acac43733f301c302adc8"), looks := true }, kinds := [], alts := [], laidByText := true, laidKinds := [.data, .pinned], laidTests := true, laidLooks := .later }
def RouteGrowsCardSaid : Prop := Claim7.holds Tryz.pinned (.plain (OpenSpec.ofChange routeGrowsSpec)) routeGrowsCard

/-- THE SECOND FORM's CARD OF 'staithlaw08.RouteQueues'. -/
def routeQueuesUptoCard : Claim7 := { stood := { row := routeQueuesUptoRow, standIns := [], harness := (true, "04dcde641f9ad261efb56378c26086675dcb332ebd9acac43733f301c302adc8"), looks := true }, kinds := [], alts := [], laidByText := true, laidKinds := [.data, .pinned], laidTests := true, laidLooks := .later }
def RouteQueuesUptoCardSaid : Prop := Claim7.holds Tryz.pinned (.plain (OpenSpec.upto routeQueuesSpec)) routeQueuesUptoCard

/-- THE SECOND FORM's CARD OF 'staithlaw08.RouteSames'. -/
def routeSamesUptoCard : Claim7 := { stood := { row := routeSamesUptoRow, standIns := [], harness := (true, "04dcde641f9ad261efb56378c26086675dcb332ebd9acac43733f301c302adc8"), looks := true }, kinds := [], alts := [], laidByText := true, laidKinds := [.data, .pinned], laidTests := true, laidLooks := .later }
def RouteSamesUptoCardSaid : Prop := Claim7.holds Tryz.pinned (.plain (OpenSpec.upto routeSamesSpec)) routeSamesUptoCard

/-- THE SECOND FORM's CARD OF 'staithlaw08.RouteGrows'. -/
def routeGrowsUptoCard : Claim7 := { stood := { row := routeGrowsUptoRow, standIns := [], harness := (true, "04dcde641f9ad261efb56378c26086675dcb332ebd9acac43733f301c302adc8"), looks := true }, kinds := [], alts := [], laidByText := true, laidKinds := [.data, .pinned], laidTests := true, laidLooks := .later }
def RouteGrowsUptoCardSaid : Prop := Claim7.holds Tryz.pinned (.plain (OpenSpec.upto routeGrowsSpec)) routeGrowsUptoCard
end Rows
end Go.Proofs.YtlfehneojkfmjaaGreatDoor
