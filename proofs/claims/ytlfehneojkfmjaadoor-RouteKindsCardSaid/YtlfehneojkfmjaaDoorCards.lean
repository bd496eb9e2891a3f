/-
  DERIVED. GIVEN WITH THE SEED: THE CARDS: each row of YtlfehneojkfmjaaDoorRows.lean that lists a variable, with what it lists TIED to the program's text (the seventh form; the later family's looks); each row that meets fmt, with fmt's text TOLD by the authors' own Lean function (tested against real Go, not proved from fmt's source: count such statements apart). THE CARD IS WHAT COUNTS. Prove the row's statement (the work); the ties are given (YtlfehneojkfmjaaDoorTie.lean); close each card by the builder's one call (the guide's Derived/Test/ToyasCard.lean, 'card_holds'). Laid BY PROGRAM, IN A SANDBOX (cutbox-door.mjs). By AI agents, Wed Nov 11 2026. No macro, syntax, notation, axiom, sorry.
-/
import Derived.Test.YtlfehneojkfmjaaDoorRows
import GoSem.ClaimSeven
namespace Go.Proofs.YtlfehneojkfmjaaDoor
namespace Rows

/-- THE TIED CARD OF 'staithlaw08.RouteFits'. -/
def routeFitsCard : Claim7 := { stood := { row := routeFitsRow, standIns := [], harness := (true, "6204530d55423d32825847f3ab900169bcc78ad182006d0aca356bcf8b6c2471"), looks := false }, kinds := [], alts := [], laidByText := true, laidKinds := [.data, .pinned], laidTests := true, laidLooks := .later }
def RouteFitsCardSaid : Prop := Claim7.holds Tryd.pinned (.plain (OpenSpec.ofChange routeFitsSpec)) routeFitsCard

/-- THE TIED CARD OF 'staithlaw08.RouteKinds'. -/
def routeKindsCard : Claim7 := { stood := { row := routeKindsRow, standIns := [], harness := (true, "6204530d55423d32825847f3ab900169bcc78ad182006d0aca356bcf8b6c2471"), looks := false }, kinds := [], alts := [], laidByText := true, laidKinds := [.data, .pinned], laidTests := true, laidLooks := .later }
def RouteKindsCardSaid : Prop := Claim7.holds Tryd.pinned (.plain (OpenSpec.ofChange routeKindsSpec)) routeKindsCard

/-- THE SECOND FORM's CARD OF 'staithlaw08.RouteFits'. -/
def routeFitsUptoCard : Claim7 := { stood := { row := routeFitsUptoRow, standIns := [], harness := (true, "6204530d55423d32825847f3ab900169bcc78ad182006d0aca356bcf8b6c2471"), looks := false }, kinds := [], alts := [], laidByText := true, laidKinds := [.data, .pinned], laidTests := true, laidLooks := .later }
def RouteFitsUptoCardSaid : Prop := Claim7.holds Tryd.pinned (.plain (OpenSpec.upto routeFitsSpec)) routeFitsUptoCard

/-- THE SECOND FORM's CARD OF 'staithlaw08.RouteKinds'. -/
def routeKindsUptoCard : Claim7 := { stood := { row := routeKindsUptoRow, standIns := [], harness := (true, "6204530d55423d32825847f3ab900169bcc78ad182006d0aca356bcf8b6c2471"), looks := false }, kinds := [], alts := [], laidByText := true, laidKinds := [.data, .pinned], laidTests := true, laidLooks := .later }
def RouteKindsUptoCardSaid : Prop := Claim7.holds Tryd.pinned (.plain (OpenSpec.upto routeKindsSpec)) routeKindsUptoCard
end Rows
end Go.Proofs.YtlfehneojkfmjaaDoor
