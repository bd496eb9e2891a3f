/-
  fits, by its contract.
-/
import Derived.Test.YtopacoghnofliaaDoorLetters
namespace Go.Proofs.YtopacoghnofliaaDoor
open Go.RowKit

end Go.Proofs.YtopacoghnofliaaDoor
