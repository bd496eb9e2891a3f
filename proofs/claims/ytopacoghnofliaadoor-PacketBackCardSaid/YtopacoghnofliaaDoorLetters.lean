/-
  THE TABLE OF KINDS in memory; lettersOf, by its contract.
-/
import Derived.Test.YtopacoghnofliaaDoorGoods
namespace Go.Proofs.YtopacoghnofliaaDoor
open Go.RowKit

def lettersS (k : Int) : ByteArray := ⟨((lettersL k).getD []).toArray⟩

end Go.Proofs.YtopacoghnofliaaDoor
