/-
  WHAT ALL ROWS OF THIS SEAT NEED: a slice of numbers, a slice of ranges that came in; how long each can be.
-/
import Derived.Test.YtohclapkokociabRows
import Derived.Test.YtohclapkokociabLawAdds
import Derived.WalkKit
import Derived.ProofKit
import Derived.OpenShut
import Derived.ChangeOld
import Derived.SizedLaws
import Derived.Deep.DeepHandedRow
import Derived.Deep.SlicePairs
import Derived.Lib.LaidTab
namespace Go.Proofs.Ytohclapkokociab
open Go.ChangeShapes Go.WideShapes Go.ChangeAt Go.RowKit

theorem own : ownKnob Try.prog.godebug = none := by kernel_rfl
theorem laidOut : laidOutB Try.prog = true := by kernel_rfl
theorem bytesU64 : Try.prog.bytesOf 26 = 8 := by kernel_rfl

end Go.Proofs.Ytohclapkokociab
