/-
  PACKAGE fifo: Back, by its contract.
-/
import Derived.Test.YtjagaankkcbjmaaGreatDoorJ25
namespace Go.Proofs.YtjagaankkcbjmaaGreatDoor.K
end Go.Proofs.YtjagaankkcbjmaaGreatDoor.K
namespace Go.Proofs.YtjagaankkcbjmaaGreatDoor.F
open Go.Proofs.YtjagaankkcbjmaaGreatDoor.K
open Go.RowKit Go.Sort


end Go.Proofs.YtjagaankkcbjmaaGreatDoor.F
