/-
  No cell of these rows narrows 'for every input' (looked for: loops, veiled, ifaces, maps, wideKeys, modest, calm, conditions, laid).
  DERIVED. THE GIVEN ROWS OF THIS SEAT. 6 by the template 'for every input the law returns true; each argument reads behind the call as it read before'; 0 by the template 'total and deterministic' (their statements: YtocdfcaakflgpaaTotals.lean).
  GIVEN WITH THE SEED: the statements are not yours to turn. If you find one false, say at which input.
  Laid BY PROGRAM, IN A SANDBOX (cutbox-rows.mjs): the forced cells as the released guide's own fill.sh prints them over the translation 957b65137b963abe… (all of the seat's roots in one cut). By AI agents, Wed Nov 11 2026. No macro, syntax, notation, axiom, sorry.
-/
import Derived.Test.YtocdfcaakflgpaaChecked
import GoSem.Claim
import GoSem.ClaimJoined
import GoSem.ClaimMapViews
import Derived.JoinedTies
import Derived.KernelRfl
namespace Go.Proofs.Ytocdfcaakflgpaa
/- THE CELL 'sum', in the pinned program and in every row, IS THE sha256 OF THE DUMP (.gsa) THAT YtocdfcaakflgpaaProg.lean LOADS. Nothing in Lean hashes anything: it is a label: what it is worth is what the hold of that sum in a sandbox is worth. -/
noncomputable def Try.pinned : Pinned := { name := "ytocdfcaakflgpaa", sum := "957b65137b963abebde8f3a4ff4b4ec3a13ba6437086140ab064c779e450a797", checked := Try.checked }
namespace Rows
def none {H : Type} : Left H := { results := [], args := [] }

/-- 'staithlaw06.FifoActs': WHATEVER THE INPUT: true; the input reads as it did. -/
def fifoActsSpec : ChangeSpec := { name := "fifoActs", fn := fun _ => fun
  | [d1, d2] => { results := [.lit (.bool true)], args := [d1, d2] }
  | _ => none }
def fifoActsRow : OpenClaim := { program := "ytocdfcaakflgpaa", sum := "957b65137b963abebde8f3a4ff4b4ec3a13ba6437086140ab064c779e450a797", func := "staith/staithlaw06.FifoActs", spec := "fifoActs", inPlace := ["slices.overlaps[staith/api.Item]", "maps.clone"], unfollowed := true, recurses := true, apart := false }
def FifoActsSaid : Prop := fifoActsRow.holds Try.pinned (OpenSpec.ofChange fifoActsSpec)

/-- ITS FALSE NEIGHBOUR: 'it returns false'. Refute it at one input. -/
def fifoActsWrong : ChangeSpec := { name := "fifoActs", fn := fun _ => fun
  | [d1, d2] => { results := [.lit (.bool false)], args := [d1, d2] }
  | _ => none }
def FifoActsWrongFalsely : Prop := fifoActsRow.holds Try.pinned (OpenSpec.ofChange fifoActsWrong)

/-- 'staithlaw06.FifoLoads': WHATEVER THE INPUT: true; the input reads as it did. -/
def fifoLoadsSpec : ChangeSpec := { name := "fifoLoads", fn := fun _ => fun
  | [d1, d2] => { results := [.lit (.bool true)], args := [d1, d2] }
  | _ => none }
def fifoLoadsRow : OpenClaim := { program := "ytocdfcaakflgpaa", sum := "957b65137b963abebde8f3a4ff4b4ec3a13ba6437086140ab064c779e450a797", func := "staith/staithlaw06.FifoLoads", spec := "fifoLoads", inPlace := ["slices.overlaps[staith/api.Item]"], unfollowed := true, recurses := true, apart := false }
def FifoLoadsSaid : Prop := fifoLoadsRow.holds Try.pinned (OpenSpec.ofChange fifoLoadsSpec)

/-- ITS FALSE NEIGHBOUR: 'it returns false'. Refute it at one input. -/
def fifoLoadsWrong : ChangeSpec := { name := "fifoLoads", fn := fun _ => fun
  | [d1, d2] => { results := [.lit (.bool false)], args := [d1, d2] }
  | _ => none }
def FifoLoadsWrongFalsely : Prop := fifoLoadsRow.holds Try.pinned (OpenSpec.ofChange fifoLoadsWrong)

/-- 'staithlaw06.FifoKeeps': WHATEVER THE INPUT: true; the input reads as it did. -/
def fifoKeepsSpec : ChangeSpec := { name := "fifoKeeps", fn := fun _ => fun
  | [d] => { results := [.lit (.bool true)], args := [d] }
  | _ => none }
def fifoKeepsRow : OpenClaim := { program := "ytocdfcaakflgpaa", sum := "957b65137b963abebde8f3a4ff4b4ec3a13ba6437086140ab064c779e450a797", func := "staith/staithlaw06.FifoKeeps", spec := "fifoKeeps", inPlace := ["slices.overlaps[staith/api.Item]"], unfollowed := true, recurses := true, apart := false }
def FifoKeepsSaid : Prop := fifoKeepsRow.holds Try.pinned (OpenSpec.ofChange fifoKeepsSpec)

/-- ITS FALSE NEIGHBOUR: 'it returns false'. Refute it at one input. -/
def fifoKeepsWrong : ChangeSpec := { name := "fifoKeeps", fn := fun _ => fun
  | [d] => { results := [.lit (.bool false)], args := [d] }
  | _ => none }
def FifoKeepsWrongFalsely : Prop := fifoKeepsRow.holds Try.pinned (OpenSpec.ofChange fifoKeepsWrong)

/-- 'staithlaw06.FifoOrder': WHATEVER THE INPUT: true; the input reads as it did. -/
def fifoOrderSpec : ChangeSpec := { name := "fifoOrder", fn := fun _ => fun
  | [d1, d2] => { results := [.lit (.bool true)], args := [d1, d2] }
  | _ => none }
def fifoOrderRow : OpenClaim := { program := "ytocdfcaakflgpaa", sum := "957b65137b963abebde8f3a4ff4b4ec3a13ba6437086140ab064c779e450a797", func := "staith/staithlaw06.FifoOrder", spec := "fifoOrder", inPlace := ["slices.overlaps[staith/api.Item]"], unfollowed := true, recurses := true, apart := false }
def FifoOrderSaid : Prop := fifoOrderRow.holds Try.pinned (OpenSpec.ofChange fifoOrderSpec)

/-- ITS FALSE NEIGHBOUR: 'it returns false'. Refute it at one input. -/
def fifoOrderWrong : ChangeSpec := { name := "fifoOrder", fn := fun _ => fun
  | [d1, d2] => { results := [.lit (.bool false)], args := [d1, d2] }
  | _ => none }
def FifoOrderWrongFalsely : Prop := fifoOrderRow.holds Try.pinned (OpenSpec.ofChange fifoOrderWrong)

/-- 'staithlaw06.FifoNone': WHATEVER THE INPUT: true; the input reads as it did. -/
def fifoNoneSpec : ChangeSpec := { name := "fifoNone", fn := fun _ => fun
  | [d1, d2] => { results := [.lit (.bool true)], args := [d1, d2] }
  | _ => none }
def fifoNoneRow : OpenClaim := { program := "ytocdfcaakflgpaa", sum := "957b65137b963abebde8f3a4ff4b4ec3a13ba6437086140ab064c779e450a797", func := "staith/staithlaw06.FifoNone", spec := "fifoNone", inPlace := ["slices.overlaps[staith/api.Item]", "maps.clone"], unfollowed := true, recurses := true, apart := false }
def FifoNoneSaid : Prop := fifoNoneRow.holds Try.pinned (OpenSpec.ofChange fifoNoneSpec)

/-- ITS FALSE NEIGHBOUR: 'it returns false'. Refute it at one input. -/
def fifoNoneWrong : ChangeSpec := { name := "fifoNone", fn := fun _ => fun
  | [d1, d2] => { results := [.lit (.bool false)], args := [d1, d2] }
  | _ => none }
def FifoNoneWrongFalsely : Prop := fifoNoneRow.holds Try.pinned (OpenSpec.ofChange fifoNoneWrong)

/-- 'staithlaw06.FifoApart': WHATEVER THE INPUT: true; the input reads as it did. -/
def fifoApartSpec : ChangeSpec := { name := "fifoApart", fn := fun _ => fun
  | [d1, d2] => { results := [.lit (.bool true)], args := [d1, d2] }
  | _ => none }
def fifoApartRow : OpenClaim := { program := "ytocdfcaakflgpaa", sum := "957b65137b963abebde8f3a4ff4b4ec3a13ba6437086140ab064c779e450a797", func := "staith/staithlaw06.FifoApart", spec := "fifoApart", inPlace := ["slices.overlaps[staith/api.Item]", "maps.clone"], unfollowed := true, recurses := true, apart := false }
def FifoApartSaid : Prop := fifoApartRow.holds Try.pinned (OpenSpec.ofChange fifoApartSpec)

/-- ITS FALSE NEIGHBOUR: 'it returns false'. Refute it at one input. -/
def fifoApartWrong : ChangeSpec := { name := "fifoApart", fn := fun _ => fun
  | [d1, d2] => { results := [.lit (.bool false)], args := [d1, d2] }
  | _ => none }
def FifoApartWrongFalsely : Prop := fifoApartRow.holds Try.pinned (OpenSpec.ofChange fifoApartWrong)

/- THE SECOND FORM. 'bulk': how many values and letters a reading holds, each counted each time it is reached (what is shared counts as often as it is met; a slice's spare places count too). A statement '..UptoSaid' is the law's where the arguments, and the package variables that the reading takes, are together of bulk at most 1048576: NARROWER than '..Said'. Prove '..Said' where nothing that the law and all that it calls make is longer than what came in: it says more and counts as full. Else prove '..UptoSaid'. A law counts once. -/
mutual
def uptoBulk {H : Type} : DataW H → Nat
  | .lit (.string bytes) => bytes.length + 1
  | .lit _ => 1
  | .nil => 1
  | .ptr d => uptoBulk d + 1
  | .slice elems spare => uptoBulkAll elems + uptoBulkAll spare + 1
  | .agg parts => uptoBulkAll parts + 1
  | .iface _ d => uptoBulk d + 1
  | .map entries => uptoBulkEntries entries + 1
  | .held _ => 1
def uptoBulkAll {H : Type} : List (DataW H) → Nat
  | [] => 0
  | d :: r => uptoBulk d + uptoBulkAll r
def uptoBulkEntries {H : Type} : List (Lit × DataW H) → Nat
  | [] => 0
  | x :: r => uptoBulkEntry x + uptoBulkEntries r
def uptoBulkEntry {H : Type} : Lit × DataW H → Nat
  | (.string bytes, d) => bytes.length + uptoBulk d + 1
  | (_, d) => uptoBulk d + 1
 end
def uptoSmall : (H : Type) → List (DataW H) → Bool := fun _ ds => decide (uptoBulkAll ds ≤ 1048576)
def OpenSpec.upto (s : _root_.Go.ChangeSpec) : _root_.Go.OpenSpec := { _root_.Go.OpenSpec.ofChange s with cond := some uptoSmall }

/-- 'staithlaw06.FifoActs', WHERE WHAT IT READS IS OF BULK AT MOST 1048576: true; the input reads as it did. -/
def fifoActsUptoRow : OpenClaim := { program := "ytocdfcaakflgpaa", sum := "957b65137b963abebde8f3a4ff4b4ec3a13ba6437086140ab064c779e450a797", func := "staith/staithlaw06.FifoActs", spec := "fifoActs", inPlace := ["slices.overlaps[staith/api.Item]", "maps.clone"], unfollowed := true, recurses := true, apart := false, narrowed := true }
def FifoActsUptoSaid : Prop := fifoActsUptoRow.holds Try.pinned (OpenSpec.upto fifoActsSpec)

/-- 'staithlaw06.FifoLoads', WHERE WHAT IT READS IS OF BULK AT MOST 1048576: true; the input reads as it did. -/
def fifoLoadsUptoRow : OpenClaim := { program := "ytocdfcaakflgpaa", sum := "957b65137b963abebde8f3a4ff4b4ec3a13ba6437086140ab064c779e450a797", func := "staith/staithlaw06.FifoLoads", spec := "fifoLoads", inPlace := ["slices.overlaps[staith/api.Item]"], unfollowed := true, recurses := true, apart := false, narrowed := true }
def FifoLoadsUptoSaid : Prop := fifoLoadsUptoRow.holds Try.pinned (OpenSpec.upto fifoLoadsSpec)

/-- 'staithlaw06.FifoKeeps', WHERE WHAT IT READS IS OF BULK AT MOST 1048576: true; the input reads as it did. -/
def fifoKeepsUptoRow : OpenClaim := { program := "ytocdfcaakflgpaa", sum := "957b65137b963abebde8f3a4ff4b4ec3a13ba6437086140ab064c779e450a797", func := "staith/staithlaw06.FifoKeeps", spec := "fifoKeeps", inPlace := ["slices.overlaps[staith/api.Item]"], unfollowed := true, recurses := true, apart := false, narrowed := true }
def FifoKeepsUptoSaid : Prop := fifoKeepsUptoRow.holds Try.pinned (OpenSpec.upto fifoKeepsSpec)

/-- 'staithlaw06.FifoOrder', WHERE WHAT IT READS IS OF BULK AT MOST 1048576: true; the input reads as it did. -/
def fifoOrderUptoRow : OpenClaim := { program := "ytocdfcaakflgpaa", sum := "957b65137b963abebde8f3a4ff4b4ec3a13ba6437086140ab064c779e450a797", func := "staith/staithlaw06.FifoOrder", spec := "fifoOrder", inPlace := ["slices.overlaps[staith/api.Item]"], unfollowed := true, recurses := true, apart := false, narrowed := true }
def FifoOrderUptoSaid : Prop := fifoOrderUptoRow.holds Try.pinned (OpenSpec.upto fifoOrderSpec)

/-- 'staithlaw06.FifoNone', WHERE WHAT IT READS IS OF BULK AT MOST 1048576: true; the input reads as it did. -/
def fifoNoneUptoRow : OpenClaim := { program := "ytocdfcaakflgpaa", sum := "957b65137b963abebde8f3a4ff4b4ec3a13ba6437086140ab064c779e450a797", func := "staith/staithlaw06.FifoNone", spec := "fifoNone", inPlace := ["slices.overlaps[staith/api.Item]", "maps.clone"], unfollowed := true, recurses := true, apart := false, narrowed := true }
def FifoNoneUptoSaid : Prop := fifoNoneUptoRow.holds Try.pinned (OpenSpec.upto fifoNoneSpec)

/-- 'staithlaw06.FifoApart', WHERE WHAT IT READS IS OF BULK AT MOST 1048576: true; the input reads as it did. -/
def fifoApartUptoRow : OpenClaim := { program := "ytocdfcaakflgpaa", sum := "957b65137b963abebde8f3a4ff4b4ec3a13ba6437086140ab064c779e450a797", func := "staith/staithlaw06.FifoApart", spec := "fifoApart", inPlace := ["slices.overlaps[staith/api.Item]", "maps.clone"], unfollowed := true, recurses := true, apart := false, narrowed := true }
def FifoApartUptoSaid : Prop := fifoApartUptoRow.holds Try.pinned (OpenSpec.upto fifoApartSpec)

end Rows
end Go.Proofs.Ytocdfcaakflgpaa
