/-
  No cell of these rows narrows 'for every input' (looked for: loops, veiled, ifaces, maps, wideKeys, modest, calm, conditions, laid).
  DERIVED. THE GIVEN ROWS OF THIS SEAT. 5 by the template 'for every input the law returns true; each argument reads behind the call as it read before'; 0 by the template 'total and deterministic' (their statements: YtcfagojkeholmaaTotals.lean).
  GIVEN WITH THE SEED: the statements are not yours to turn. If you find one false, say at which input.
  Laid BY PROGRAM, IN A SANDBOX (cutbox-rows.mjs): the forced cells as the released guide's own fill.sh prints them over the translation 95a15a305ae7025a… (all of the seat's roots in one cut). By AI agents, Wed Nov 11 2026. No macro, syntax, notation, axiom, sorry.
-/
import Derived.Test.YtcfagojkeholmaaChecked
import GoSem.Claim
import GoSem.ClaimJoined
import GoSem.ClaimMapViews
import Derived.JoinedTies
import Derived.KernelRfl
namespace Go.Proofs.Ytcfagojkeholmaa
/- THE CELL 'sum', in the pinned program and in every row, IS THE sha256 OF THE DUMP (.gsa) THAT YtcfagojkeholmaaProg.lean LOADS. Nothing in Lean hashes anything: it is a label: what it is worth is what the hold of that sum in a sandbox is worth. -/
noncomputable def Try.pinned : Pinned := { name := "ytcfagojkeholmaa", sum := "95a15a305ae7025a1bfdc9f05ea51e737340d80ee8bb62ea3592dc06bef49f6f", checked := Try.checked }
namespace Rows
def none {H : Type} : Left H := { results := [], args := [] }

/-- 'staithlaw10.TopoTells': WHATEVER THE INPUT: true; the input reads as it did. -/
def topoTellsSpec : ChangeSpec := { name := "topoTells", fn := fun _ => fun
  | [d1, d2, d3] => { results := [.lit (.bool true)], args := [d1, d2, d3] }
  | _ => none }
def topoTellsRow : OpenClaim := { program := "ytcfagojkeholmaa", sum := "95a15a305ae7025a1bfdc9f05ea51e737340d80ee8bb62ea3592dc06bef49f6f", func := "staith/staithlaw10.TopoTells", spec := "topoTells", unfollowed := true, recurses := true, apart := false }
def TopoTellsSaid : Prop := topoTellsRow.holds Try.pinned (OpenSpec.ofChange topoTellsSpec)

/-- ITS FALSE NEIGHBOUR: 'it returns false'. Refute it at one input. -/
def topoTellsWrong : ChangeSpec := { name := "topoTells", fn := fun _ => fun
  | [d1, d2, d3] => { results := [.lit (.bool false)], args := [d1, d2, d3] }
  | _ => none }
def TopoTellsWrongFalsely : Prop := topoTellsRow.holds Try.pinned (OpenSpec.ofChange topoTellsWrong)

/-- 'staithlaw10.TopoWays': WHATEVER THE INPUT: true; the input reads as it did. -/
def topoWaysSpec : ChangeSpec := { name := "topoWays", fn := fun _ => fun
  | [d1, d2, d3] => { results := [.lit (.bool true)], args := [d1, d2, d3] }
  | _ => none }
def topoWaysRow : OpenClaim := { program := "ytcfagojkeholmaa", sum := "95a15a305ae7025a1bfdc9f05ea51e737340d80ee8bb62ea3592dc06bef49f6f", func := "staith/staithlaw10.TopoWays", spec := "topoWays", unfollowed := true, recurses := true, apart := false }
def TopoWaysSaid : Prop := topoWaysRow.holds Try.pinned (OpenSpec.ofChange topoWaysSpec)

/-- ITS FALSE NEIGHBOUR: 'it returns false'. Refute it at one input. -/
def topoWaysWrong : ChangeSpec := { name := "topoWays", fn := fun _ => fun
  | [d1, d2, d3] => { results := [.lit (.bool false)], args := [d1, d2, d3] }
  | _ => none }
def TopoWaysWrongFalsely : Prop := topoWaysRow.holds Try.pinned (OpenSpec.ofChange topoWaysWrong)

/-- 'staithlaw10.TopoFlows': WHATEVER THE INPUT: true; the input reads as it did. -/
def topoFlowsSpec : ChangeSpec := { name := "topoFlows", fn := fun _ => fun
  | [d1, d2] => { results := [.lit (.bool true)], args := [d1, d2] }
  | _ => none }
def topoFlowsRow : OpenClaim := { program := "ytcfagojkeholmaa", sum := "95a15a305ae7025a1bfdc9f05ea51e737340d80ee8bb62ea3592dc06bef49f6f", func := "staith/staithlaw10.TopoFlows", spec := "topoFlows", unfollowed := true, recurses := true, apart := false }
def TopoFlowsSaid : Prop := topoFlowsRow.holds Try.pinned (OpenSpec.ofChange topoFlowsSpec)

/-- ITS FALSE NEIGHBOUR: 'it returns false'. Refute it at one input. -/
def topoFlowsWrong : ChangeSpec := { name := "topoFlows", fn := fun _ => fun
  | [d1, d2] => { results := [.lit (.bool false)], args := [d1, d2] }
  | _ => none }
def TopoFlowsWrongFalsely : Prop := topoFlowsRow.holds Try.pinned (OpenSpec.ofChange topoFlowsWrong)

/-- 'staithlaw10.TopoTriangles': WHATEVER THE INPUT: true; the input reads as it did. -/
def topoTrianglesSpec : ChangeSpec := { name := "topoTriangles", fn := fun _ => fun
  | [d1, d2, d3] => { results := [.lit (.bool true)], args := [d1, d2, d3] }
  | _ => none }
def topoTrianglesRow : OpenClaim := { program := "ytcfagojkeholmaa", sum := "95a15a305ae7025a1bfdc9f05ea51e737340d80ee8bb62ea3592dc06bef49f6f", func := "staith/staithlaw10.TopoTriangles", spec := "topoTriangles", unfollowed := true, recurses := true, apart := false }
def TopoTrianglesSaid : Prop := topoTrianglesRow.holds Try.pinned (OpenSpec.ofChange topoTrianglesSpec)

/-- ITS FALSE NEIGHBOUR: 'it returns false'. Refute it at one input. -/
def topoTrianglesWrong : ChangeSpec := { name := "topoTriangles", fn := fun _ => fun
  | [d1, d2, d3] => { results := [.lit (.bool false)], args := [d1, d2, d3] }
  | _ => none }
def TopoTrianglesWrongFalsely : Prop := topoTrianglesRow.holds Try.pinned (OpenSpec.ofChange topoTrianglesWrong)

/-- 'staithlaw10.TopoRings': WHATEVER THE INPUT: true; the input reads as it did. -/
def topoRingsSpec : ChangeSpec := { name := "topoRings", fn := fun _ => fun
  | [d1, d2] => { results := [.lit (.bool true)], args := [d1, d2] }
  | _ => none }
def topoRingsRow : OpenClaim := { program := "ytcfagojkeholmaa", sum := "95a15a305ae7025a1bfdc9f05ea51e737340d80ee8bb62ea3592dc06bef49f6f", func := "staith/staithlaw10.TopoRings", spec := "topoRings", unfollowed := true, recurses := true, apart := false }
def TopoRingsSaid : Prop := topoRingsRow.holds Try.pinned (OpenSpec.ofChange topoRingsSpec)

/-- ITS FALSE NEIGHBOUR: 'it returns false'. Refute it at one input. -/
def topoRingsWrong : ChangeSpec := { name := "topoRings", fn := fun _ => fun
  | [d1, d2] => { results := [.lit (.bool false)], args := [d1, d2] }
  | _ => none }
def TopoRingsWrongFalsely : Prop := topoRingsRow.holds Try.pinned (OpenSpec.ofChange topoRingsWrong)

/- THE SECOND FORM. 'bulk': how many values and letters a reading holds, each counted each time it is reached (what is shared counts as often as it is met; a slice's spare places count too). A statement '..UptoSaid' is the law's where the arguments, and the package variables that the reading takes, are together of bulk at most 1048576: NARROWER than '..Said'. Prove '..Said' where nothing that the law and all that it calls make is longer than what came in: it says more and counts as full. Else prove '..UptoSaid'. A law counts once. -/
mutual
def uptoBulk {H : Type} : DataW H → Nat
  | .lit (.string bytes) => bytes.length + 1
  | .lit _ => 1
  | .nil => 1
  | .ptr d => uptoBulk d + 1
  | .slice elems spare => uptoBulkAll elems + uptoBulkAll spare + 1
  | .agg parts => uptoBulkAll parts + 1
  | .iface _ d => uptoBulk d + 1
  | .map entries => uptoBulkEntries entries + 1
  | .held _ => 1
def uptoBulkAll {H : Type} : List (DataW H) → Nat
  | [] => 0
  | d :: r => uptoBulk d + uptoBulkAll r
def uptoBulkEntries {H : Type} : List (Lit × DataW H) → Nat
  | [] => 0
  | x :: r => uptoBulkEntry x + uptoBulkEntries r
def uptoBulkEntry {H : Type} : Lit × DataW H → Nat
  | (.string bytes, d) => bytes.length + uptoBulk d + 1
  | (_, d) => uptoBulk d + 1
 end
def uptoSmall : (H : Type) → List (DataW H) → Bool := fun _ ds => decide (uptoBulkAll ds ≤ 1048576)
def OpenSpec.upto (s : _root_.Go.ChangeSpec) : _root_.Go.OpenSpec := { _root_.Go.OpenSpec.ofChange s with cond := some uptoSmall }

/-- 'staithlaw10.TopoTells', WHERE WHAT IT READS IS OF BULK AT MOST 1048576: true; the input reads as it did. -/
def topoTellsUptoRow : OpenClaim := { program := "ytcfagojkeholmaa", sum := "95a15a305ae7025a1bfdc9f05ea51e737340d80ee8bb62ea3592dc06bef49f6f", func := "staith/staithlaw10.TopoTells", spec := "topoTells", unfollowed := true, recurses := true, apart := false, narrowed := true }
def TopoTellsUptoSaid : Prop := topoTellsUptoRow.holds Try.pinned (OpenSpec.upto topoTellsSpec)

/-- 'staithlaw10.TopoWays', WHERE WHAT IT READS IS OF BULK AT MOST 1048576: true; the input reads as it did. -/
def topoWaysUptoRow : OpenClaim := { program := "ytcfagojkeholmaa", sum := "95a15a305ae7025a1bfdc9f05ea51e737340d80ee8bb62ea3592dc06bef49f6f", func := "staith/staithlaw10.TopoWays", spec := "topoWays", unfollowed := true, recurses := true, apart := false, narrowed := true }
def TopoWaysUptoSaid : Prop := topoWaysUptoRow.holds Try.pinned (OpenSpec.upto topoWaysSpec)

/-- 'staithlaw10.TopoFlows', WHERE WHAT IT READS IS OF BULK AT MOST 1048576: true; the input reads as it did. -/
def topoFlowsUptoRow : OpenClaim := { program := "ytcfagojkeholmaa", sum := "95a15a305ae7025a1bfdc9f05ea51e737340d80ee8bb62ea3592dc06bef49f6f", func := "staith/staithlaw10.TopoFlows", spec := "topoFlows", unfollowed := true, recurses := true, apart := false, narrowed := true }
def TopoFlowsUptoSaid : Prop := topoFlowsUptoRow.holds Try.pinned (OpenSpec.upto topoFlowsSpec)

/-- 'staithlaw10.TopoTriangles', WHERE WHAT IT READS IS OF BULK AT MOST 1048576: true; the input reads as it did. -/
def topoTrianglesUptoRow : OpenClaim := { program := "ytcfagojkeholmaa", sum := "95a15a305ae7025a1bfdc9f05ea51e737340d80ee8bb62ea3592dc06bef49f6f", func := "staith/staithlaw10.TopoTriangles", spec := "topoTriangles", unfollowed := true, recurses := true, apart := false, narrowed := true }
def TopoTrianglesUptoSaid : Prop := topoTrianglesUptoRow.holds Try.pinned (OpenSpec.upto topoTrianglesSpec)

/-- 'staithlaw10.TopoRings', WHERE WHAT IT READS IS OF BULK AT MOST 1048576: true; the input reads as it did. -/
def topoRingsUptoRow : OpenClaim := { program := "ytcfagojkeholmaa", sum := "95a15a305ae7025a1bfdc9f05ea51e737340d80ee8bb62ea3592dc06bef49f6f", func := "staith/staithlaw10.TopoRings", spec := "topoRings", unfollowed := true, recurses := true, apart := false, narrowed := true }
def TopoRingsUptoSaid : Prop := topoRingsUptoRow.holds Try.pinned (OpenSpec.upto topoRingsSpec)

end Rows
end Go.Proofs.Ytcfagojkeholmaa
