/-
  WHAT THE ROWS OF THIS SEAT NEED: an act, acts that came in; how long each can be.
-/
import Derived.Test.YtooaiomghbjpiaaRows
import Derived.Test.YtooaiomghbjpiaaActs17
import Derived.Test.YtooaiomghbjpiaaStructs
import Derived.WalkKit
import Derived.ProofKit
import Derived.OpenShut
import Derived.ChangeOld
import Derived.SizedLaws
import Derived.DataReads
import Derived.DataElems
import Derived.LaidLaws
import Derived.Deep.DeepHandedRow
namespace Go.Proofs.Ytooaiomghbjpiaa
open Go.ChangeShapes Go.WideShapes Go.ChangeAt Go.RowKit
set_option maxRecDepth 20000

theorem own : ownKnob Try.prog.godebug = none := by kernel_rfl
theorem laidOut : laidOutB Try.prog = true := by kernel_rfl
theorem cellsI : Try.prog.cellsOf 3 = 1 := by kernel_rfl
theorem cellsU : Try.prog.cellsOf 31 = 1 := by kernel_rfl
theorem cellsStr : Try.prog.cellsOf 9 = 1 := by kernel_rfl
theorem cellsAct : Try.prog.cellsOf 33 = 5 := by kernel_rfl
theorem list5 {α : Type} {cs : List α} (h : cs.length = 5) : ∃ a b c d e, cs = [a, b, c, d, e] := by
  match cs, h with
  | [a, b, c, d, e], _ => exact ⟨a, b, c, d, e, rfl⟩
theorem size_le {s : ByteArray} (h : s.data.toList.length ≤ reachBytes) : s.size ≤ 140737488355328 := by
  have : s.size = s.data.toList.length := Array.length_toList.symm
  unfold reachBytes at h
  omega
section
variable {H : Type} {enc : TypeId × Value → H} {W : World}
theorem act_fits {fuel : Nat} {cs : List Value} {x : DataW H × List MemPlace} (h : DataW.trod enc Try.prog W 0 (fun _ => true) true fuel 33 cs = some x) (hw : ∀ m ∈ x.1.weights Try.prog 33, m ≤ reachBytes) : ∃ a : Ac, cs = acells a ∧ a.Fits := by
  obtain ⟨xs, n, _, hxd, hl, hx, hf⟩ := DataW.trod_struct Try.underlying33 h
  have hl' : cs.length = 5 := hl.trans cellsAct
  have f0 := hf 0 _ rfl
  have f1 := hf 1 _ rfl
  have f2 := hf 2 _ rfl
  have f3 := hf 3 _ rfl
  have f4 := hf 4 _ rfl
  change DataW.trod enc Try.prog W 0 (fun _ => true) true n 3 (List.take (Try.prog.cellsOf 3) (List.drop 0 cs)) = xs[0]? at f0
  change DataW.trod enc Try.prog W 0 (fun _ => true) true n 3 (List.take (Try.prog.cellsOf 3) (List.drop 1 cs)) = xs[1]? at f1
  change DataW.trod enc Try.prog W 0 (fun _ => true) true n 9 (List.take (Try.prog.cellsOf 9) (List.drop 2 cs)) = xs[2]? at f2
  change DataW.trod enc Try.prog W 0 (fun _ => true) true n 3 (List.take (Try.prog.cellsOf 3) (List.drop 3 cs)) = xs[3]? at f3
  change DataW.trod enc Try.prog W 0 (fun _ => true) true n 31 (List.take (Try.prog.cellsOf 31) (List.drop 4 cs)) = xs[4]? at f4
  rw [cellsI] at f0 f1 f3
  rw [cellsStr] at f2
  rw [cellsU] at f4
  have hx' : xs.length = 5 := hx
  obtain ⟨x0, x1, x2, x3, x4, rfl⟩ := list5 hx'
  obtain ⟨c0, c1, c2, c3, c4, rfl⟩ := list5 hl'
  rw [hxd] at hw
  simp only [DataW.weights, Try.underlying33] at hw
  obtain ⟨kd, h0, _, w0⟩ := DataW.trod_int Try.underlying3 f0
  obtain ⟨cc, h1, _, w1⟩ := DataW.trod_int Try.underlying3 f1
  obtain ⟨sq, h2, d2, _⟩ := DataW.trod_string Try.underlying9 f2
  obtain ⟨nn, h3, _, w3⟩ := DataW.trod_int Try.underlying3 f3
  obtain ⟨tt, h4, _, w4⟩ := DataW.trod_int Try.underlying31 f4
  have e0 : [c0] = [.int .i64 kd] := h0
  have e1 : [c1] = [.int .i64 cc] := h1
  have e2 : [c2] = [.string sq] := h2
  have e3 : [c3] = [.int .i64 nn] := h3
  have e4 : [c4] = [.int .u64 tt] := h4
  simp at e0 e1 e2 e3 e4
  have k2 : sq.data.toList.length ≤ reachBytes := hw _ (DataW.weights_mem_each (j := 2) (t := 9) (d := .lit (.string sq.data.toList)) rfl (by simp [d2]) _ (by simp [DataW.weights]))
  have b0 := bounds_i64 w0
  have b1 := bounds_i64 w1
  have b3 := bounds_i64 w3
  have b4 := bounds_u64 w4
  exact ⟨⟨kd, cc, sq, nn, tt⟩, by rw [e0, e1, e2, e3, e4]; rfl, size_le k2, ⟨by show _ ≤ kd; omega, by show kd ≤ _; omega⟩, ⟨by show _ ≤ cc; omega, by show cc ≤ _; omega⟩, ⟨by show _ ≤ nn; omega, by show nn ≤ _; omega⟩, ⟨by show _ ≤ tt; omega, by show tt < _; omega⟩⟩
end
/-- A slice of acts that came in. -/
theorem open_cacts {H : Type} {enc : TypeId × Value → H} {W : World} {base : Nat} {v : Value} {d : DataW H} {p : List MemPlace} (hval : Value.okWide Try.prog W .any base 22 v)
    (h : DataW.Trod enc Try.prog W 0 (fun _ => true) true 22 v d p) (hw : ∀ n ∈ d.weights Try.prog 22, n ≤ reachBytes) : ∃ l, K.RowOf acells W v l ∧ (∀ a ∈ l, a.Fits) :=
  K.open_structs (enc := acells) Try.underlying22 cellsAct Ac.Fits (fun _ _ _ hx hw => act_fits hx hw) hval h hw
/-- An act that came in. -/
theorem open_cact {H : Type} {enc : TypeId × Value → H} {W : World} {base : Nat} {v : Value} {d : DataW H} {p : List MemPlace} (hval : Value.okWide Try.prog W .any base 33 v)
    (h : DataW.Trod enc Try.prog W 0 (fun _ => true) true 33 v d p) (hw : ∀ n ∈ d.weights Try.prog 33, n ≤ reachBytes) : ∃ a : Ac, v = acv a ∧ a.Fits := by
  obtain ⟨cs, hcs, _⟩ := okWide_struct Try.underlying33 hval
  obtain ⟨fuel, hf⟩ := h
  obtain ⟨m, hm, hb⟩ := act_fits hf hw
  refine ⟨m, ?_, hb⟩
  rw [hcs] at hm ⊢
  have h1 : cs.toList = acells m := hm
  have h2 : cs = (acells m).toArray := by rw [← h1]
  rw [h2]; rfl
end Go.Proofs.Ytooaiomghbjpiaa
