/-
  WHAT THE ROWS OF THIS SEAT NEED: an act, acts, numbers that came in.
-/
import Derived.Test.YtkdjpleedaldcaaRows
import Derived.Test.YtkdjpleedaldcaaLawAcks21
import Derived.Test.YtkdjpleedaldcaaActs21
import Derived.Test.YtkdjpleedaldcaaStructs
import Derived.WalkKit
import Derived.ProofKit
import Derived.OpenShut
import Derived.ChangeOld
import Derived.SizedLaws
import Derived.DataReads
import Derived.DataElems
import Derived.LaidLaws
import Derived.Deep.DeepHandedRow
namespace Go.Proofs.Ytkdjpleedaldcaa
open Go.ChangeShapes Go.WideShapes Go.ChangeAt Go.RowKit
set_option maxRecDepth 20000

theorem own : ownKnob Try.prog.godebug = none := by kernel_rfl
theorem laidOut : laidOutB Try.prog = true := by kernel_rfl
theorem cellsI : Try.prog.cellsOf 3 = 1 := by kernel_rfl
theorem cellsU16 : Try.prog.cellsOf 28 = 1 := by kernel_rfl
theorem cellsU : Try.prog.cellsOf 29 = 1 := by kernel_rfl
theorem cellsStr : Try.prog.cellsOf 9 = 1 := by kernel_rfl
theorem cellsId : Try.prog.cellsOf 31 = 2 := by kernel_rfl
theorem cellsMsg : Try.prog.cellsOf 33 = 6 := by kernel_rfl
theorem cellsAct : Try.prog.cellsOf 35 = 8 := by kernel_rfl
theorem list2 {α : Type} {cs : List α} (h : cs.length = 2) : ∃ a b, cs = [a, b] := by
  match cs, h with
  | [a, b], _ => exact ⟨a, b, rfl⟩
theorem list3 {α : Type} {cs : List α} (h : cs.length = 3) : ∃ a b c, cs = [a, b, c] := by
  match cs, h with
  | [a, b, c], _ => exact ⟨a, b, c, rfl⟩
theorem list5 {α : Type} {cs : List α} (h : cs.length = 5) : ∃ a b c d e, cs = [a, b, c, d, e] := by
  match cs, h with
  | [a, b, c, d, e], _ => exact ⟨a, b, c, d, e, rfl⟩
theorem list6 {α : Type} {cs : List α} (h : cs.length = 6) : ∃ a b c d e f, cs = [a, b, c, d, e, f] := by
  match cs, h with
  | [a, b, c, d, e, f], _ => exact ⟨a, b, c, d, e, f, rfl⟩
theorem list8 {α : Type} {cs : List α} (h : cs.length = 8) : ∃ a b c d e f g i, cs = [a, b, c, d, e, f, g, i] := by
  match cs, h with
  | [a, b, c, d, e, f, g, i], _ => exact ⟨a, b, c, d, e, f, g, i, rfl⟩
theorem size_le {s : ByteArray} (h : s.data.toList.length ≤ reachBytes) : s.size ≤ 140737488355328 := by
  have : s.size = s.data.toList.length := Array.length_toList.symm
  unfold reachBytes at h
  omega
section
variable {H : Type} {enc : TypeId × Value → H} {W : World} {fuel : Nat} {cs : List Value} {x : DataW H × List MemPlace}
theorem ident_fits (h : DataW.trod enc Try.prog W 0 (fun _ => true) true fuel 31 cs = some x) : ∃ o s, cs = [.int .i64 o, .int .u64 s] := by
  obtain ⟨xs, n, _, hxd, hl, hx, hf⟩ := DataW.trod_struct Try.underlying31 h
  have hl' : cs.length = 2 := hl.trans cellsId
  have f0 := hf 0 _ rfl
  have f1 := hf 1 _ rfl
  change DataW.trod enc Try.prog W 0 (fun _ => true) true n 3 (List.take (Try.prog.cellsOf 3) (List.drop 0 cs)) = xs[0]? at f0
  change DataW.trod enc Try.prog W 0 (fun _ => true) true n 29 (List.take (Try.prog.cellsOf 29) (List.drop 1 cs)) = xs[1]? at f1
  rw [cellsI] at f0
  rw [cellsU] at f1
  have hx' : xs.length = 2 := hx
  obtain ⟨x0, x1, rfl⟩ := list2 hx'
  obtain ⟨c0, c1, rfl⟩ := list2 hl'
  obtain ⟨o, h0, _, _⟩ := DataW.trod_int Try.underlying3 f0
  obtain ⟨s, h1, _, _⟩ := DataW.trod_int Try.underlying29 f1
  have e0 : [c0] = [.int .i64 o] := h0
  have e1 : [c1] = [.int .u64 s] := h1
  simp at e0 e1
  exact ⟨o, s, by rw [e0, e1]⟩
theorem msg_fits (h : DataW.trod enc Try.prog W 0 (fun _ => true) true fuel 33 cs = some x) (hw : ∀ m ∈ x.1.weights Try.prog 33, m ≤ reachBytes) : ∃ m : Ms, cs = mcells m ∧ m.ex.size ≤ 140737488355328 ∧ m.key.size ≤ 140737488355328 ∧ m.body.size ≤ 140737488355328 := by
  obtain ⟨xs, n, _, hxd, hl, hx, hf⟩ := DataW.trod_struct Try.underlying33 h
  have hl' : cs.length = 6 := hl.trans cellsMsg
  have f0 := hf 0 _ rfl
  have f1 := hf 1 _ rfl
  have f2 := hf 2 _ rfl
  have f3 := hf 3 _ rfl
  have f4 := hf 4 _ rfl
  change DataW.trod enc Try.prog W 0 (fun _ => true) true n 31 (List.take (Try.prog.cellsOf 31) (List.drop 0 cs)) = xs[0]? at f0
  change DataW.trod enc Try.prog W 0 (fun _ => true) true n 3 (List.take (Try.prog.cellsOf 3) (List.drop 2 cs)) = xs[1]? at f1
  change DataW.trod enc Try.prog W 0 (fun _ => true) true n 9 (List.take (Try.prog.cellsOf 9) (List.drop 3 cs)) = xs[2]? at f2
  change DataW.trod enc Try.prog W 0 (fun _ => true) true n 9 (List.take (Try.prog.cellsOf 9) (List.drop 4 cs)) = xs[3]? at f3
  change DataW.trod enc Try.prog W 0 (fun _ => true) true n 9 (List.take (Try.prog.cellsOf 9) (List.drop 5 cs)) = xs[4]? at f4
  rw [cellsId] at f0
  rw [cellsI] at f1
  rw [cellsStr] at f2 f3 f4
  have hx' : xs.length = 5 := hx
  obtain ⟨x0, x1, x2, x3, x4, rfl⟩ := list5 hx'
  obtain ⟨c0, c1, c2, c3, c4, c5, rfl⟩ := list6 hl'
  rw [hxd] at hw
  simp only [DataW.weights, Try.underlying33] at hw
  obtain ⟨o0, s0, h0⟩ := ident_fits f0
  have e0 : [c0, c1] = [.int .i64 o0, .int .u64 s0] := h0
  obtain ⟨h, h1, _, _⟩ := DataW.trod_int Try.underlying3 f1
  have e1 : [c2] = [.int .i64 h] := h1
  obtain ⟨e, h2, d2, _⟩ := DataW.trod_string Try.underlying9 f2
  have e2 : [c3] = [.string e] := h2
  have k2 : e.data.toList.length ≤ reachBytes := hw _ (DataW.weights_mem_each (j := 2) (t := 9) (d := .lit (.string e.data.toList)) rfl (by simp [d2]) _ (by simp [DataW.weights]))
  obtain ⟨k, h3, d3, _⟩ := DataW.trod_string Try.underlying9 f3
  have e3 : [c4] = [.string k] := h3
  have k3 : k.data.toList.length ≤ reachBytes := hw _ (DataW.weights_mem_each (j := 3) (t := 9) (d := .lit (.string k.data.toList)) rfl (by simp [d3]) _ (by simp [DataW.weights]))
  obtain ⟨b, h4, d4, _⟩ := DataW.trod_string Try.underlying9 f4
  have e4 : [c5] = [.string b] := h4
  have k4 : b.data.toList.length ≤ reachBytes := hw _ (DataW.weights_mem_each (j := 4) (t := 9) (d := .lit (.string b.data.toList)) rfl (by simp [d4]) _ (by simp [DataW.weights]))
  simp only [List.cons.injEq, and_true] at e0 e1 e2 e3 e4
  exact ⟨⟨o0, s0, h, e, k, b⟩, by rw [e0.1, e0.2, e1, e2, e3, e4]; rfl, size_le k2, size_le k3, size_le k4⟩
theorem act_fits (h : DataW.trod enc Try.prog W 0 (fun _ => true) true fuel 35 cs = some x) (hw : ∀ m ∈ x.1.weights Try.prog 35, m ≤ reachBytes) : ∃ a : Ac, cs = acells a ∧ a.Fits := by
  obtain ⟨xs, n, _, hxd, hl, hx, hf⟩ := DataW.trod_struct Try.underlying35 h
  have hl' : cs.length = 8 := hl.trans cellsAct
  have f0 := hf 0 _ rfl
  have f1 := hf 1 _ rfl
  have f2 := hf 2 _ rfl
  change DataW.trod enc Try.prog W 0 (fun _ => true) true n 3 (List.take (Try.prog.cellsOf 3) (List.drop 0 cs)) = xs[0]? at f0
  change DataW.trod enc Try.prog W 0 (fun _ => true) true n 28 (List.take (Try.prog.cellsOf 28) (List.drop 1 cs)) = xs[1]? at f1
  change DataW.trod enc Try.prog W 0 (fun _ => true) true n 33 (List.take (Try.prog.cellsOf 33) (List.drop 2 cs)) = xs[2]? at f2
  rw [cellsI] at f0
  rw [cellsU16] at f1
  rw [cellsMsg] at f2
  have hx' : xs.length = 3 := hx
  obtain ⟨x0, x1, x2, rfl⟩ := list3 hx'
  obtain ⟨c0, c1, c2, c3, c4, c5, c6, c7, rfl⟩ := list8 hl'
  rw [hxd] at hw
  simp only [DataW.weights, Try.underlying35] at hw
  obtain ⟨kd, h0, _, _⟩ := DataW.trod_int Try.underlying3 f0
  obtain ⟨nn, h1, _, w1⟩ := DataW.trod_int Try.underlying28 f1
  obtain ⟨m, h2, z1, z2, z3⟩ := msg_fits f2 (fun k hk => hw k (DataW.weights_mem_each (j := 2) (t := 33) (d := x2.1) rfl rfl k hk))
  have e0 : [c0] = [.int .i64 kd] := h0
  have e1 : [c1] = [.int .u16 nn] := h1
  have e2 : [c2, c3, c4, c5, c6, c7] = mcells m := h2
  have hb := bounds_u16 w1
  obtain ⟨y, rfl⟩ := Int.eq_ofNat_of_zero_le hb.1
  simp [mcells] at e0 e1 e2
  obtain ⟨a1, a2, a3, a4, a5, a6⟩ := e2
  refine ⟨⟨kd, y, m⟩, ?_, by show y < _; omega, z1, z2, z3⟩
  rw [e0, e1, a1, a2, a3, a4, a5, a6]
  rfl
end
/-- A slice of numbers that came in. -/
theorem open_u16s {H : Type} {enc : TypeId × Value → H} {W : World} {base : Nat} {v : Value} {d : DataW H} {p : List MemPlace} (hval : Value.okWide Try.prog W .any base 49 v)
    (h : DataW.Trod enc Try.prog W 0 (fun _ => true) true 49 v d p) : ∃ l : List Nat, Row W v (hcells l) ∧ (∀ n ∈ l, n < 65536) := by
  obtain ⟨a, len, cap, rfl⟩ := okWide_slice Try.underlying49 hval
  obtain ⟨fuel, hf⟩ := h
  rcases open_ints Try.underlying49 Try.underlying28 (by kernel_rfl) hf with ⟨hcs, _⟩ | ⟨x, l, c, zs, hcs, _, hl, hm, hz, hx, hcell, hwz⟩
  · simp [Value.cells] at hcs
    obtain ⟨rfl, rfl, rfl⟩ := hcs
    exact ⟨[], .inl ⟨rfl, rfl⟩, (fun n h => by cases h)⟩
  · simp [Value.cells] at hcs
    obtain ⟨rfl, rfl, rfl⟩ := hcs
    have hzl : zs.length = cap := by simpa using hz
    have hlen : ((zs.take len).map Int.toNat).length = len := by simp; omega
    refine ⟨(zs.take len).map Int.toNat, .inr ⟨x, cap, by rw [hcells_length, hlen], by rw [hcells_length, hlen]; omega, hm, fun i u hi => ?_⟩, fun n hn => ?_⟩
    · have hil : i < len := by have := (List.getElem?_eq_some_iff.1 hi).1; rw [hcells_length, hlen] at this; exact this
      have hjz : i < zs.length := by omega
      have hb := bounds_u16 (hwz zs[i] (List.getElem_mem hjz))
      rw [hcell i hjz, ← hi]
      simp [hcells, hjz, hil]
      omega
    · obtain ⟨z, hz1, rfl⟩ := List.mem_map.1 hn
      have hb := bounds_u16 (hwz z (List.mem_of_mem_take hz1))
      omega
/-- A slice of acts that came in. -/
theorem open_iacts {H : Type} {enc : TypeId × Value → H} {W : World} {base : Nat} {v : Value} {d : DataW H} {p : List MemPlace} (hval : Value.okWide Try.prog W .any base 22 v)
    (h : DataW.Trod enc Try.prog W 0 (fun _ => true) true 22 v d p) (hw : ∀ n ∈ d.weights Try.prog 22, n ≤ reachBytes) : ∃ l, RowOf acells W v l ∧ (∀ a ∈ l, a.Fits) :=
  open_structs (enc := acells) Try.underlying22 cellsAct Ac.Fits (fun _ _ _ hx hw => act_fits hx hw) hval h hw
/-- An act that came in. -/
theorem open_iact {H : Type} {enc : TypeId × Value → H} {W : World} {base : Nat} {v : Value} {d : DataW H} {p : List MemPlace} (hval : Value.okWide Try.prog W .any base 35 v)
    (h : DataW.Trod enc Try.prog W 0 (fun _ => true) true 35 v d p) (hw : ∀ n ∈ d.weights Try.prog 35, n ≤ reachBytes) : ∃ a : Ac, v = acv a ∧ a.Fits := by
  obtain ⟨cs, hcs, _⟩ := okWide_struct Try.underlying35 hval
  obtain ⟨fuel, hf⟩ := h
  obtain ⟨m, hm, hb⟩ := act_fits hf hw
  refine ⟨m, ?_, hb⟩
  rw [hcs] at hm ⊢
  have h1 : cs.toList = acells m := hm
  have h2 : cs = (acells m).toArray := by rw [← h1]
  rw [h2]; rfl
end Go.Proofs.Ytkdjpleedaldcaa
