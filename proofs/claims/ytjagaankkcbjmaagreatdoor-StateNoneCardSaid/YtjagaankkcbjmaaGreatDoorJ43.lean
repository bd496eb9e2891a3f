/-
  WHAT THE ROWS OF THIS SEAT NEED: acts, messages, bytes that came in; how long each can be; the tables.
-/
import Derived.Test.YtjagaankkcbjmaaGreatDoorRows
import Derived.Test.YtjagaankkcbjmaaGreatDoorJ42
import Derived.Test.YtjagaankkcbjmaaGreatDoorJ21
import Derived.WalkKit
import Derived.ProofKit
import Derived.OpenShut
import Derived.ChangeOld
import Derived.SizedLaws
import Derived.DataReads
import Derived.DataElems
import Derived.LaidLaws
import Derived.Deep.DeepHandedRow
import Derived.Lib.LaidTab
namespace Go.Proofs.YtjagaankkcbjmaaGreatDoor
open Go.ChangeShapes Go.WideShapes Go.ChangeAt Go.RowKit

theorem own : ownKnob Tryz.prog.godebug = none := by kernel_rfl
theorem laidOut : laidOutB Tryz.prog = true := by kernel_rfl
theorem cellsI : Tryz.prog.cellsOf 3 = 1 := by kernel_rfl
theorem cellsU : Tryz.prog.cellsOf 32 = 1 := by kernel_rfl
theorem cellsStr : Tryz.prog.cellsOf 9 = 1 := by kernel_rfl
theorem cellsBool : Tryz.prog.cellsOf 4 = 1 := by kernel_rfl
theorem size_le {s : ByteArray} (h : s.data.toList.length ≤ reachBytes) : s.size ≤ 140737488355328 := by
  have : s.size = s.data.toList.length := Array.length_toList.symm
  unfold reachBytes at h
  omega
theorem list2 {α : Type} {cs : List α} (h : cs.length = 2) : ∃ a0 a1, cs = [a0, a1] := by
  match cs, h with
  | [a0, a1], _ => exact ⟨a0, a1, rfl⟩
theorem list3 {α : Type} {cs : List α} (h : cs.length = 3) : ∃ a0 a1 a2, cs = [a0, a1, a2] := by
  match cs, h with
  | [a0, a1, a2], _ => exact ⟨a0, a1, a2, rfl⟩
theorem list5 {α : Type} {cs : List α} (h : cs.length = 5) : ∃ a0 a1 a2 a3 a4, cs = [a0, a1, a2, a3, a4] := by
  match cs, h with
  | [a0, a1, a2, a3, a4], _ => exact ⟨a0, a1, a2, a3, a4, rfl⟩
theorem list6 {α : Type} {cs : List α} (h : cs.length = 6) : ∃ a0 a1 a2 a3 a4 a5, cs = [a0, a1, a2, a3, a4, a5] := by
  match cs, h with
  | [a0, a1, a2, a3, a4, a5], _ => exact ⟨a0, a1, a2, a3, a4, a5, rfl⟩
theorem list8 {α : Type} {cs : List α} (h : cs.length = 8) : ∃ a0 a1 a2 a3 a4 a5 a6 a7, cs = [a0, a1, a2, a3, a4, a5, a6, a7] := by
  match cs, h with
  | [a0, a1, a2, a3, a4, a5, a6, a7], _ => exact ⟨a0, a1, a2, a3, a4, a5, a6, a7, rfl⟩
theorem list17 {α : Type} {cs : List α} (h : cs.length = 17) : ∃ a0 a1 a2 a3 a4 a5 a6 a7 a8 a9 a10 a11 a12 a13 a14 a15 a16, cs = [a0, a1, a2, a3, a4, a5, a6, a7, a8, a9, a10, a11, a12, a13, a14, a15, a16] := by
  match cs, h with
  | [a0, a1, a2, a3, a4, a5, a6, a7, a8, a9, a10, a11, a12, a13, a14, a15, a16], _ => exact ⟨a0, a1, a2, a3, a4, a5, a6, a7, a8, a9, a10, a11, a12, a13, a14, a15, a16, rfl⟩
theorem cells_ident : Tryz.prog.cellsOf 38 = 2 := by kernel_rfl
theorem cells_exch : Tryz.prog.cellsOf 34 = 3 := by kernel_rfl
theorem cells_bdg : Tryz.prog.cellsOf 36 = 3 := by kernel_rfl
theorem cells_msg : Tryz.prog.cellsOf 40 = 6 := by kernel_rfl
theorem cells_xact : Tryz.prog.cellsOf 42 = 17 := by kernel_rfl
/-- The texts are no longer than the form's reach. -/
def Ms.Small (m : Ms) : Prop := m.ex.size ≤ 140737488355328 ∧ m.key.size ≤ 140737488355328 ∧ m.body.size ≤ 140737488355328
def Ax.Small (a : Ax) : Prop := a.name.size ≤ 140737488355328 ∧ a.xn.size ≤ 140737488355328 ∧ a.be.size ≤ 140737488355328 ∧ a.bq.size ≤ 140737488355328 ∧ a.bp.size ≤ 140737488355328 ∧ a.m.Small
section
variable {H : Type} {enc : TypeId × Value → H} {W : World}
set_option maxRecDepth 20000 in
theorem ident_fits {fuel : Nat} {cs : List Value} {x : DataW H × List MemPlace} (h : DataW.trod enc Tryz.prog W 0 (fun _ => true) true fuel 38 cs = some x) : ∃ o s : Int, cs = [.int .i64 o, .int .u64 s] ∧ (-9223372036854775808 ≤ o ∧ o < 9223372036854775808) ∧ (0 ≤ s ∧ s < 18446744073709551616) := by
  obtain ⟨xs, n, _, _, hl, hx, hf⟩ := DataW.trod_struct Tryz.underlying38 h
  have hl' : cs.length = 2 := hl.trans cells_ident
  have f0 := hf 0 _ rfl
  have f1 := hf 1 _ rfl
  change DataW.trod enc Tryz.prog W 0 (fun _ => true) true n 3 (List.take (Tryz.prog.cellsOf 3) (List.drop 0 cs)) = xs[0]? at f0
  change DataW.trod enc Tryz.prog W 0 (fun _ => true) true n 32 (List.take (Tryz.prog.cellsOf 32) (List.drop 1 cs)) = xs[1]? at f1
  rw [cellsI] at f0
  rw [cellsU] at f1
  have hx' : xs.length = 2 := hx
  obtain ⟨x0, x1, rfl⟩ := list2 hx'
  obtain ⟨c0, c1, rfl⟩ := list2 hl'
  obtain ⟨o, h0, _, w0⟩ := DataW.trod_int Tryz.underlying3 f0
  have e0 : [c0] = [.int .i64 o] := h0
  have b0 := bounds_i64 w0
  obtain ⟨s, h1, _, w1⟩ := DataW.trod_int Tryz.underlying32 f1
  have e1 : [c1] = [.int .u64 s] := h1
  have b1 := bounds_u64 w1
  simp only [List.cons.injEq, and_true] at e0 e1
  exact ⟨o, s, by rw [e0, e1], by omega, by omega⟩
set_option maxRecDepth 20000 in
theorem exch_fits {fuel : Nat} {cs : List Value} {x : DataW H × List MemPlace} (h : DataW.trod enc Tryz.prog W 0 (fun _ => true) true fuel 34 cs = some x) (hw : ∀ m ∈ x.1.weights Tryz.prog 34, m ≤ reachBytes) : ∃ (n : ByteArray) (k : Int) (f : Bool), cs = [.string n, .int .i64 k, .bool f] ∧ n.size ≤ 140737488355328 ∧ (-9223372036854775808 ≤ k ∧ k < 9223372036854775808) := by
  obtain ⟨xs, n, _, hxd, hl, hx, hf⟩ := DataW.trod_struct Tryz.underlying34 h
  have hl' : cs.length = 3 := hl.trans cells_exch
  have f0 := hf 0 _ rfl
  have f1 := hf 1 _ rfl
  have f2 := hf 2 _ rfl
  change DataW.trod enc Tryz.prog W 0 (fun _ => true) true n 9 (List.take (Tryz.prog.cellsOf 9) (List.drop 0 cs)) = xs[0]? at f0
  change DataW.trod enc Tryz.prog W 0 (fun _ => true) true n 3 (List.take (Tryz.prog.cellsOf 3) (List.drop 1 cs)) = xs[1]? at f1
  change DataW.trod enc Tryz.prog W 0 (fun _ => true) true n 4 (List.take (Tryz.prog.cellsOf 4) (List.drop 2 cs)) = xs[2]? at f2
  rw [cellsStr] at f0
  rw [cellsI] at f1
  rw [cellsBool] at f2
  have hx' : xs.length = 3 := hx
  obtain ⟨x0, x1, x2, rfl⟩ := list3 hx'
  obtain ⟨c0, c1, c2, rfl⟩ := list3 hl'
  rw [hxd] at hw
  simp only [DataW.weights, Tryz.underlying34] at hw
  obtain ⟨n, h0, d0, _⟩ := DataW.trod_string Tryz.underlying9 f0
  have e0 : [c0] = [.string n] := h0
  have k0 : n.data.toList.length ≤ reachBytes := hw _ (DataW.weights_mem_each (j := 0) (t := 9) (d := .lit (.string n.data.toList)) rfl (by simp [d0]) _ (by simp [DataW.weights]))
  obtain ⟨k, h1, _, w1⟩ := DataW.trod_int Tryz.underlying3 f1
  have e1 : [c1] = [.int .i64 k] := h1
  have b1 := bounds_i64 w1
  obtain ⟨f, h2, _⟩ := DataW.trod_bool Tryz.underlying4 f2
  have e2 : [c2] = [.bool f] := h2
  simp only [List.cons.injEq, and_true] at e0 e1 e2
  exact ⟨_, _, _, by rw [e0, e1, e2], size_le k0, by omega⟩
set_option maxRecDepth 20000 in
theorem bdg_fits {fuel : Nat} {cs : List Value} {x : DataW H × List MemPlace} (h : DataW.trod enc Tryz.prog W 0 (fun _ => true) true fuel 36 cs = some x) (hw : ∀ m ∈ x.1.weights Tryz.prog 36, m ≤ reachBytes) : ∃ e q p : ByteArray, cs = [.string e, .string q, .string p] ∧ e.size ≤ 140737488355328 ∧ q.size ≤ 140737488355328 ∧ p.size ≤ 140737488355328 := by
  obtain ⟨xs, n, _, hxd, hl, hx, hf⟩ := DataW.trod_struct Tryz.underlying36 h
  have hl' : cs.length = 3 := hl.trans cells_bdg
  have f0 := hf 0 _ rfl
  have f1 := hf 1 _ rfl
  have f2 := hf 2 _ rfl
  change DataW.trod enc Tryz.prog W 0 (fun _ => true) true n 9 (List.take (Tryz.prog.cellsOf 9) (List.drop 0 cs)) = xs[0]? at f0
  change DataW.trod enc Tryz.prog W 0 (fun _ => true) true n 9 (List.take (Tryz.prog.cellsOf 9) (List.drop 1 cs)) = xs[1]? at f1
  change DataW.trod enc Tryz.prog W 0 (fun _ => true) true n 9 (List.take (Tryz.prog.cellsOf 9) (List.drop 2 cs)) = xs[2]? at f2
  rw [cellsStr] at f0
  rw [cellsStr] at f1
  rw [cellsStr] at f2
  have hx' : xs.length = 3 := hx
  obtain ⟨x0, x1, x2, rfl⟩ := list3 hx'
  obtain ⟨c0, c1, c2, rfl⟩ := list3 hl'
  rw [hxd] at hw
  simp only [DataW.weights, Tryz.underlying36] at hw
  obtain ⟨e, h0, d0, _⟩ := DataW.trod_string Tryz.underlying9 f0
  have e0 : [c0] = [.string e] := h0
  have k0 : e.data.toList.length ≤ reachBytes := hw _ (DataW.weights_mem_each (j := 0) (t := 9) (d := .lit (.string e.data.toList)) rfl (by simp [d0]) _ (by simp [DataW.weights]))
  obtain ⟨q, h1, d1, _⟩ := DataW.trod_string Tryz.underlying9 f1
  have e1 : [c1] = [.string q] := h1
  have k1 : q.data.toList.length ≤ reachBytes := hw _ (DataW.weights_mem_each (j := 1) (t := 9) (d := .lit (.string q.data.toList)) rfl (by simp [d1]) _ (by simp [DataW.weights]))
  obtain ⟨p, h2, d2, _⟩ := DataW.trod_string Tryz.underlying9 f2
  have e2 : [c2] = [.string p] := h2
  have k2 : p.data.toList.length ≤ reachBytes := hw _ (DataW.weights_mem_each (j := 2) (t := 9) (d := .lit (.string p.data.toList)) rfl (by simp [d2]) _ (by simp [DataW.weights]))
  simp only [List.cons.injEq, and_true] at e0 e1 e2
  exact ⟨_, _, _, by rw [e0, e1, e2], size_le k0, size_le k1, size_le k2⟩
set_option maxRecDepth 20000 in
theorem msg_fits {fuel : Nat} {cs : List Value} {x : DataW H × List MemPlace} (h : DataW.trod enc Tryz.prog W 0 (fun _ => true) true fuel 40 cs = some x) (hw : ∀ m ∈ x.1.weights Tryz.prog 40, m ≤ reachBytes) : ∃ m : Ms, cs = mcells m ∧ m.Fits ∧ m.Small := by
  obtain ⟨xs, n, _, hxd, hl, hx, hf⟩ := DataW.trod_struct Tryz.underlying40 h
  have hl' : cs.length = 6 := hl.trans cells_msg
  have f0 := hf 0 _ rfl
  have f1 := hf 1 _ rfl
  have f2 := hf 2 _ rfl
  have f3 := hf 3 _ rfl
  have f4 := hf 4 _ rfl
  change DataW.trod enc Tryz.prog W 0 (fun _ => true) true n 38 (List.take (Tryz.prog.cellsOf 38) (List.drop 0 cs)) = xs[0]? at f0
  change DataW.trod enc Tryz.prog W 0 (fun _ => true) true n 3 (List.take (Tryz.prog.cellsOf 3) (List.drop 2 cs)) = xs[1]? at f1
  change DataW.trod enc Tryz.prog W 0 (fun _ => true) true n 9 (List.take (Tryz.prog.cellsOf 9) (List.drop 3 cs)) = xs[2]? at f2
  change DataW.trod enc Tryz.prog W 0 (fun _ => true) true n 9 (List.take (Tryz.prog.cellsOf 9) (List.drop 4 cs)) = xs[3]? at f3
  change DataW.trod enc Tryz.prog W 0 (fun _ => true) true n 9 (List.take (Tryz.prog.cellsOf 9) (List.drop 5 cs)) = xs[4]? at f4
  rw [cells_ident] at f0
  rw [cellsI] at f1
  rw [cellsStr] at f2
  rw [cellsStr] at f3
  rw [cellsStr] at f4
  have hx' : xs.length = 5 := hx
  obtain ⟨x0, x1, x2, x3, x4, rfl⟩ := list5 hx'
  obtain ⟨c0, c1, c2, c3, c4, c5, rfl⟩ := list6 hl'
  rw [hxd] at hw
  simp only [DataW.weights, Tryz.underlying40] at hw
  obtain ⟨o0, s0, h0, b0, g0⟩ := ident_fits f0
  have e0 : [c0, c1] = [.int .i64 o0, .int .u64 s0] := h0
  obtain ⟨h, h1, _, w1⟩ := DataW.trod_int Tryz.underlying3 f1
  have e1 : [c2] = [.int .i64 h] := h1
  have b1 := bounds_i64 w1
  obtain ⟨e, h2, d2, _⟩ := DataW.trod_string Tryz.underlying9 f2
  have e2 : [c3] = [.string e] := h2
  have k2 : e.data.toList.length ≤ reachBytes := hw _ (DataW.weights_mem_each (j := 2) (t := 9) (d := .lit (.string e.data.toList)) rfl (by simp [d2]) _ (by simp [DataW.weights]))
  obtain ⟨k, h3, d3, _⟩ := DataW.trod_string Tryz.underlying9 f3
  have e3 : [c4] = [.string k] := h3
  have k3 : k.data.toList.length ≤ reachBytes := hw _ (DataW.weights_mem_each (j := 3) (t := 9) (d := .lit (.string k.data.toList)) rfl (by simp [d3]) _ (by simp [DataW.weights]))
  obtain ⟨b, h4, d4, _⟩ := DataW.trod_string Tryz.underlying9 f4
  have e4 : [c5] = [.string b] := h4
  have k4 : b.data.toList.length ≤ reachBytes := hw _ (DataW.weights_mem_each (j := 4) (t := 9) (d := .lit (.string b.data.toList)) rfl (by simp [d4]) _ (by simp [DataW.weights]))
  simp only [List.cons.injEq, and_true] at e0 e1 e2 e3 e4
  exact ⟨⟨o0, s0, h, e, k, b⟩, by rw [e0.1, e0.2, e1, e2, e3, e4]; rfl, ⟨b0, g0, by show _ ≤ h ∧ h < _; omega, (Nat.le_trans (size_le k2) (by unfold maxLen; omega)), (Nat.le_trans (size_le k3) (by unfold maxLen; omega)), (Nat.le_trans (size_le k4) (by unfold maxLen; omega))⟩, size_le k2, size_le k3, size_le k4⟩
set_option maxRecDepth 20000 in
theorem xact_fits {fuel : Nat} {cs : List Value} {x : DataW H × List MemPlace} (h : DataW.trod enc Tryz.prog W 0 (fun _ => true) true fuel 42 cs = some x) (hw : ∀ m ∈ x.1.weights Tryz.prog 42, m ≤ reachBytes) : ∃ a : Ax, cs = xcells a ∧ a.Fits ∧ a.Small := by
  obtain ⟨xs, n, _, hxd, hl, hx, hf⟩ := DataW.trod_struct Tryz.underlying42 h
  have hl' : cs.length = 17 := hl.trans cells_xact
  have f0 := hf 0 _ rfl
  have f1 := hf 1 _ rfl
  have f2 := hf 2 _ rfl
  have f3 := hf 3 _ rfl
  have f4 := hf 4 _ rfl
  have f5 := hf 5 _ rfl
  have f6 := hf 6 _ rfl
  have f7 := hf 7 _ rfl
  change DataW.trod enc Tryz.prog W 0 (fun _ => true) true n 3 (List.take (Tryz.prog.cellsOf 3) (List.drop 0 cs)) = xs[0]? at f0
  change DataW.trod enc Tryz.prog W 0 (fun _ => true) true n 9 (List.take (Tryz.prog.cellsOf 9) (List.drop 1 cs)) = xs[1]? at f1
  change DataW.trod enc Tryz.prog W 0 (fun _ => true) true n 3 (List.take (Tryz.prog.cellsOf 3) (List.drop 2 cs)) = xs[2]? at f2
  change DataW.trod enc Tryz.prog W 0 (fun _ => true) true n 32 (List.take (Tryz.prog.cellsOf 32) (List.drop 3 cs)) = xs[3]? at f3
  change DataW.trod enc Tryz.prog W 0 (fun _ => true) true n 3 (List.take (Tryz.prog.cellsOf 3) (List.drop 4 cs)) = xs[4]? at f4
  change DataW.trod enc Tryz.prog W 0 (fun _ => true) true n 34 (List.take (Tryz.prog.cellsOf 34) (List.drop 5 cs)) = xs[5]? at f5
  change DataW.trod enc Tryz.prog W 0 (fun _ => true) true n 36 (List.take (Tryz.prog.cellsOf 36) (List.drop 8 cs)) = xs[6]? at f6
  change DataW.trod enc Tryz.prog W 0 (fun _ => true) true n 40 (List.take (Tryz.prog.cellsOf 40) (List.drop 11 cs)) = xs[7]? at f7
  rw [cellsI] at f0
  rw [cellsStr] at f1
  rw [cellsI] at f2
  rw [cellsU] at f3
  rw [cellsI] at f4
  rw [cells_exch] at f5
  rw [cells_bdg] at f6
  rw [cells_msg] at f7
  have hx' : xs.length = 8 := hx
  obtain ⟨x0, x1, x2, x3, x4, x5, x6, x7, rfl⟩ := list8 hx'
  obtain ⟨c0, c1, c2, c3, c4, c5, c6, c7, c8, c9, c10, c11, c12, c13, c14, c15, c16, rfl⟩ := list17 hl'
  rw [hxd] at hw
  simp only [DataW.weights, Tryz.underlying42] at hw
  obtain ⟨kd, h0, _, w0⟩ := DataW.trod_int Tryz.underlying3 f0
  have e0 : [c0] = [.int .i64 kd] := h0
  have b0 := bounds_i64 w0
  obtain ⟨nm, h1, d1, _⟩ := DataW.trod_string Tryz.underlying9 f1
  have e1 : [c1] = [.string nm] := h1
  have k1 : nm.data.toList.length ≤ reachBytes := hw _ (DataW.weights_mem_each (j := 1) (t := 9) (d := .lit (.string nm.data.toList)) rfl (by simp [d1]) _ (by simp [DataW.weights]))
  obtain ⟨n, h2, _, w2⟩ := DataW.trod_int Tryz.underlying3 f2
  have e2 : [c2] = [.int .i64 n] := h2
  have b2 := bounds_i64 w2
  obtain ⟨tg, h3, _, w3⟩ := DataW.trod_int Tryz.underlying32 f3
  have e3 : [c3] = [.int .u64 tg] := h3
  have b3 := bounds_u64 w3
  obtain ⟨tt, h4, _, w4⟩ := DataW.trod_int Tryz.underlying3 f4
  have e4 : [c4] = [.int .i64 tt] := h4
  have b4 := bounds_i64 w4
  obtain ⟨n5, k5, q5, h5, b5, g5⟩ := exch_fits f5 (fun k hk => hw k (DataW.weights_mem_each (j := 5) (t := 34) (d := x5.1) rfl rfl k hk))
  have e5 : [c5, c6, c7] = [.string n5, .int .i64 k5, .bool q5] := h5
  obtain ⟨e6a, e6b, e6c, h6, b6, g6, r6⟩ := bdg_fits f6 (fun k hk => hw k (DataW.weights_mem_each (j := 6) (t := 36) (d := x6.1) rfl rfl k hk))
  have e6 : [c8, c9, c10] = [.string e6a, .string e6b, .string e6c] := h6
  obtain ⟨m7, h7, b7, g7⟩ := msg_fits f7 (fun k hk => hw k (DataW.weights_mem_each (j := 7) (t := 40) (d := x7.1) rfl rfl k hk))
  have e7 : [c11, c12, c13, c14, c15, c16] = mcells m7 := h7
  simp only [mcells] at e7
  simp only [List.cons.injEq, and_true] at e0 e1 e2 e3 e4 e5 e6 e7
  exact ⟨⟨kd, nm, n, tg, tt, n5, k5, q5, e6a, e6b, e6c, m7⟩, by rw [e0, e1, e2, e3, e4, e5.1, e5.2.1, e5.2.2, e6.1, e6.2.1, e6.2.2, e7.1, e7.2.1, e7.2.2.1, e7.2.2.2.1, e7.2.2.2.2.1, e7.2.2.2.2.2]; rfl, ⟨by show _ ≤ kd ∧ kd < _; omega, (Nat.le_trans (size_le k1) (by unfold maxLen; omega)), by show _ ≤ n ∧ n < _; omega, by show _ ≤ tg ∧ tg < _; omega, by show _ ≤ tt ∧ tt < _; omega, Nat.le_trans b5 (by unfold maxLen; omega), g5, Nat.le_trans b6 (by unfold maxLen; omega), Nat.le_trans g6 (by unfold maxLen; omega), Nat.le_trans r6 (by unfold maxLen; omega), b7⟩, size_le k1, b5, b6, g6, r6, g7⟩
end
set_option maxRecDepth 20000 in
theorem open_xact {H : Type} {enc : TypeId × Value → H} {W : World} {base : Nat} {v : Value} {d : DataW H} {p : List MemPlace} (hval : Value.okWide Tryz.prog W .any base 42 v)
    (h : DataW.Trod enc Tryz.prog W 0 (fun _ => true) true 42 v d p) (hw : ∀ n ∈ d.weights Tryz.prog 42, n ≤ reachBytes) : ∃ a : Ax, v = av a ∧ a.Fits ∧ a.Small := by
  obtain ⟨cs, hcs, _⟩ := okWide_struct Tryz.underlying42 hval
  obtain ⟨fuel, hf⟩ := h
  obtain ⟨m, hm, hb, hs⟩ := xact_fits hf hw
  refine ⟨m, ?_, hb, hs⟩
  rw [hcs] at hm ⊢
  have h1 : cs.toList = xcells m := hm
  have h2 : cs = (xcells m).toArray := by rw [← h1]
  rw [h2]; rfl
abbrev twv (m n : Ms) : Value := .agg #[.int .i64 m.origin, .int .u64 m.seq, .int .i64 m.hop, .string m.ex, .string m.key, .string m.body, .int .i64 n.origin, .int .u64 n.seq, .int .i64 n.hop, .string n.ex, .string n.key, .string n.body]
end Go.Proofs.YtjagaankkcbjmaaGreatDoor
