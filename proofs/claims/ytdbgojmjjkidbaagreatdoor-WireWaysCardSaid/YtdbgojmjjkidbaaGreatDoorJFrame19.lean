/-
  WHAT THE ROWS OF THIS SEAT NEED: packets that came in; how long each can be; the tables.
-/
import Derived.Test.YtdbgojmjjkidbaaGreatDoorRows
import Derived.Test.YtdbgojmjjkidbaaGreatDoorJFlip22
import Derived.WalkKit
import Derived.ProofKit
import Derived.OpenShut
import Derived.ChangeOld
import Derived.SizedLaws
import Derived.DataReads
import Derived.DataElems
import Derived.LaidLaws
import Derived.Deep.DeepHandedRow
import Derived.Lib.LaidTab
namespace Go.Proofs.YtdbgojmjjkidbaaGreatDoor
open Go.ChangeShapes Go.WideShapes Go.ChangeAt Go.RowKit

theorem own : ownKnob Tryz.prog.godebug = none := by kernel_rfl
theorem laidOut : laidOutB Tryz.prog = true := by kernel_rfl
theorem cellsI : Tryz.prog.cellsOf 3 = 1 := by kernel_rfl
theorem cellsU : Tryz.prog.cellsOf 28 = 1 := by kernel_rfl
theorem cellsStr : Tryz.prog.cellsOf 9 = 1 := by kernel_rfl
theorem cellsH : Tryz.prog.cellsOf 29 = 1 := by kernel_rfl
theorem size_le {s : ByteArray} (h : s.data.toList.length ≤ reachBytes) : s.size ≤ 140737488355328 := by
  have : s.size = s.data.toList.length := Array.length_toList.symm
  unfold reachBytes at h
  omega
theorem list2 {α : Type} {cs : List α} (h : cs.length = 2) : ∃ a0 a1, cs = [a0, a1] := by
  match cs, h with
  | [a0, a1], _ => exact ⟨a0, a1, rfl⟩
theorem list3 {α : Type} {cs : List α} (h : cs.length = 3) : ∃ a0 a1 a2, cs = [a0, a1, a2] := by
  match cs, h with
  | [a0, a1, a2], _ => exact ⟨a0, a1, a2, rfl⟩
theorem list5 {α : Type} {cs : List α} (h : cs.length = 5) : ∃ a0 a1 a2 a3 a4, cs = [a0, a1, a2, a3, a4] := by
  match cs, h with
  | [a0, a1, a2, a3, a4], _ => exact ⟨a0, a1, a2, a3, a4, rfl⟩
theorem list6 {α : Type} {cs : List α} (h : cs.length = 6) : ∃ a0 a1 a2 a3 a4 a5, cs = [a0, a1, a2, a3, a4, a5] := by
  match cs, h with
  | [a0, a1, a2, a3, a4, a5], _ => exact ⟨a0, a1, a2, a3, a4, a5, rfl⟩
theorem list7 {α : Type} {cs : List α} (h : cs.length = 7) : ∃ a0 a1 a2 a3 a4 a5 a6, cs = [a0, a1, a2, a3, a4, a5, a6] := by
  match cs, h with
  | [a0, a1, a2, a3, a4, a5, a6], _ => exact ⟨a0, a1, a2, a3, a4, a5, a6, rfl⟩
theorem list12 {α : Type} {cs : List α} (h : cs.length = 12) : ∃ a0 a1 a2 a3 a4 a5 a6 a7 a8 a9 a10 a11, cs = [a0, a1, a2, a3, a4, a5, a6, a7, a8, a9, a10, a11] := by
  match cs, h with
  | [a0, a1, a2, a3, a4, a5, a6, a7, a8, a9, a10, a11], _ => exact ⟨a0, a1, a2, a3, a4, a5, a6, a7, a8, a9, a10, a11, rfl⟩
theorem cells_ident : Tryz.prog.cellsOf 31 = 2 := by kernel_rfl
theorem cells_msg : Tryz.prog.cellsOf 33 = 6 := by kernel_rfl
theorem cells_pack : Tryz.prog.cellsOf 35 = 12 := by kernel_rfl
/-- The texts are no longer than the form's reach. -/
def Ms.Small (m : Ms) : Prop := m.ex.size ≤ 140737488355328 ∧ m.key.size ≤ 140737488355328 ∧ m.body.size ≤ 140737488355328
theorem Ms.Small.sum {m : Ms} (h : m.Small) : m.Sum := by
  obtain ⟨h1, h2, h3⟩ := h
  unfold Ms.Sum
  omega
section
variable {H : Type} {enc : TypeId × Value → H} {W : World}
set_option maxRecDepth 20000 in
theorem ident_fits {fuel : Nat} {cs : List Value} {x : DataW H × List MemPlace} (h : DataW.trod enc Tryz.prog W 0 (fun _ => true) true fuel 31 cs = some x) : ∃ o s : Int, cs = [.int .i64 o, .int .u64 s] ∧ (-9223372036854775808 ≤ o ∧ o < 9223372036854775808) ∧ (0 ≤ s ∧ s < 18446744073709551616) := by
  obtain ⟨xs, n, _, _, hl, hx, hf⟩ := DataW.trod_struct Tryz.underlying31 h
  have hl' : cs.length = 2 := hl.trans cells_ident
  have f0 := hf 0 _ rfl
  have f1 := hf 1 _ rfl
  change DataW.trod enc Tryz.prog W 0 (fun _ => true) true n 3 (List.take (Tryz.prog.cellsOf 3) (List.drop 0 cs)) = xs[0]? at f0
  change DataW.trod enc Tryz.prog W 0 (fun _ => true) true n 28 (List.take (Tryz.prog.cellsOf 28) (List.drop 1 cs)) = xs[1]? at f1
  rw [cellsI] at f0
  rw [cellsU] at f1
  have hx' : xs.length = 2 := hx
  obtain ⟨x0, x1, rfl⟩ := list2 hx'
  obtain ⟨c0, c1, rfl⟩ := list2 hl'
  obtain ⟨o, h0, _, w0⟩ := DataW.trod_int Tryz.underlying3 f0
  have e0 : [c0] = [.int .i64 o] := h0
  have b0 := bounds_i64 w0
  obtain ⟨s, h1, _, w1⟩ := DataW.trod_int Tryz.underlying28 f1
  have e1 : [c1] = [.int .u64 s] := h1
  have b1 := bounds_u64 w1
  simp only [List.cons.injEq, and_true] at e0 e1
  exact ⟨o, s, by rw [e0, e1], by omega, by omega⟩
set_option maxRecDepth 20000 in
theorem msg_fits {fuel : Nat} {cs : List Value} {x : DataW H × List MemPlace} (h : DataW.trod enc Tryz.prog W 0 (fun _ => true) true fuel 33 cs = some x) (hw : ∀ m ∈ x.1.weights Tryz.prog 33, m ≤ reachBytes) : ∃ m : Ms, cs = mcells m ∧ m.Fits ∧ m.Small := by
  obtain ⟨xs, n, _, hxd, hl, hx, hf⟩ := DataW.trod_struct Tryz.underlying33 h
  have hl' : cs.length = 6 := hl.trans cells_msg
  have f0 := hf 0 _ rfl
  have f1 := hf 1 _ rfl
  have f2 := hf 2 _ rfl
  have f3 := hf 3 _ rfl
  have f4 := hf 4 _ rfl
  change DataW.trod enc Tryz.prog W 0 (fun _ => true) true n 31 (List.take (Tryz.prog.cellsOf 31) (List.drop 0 cs)) = xs[0]? at f0
  change DataW.trod enc Tryz.prog W 0 (fun _ => true) true n 3 (List.take (Tryz.prog.cellsOf 3) (List.drop 2 cs)) = xs[1]? at f1
  change DataW.trod enc Tryz.prog W 0 (fun _ => true) true n 9 (List.take (Tryz.prog.cellsOf 9) (List.drop 3 cs)) = xs[2]? at f2
  change DataW.trod enc Tryz.prog W 0 (fun _ => true) true n 9 (List.take (Tryz.prog.cellsOf 9) (List.drop 4 cs)) = xs[3]? at f3
  change DataW.trod enc Tryz.prog W 0 (fun _ => true) true n 9 (List.take (Tryz.prog.cellsOf 9) (List.drop 5 cs)) = xs[4]? at f4
  rw [cells_ident] at f0
  rw [cellsI] at f1
  rw [cellsStr] at f2
  rw [cellsStr] at f3
  rw [cellsStr] at f4
  have hx' : xs.length = 5 := hx
  obtain ⟨x0, x1, x2, x3, x4, rfl⟩ := list5 hx'
  obtain ⟨c0, c1, c2, c3, c4, c5, rfl⟩ := list6 hl'
  rw [hxd] at hw
  simp only [DataW.weights, Tryz.underlying33] at hw
  obtain ⟨o0, s0, h0, b0, g0⟩ := ident_fits f0
  have e0 : [c0, c1] = [.int .i64 o0, .int .u64 s0] := h0
  obtain ⟨h, h1, _, w1⟩ := DataW.trod_int Tryz.underlying3 f1
  have e1 : [c2] = [.int .i64 h] := h1
  have b1 := bounds_i64 w1
  obtain ⟨e, h2, d2, _⟩ := DataW.trod_string Tryz.underlying9 f2
  have e2 : [c3] = [.string e] := h2
  have k2 : e.data.toList.length ≤ reachBytes := hw _ (DataW.weights_mem_each (j := 2) (t := 9) (d := .lit (.string e.data.toList)) rfl (by simp [d2]) _ (by simp [DataW.weights]))
  obtain ⟨k, h3, d3, _⟩ := DataW.trod_string Tryz.underlying9 f3
  have e3 : [c4] = [.string k] := h3
  have k3 : k.data.toList.length ≤ reachBytes := hw _ (DataW.weights_mem_each (j := 3) (t := 9) (d := .lit (.string k.data.toList)) rfl (by simp [d3]) _ (by simp [DataW.weights]))
  obtain ⟨b, h4, d4, _⟩ := DataW.trod_string Tryz.underlying9 f4
  have e4 : [c5] = [.string b] := h4
  have k4 : b.data.toList.length ≤ reachBytes := hw _ (DataW.weights_mem_each (j := 4) (t := 9) (d := .lit (.string b.data.toList)) rfl (by simp [d4]) _ (by simp [DataW.weights]))
  simp only [List.cons.injEq, and_true] at e0 e1 e2 e3 e4
  exact ⟨⟨o0, s0, h, e, k, b⟩, by rw [e0.1, e0.2, e1, e2, e3, e4]; rfl, ⟨b0, g0, by show _ ≤ h ∧ h < _; omega, (Nat.le_trans (size_le k2) (by unfold maxLen; omega)), (Nat.le_trans (size_le k3) (by unfold maxLen; omega)), (Nat.le_trans (size_le k4) (by unfold maxLen; omega))⟩, size_le k2, size_le k3, size_le k4⟩
set_option maxRecDepth 20000 in
theorem pack_fits {fuel : Nat} {cs : List Value} {x : DataW H × List MemPlace} (h : DataW.trod enc Tryz.prog W 0 (fun _ => true) true fuel 35 cs = some x) (hw : ∀ m ∈ x.1.weights Tryz.prog 35, m ≤ reachBytes) : ∃ a : Pk, cs = pcells a ∧ a.Fits ∧ a.m.Small := by
  obtain ⟨xs, n, _, hxd, hl, hx, hf⟩ := DataW.trod_struct Tryz.underlying35 h
  have hl' : cs.length = 12 := hl.trans cells_pack
  have f0 := hf 0 _ rfl
  have f1 := hf 1 _ rfl
  have f2 := hf 2 _ rfl
  have f3 := hf 3 _ rfl
  have f4 := hf 4 _ rfl
  have f5 := hf 5 _ rfl
  have f6 := hf 6 _ rfl
  change DataW.trod enc Tryz.prog W 0 (fun _ => true) true n 3 (List.take (Tryz.prog.cellsOf 3) (List.drop 0 cs)) = xs[0]? at f0
  change DataW.trod enc Tryz.prog W 0 (fun _ => true) true n 3 (List.take (Tryz.prog.cellsOf 3) (List.drop 1 cs)) = xs[1]? at f1
  change DataW.trod enc Tryz.prog W 0 (fun _ => true) true n 3 (List.take (Tryz.prog.cellsOf 3) (List.drop 2 cs)) = xs[2]? at f2
  change DataW.trod enc Tryz.prog W 0 (fun _ => true) true n 28 (List.take (Tryz.prog.cellsOf 28) (List.drop 3 cs)) = xs[3]? at f3
  change DataW.trod enc Tryz.prog W 0 (fun _ => true) true n 29 (List.take (Tryz.prog.cellsOf 29) (List.drop 4 cs)) = xs[4]? at f4
  change DataW.trod enc Tryz.prog W 0 (fun _ => true) true n 28 (List.take (Tryz.prog.cellsOf 28) (List.drop 5 cs)) = xs[5]? at f5
  change DataW.trod enc Tryz.prog W 0 (fun _ => true) true n 33 (List.take (Tryz.prog.cellsOf 33) (List.drop 6 cs)) = xs[6]? at f6
  rw [cellsI] at f0
  rw [cellsI] at f1
  rw [cellsI] at f2
  rw [cellsU] at f3
  rw [cellsH] at f4
  rw [cellsU] at f5
  rw [cells_msg] at f6
  have hx' : xs.length = 7 := hx
  obtain ⟨x0, x1, x2, x3, x4, x5, x6, rfl⟩ := list7 hx'
  obtain ⟨c0, c1, c2, c3, c4, c5, c6, c7, c8, c9, c10, c11, rfl⟩ := list12 hl'
  rw [hxd] at hw
  simp only [DataW.weights, Tryz.underlying35] at hw
  obtain ⟨kd, h0, _, w0⟩ := DataW.trod_int Tryz.underlying3 f0
  have e0 : [c0] = [.int .i64 kd] := h0
  have b0 := bounds_i64 w0
  obtain ⟨fr, h1, _, w1⟩ := DataW.trod_int Tryz.underlying3 f1
  have e1 : [c1] = [.int .i64 fr] := h1
  have b1 := bounds_i64 w1
  obtain ⟨ds, h2, _, w2⟩ := DataW.trod_int Tryz.underlying3 f2
  have e2 : [c2] = [.int .i64 ds] := h2
  have b2 := bounds_i64 w2
  obtain ⟨ep, h3, _, w3⟩ := DataW.trod_int Tryz.underlying28 f3
  have e3 : [c3] = [.int .u64 ep] := h3
  have b3 := bounds_u64 w3
  obtain ⟨nu, h4, _, w4⟩ := DataW.trod_int Tryz.underlying29 f4
  have e4 : [c4] = [.int .u16 nu] := h4
  have b4 := bounds_u16 w4
  obtain ⟨mk, h5, _, w5⟩ := DataW.trod_int Tryz.underlying28 f5
  have e5 : [c5] = [.int .u64 mk] := h5
  have b5 := bounds_u64 w5
  obtain ⟨m6, h6, b6, g6⟩ := msg_fits f6 (fun k hk => hw k (DataW.weights_mem_each (j := 6) (t := 33) (d := x6.1) rfl rfl k hk))
  have e6 : [c6, c7, c8, c9, c10, c11] = mcells m6 := h6
  simp only [mcells] at e6
  simp only [List.cons.injEq, and_true] at e0 e1 e2 e3 e4 e5 e6
  exact ⟨⟨kd, fr, ds, ep, nu, mk, m6⟩, by rw [e0, e1, e2, e3, e4, e5, e6.1, e6.2.1, e6.2.2.1, e6.2.2.2.1, e6.2.2.2.2.1, e6.2.2.2.2.2]; rfl, ⟨by show _ ≤ kd ∧ kd < _; omega, by show _ ≤ fr ∧ fr < _; omega, by show _ ≤ ds ∧ ds < _; omega, by show _ ≤ ep ∧ ep < _; omega, by show _ ≤ nu ∧ nu < _; omega, by show _ ≤ mk ∧ mk < _; omega, b6⟩, g6⟩
end
set_option maxRecDepth 20000 in
theorem open_pack {H : Type} {enc : TypeId × Value → H} {W : World} {base : Nat} {v : Value} {d : DataW H} {p : List MemPlace} (hval : Value.okWide Tryz.prog W .any base 35 v)
    (h : DataW.Trod enc Tryz.prog W 0 (fun _ => true) true 35 v d p) (hw : ∀ n ∈ d.weights Tryz.prog 35, n ≤ reachBytes) : ∃ a : Pk, v = pv a ∧ a.Fits ∧ a.m.Small := by
  obtain ⟨cs, hcs, _⟩ := okWide_struct Tryz.underlying35 hval
  obtain ⟨fuel, hf⟩ := h
  obtain ⟨m, hm, hb, hs⟩ := pack_fits hf hw
  refine ⟨m, ?_, hb, hs⟩
  rw [hcs] at hm ⊢
  have h1 : cs.toList = pcells m := hm
  have h2 : cs = (pcells m).toArray := by rw [← h1]
  rw [h2]; rfl
end Go.Proofs.YtdbgojmjjkidbaaGreatDoor

/-
  THE TABLES as the rows list them.
-/
namespace Go.Proofs.YtdbgojmjjkidbaaGreatDoor
open Go.ChangeShapes Go.WideShapes Go.ChangeAt Go.RowKit

theorem gWid : Tryz.prog.globalNamed "staith/word.widths" = some 1 := by kernel_rfl
theorem gWidType : (Tryz.prog.globals[1]?).map (·.type) = some 140 := by kernel_rfl
theorem cellsWid : Tryz.prog.cellsOf 140 = 4 := by kernel_rfl
theorem gKin : Tryz.prog.globalNamed "staith/packet.kinds" = some 0 := by kernel_rfl
theorem gKinType : (Tryz.prog.globals[0]?).map (·.type) = some 123 := by kernel_rfl
theorem cellsRow : Tryz.prog.cellsOf 99 = 3 := by kernel_rfl
theorem cellsKin : Tryz.prog.cellsOf 123 = 12 := by kernel_rfl
theorem laid_tail {P : Program} {W : World} {x : String × DataW Unit} {rest : List (String × DataW Unit)} (h : laidMet P (x :: rest) W) : laidMet P rest W := by
  obtain ⟨ps, ⟨g, t, cs, fuel, p, q, hg, ht, hv, hd, hr, rfl⟩, hn, hc⟩ := h
  exact ⟨q, hr, (List.nodup_append.1 hn).2.1, fun b off hm => hc b off (List.mem_append_right _ hm)⟩
/-- A row of the table that reads so has these three cells. -/
theorem row_cells {H : Type} {enc : TypeId × Value → H} {W : World} {fuel : Nat} {cs : List Value} {x : DataW H × List MemPlace} {sp : Nat → Bool} {held : Bool} {base : Nat} {k : Int} {l m : List UInt8} (h : DataW.trod enc Tryz.prog W base sp held fuel 99 cs = some x) (hx : x.1 = .agg [.lit (.int .i64 k), .lit (.string l), .lit (.string m)]) : cs = [.int .i64 k, .string ⟨l.toArray⟩, .string ⟨m.toArray⟩] := by
  obtain ⟨xs, n, _, hxd, hl, hxl, hf⟩ := DataW.trod_struct Tryz.underlying99 h
  have hl' : cs.length = 3 := hl.trans cellsRow
  have f0 := hf 0 _ rfl
  have f1 := hf 1 _ rfl
  have f2 := hf 2 _ rfl
  change DataW.trod enc Tryz.prog W base sp held n 3 (List.take (Tryz.prog.cellsOf 3) (List.drop 0 cs)) = xs[0]? at f0
  change DataW.trod enc Tryz.prog W base sp held n 9 (List.take (Tryz.prog.cellsOf 9) (List.drop 1 cs)) = xs[1]? at f1
  change DataW.trod enc Tryz.prog W base sp held n 9 (List.take (Tryz.prog.cellsOf 9) (List.drop 2 cs)) = xs[2]? at f2
  rw [cellsI] at f0
  rw [cellsStr] at f1 f2
  have hx' : xs.length = 3 := hxl
  obtain ⟨x0, x1, x2, rfl⟩ := list3 hx'
  obtain ⟨c0, c1, c2, rfl⟩ := list3 hl'
  obtain ⟨z, h0, d0, _⟩ := DataW.trod_int Tryz.underlying3 f0
  obtain ⟨s, h1, d1, _⟩ := DataW.trod_string Tryz.underlying9 f1
  obtain ⟨s2, h2, d2, _⟩ := DataW.trod_string Tryz.underlying9 f2
  have e0 : [c0] = [.int .i64 z] := h0
  have e1 : [c1] = [.string s] := h1
  have e2 : [c2] = [.string s2] := h2
  simp only [List.cons.injEq, and_true] at e0 e1 e2
  rw [hxd] at hx
  simp only [List.map_cons, List.map_nil, d0, d1, d2] at hx
  injection hx with hx
  simp only [List.cons.injEq, and_true] at hx
  obtain ⟨q0, q1, q2⟩ := hx
  injection q0 with q0
  injection q0 with _ q0
  injection q1 with q1
  injection q1 with q1
  injection q2 with q2
  injection q2 with q2
  rw [e0, e1, e2, q0, ← q1, ← q2]
/-- The rows of the table. -/
def kindsD : List (Int × List UInt8 × List UInt8) := [(1, [104, 101, 108, 108, 111], [101]), (2, [119, 101, 108, 99, 111, 109, 101], [97]), (3, [100, 97, 116, 97], [101, 110, 109]), (4, [97, 99, 107], [101, 110, 107])]
theorem kinds_of {W : World} {rest : List (String × DataW Unit)} (h : laidMet Tryz.prog (("staith/packet.kinds", Rows.laid_staith_packet_kinds) :: rest) W) : PKinds W := by
  obtain ⟨ps, ⟨g, t, cs, fuel, p, q, hg, ht, hv, hd, hr, _⟩, _⟩ := h
  obtain rfl := Option.some.inj (gKin.symm.trans hg)
  obtain rfl := Option.some.inj (gKinType.symm.trans ht)
  obtain ⟨xs, m, _, hxd, hl, hxl, hf⟩ := DataW.trod_array Tryz.underlying123 hd
  rw [cellsKin] at hl
  have hxs : xs.map (·.1) = kindsD.map fun r => (.agg [.lit (.int .i64 r.1), .lit (.string r.2.1), .lit (.string r.2.2)] : DataW Unit) := by
    have := congrArg Prod.fst hxd
    injection this with this
    exact this.symm
  have hrow : ∀ i (hi : i < 4), (cs.toList.drop (i * 3)).take 3 = [.int .i64 (kindsD.getD i (0, [], [])).1, .string ⟨(kindsD.getD i (0, [], [])).2.1.toArray⟩, .string ⟨(kindsD.getD i (0, [], [])).2.2.toArray⟩] := by
    intro i hi
    have h1 := hf i hi
    rw [cellsRow] at h1
    have hi' : i < xs.length := by omega
    rw [List.getElem?_eq_getElem hi'] at h1
    refine row_cells h1 ?_
    have h2 := congrArg (fun l => l[i]?) hxs
    simp only [List.getElem?_map, List.getElem?_eq_getElem hi', Option.map_some] at h2
    have hk : kindsD[i]? = some (kindsD.getD i (0, [], [])) := by
      rw [List.getD_eq_getElem?_getD, List.getElem?_eq_getElem (show i < kindsD.length from hi)]
      rfl
    rw [hk, Option.map_some] at h2
    exact Option.some.inj h2
  intro j u hj
  have hj24 : j < 12 := (List.getElem?_eq_some_iff.1 hj).1
  rw [World.var?_cell gKin hv j]
  have hi : j / 3 < 4 := by omega
  have hr := hrow (j / 3) hi
  have hc : cs.toList[j]? = ((cs.toList.drop (j / 3 * 3)).take 3)[j % 3]? := by
    rw [List.getElem?_take, if_pos (by omega), List.getElem?_drop]
    congr 1
    omega
  rw [hr] at hc
  have hcs : cs[j]? = cs.toList[j]? := by simp
  rw [hcs, hc, ← hj]
  have hb : ∀ j, j < 12 → ([Value.int .i64 (kindsD.getD (j / 3) (0, [], [])).1, .string ⟨(kindsD.getD (j / 3) (0, [], [])).2.1.toArray⟩, .string ⟨(kindsD.getD (j / 3) (0, [], [])).2.2.toArray⟩] : List Value)[j % 3]? = [Value.int .i64 1, .string ⟨#[104, 101, 108, 108, 111]⟩, .string ⟨#[101]⟩, .int .i64 2, .string ⟨#[119, 101, 108, 99, 111, 109, 101]⟩, .string ⟨#[97]⟩, .int .i64 3, .string ⟨#[100, 97, 116, 97]⟩, .string ⟨#[101, 110, 109]⟩, .int .i64 4, .string ⟨#[97, 99, 107]⟩, .string ⟨#[101, 110, 107]⟩][j]? := by
    intro j hj
    match j, hj with
    | 0, _ => rfl
    | 1, _ => rfl
    | 2, _ => rfl
    | 3, _ => rfl
    | 4, _ => rfl
    | 5, _ => rfl
    | 6, _ => rfl
    | 7, _ => rfl
    | 8, _ => rfl
    | 9, _ => rfl
    | 10, _ => rfl
    | 11, _ => rfl
    | n + 12, h => omega
  have hg := hb j hj24
  exact hg
/-- What the walks read. -/
structure Env19 (W : World) : Prop where
  tab : Tab W
  kinds : PKinds W
theorem tab_of {W : World} (h : laidMetH Tryz.prog [("staith/word.widths", Rows.laid_staith_word_widths), ("unicode/utf8.acceptRanges", Rows.laid_unicode_utf8_acceptRanges), ("staith/packet.kinds", Rows.laid_staith_packet_kinds), ("unicode/utf8.first", Rows.laid_unicode_utf8_first)] W) : Env19 W := by
  have h0 : laidMet Tryz.prog [("staith/word.widths", Rows.laid_staith_word_widths), ("unicode/utf8.acceptRanges", Rows.laid_unicode_utf8_acceptRanges), ("staith/packet.kinds", Rows.laid_staith_packet_kinds), ("unicode/utf8.first", Rows.laid_unicode_utf8_first)] W := h
  have hT : Lib.TabIs Tryz.prog W "staith/word.widths" .i64 [1, 2, 4, 8] := Lib.tabIs_of_head gWid gWidType Tryz.underlying140 Tryz.underlying3 cellsI cellsWid h0
  refine ⟨?_, kinds_of (laid_tail (laid_tail h0))⟩
  intro j u hj
  match j, hj with
  | 0, hj => cases hj; exact hT.cell gWid 0 (by decide)
  | 1, hj => cases hj; exact hT.cell gWid 1 (by decide)
  | 2, hj => cases hj; exact hT.cell gWid 2 (by decide)
  | 3, hj => cases hj; exact hT.cell gWid 3 (by decide)
  | j + 4, hj => simp at hj
end Go.Proofs.YtdbgojmjjkidbaaGreatDoor
