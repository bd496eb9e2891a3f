/-
  WHAT ALL CARDS OF THIS SEAT NEED: the table as the row lists it; an act, acts, a window's numbers that came in.
-/
import Derived.Test.YthdoilinpeheiaaDoorRows
import Derived.Test.YthdoilinpeheiaaDoorBounds20
import Derived.Test.YthdoilinpeheiaaDoorLawAgain20
import Derived.Test.YthdoilinpeheiaaDoorStructs
import Derived.WalkKit
import Derived.ProofKit
import Derived.OpenShut
import Derived.ChangeOld
import Derived.SizedLaws
import Derived.DataReads
import Derived.DataElems
import Derived.LaidLaws
import Derived.Deep.DeepHandedRow
import Derived.Lib.LaidTab
namespace Go.Proofs.YthdoilinpeheiaaDoor
open Go.ChangeShapes Go.WideShapes Go.ChangeAt Go.RowKit
set_option maxRecDepth 20000

theorem own : ownKnob Tryd.prog.godebug = none := by kernel_rfl
theorem laidOut : laidOutB Tryd.prog = true := by kernel_rfl
theorem gTab : Tryd.prog.globalNamed "math/bits.deBruijn64tab" = some 0 := by kernel_rfl
theorem gTabType : (Tryd.prog.globals[0]?).map (·.type) = some 74 := by kernel_rfl
theorem cellsTab : Tryd.prog.cellsOf 74 = 64 := by kernel_rfl
theorem cellsByte : Tryd.prog.cellsOf 5 = 1 := by kernel_rfl
theorem cellsI : Tryd.prog.cellsOf 3 = 1 := by kernel_rfl
theorem cellsU : Tryd.prog.cellsOf 29 = 1 := by kernel_rfl
theorem cellsUi : Tryd.prog.cellsOf 45 = 1 := by kernel_rfl
theorem cellsU16 : Tryd.prog.cellsOf 28 = 1 := by kernel_rfl
theorem cellsAct : Tryd.prog.cellsOf 31 = 5 := by kernel_rfl
theorem cellsDims : Tryd.prog.cellsOf 49 = 3 := by kernel_rfl

/-- The row's list gives the table's cells. -/
theorem tab_of {W : World} (h : laidMetH Tryd.prog [("math/bits.deBruijn64tab", Rows.laid_math_bits_deBruijn64tab)] W) : Tab W := by
  have hT : Lib.TabIs Tryd.prog W "math/bits.deBruijn64tab" .u8 (Lib.deBruijn64tab.map fun z : Nat => (z : Int)) :=
    Lib.tabIs_of_head (rest := []) gTab gTabType Tryd.underlying74 Tryd.underlying5 cellsByte cellsTab h
  intro j hj
  have hc := hT.cell gTab j (by rw [List.length_map]; exact hj)
  rw [hc]
  congr 1
  congr 1
  have hj' : j < Lib.deBruijn64tab.length := hj
  simp [List.getD, hj']

theorem list5 {α : Type} {cs : List α} (h : cs.length = 5) : ∃ a b c d e, cs = [a, b, c, d, e] := by
  match cs, h with
  | [a, b, c, d, e], _ => exact ⟨a, b, c, d, e, rfl⟩
theorem list3 {α : Type} {cs : List α} (h : cs.length = 3) : ∃ a b c, cs = [a, b, c] := by
  match cs, h with
  | [a, b, c], _ => exact ⟨a, b, c, rfl⟩
section
variable {H : Type} {enc : TypeId × Value → H} {W : World}
theorem act_fits {fuel : Nat} {cs : List Value} {x : DataW H × List MemPlace} (h : DataW.trod enc Tryd.prog W 0 (fun _ => true) true fuel 31 cs = some x) : ∃ a : Ac, cs = acells a ∧ a.Fits := by
  obtain ⟨xs, n, _, hxd, hl, hx, hf⟩ := DataW.trod_struct Tryd.underlying31 h
  have hl' : cs.length = 5 := hl.trans cellsAct
  have f0 := hf 0 _ rfl
  have f1 := hf 1 _ rfl
  have f2 := hf 2 _ rfl
  have f3 := hf 3 _ rfl
  have f4 := hf 4 _ rfl
  change DataW.trod enc Tryd.prog W 0 (fun _ => true) true n 3 (List.take (Tryd.prog.cellsOf 3) (List.drop 0 cs)) = xs[0]? at f0
  change DataW.trod enc Tryd.prog W 0 (fun _ => true) true n 3 (List.take (Tryd.prog.cellsOf 3) (List.drop 1 cs)) = xs[1]? at f1
  change DataW.trod enc Tryd.prog W 0 (fun _ => true) true n 3 (List.take (Tryd.prog.cellsOf 3) (List.drop 2 cs)) = xs[2]? at f2
  change DataW.trod enc Tryd.prog W 0 (fun _ => true) true n 28 (List.take (Tryd.prog.cellsOf 28) (List.drop 3 cs)) = xs[3]? at f3
  change DataW.trod enc Tryd.prog W 0 (fun _ => true) true n 29 (List.take (Tryd.prog.cellsOf 29) (List.drop 4 cs)) = xs[4]? at f4
  rw [cellsI] at f0 f1 f2
  rw [cellsU16] at f3
  rw [cellsU] at f4
  have hx' : xs.length = 5 := hx
  obtain ⟨x0, x1, x2, x3, x4, rfl⟩ := list5 hx'
  obtain ⟨c0, c1, c2, c3, c4, rfl⟩ := list5 hl'
  obtain ⟨kd, h0, _, w0⟩ := DataW.trod_int Tryd.underlying3 f0
  obtain ⟨hv, h1, _, w1⟩ := DataW.trod_int Tryd.underlying3 f1
  obtain ⟨nw, h2, _, w2⟩ := DataW.trod_int Tryd.underlying3 f2
  obtain ⟨nn, h3, _, w3⟩ := DataW.trod_int Tryd.underlying28 f3
  obtain ⟨tt, h4, _, w4⟩ := DataW.trod_int Tryd.underlying29 f4
  have e0 : [c0] = [.int .i64 kd] := h0
  have e1 : [c1] = [.int .i64 hv] := h1
  have e2 : [c2] = [.int .i64 nw] := h2
  have e3 : [c3] = [.int .u16 nn] := h3
  have e4 : [c4] = [.int .u64 tt] := h4
  simp at e0 e1 e2 e3 e4
  have b1 := bounds_i64 w1
  have b2 := bounds_i64 w2
  have b3 := bounds_u16 w3
  have b4 := bounds_u64 w4
  obtain ⟨y, rfl⟩ := Int.eq_ofNat_of_zero_le b3.1
  obtain ⟨z, rfl⟩ := Int.eq_ofNat_of_zero_le b4.1
  exact ⟨⟨kd, hv, nw, y, z⟩, by rw [e0, e1, e2, e3, e4]; rfl, ⟨by show _ ≤ hv; omega, by show hv ≤ _; omega⟩, ⟨by show _ ≤ nw; omega, by show nw ≤ _; omega⟩, by show y < _; omega, by show z < _; omega⟩
theorem dims_fits {fuel : Nat} {cs : List Value} {x : DataW H × List MemPlace} (h : DataW.trod enc Tryd.prog W 0 (fun _ => true) true fuel 49 cs = some x) : ∃ d : Dm, cs = [.int .u64 d.s, .int .u64 d.t, .int .u64 d.h] ∧ d.Fits := by
  obtain ⟨xs, n, _, hxd, hl, hx, hf⟩ := DataW.trod_struct Tryd.underlying49 h
  have hl' : cs.length = 3 := hl.trans cellsDims
  have f0 := hf 0 _ rfl
  have f1 := hf 1 _ rfl
  have f2 := hf 2 _ rfl
  change DataW.trod enc Tryd.prog W 0 (fun _ => true) true n 45 (List.take (Tryd.prog.cellsOf 45) (List.drop 0 cs)) = xs[0]? at f0
  change DataW.trod enc Tryd.prog W 0 (fun _ => true) true n 45 (List.take (Tryd.prog.cellsOf 45) (List.drop 1 cs)) = xs[1]? at f1
  change DataW.trod enc Tryd.prog W 0 (fun _ => true) true n 45 (List.take (Tryd.prog.cellsOf 45) (List.drop 2 cs)) = xs[2]? at f2
  rw [cellsUi] at f0 f1 f2
  have hx' : xs.length = 3 := hx
  obtain ⟨x0, x1, x2, rfl⟩ := list3 hx'
  obtain ⟨c0, c1, c2, rfl⟩ := list3 hl'
  obtain ⟨s, h0, _, w0⟩ := DataW.trod_int Tryd.underlying45 f0
  obtain ⟨t, h1, _, w1⟩ := DataW.trod_int Tryd.underlying45 f1
  obtain ⟨g, h2, _, w2⟩ := DataW.trod_int Tryd.underlying45 f2
  have e0 : [c0] = [.int .u64 s] := h0
  have e1 : [c1] = [.int .u64 t] := h1
  have e2 : [c2] = [.int .u64 g] := h2
  simp at e0 e1 e2
  have b0 := bounds_u64 w0
  have b1 := bounds_u64 w1
  have b2 := bounds_u64 w2
  obtain ⟨s, rfl⟩ := Int.eq_ofNat_of_zero_le b0.1
  obtain ⟨t, rfl⟩ := Int.eq_ofNat_of_zero_le b1.1
  obtain ⟨g, rfl⟩ := Int.eq_ofNat_of_zero_le b2.1
  exact ⟨⟨s, t, g⟩, by rw [e0, e1, e2], by show s < _; omega, by show t < _; omega, by show g < _; omega⟩
end
/-- A slice of acts that came in. -/
theorem open_wacts {H : Type} {enc : TypeId × Value → H} {W : World} {base : Nat} {v : Value} {d : DataW H} {p : List MemPlace} (hval : Value.okWide Tryd.prog W .any base 22 v)
    (h : DataW.Trod enc Tryd.prog W 0 (fun _ => true) true 22 v d p) (hw : ∀ n ∈ d.weights Tryd.prog 22, n ≤ reachBytes) : ∃ l, K.RowOf acells W v l ∧ (∀ a ∈ l, a.Fits) :=
  K.open_structs (enc := acells) Tryd.underlying22 cellsAct Ac.Fits (fun _ _ _ hx _ => act_fits hx) hval h hw
/-- An act that came in. -/
theorem open_wact {H : Type} {enc : TypeId × Value → H} {W : World} {base : Nat} {v : Value} {d : DataW H} {p : List MemPlace} (hval : Value.okWide Tryd.prog W .any base 31 v)
    (h : DataW.Trod enc Tryd.prog W 0 (fun _ => true) true 31 v d p) (_hw : ∀ n ∈ d.weights Tryd.prog 31, n ≤ reachBytes) : ∃ a : Ac, v = acv a ∧ a.Fits := by
  obtain ⟨cs, hcs, _⟩ := okWide_struct Tryd.underlying31 hval
  obtain ⟨fuel, hf⟩ := h
  obtain ⟨m, hm, hb⟩ := act_fits hf
  refine ⟨m, ?_, hb⟩
  rw [hcs] at hm ⊢
  have h1 : cs.toList = acells m := hm
  have h2 : cs = (acells m).toArray := by rw [← h1]
  rw [h2]; rfl
/-- A window's numbers that came in. -/
theorem open_dims {H : Type} {enc : TypeId × Value → H} {W : World} {base : Nat} {v : Value} {d : DataW H} {p : List MemPlace} (hval : Value.okWide Tryd.prog W .any base 49 v)
    (h : DataW.Trod enc Tryd.prog W 0 (fun _ => true) true 49 v d p) : ∃ a : Dm, v = dmv a ∧ a.Fits := by
  obtain ⟨cs, hcs, _⟩ := okWide_struct Tryd.underlying49 hval
  obtain ⟨fuel, hf⟩ := h
  obtain ⟨m, hm, hb⟩ := dims_fits hf
  refine ⟨m, ?_, hb⟩
  rw [hcs] at hm ⊢
  have h1 : cs.toList = [.int .u64 m.s, .int .u64 m.t, .int .u64 m.h] := hm
  have h2 : cs = #[.int .u64 m.s, .int .u64 m.t, .int .u64 m.h] := by apply Array.ext'; exact h1
  rw [h2]
end Go.Proofs.YthdoilinpeheiaaDoor
