/-
  WHAT THE CARDS OF THIS SEAT NEED: an act that came in.
-/
import Derived.Test.YtiaagiijjledkaaGreatDoorRows
import Derived.Test.YtiaagiijjledkaaGreatDoorLawNone
import Derived.WalkKit
import Derived.ProofKit
import Derived.OpenShut
import Derived.ChangeOld
import Derived.ChangeMaps5
import Derived.SizedLaws
import Derived.Deep.DeepHandedRow
namespace Go.Proofs.YtiaagiijjledkaaGreatDoor
open Go.ChangeShapes Go.WideShapes Go.ChangeAt Go.RowKit

theorem own : ownKnob Tryz.prog.godebug = none := by kernel_rfl
theorem laidOut : laidOutB Tryz.prog = true := laidOutQ
theorem cInt : Tryz.prog.cellsOf 3 = 1 := by kernel_rfl
theorem cBool : Tryz.prog.cellsOf 4 = 1 := by kernel_rfl
theorem cX : Tryz.prog.cellsOf 33 = 3 := by kernel_rfl
theorem cAct : Tryz.prog.cellsOf 37 = 7 := by kernel_rfl
theorem list3 {α : Type} {cs : List α} (h : cs.length = 3) : ∃ a b c, cs = [a, b, c] := by
  match cs, h with
  | [a, b, c], _ => exact ⟨a, b, c, rfl⟩
theorem list7 {α : Type} {cs : List α} (h : cs.length = 7) : ∃ a b c d e f g, cs = [a, b, c, d, e, f, g] := by
  match cs, h with
  | [a, b, c, d, e, f, g], _ => exact ⟨a, b, c, d, e, f, g, rfl⟩
section
variable {H : Type} {enc : TypeId × Value → H} {W : World} {base : Nat} {sp : Nat → Bool} {held : Bool} {fuel : Nat} {cs : List Value} {x : DataW H × List MemPlace}
theorem x_cells (h : DataW.trod enc Tryz.prog W base sp held fuel 33 cs = some x) : ∃ y : Ex, cs = xcells y ∧ y.name.size ≤ maxLen := by
  obtain ⟨xs, n, _, _, hl, hx, hf⟩ := DataW.trod_struct Tryz.underlying33 h
  have hl' : cs.length = 3 := hl.trans cX
  have f0 := hf 0 _ rfl
  have f1 := hf 1 _ rfl
  have f2 := hf 2 _ rfl
  change DataW.trod enc Tryz.prog W base sp held n 9 (List.take (Tryz.prog.cellsOf 9) (List.drop 0 cs)) = xs[0]? at f0
  change DataW.trod enc Tryz.prog W base sp held n 3 (List.take (Tryz.prog.cellsOf 3) (List.drop 1 cs)) = xs[1]? at f1
  change DataW.trod enc Tryz.prog W base sp held n 4 (List.take (Tryz.prog.cellsOf 4) (List.drop 2 cs)) = xs[2]? at f2
  rw [sCells] at f0
  rw [cInt] at f1
  rw [cBool] at f2
  have hx' : xs.length = 3 := hx
  obtain ⟨x0, x1, x2, rfl⟩ := list3 hx'
  obtain ⟨c0, c1, c2, rfl⟩ := list3 hl'
  obtain ⟨s, h0, _, z0⟩ := DataW.trod_string Tryz.underlying9 f0
  obtain ⟨k, h1, _, _⟩ := DataW.trod_int Tryz.underlying3 f1
  obtain ⟨b, h2, _⟩ := DataW.trod_bool Tryz.underlying4 f2
  have e0 : [c0] = [.string s] := h0
  have e1 : [c1] = [.int .i64 k] := h1
  have e2 : [c2] = [.bool b] := h2
  simp at e0 e1 e2
  exact ⟨⟨s, k, b⟩, by rw [e0, e1, e2]; rfl, z0⟩
theorem b_cells (h : DataW.trod enc Tryz.prog W base sp held fuel 35 cs = some x) : ∃ y : Bd, cs = bcells y ∧ y.Fit := by
  obtain ⟨xs, n, _, _, hl, hx, hf⟩ := DataW.trod_struct Tryz.underlying35 h
  have hl' : cs.length = 3 := hl.trans bCells
  have f0 := hf 0 _ rfl
  have f1 := hf 1 _ rfl
  have f2 := hf 2 _ rfl
  change DataW.trod enc Tryz.prog W base sp held n 9 (List.take (Tryz.prog.cellsOf 9) (List.drop 0 cs)) = xs[0]? at f0
  change DataW.trod enc Tryz.prog W base sp held n 9 (List.take (Tryz.prog.cellsOf 9) (List.drop 1 cs)) = xs[1]? at f1
  change DataW.trod enc Tryz.prog W base sp held n 9 (List.take (Tryz.prog.cellsOf 9) (List.drop 2 cs)) = xs[2]? at f2
  rw [sCells] at f0 f1 f2
  have hx' : xs.length = 3 := hx
  obtain ⟨x0, x1, x2, rfl⟩ := list3 hx'
  obtain ⟨c0, c1, c2, rfl⟩ := list3 hl'
  obtain ⟨s0, h0, _, z0⟩ := DataW.trod_string Tryz.underlying9 f0
  obtain ⟨s1, h1, _, z1⟩ := DataW.trod_string Tryz.underlying9 f1
  obtain ⟨s2, h2, _, z2⟩ := DataW.trod_string Tryz.underlying9 f2
  have e0 : [c0] = [.string s0] := h0
  have e1 : [c1] = [.string s1] := h1
  have e2 : [c2] = [.string s2] := h2
  simp at e0 e1 e2
  exact ⟨⟨s0, s1, s2⟩, by rw [e0, e1, e2]; rfl, z0, z1, z2⟩
theorem a_cells (h : DataW.trod enc Tryz.prog W base sp held fuel 37 cs = some x) : ∃ a : Ac, cs = acells a ∧ a.x.name.size ≤ maxLen ∧ a.b.Fit := by
  obtain ⟨xs, n, _, _, hl, hx, hf⟩ := DataW.trod_struct Tryz.underlying37 h
  have hl' : cs.length = 7 := hl.trans cAct
  have f0 := hf 0 _ rfl
  have f1 := hf 1 _ rfl
  have f2 := hf 2 _ rfl
  change DataW.trod enc Tryz.prog W base sp held n 3 (List.take (Tryz.prog.cellsOf 3) (List.drop 0 cs)) = xs[0]? at f0
  change DataW.trod enc Tryz.prog W base sp held n 33 (List.take (Tryz.prog.cellsOf 33) (List.drop 1 cs)) = xs[1]? at f1
  change DataW.trod enc Tryz.prog W base sp held n 35 (List.take (Tryz.prog.cellsOf 35) (List.drop 4 cs)) = xs[2]? at f2
  rw [cInt] at f0
  rw [cX] at f1
  rw [bCells] at f2
  have hx' : xs.length = 3 := hx
  obtain ⟨x0, x1, x2, rfl⟩ := list3 hx'
  obtain ⟨c0, c1, c2, c3, c4, c5, c6, rfl⟩ := list7 hl'
  obtain ⟨k, h0, _, _⟩ := DataW.trod_int Tryz.underlying3 f0
  obtain ⟨y, h1, z1⟩ := x_cells f1
  obtain ⟨b, h2, z2⟩ := b_cells f2
  have e0 : [c0] = [.int .i64 k] := h0
  have e1 : [c1, c2, c3] = xcells y := h1
  have e2 : [c4, c5, c6] = bcells b := h2
  simp [xcells, bcells] at e0 e1 e2
  exact ⟨⟨k, y, b⟩, by rw [e0, e1.1, e1.2.1, e1.2.2, e2.1, e2.2.1, e2.2.2]; rfl, z1, z2⟩
end
set_option maxRecDepth 20000 in
/-- An act that came in. -/
theorem open_bact {H : Type} {enc : TypeId × Value → H} {W : World} {base : Nat} {v : Value} {d : DataW H} {p : List MemPlace} (hval : Value.okWide Tryz.prog W .any base 37 v)
    (h : DataW.Trod enc Tryz.prog W 0 (fun _ => true) true 37 v d p) : ∃ a, v = acv a := by
  obtain ⟨cs, hcs, _⟩ := okWide_struct Tryz.underlying37 hval
  obtain ⟨fuel, hf⟩ := h
  obtain ⟨m, hm, _⟩ := a_cells hf
  refine ⟨m, ?_⟩
  rw [hcs] at hm ⊢
  have h1 : cs.toList = acells m := hm
  have h2 : cs = (acells m).toArray := by rw [← h1]
  rw [h2]; rfl
end Go.Proofs.YtiaagiijjledkaaGreatDoor
