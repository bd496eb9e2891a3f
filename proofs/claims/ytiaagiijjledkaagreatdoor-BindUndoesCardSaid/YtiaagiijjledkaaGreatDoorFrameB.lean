/-
  WHAT THE CARDS OF THIS SEAT NEED BESIDES: a slice of acts that came in.
-/
import Derived.Test.YtiaagiijjledkaaGreatDoorFrame
import Derived.Test.YtiaagiijjledkaaGreatDoorStructs
import Derived.Test.YtiaagiijjledkaaGreatDoorActs
namespace Go.Proofs.YtiaagiijjledkaaGreatDoor
open Go.ChangeShapes Go.WideShapes Go.ChangeAt Go.RowKit

theorem size_le {s : ByteArray} (h : s.data.toList.length ≤ reachBytes) : s.size ≤ 140737488355328 := by
  have : s.size = s.data.toList.length := Array.length_toList.symm
  unfold reachBytes at h
  omega
section
variable {H : Type} {enc : TypeId × Value → H} {W : World} {base : Nat} {sp : Nat → Bool} {held : Bool} {fuel : Nat} {cs : List Value} {x : DataW H × List MemPlace}
theorem x_cells2 (h : DataW.trod enc Tryz.prog W base sp held fuel 33 cs = some x) : ∃ y : Ex, cs = xcells y ∧ y.name.size ≤ maxLen ∧ ((∀ m ∈ x.1.weights Tryz.prog 33, m ≤ reachBytes) → y.name.size ≤ 140737488355328) := by
  obtain ⟨xs, n, _, hxd, hl, hx, hf⟩ := DataW.trod_struct Tryz.underlying33 h
  have hl' : cs.length = 3 := hl.trans cX
  have f0 := hf 0 _ rfl
  have f1 := hf 1 _ rfl
  have f2 := hf 2 _ rfl
  change DataW.trod enc Tryz.prog W base sp held n 9 (List.take (Tryz.prog.cellsOf 9) (List.drop 0 cs)) = xs[0]? at f0
  change DataW.trod enc Tryz.prog W base sp held n 3 (List.take (Tryz.prog.cellsOf 3) (List.drop 1 cs)) = xs[1]? at f1
  change DataW.trod enc Tryz.prog W base sp held n 4 (List.take (Tryz.prog.cellsOf 4) (List.drop 2 cs)) = xs[2]? at f2
  rw [sCells] at f0
  rw [cInt] at f1
  rw [cBool] at f2
  have hx' : xs.length = 3 := hx
  obtain ⟨x0, x1, x2, rfl⟩ := list3 hx'
  obtain ⟨c0, c1, c2, rfl⟩ := list3 hl'
  obtain ⟨s, h0, d0, z0⟩ := DataW.trod_string Tryz.underlying9 f0
  obtain ⟨k, h1, _, _⟩ := DataW.trod_int Tryz.underlying3 f1
  obtain ⟨b, h2, _⟩ := DataW.trod_bool Tryz.underlying4 f2
  have e0 : [c0] = [.string s] := h0
  have e1 : [c1] = [.int .i64 k] := h1
  have e2 : [c2] = [.bool b] := h2
  simp at e0 e1 e2
  refine ⟨⟨s, k, b⟩, by rw [e0, e1, e2]; rfl, z0, fun hw => ?_⟩
  rw [hxd] at hw
  simp only [DataW.weights, Tryz.underlying33] at hw
  exact size_le (hw _ (DataW.weights_mem_each (j := 0) (t := 9) (d := .lit (.string s.data.toList)) rfl (by simp [d0]) _ (by simp [DataW.weights])))
theorem b_cells2 (h : DataW.trod enc Tryz.prog W base sp held fuel 35 cs = some x) : ∃ y : Bd, cs = bcells y ∧ y.Fit ∧ ((∀ m ∈ x.1.weights Tryz.prog 35, m ≤ reachBytes) → y.ex.size ≤ 140737488355328 ∧ y.que.size ≤ 140737488355328 ∧ y.pat.size ≤ 140737488355328) := by
  obtain ⟨xs, n, _, hxd, hl, hx, hf⟩ := DataW.trod_struct Tryz.underlying35 h
  have hl' : cs.length = 3 := hl.trans bCells
  have f0 := hf 0 _ rfl
  have f1 := hf 1 _ rfl
  have f2 := hf 2 _ rfl
  change DataW.trod enc Tryz.prog W base sp held n 9 (List.take (Tryz.prog.cellsOf 9) (List.drop 0 cs)) = xs[0]? at f0
  change DataW.trod enc Tryz.prog W base sp held n 9 (List.take (Tryz.prog.cellsOf 9) (List.drop 1 cs)) = xs[1]? at f1
  change DataW.trod enc Tryz.prog W base sp held n 9 (List.take (Tryz.prog.cellsOf 9) (List.drop 2 cs)) = xs[2]? at f2
  rw [sCells] at f0 f1 f2
  have hx' : xs.length = 3 := hx
  obtain ⟨x0, x1, x2, rfl⟩ := list3 hx'
  obtain ⟨c0, c1, c2, rfl⟩ := list3 hl'
  obtain ⟨s0, h0, d0, z0⟩ := DataW.trod_string Tryz.underlying9 f0
  obtain ⟨s1, h1, d1, z1⟩ := DataW.trod_string Tryz.underlying9 f1
  obtain ⟨s2, h2, d2, z2⟩ := DataW.trod_string Tryz.underlying9 f2
  have e0 : [c0] = [.string s0] := h0
  have e1 : [c1] = [.string s1] := h1
  have e2 : [c2] = [.string s2] := h2
  simp at e0 e1 e2
  refine ⟨⟨s0, s1, s2⟩, by rw [e0, e1, e2]; rfl, ⟨z0, z1, z2⟩, fun hw => ?_⟩
  rw [hxd] at hw
  simp only [DataW.weights, Tryz.underlying35] at hw
  exact ⟨size_le (hw _ (DataW.weights_mem_each (j := 0) (t := 9) (d := .lit (.string s0.data.toList)) rfl (by simp [d0]) _ (by simp [DataW.weights]))), size_le (hw _ (DataW.weights_mem_each (j := 1) (t := 9) (d := .lit (.string s1.data.toList)) rfl (by simp [d1]) _ (by simp [DataW.weights]))), size_le (hw _ (DataW.weights_mem_each (j := 2) (t := 9) (d := .lit (.string s2.data.toList)) rfl (by simp [d2]) _ (by simp [DataW.weights])))⟩
theorem a_fits (h : DataW.trod enc Tryz.prog W base sp held fuel 37 cs = some x) (hw : ∀ m ∈ x.1.weights Tryz.prog 37, m ≤ reachBytes) : ∃ a : Ac, cs = acells a ∧ a.Fits := by
  obtain ⟨xs, n, _, hxd, hl, hx, hf⟩ := DataW.trod_struct Tryz.underlying37 h
  have hl' : cs.length = 7 := hl.trans cAct
  have f0 := hf 0 _ rfl
  have f1 := hf 1 _ rfl
  have f2 := hf 2 _ rfl
  change DataW.trod enc Tryz.prog W base sp held n 3 (List.take (Tryz.prog.cellsOf 3) (List.drop 0 cs)) = xs[0]? at f0
  change DataW.trod enc Tryz.prog W base sp held n 33 (List.take (Tryz.prog.cellsOf 33) (List.drop 1 cs)) = xs[1]? at f1
  change DataW.trod enc Tryz.prog W base sp held n 35 (List.take (Tryz.prog.cellsOf 35) (List.drop 4 cs)) = xs[2]? at f2
  rw [cInt] at f0
  rw [cX] at f1
  rw [bCells] at f2
  have hx' : xs.length = 3 := hx
  obtain ⟨x0, x1, x2, rfl⟩ := list3 hx'
  obtain ⟨c0, c1, c2, c3, c4, c5, c6, rfl⟩ := list7 hl'
  rw [hxd] at hw
  simp only [DataW.weights, Tryz.underlying37] at hw
  obtain ⟨k, h0, _, _⟩ := DataW.trod_int Tryz.underlying3 f0
  obtain ⟨y, h1, _, z1⟩ := x_cells2 f1
  obtain ⟨b, h2, _, z2⟩ := b_cells2 f2
  have k1 := z1 (fun m hm => hw m (DataW.weights_mem_each (j := 1) (t := 33) (d := x1.1) rfl rfl m hm))
  have k2 := z2 (fun m hm => hw m (DataW.weights_mem_each (j := 2) (t := 35) (d := x2.1) rfl rfl m hm))
  have e0 : [c0] = [.int .i64 k] := h0
  have e1 : [c1, c2, c3] = xcells y := h1
  have e2 : [c4, c5, c6] = bcells b := h2
  simp [xcells, bcells] at e0 e1 e2
  exact ⟨⟨k, y, b⟩, by rw [e0, e1.1, e1.2.1, e1.2.2, e2.1, e2.2.1, e2.2.2]; rfl, k1, k2.1, k2.2.1, k2.2.2⟩
end
set_option maxRecDepth 20000 in
/-- A slice of acts that came in. -/
theorem open_bacts {H : Type} {enc : TypeId × Value → H} {W : World} {base : Nat} {v : Value} {d : DataW H} {p : List MemPlace} (hval : Value.okWide Tryz.prog W .any base 22 v)
    (h : DataW.Trod enc Tryz.prog W 0 (fun _ => true) true 22 v d p) (hw : ∀ n ∈ d.weights Tryz.prog 22, n ≤ reachBytes) : ∃ l, RowOf acells W v l ∧ ∀ a ∈ l, a.Fits :=
  open_structs (enc := acells) Tryz.underlying22 cAct Ac.Fits (fun _ _ _ hx hw => a_fits hx hw) hval h hw
set_option maxRecDepth 20000 in
/-- A binding that came in. -/
theorem open_bdg {H : Type} {enc : TypeId × Value → H} {W : World} {base : Nat} {v : Value} {d : DataW H} {p : List MemPlace} (hval : Value.okWide Tryz.prog W .any base 35 v)
    (h : DataW.Trod enc Tryz.prog W 0 (fun _ => true) true 35 v d p) (hw : ∀ n ∈ d.weights Tryz.prog 35, n ≤ reachBytes) : ∃ b, v = bv b ∧ b.ex.size ≤ 140737488355328 ∧ b.que.size ≤ 140737488355328 ∧ b.pat.size ≤ 140737488355328 := by
  obtain ⟨cs, hcs, _⟩ := okWide_struct Tryz.underlying35 hval
  obtain ⟨fuel, hf⟩ := h
  obtain ⟨m, hm, _, hz⟩ := b_cells2 hf
  refine ⟨m, ?_, hz hw⟩
  rw [hcs] at hm ⊢
  have h1 : cs.toList = bcells m := hm
  have h2 : cs = (bcells m).toArray := by rw [← h1]
  rw [h2]; rfl
end Go.Proofs.YtiaagiijjledkaaGreatDoor
