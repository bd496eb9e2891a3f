/-
  WHAT THE CARDS OF THIS SEAT NEED: exchanges, bindings, texts that came in.
-/
import Derived.Test.YtlfehneojkfmjaaGreatDoorRows
import Derived.Test.YtlfehneojkfmjaaGreatDoorLives8
import Derived.WalkKit
import Derived.ProofKit
import Derived.OpenShut
import Derived.ChangeOld
import Derived.ChangeMaps5
import Derived.SizedLaws
import Derived.Deep.DeepHandedRow
import Derived.Deep.Strs
namespace Go.Proofs.YtlfehneojkfmjaaGreatDoor
open Go.ChangeShapes Go.WideShapes Go.ChangeAt Go.RowKit

theorem own : ownKnob Tryz.prog.godebug = none := by kernel_rfl
theorem laidOut : laidOutB Tryz.prog = true := laidOutQ
theorem cInt : Tryz.prog.cellsOf 3 = 1 := by kernel_rfl
theorem cBool : Tryz.prog.cellsOf 4 = 1 := by kernel_rfl
theorem cX : Tryz.prog.cellsOf 41 = 3 := by kernel_rfl
theorem list3 {α : Type} {cs : List α} (h : cs.length = 3) : ∃ a b c, cs = [a, b, c] := by
  match cs, h with
  | [a, b, c], _ => exact ⟨a, b, c, rfl⟩
theorem size_le {s : ByteArray} (h : s.data.toList.length ≤ reachBytes) : s.size ≤ 140737488355328 := by
  have : s.size = s.data.toList.length := Array.length_toList.symm
  unfold reachBytes at h
  omega
section
variable {H : Type} {enc : TypeId × Value → H} {W : World} {base : Nat} {sp : Nat → Bool} {held : Bool} {fuel : Nat} {cs : List Value} {x : DataW H × List MemPlace}
theorem x_cells (h : DataW.trod enc Tryz.prog W base sp held fuel 41 cs = some x) : ∃ y : Ex, cs = xcells y ∧ y.name.size ≤ maxLen ∧ ((∀ m ∈ x.1.weights Tryz.prog 41, m ≤ reachBytes) → y.name.size ≤ 140737488355328) := by
  obtain ⟨xs, n, _, hxd, hl, hx, hf⟩ := DataW.trod_struct Tryz.underlying41 h
  have hl' : cs.length = 3 := hl.trans cX
  have f0 := hf 0 _ rfl
  have f1 := hf 1 _ rfl
  have f2 := hf 2 _ rfl
  change DataW.trod enc Tryz.prog W base sp held n 9 (List.take (Tryz.prog.cellsOf 9) (List.drop 0 cs)) = xs[0]? at f0
  change DataW.trod enc Tryz.prog W base sp held n 3 (List.take (Tryz.prog.cellsOf 3) (List.drop 1 cs)) = xs[1]? at f1
  change DataW.trod enc Tryz.prog W base sp held n 4 (List.take (Tryz.prog.cellsOf 4) (List.drop 2 cs)) = xs[2]? at f2
  rw [sCells] at f0
  rw [cInt] at f1
  rw [cBool] at f2
  have hx' : xs.length = 3 := hx
  obtain ⟨x0, x1, x2, rfl⟩ := list3 hx'
  obtain ⟨c0, c1, c2, rfl⟩ := list3 hl'
  obtain ⟨s, h0, d0, z0⟩ := DataW.trod_string Tryz.underlying9 f0
  obtain ⟨k, h1, _, _⟩ := DataW.trod_int Tryz.underlying3 f1
  obtain ⟨b, h2, _⟩ := DataW.trod_bool Tryz.underlying4 f2
  have e0 : [c0] = [.string s] := h0
  have e1 : [c1] = [.int .i64 k] := h1
  have e2 : [c2] = [.bool b] := h2
  simp at e0 e1 e2
  refine ⟨⟨s, k, b⟩, by rw [e0, e1, e2]; rfl, z0, fun hw => ?_⟩
  rw [hxd] at hw
  simp only [DataW.weights, Tryz.underlying41] at hw
  exact size_le (hw _ (DataW.weights_mem_each (j := 0) (t := 9) (d := .lit (.string s.data.toList)) rfl (by simp [d0]) _ (by simp [DataW.weights])))
theorem b_cells (h : DataW.trod enc Tryz.prog W base sp held fuel 39 cs = some x) : ∃ y : Bd, cs = bcells y ∧ y.Fit ∧ ((∀ m ∈ x.1.weights Tryz.prog 39, m ≤ reachBytes) → y.ex.size ≤ 140737488355328 ∧ y.que.size ≤ 140737488355328 ∧ y.pat.size ≤ 140737488355328) := by
  obtain ⟨xs, n, _, hxd, hl, hx, hf⟩ := DataW.trod_struct Tryz.underlying39 h
  have hl' : cs.length = 3 := hl.trans bCells
  have f0 := hf 0 _ rfl
  have f1 := hf 1 _ rfl
  have f2 := hf 2 _ rfl
  change DataW.trod enc Tryz.prog W base sp held n 9 (List.take (Tryz.prog.cellsOf 9) (List.drop 0 cs)) = xs[0]? at f0
  change DataW.trod enc Tryz.prog W base sp held n 9 (List.take (Tryz.prog.cellsOf 9) (List.drop 1 cs)) = xs[1]? at f1
  change DataW.trod enc Tryz.prog W base sp held n 9 (List.take (Tryz.prog.cellsOf 9) (List.drop 2 cs)) = xs[2]? at f2
  rw [sCells] at f0 f1 f2
  have hx' : xs.length = 3 := hx
  obtain ⟨x0, x1, x2, rfl⟩ := list3 hx'
  obtain ⟨c0, c1, c2, rfl⟩ := list3 hl'
  obtain ⟨s0, h0, d0, z0⟩ := DataW.trod_string Tryz.underlying9 f0
  obtain ⟨s1, h1, d1, z1⟩ := DataW.trod_string Tryz.underlying9 f1
  obtain ⟨s2, h2, d2, z2⟩ := DataW.trod_string Tryz.underlying9 f2
  have e0 : [c0] = [.string s0] := h0
  have e1 : [c1] = [.string s1] := h1
  have e2 : [c2] = [.string s2] := h2
  simp at e0 e1 e2
  refine ⟨⟨s0, s1, s2⟩, by rw [e0, e1, e2]; rfl, ⟨z0, z1, z2⟩, fun hw => ?_⟩
  rw [hxd] at hw
  simp only [DataW.weights, Tryz.underlying39] at hw
  exact ⟨size_le (hw _ (DataW.weights_mem_each (j := 0) (t := 9) (d := .lit (.string s0.data.toList)) rfl (by simp [d0]) _ (by simp [DataW.weights]))), size_le (hw _ (DataW.weights_mem_each (j := 1) (t := 9) (d := .lit (.string s1.data.toList)) rfl (by simp [d1]) _ (by simp [DataW.weights]))), size_le (hw _ (DataW.weights_mem_each (j := 2) (t := 9) (d := .lit (.string s2.data.toList)) rfl (by simp [d2]) _ (by simp [DataW.weights])))⟩
end
set_option maxRecDepth 20000 in
/-- An exchange that came in. -/
theorem open_exch {H : Type} {enc : TypeId × Value → H} {W : World} {base : Nat} {v : Value} {d : DataW H} {p : List MemPlace} (hval : Value.okWide Tryz.prog W .any base 41 v)
    (h : DataW.Trod enc Tryz.prog W 0 (fun _ => true) true 41 v d p) : ∃ a, v = xv a ∧ a.name.size ≤ maxLen := by
  obtain ⟨cs, hcs, _⟩ := okWide_struct Tryz.underlying41 hval
  obtain ⟨fuel, hf⟩ := h
  obtain ⟨m, hm, hz, _⟩ := x_cells hf
  refine ⟨m, ?_, hz⟩
  rw [hcs] at hm ⊢
  have h1 : cs.toList = xcells m := hm
  have h2 : cs = (xcells m).toArray := by rw [← h1]
  rw [h2]; rfl
set_option maxRecDepth 20000 in
/-- A binding that came in. -/
theorem open_bdg {H : Type} {enc : TypeId × Value → H} {W : World} {base : Nat} {v : Value} {d : DataW H} {p : List MemPlace} (hval : Value.okWide Tryz.prog W .any base 39 v)
    (h : DataW.Trod enc Tryz.prog W 0 (fun _ => true) true 39 v d p) (hw : ∀ n ∈ d.weights Tryz.prog 39, n ≤ reachBytes) : ∃ a, v = bv a ∧ a.ex.size ≤ 140737488355328 ∧ a.que.size ≤ 140737488355328 ∧ a.pat.size ≤ 140737488355328 := by
  obtain ⟨cs, hcs, _⟩ := okWide_struct Tryz.underlying39 hval
  obtain ⟨fuel, hf⟩ := h
  obtain ⟨m, hm, _, hz⟩ := b_cells hf
  refine ⟨m, ?_, hz hw⟩
  rw [hcs] at hm ⊢
  have h1 : cs.toList = bcells m := hm
  have h2 : cs = (bcells m).toArray := by rw [← h1]
  rw [h2]; rfl

set_option maxRecDepth 20000 in
/-- A slice of texts that came in. -/
theorem open_strs {H : Type} {enc : TypeId × Value → H} {W : World} {base : Nat} {v : Value} {d : DataW H} {p : List MemPlace} (hval : Value.okWide Tryz.prog W .any base 30 v)
    (h : DataW.Trod enc Tryz.prog W 0 (fun _ => true) true 30 v d p) : ∃ l, Row W v (scells l) ∧ ∀ b ∈ l, b.size ≤ maxLen := by
  obtain ⟨a, len, cap, rfl⟩ := okWide_slice Tryz.underlying30 hval
  obtain ⟨fuel, hf⟩ := h
  rcases Go.Deep.open_slice1 Tryz.underlying30 sCells hf with ⟨hcs, _⟩ | ⟨x, l, c, m, n, V, D, Pl, hcs, _, hl, hm, hmm, hx, hcell⟩
  · simp [Value.cells] at hcs
    obtain ⟨rfl, rfl, rfl⟩ := hcs
    exact ⟨[], .inl ⟨rfl, rfl⟩, fun n h => by cases h⟩
  · simp [Value.cells] at hcs
    obtain ⟨rfl, rfl, rfl⟩ := hcs
    have hmc : m = cap := by simpa using hmm
    have each : ∀ i : Fin len, ∃ b : ByteArray, W.cell? (x.add i.1) = some (.string b) ∧ b.size ≤ maxLen := fun i => by
      obtain ⟨h1, h2⟩ := hcell i.1 (by omega)
      obtain ⟨b, h3, _, h4⟩ := DataW.trod_string Tryz.underlying9 h2
      simp only [List.cons.injEq, and_true] at h3
      exact ⟨b, by rw [h1, h3], h4⟩
    obtain ⟨f, hff⟩ := Classical.axiomOfChoice each
    have hlen : (List.ofFn f).length = len := by simp
    refine ⟨List.ofFn f, .inr ⟨x, cap, by rw [scells_length, hlen], by rw [scells_length, hlen]; omega, hm, fun j u hj => ?_⟩, fun b hb => ?_⟩
    · have hj2 : j < len := by
        have := (List.getElem?_eq_some_iff.1 hj).1
        rwa [scells_length, hlen] at this
      simp [scells, hj2] at hj
      rw [← hj]
      exact (hff ⟨j, hj2⟩).1
    · obtain ⟨i, rfl⟩ := List.mem_ofFn.1 hb
      exact (hff i).2
end Go.Proofs.YtlfehneojkfmjaaGreatDoor
