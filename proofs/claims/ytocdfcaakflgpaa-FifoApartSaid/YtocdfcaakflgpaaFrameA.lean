/-
  WHAT THE ROWS OF THIS SEAT NEED: a slice of acts that came in.
-/
import Derived.Test.YtocdfcaakflgpaaFrameM
import Derived.Test.YtocdfcaakflgpaaStructs
import Derived.Test.YtocdfcaakflgpaaActs
namespace Go.Proofs.Ytocdfcaakflgpaa
open Go.ChangeShapes Go.WideShapes Go.ChangeAt Go.RowKit

theorem cellsAct : Try.prog.cellsOf 35 = 8 := by kernel_rfl
theorem list3 {α : Type} {cs : List α} (h : cs.length = 3) : ∃ a b c, cs = [a, b, c] := by
  match cs, h with
  | [a, b, c], _ => exact ⟨a, b, c, rfl⟩
theorem list8 {α : Type} {cs : List α} (h : cs.length = 8) : ∃ a b c d e f g i, cs = [a, b, c, d, e, f, g, i] := by
  match cs, h with
  | [a, b, c, d, e, f, g, i], _ => exact ⟨a, b, c, d, e, f, g, i, rfl⟩
theorem size_le {s : ByteArray} (h : s.data.toList.length ≤ reachBytes) : s.size ≤ 140737488355328 := by
  have : s.size = s.data.toList.length := Array.length_toList.symm
  unfold reachBytes at h
  omega
section
variable {H : Type} {enc : TypeId × Value → H} {W : World} {base : Nat} {sp : Nat → Bool} {held : Bool} {fuel : Nat} {cs : List Value} {x : DataW H × List MemPlace}
theorem msg_fits (h : DataW.trod enc Try.prog W base sp held fuel 33 cs = some x) (hw : ∀ m ∈ x.1.weights Try.prog 33, m ≤ reachBytes) : ∃ m : Msg, cs = mcells m ∧ m.body.size ≤ 140737488355328 ∧ m.key.size ≤ 140737488355328 ∧ m.ex.size ≤ 140737488355328 := by
  obtain ⟨m, hm⟩ := msg_cells h
  obtain ⟨xs, n, _, hxd, hl, hx, hf⟩ := DataW.trod_struct Try.underlying33 h
  have f2 := hf 2 _ rfl
  have f3 := hf 3 _ rfl
  have f4 := hf 4 _ rfl
  change DataW.trod enc Try.prog W base sp held n 9 (List.take (Try.prog.cellsOf 9) (List.drop 3 cs)) = xs[2]? at f2
  change DataW.trod enc Try.prog W base sp held n 9 (List.take (Try.prog.cellsOf 9) (List.drop 4 cs)) = xs[3]? at f3
  change DataW.trod enc Try.prog W base sp held n 9 (List.take (Try.prog.cellsOf 9) (List.drop 5 cs)) = xs[4]? at f4
  rw [cellsStr] at f2 f3 f4
  have hx' : xs.length = 5 := hx
  obtain ⟨x0, x1, x2, x3, x4, rfl⟩ := list5 hx'
  subst hm
  obtain ⟨ex, h2, d2, _⟩ := DataW.trod_string Try.underlying9 f2
  obtain ⟨ky, h3, d3, _⟩ := DataW.trod_string Try.underlying9 f3
  obtain ⟨bd, h4, d4, _⟩ := DataW.trod_string Try.underlying9 f4
  have e2 : [Value.string m.ex] = [.string ex] := h2
  have e3 : [Value.string m.key] = [.string ky] := h3
  have e4 : [Value.string m.body] = [.string bd] := h4
  simp at e2 e3 e4
  rw [hxd] at hw
  simp only [DataW.weights, Try.underlying33] at hw
  have k2 : ex.data.toList.length ≤ reachBytes := hw _ (DataW.weights_mem_each (j := 2) (t := 9) (d := .lit (.string ex.data.toList)) rfl (by simp [d2]) _ (by simp [DataW.weights]))
  have k3 : ky.data.toList.length ≤ reachBytes := hw _ (DataW.weights_mem_each (j := 3) (t := 9) (d := .lit (.string ky.data.toList)) rfl (by simp [d3]) _ (by simp [DataW.weights]))
  have k4 : bd.data.toList.length ≤ reachBytes := hw _ (DataW.weights_mem_each (j := 4) (t := 9) (d := .lit (.string bd.data.toList)) rfl (by simp [d4]) _ (by simp [DataW.weights]))
  refine ⟨m, rfl, ?_, ?_, ?_⟩
  · rw [e4]; exact size_le k4
  · rw [e3]; exact size_le k3
  · rw [e2]; exact size_le k2
theorem act_cells (h : DataW.trod enc Try.prog W base sp held fuel 35 cs = some x) (hw : ∀ m ∈ x.1.weights Try.prog 35, m ≤ reachBytes) : ∃ a : Ac, cs = acells a ∧ a.Fits := by
  obtain ⟨xs, n, _, hxd, hl, hx, hf⟩ := DataW.trod_struct Try.underlying35 h
  have hl' : cs.length = 8 := hl.trans cellsAct
  have f0 := hf 0 _ rfl
  have f1 := hf 1 _ rfl
  have f2 := hf 2 _ rfl
  change DataW.trod enc Try.prog W base sp held n 3 (List.take (Try.prog.cellsOf 3) (List.drop 0 cs)) = xs[0]? at f0
  change DataW.trod enc Try.prog W base sp held n 33 (List.take (Try.prog.cellsOf 33) (List.drop 1 cs)) = xs[1]? at f1
  change DataW.trod enc Try.prog W base sp held n 29 (List.take (Try.prog.cellsOf 29) (List.drop 7 cs)) = xs[2]? at f2
  rw [cellsInt] at f0
  rw [cellsMsg] at f1
  rw [cellsU64] at f2
  have hx' : xs.length = 3 := hx
  obtain ⟨x0, x1, x2, rfl⟩ := list3 hx'
  obtain ⟨c0, c1, c2, c3, c4, c5, c6, c7, rfl⟩ := list8 hl'
  rw [hxd] at hw
  simp only [DataW.weights, Try.underlying35] at hw
  obtain ⟨kd, h0, _, _⟩ := DataW.trod_int Try.underlying3 f0
  obtain ⟨m, h1, z1, z2, z3⟩ := msg_fits f1 (fun k hk => hw k (DataW.weights_mem_each (j := 1) (t := 33) (d := x1.1) rfl rfl k hk))
  obtain ⟨tg, h2, _, wf⟩ := DataW.trod_int Try.underlying29 f2
  have e0 : [c0] = [.int .i64 kd] := h0
  have e1 : [c1, c2, c3, c4, c5, c6] = mcells m := h1
  have e2 : [c7] = [.int .u64 tg] := h2
  have hb := bounds_u64 wf
  simp [mcells] at e0 e1 e2
  obtain ⟨a1, a2, a3, a4, a5, a6⟩ := e1
  refine ⟨⟨kd, m, tg.toNat⟩, ?_, ?_, z1, z2, z3⟩
  · rw [e0, a1, a2, a3, a4, a5, a6, e2]
    simp [acells]
    omega
  · show tg.toNat < _
    omega
end
set_option maxRecDepth 20000 in
/-- A slice of acts that came in. -/
theorem open_acts {H : Type} {enc : TypeId × Value → H} {W : World} {base : Nat} {v : Value} {d : DataW H} {p : List MemPlace} (hval : Value.okWide Try.prog W .any base 22 v)
    (h : DataW.Trod enc Try.prog W 0 (fun _ => true) true 22 v d p) (hw : ∀ n ∈ d.weights Try.prog 22, n ≤ reachBytes) : ∃ l, RowOf acells W v l ∧ (∀ a ∈ l, a.Fits) ∧ True := by
  obtain ⟨l, h1, h2⟩ := open_structs (enc := acells) Try.underlying22 cellsAct Ac.Fits (fun n cs x hx hw => act_cells hx hw) hval h hw
  exact ⟨l, h1, h2, trivial⟩
end Go.Proofs.Ytocdfcaakflgpaa
