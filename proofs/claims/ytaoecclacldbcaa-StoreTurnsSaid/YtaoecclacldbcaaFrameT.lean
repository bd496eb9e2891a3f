/-
  WHAT THE ROW OF StoreTurns NEEDS BESIDES: a turn that came in.
-/
import Derived.Test.YtaoecclacldbcaaFrame
namespace Go.Proofs.Ytaoecclacldbcaa
open Go.ChangeShapes Go.WideShapes Go.ChangeAt Go.RowKit

structure Tn where
  n : Int
  k : Int
abbrev tnv (x : Tn) : Value := .agg #[.int .u64 x.n, .int .i64 x.k]
theorem cellsU : Try.prog.cellsOf 52 = 1 := by kernel_rfl
theorem cellsTurn : Try.prog.cellsOf 54 = 2 := by kernel_rfl
theorem turn_cells {H : Type} {enc : TypeId × Value → H} {W : World} {fuel : Nat} {cs : List Value} {x : DataW H × List MemPlace} (h : DataW.trod enc Try.prog W 0 (fun _ => true) true fuel 54 cs = some x) : ∃ a : Tn, cs = [.int .u64 a.n, .int .i64 a.k] ∧ (0 ≤ a.n ∧ a.n < 18446744073709551616) ∧ -9223372036854775808 ≤ a.k ∧ a.k < 9223372036854775808 := by
  obtain ⟨xs, n, _, hxd, hl, hx, hf⟩ := DataW.trod_struct Try.underlying54 h
  have hl' : cs.length = 2 := hl.trans cellsTurn
  have f0 := hf 0 _ rfl
  have f1 := hf 1 _ rfl
  change DataW.trod enc Try.prog W 0 (fun _ => true) true n 52 (List.take (Try.prog.cellsOf 52) (List.drop 0 cs)) = xs[0]? at f0
  change DataW.trod enc Try.prog W 0 (fun _ => true) true n 3 (List.take (Try.prog.cellsOf 3) (List.drop 1 cs)) = xs[1]? at f1
  rw [cellsU] at f0
  rw [cellsI] at f1
  have hx' : xs.length = 2 := hx
  obtain ⟨x0, x1, rfl⟩ := list2 hx'
  obtain ⟨c0, c1, rfl⟩ := list2 hl'
  obtain ⟨k, h0, _, w0⟩ := DataW.trod_int Try.underlying52 f0
  obtain ⟨m, h1, _, w1⟩ := DataW.trod_int Try.underlying3 f1
  have b0 := bounds_u64 w0
  have b1 := bounds_i64 w1
  have e0 : [c0] = [.int .u64 k] := h0
  have e1 : [c1] = [.int .i64 m] := h1
  simp at e0 e1
  exact ⟨⟨k, m⟩, by rw [e0, e1], by show 0 ≤ k ∧ k < _; omega, by show _ ≤ m ∧ m < _; omega⟩
set_option maxRecDepth 20000 in
theorem open_turn {H : Type} {enc : TypeId × Value → H} {W : World} {base : Nat} {v : Value} {d : DataW H} {p : List MemPlace} (hval : Value.okWide Try.prog W .any base 54 v)
    (h : DataW.Trod enc Try.prog W 0 (fun _ => true) true 54 v d p) : ∃ a : Tn, v = tnv a ∧ (0 ≤ a.n ∧ a.n < 18446744073709551616) ∧ -9223372036854775808 ≤ a.k ∧ a.k < 9223372036854775808 := by
  obtain ⟨cs, hcs, _⟩ := okWide_struct Try.underlying54 hval
  obtain ⟨fuel, hf⟩ := h
  obtain ⟨m, hm, hb⟩ := turn_cells hf
  refine ⟨m, ?_, hb⟩
  rw [hcs] at hm ⊢
  have h1 : cs.toList = [.int .u64 m.n, .int .i64 m.k] := hm
  have h2 : cs = #[.int .u64 m.n, .int .i64 m.k] := by apply Array.ext'; exact h1
  rw [h2]
end Go.Proofs.Ytaoecclacldbcaa
