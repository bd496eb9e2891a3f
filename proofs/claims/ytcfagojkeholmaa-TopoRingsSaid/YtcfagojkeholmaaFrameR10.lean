/-
  WHAT THE ROW OF TopoRings NEEDS BESIDES: a ring's numbers, two ends that came in.
-/
import Derived.Test.YtcfagojkeholmaaFrame10
import Derived.Test.YtcfagojkeholmaaLawRings
namespace Go.Proofs.Ytcfagojkeholmaa
open Go.ChangeShapes Go.WideShapes Go.ChangeAt Go.RowKit

theorem cellsU : Try.prog.cellsOf 41 = 1 := by kernel_rfl
theorem cellsRing : Try.prog.cellsOf 43 = 2 := by kernel_rfl
theorem cellsEnds : Try.prog.cellsOf 44 = 2 := by kernel_rfl
section
variable {H : Type} {enc : TypeId × Value → H} {W : World}
theorem two_u {n : Nat} {c0 c1 : Value} {x0 x1 : DataW H × List MemPlace} (f0 : DataW.trod enc Try.prog W 0 (fun _ => true) true n 41 [c0] = some x0) (f1 : DataW.trod enc Try.prog W 0 (fun _ => true) true n 41 [c1] = some x1) : ∃ a : Nat × Nat, [c0, c1] = [.int .u64 (a.1 : Int), .int .u64 (a.2 : Int)] ∧ a.1 < 18446744073709551616 ∧ a.2 < 18446744073709551616 := by
  obtain ⟨k, h0, _, w0⟩ := DataW.trod_int Try.underlying41 f0
  obtain ⟨m, h1, _, w1⟩ := DataW.trod_int Try.underlying41 f1
  have b0 := bounds_u64 w0
  have b1 := bounds_u64 w1
  have e0 : [c0] = [.int .u64 k] := h0
  have e1 : [c1] = [.int .u64 m] := h1
  simp at e0 e1
  refine ⟨(k.toNat, m.toNat), ?_, by show k.toNat < _; omega, by show m.toNat < _; omega⟩
  rw [e0, e1, show (((k.toNat : Nat)) : Int) = k by omega, show (((m.toNat : Nat)) : Int) = m by omega]
theorem ring_cells {fuel : Nat} {cs : List Value} {x : DataW H × List MemPlace} (h : DataW.trod enc Try.prog W 0 (fun _ => true) true fuel 43 cs = some x) : ∃ a : Nat × Nat, cs = [.int .u64 (a.1 : Int), .int .u64 (a.2 : Int)] ∧ a.1 < 18446744073709551616 ∧ a.2 < 18446744073709551616 := by
  obtain ⟨xs, n, _, hxd, hl, hx, hf⟩ := DataW.trod_struct Try.underlying43 h
  have hl' : cs.length = 2 := hl.trans cellsRing
  have f0 := hf 0 _ rfl
  have f1 := hf 1 _ rfl
  change DataW.trod enc Try.prog W 0 (fun _ => true) true n 41 (List.take (Try.prog.cellsOf 41) (List.drop 0 cs)) = xs[0]? at f0
  change DataW.trod enc Try.prog W 0 (fun _ => true) true n 41 (List.take (Try.prog.cellsOf 41) (List.drop 1 cs)) = xs[1]? at f1
  rw [cellsU] at f0 f1
  have hx' : xs.length = 2 := hx
  obtain ⟨x0, x1, rfl⟩ := list2 hx'
  obtain ⟨c0, c1, rfl⟩ := list2 hl'
  exact two_u f0 f1
theorem ends_cells {fuel : Nat} {cs : List Value} {x : DataW H × List MemPlace} (h : DataW.trod enc Try.prog W 0 (fun _ => true) true fuel 44 cs = some x) : ∃ a : Nat × Nat, cs = [.int .u64 (a.1 : Int), .int .u64 (a.2 : Int)] ∧ a.1 < 18446744073709551616 ∧ a.2 < 18446744073709551616 := by
  obtain ⟨xs, n, _, hxd, hl, hx, hf⟩ := DataW.trod_array Try.underlying44 h
  have hl' : cs.length = 2 := hl.trans cellsEnds
  have f0 := hf 0 (by decide)
  have f1 := hf 1 (by decide)
  rw [cellsU] at f0 f1
  have hx' : xs.length = 2 := hx
  obtain ⟨x0, x1, rfl⟩ := list2 hx'
  obtain ⟨c0, c1, rfl⟩ := list2 hl'
  exact two_u f0 f1
end
theorem open_ring {H : Type} {enc : TypeId × Value → H} {W : World} {base : Nat} {v : Value} {d : DataW H} {p : List MemPlace} (hval : Value.okWide Try.prog W .any base 43 v)
    (h : DataW.Trod enc Try.prog W 0 (fun _ => true) true 43 v d p) : ∃ a : Nat × Nat, v = ringv a ∧ a.1 < 18446744073709551616 ∧ a.2 < 18446744073709551616 := by
  obtain ⟨cs, hcs, _⟩ := okWide_struct Try.underlying43 hval
  obtain ⟨fuel, hf⟩ := h
  obtain ⟨m, hm, hb⟩ := ring_cells hf
  refine ⟨m, ?_, hb⟩
  rw [hcs] at hm ⊢
  have h1 : cs.toList = [.int .u64 (m.1 : Int), .int .u64 (m.2 : Int)] := hm
  have h2 : cs = #[.int .u64 (m.1 : Int), .int .u64 (m.2 : Int)] := by apply Array.ext'; exact h1
  rw [h2]
theorem open_ends {H : Type} {enc : TypeId × Value → H} {W : World} {base : Nat} {v : Value} {d : DataW H} {p : List MemPlace} (hval : Value.okWide Try.prog W .any base 44 v)
    (h : DataW.Trod enc Try.prog W 0 (fun _ => true) true 44 v d p) : ∃ a : Nat × Nat, v = endsv a ∧ a.1 < 18446744073709551616 ∧ a.2 < 18446744073709551616 := by
  obtain ⟨cs, hcs, _⟩ : ∃ cs, v = .agg cs ∧ True := by
    simp only [Value.okWide, Try.underlying44] at hval
    obtain ⟨cs, h1, _⟩ := hval
    exact ⟨cs, h1, trivial⟩
  obtain ⟨fuel, hf⟩ := h
  obtain ⟨m, hm, hb⟩ := ends_cells hf
  refine ⟨m, ?_, hb⟩
  rw [hcs] at hm ⊢
  have h1 : cs.toList = [.int .u64 (m.1 : Int), .int .u64 (m.2 : Int)] := hm
  have h2 : cs = #[.int .u64 (m.1 : Int), .int .u64 (m.2 : Int)] := by apply Array.ext'; exact h1
  rw [h2]
end Go.Proofs.Ytcfagojkeholmaa
