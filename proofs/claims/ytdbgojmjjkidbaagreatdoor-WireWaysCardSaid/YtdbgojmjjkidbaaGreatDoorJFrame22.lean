/-
  WHAT THE ROWS OF THIS SEAT NEED: acts, packets, numbers, a way that came in.
-/
import Derived.Test.YtdbgojmjjkidbaaGreatDoorJFrame19
import Derived.Test.YtdbgojmjjkidbaaGreatDoorJStructs
import Derived.Test.YtdbgojmjjkidbaaGreatDoorJLives22
import Derived.Test.YtdbgojmjjkidbaaGreatDoorJLawNone22
namespace Go.Proofs.YtdbgojmjjkidbaaGreatDoor
open Go.ChangeShapes Go.WideShapes Go.ChangeAt Go.RowKit K
set_option maxRecDepth 20000

theorem cells_edge : Tryz.prog.cellsOf 37 = 2 := by kernel_rfl
theorem cells_act : Tryz.prog.cellsOf 39 = 18 := by kernel_rfl
theorem listE18 {α : Type} {cs : List α} (h : cs.length = 18) : ∃ a0 a1 a2 a3 a4 a5 a6 a7 a8 a9 a10 a11 a12 a13 a14 a15 a16 a17, cs = [a0, a1, a2, a3, a4, a5, a6, a7, a8, a9, a10, a11, a12, a13, a14, a15, a16, a17] := by
  match cs, h with
  | [a0, a1, a2, a3, a4, a5, a6, a7, a8, a9, a10, a11, a12, a13, a14, a15, a16, a17], _ => exact ⟨a0, a1, a2, a3, a4, a5, a6, a7, a8, a9, a10, a11, a12, a13, a14, a15, a16, a17, rfl⟩
def Small22 (p : Pk) : Prop := p.Fits ∧ p.m.Small
structure Ac.Good (a : Ac) : Prop where
  fits : a.Fits
  small : a.p.m.Small
section
variable {H : Type} {enc : TypeId × Value → H} {W : World} {fuel : Nat} {cs : List Value} {x : DataW H × List MemPlace}
theorem edge_fits (h : DataW.trod enc Tryz.prog W 0 (fun _ => true) true fuel 37 cs = some x) : ∃ e : Ed, cs = ecells e ∧ EFit e := by
  obtain ⟨xs, n, _, _, hl, hx, hf⟩ := DataW.trod_struct Tryz.underlying37 h
  have hl' : cs.length = 2 := hl.trans cells_edge
  have f0 := hf 0 _ rfl
  have f1 := hf 1 _ rfl
  change DataW.trod enc Tryz.prog W 0 (fun _ => true) true n 3 (List.take (Tryz.prog.cellsOf 3) (List.drop 0 cs)) = xs[0]? at f0
  change DataW.trod enc Tryz.prog W 0 (fun _ => true) true n 3 (List.take (Tryz.prog.cellsOf 3) (List.drop 1 cs)) = xs[1]? at f1
  rw [cellsI] at f0 f1
  have hx' : xs.length = 2 := hx
  obtain ⟨x0, x1, rfl⟩ := list2 hx'
  obtain ⟨c0, c1, rfl⟩ := list2 hl'
  obtain ⟨o, h0, _, w0⟩ := DataW.trod_int Tryz.underlying3 f0
  have e0 : [c0] = [.int .i64 o] := h0
  have b0 := bounds_i64 w0
  obtain ⟨s, h1, _, w1⟩ := DataW.trod_int Tryz.underlying3 f1
  have e1 : [c1] = [.int .i64 s] := h1
  have b1 := bounds_i64 w1
  simp only [List.cons.injEq, and_true] at e0 e1
  exact ⟨⟨o, s⟩, by rw [e0, e1]; rfl, by unfold Fit64; omega, by unfold Fit64; omega⟩
theorem act_fits (h : DataW.trod enc Tryz.prog W 0 (fun _ => true) true fuel 39 cs = some x) (hw : ∀ m ∈ x.1.weights Tryz.prog 39, m ≤ reachBytes) : ∃ a : Ac, cs = accells a ∧ a.Good := by
  obtain ⟨xs, n, _, hxd, hl, hx, hf⟩ := DataW.trod_struct Tryz.underlying39 h
  have hl' : cs.length = 18 := hl.trans cells_act
  have f0 := hf 0 _ rfl
  have f1 := hf 1 _ rfl
  have f2 := hf 2 _ rfl
  have f3 := hf 3 _ rfl
  have f4 := hf 4 _ rfl
  have f5 := hf 5 _ rfl
  change DataW.trod enc Tryz.prog W 0 (fun _ => true) true n 3 (List.take (Tryz.prog.cellsOf 3) (List.drop 0 cs)) = xs[0]? at f0
  change DataW.trod enc Tryz.prog W 0 (fun _ => true) true n 35 (List.take (Tryz.prog.cellsOf 35) (List.drop 1 cs)) = xs[1]? at f1
  change DataW.trod enc Tryz.prog W 0 (fun _ => true) true n 37 (List.take (Tryz.prog.cellsOf 37) (List.drop 13 cs)) = xs[2]? at f2
  change DataW.trod enc Tryz.prog W 0 (fun _ => true) true n 3 (List.take (Tryz.prog.cellsOf 3) (List.drop 15 cs)) = xs[3]? at f3
  change DataW.trod enc Tryz.prog W 0 (fun _ => true) true n 3 (List.take (Tryz.prog.cellsOf 3) (List.drop 16 cs)) = xs[4]? at f4
  change DataW.trod enc Tryz.prog W 0 (fun _ => true) true n 3 (List.take (Tryz.prog.cellsOf 3) (List.drop 17 cs)) = xs[5]? at f5
  rw [cellsI] at f0 f3 f4 f5
  rw [cells_pack] at f1
  rw [cells_edge] at f2
  have hx' : xs.length = 6 := hx
  obtain ⟨x0, x1, x2, x3, x4, x5, rfl⟩ := list6 hx'
  obtain ⟨c0, c1, c2, c3, c4, c5, c6, c7, c8, c9, c10, c11, c12, c13, c14, c15, c16, c17, rfl⟩ := listE18 hl'
  rw [hxd] at hw
  simp only [DataW.weights, Tryz.underlying39] at hw
  obtain ⟨kd, h0, _, _⟩ := DataW.trod_int Tryz.underlying3 f0
  have e0 : [c0] = [.int .i64 kd] := h0
  obtain ⟨pk, h1, b1, g1⟩ := pack_fits f1 (fun k hk => hw k (DataW.weights_mem_each (j := 1) (t := 35) (d := x1.1) rfl rfl k hk))
  have e1 : [c1, c2, c3, c4, c5, c6, c7, c8, c9, c10, c11, c12] = pcells pk := h1
  obtain ⟨ed, h2, b2⟩ := edge_fits f2
  have e2 : [c13, c14] = ecells ed := h2
  obtain ⟨nn, h3, _, _⟩ := DataW.trod_int Tryz.underlying3 f3
  have e3 : [c15] = [.int .i64 nn] := h3
  obtain ⟨kk, h4, _, _⟩ := DataW.trod_int Tryz.underlying3 f4
  have e4 : [c16] = [.int .i64 kk] := h4
  obtain ⟨bb, h5, _, _⟩ := DataW.trod_int Tryz.underlying3 f5
  have e5 : [c17] = [.int .i64 bb] := h5
  simp only [pcells, ecells] at e1 e2
  simp only [List.cons.injEq, and_true] at e0 e1 e2 e3 e4 e5
  refine ⟨⟨kd, pk, ed, nn, kk, bb⟩, ?_, ⟨b1, b2⟩, g1⟩
  obtain ⟨q0, q1, q2, q3, q4, q5, q6, q7, q8, q9, q10, q11⟩ := e1
  rw [e0, q0, q1, q2, q3, q4, q5, q6, q7, q8, q9, q10, q11, e2.1, e2.2, e3, e4, e5]
  rfl
end
section
variable {H : Type} {enc : TypeId × Value → H} {W : World} {base : Nat} {v : Value} {d : DataW H} {p : List MemPlace}
theorem open_vacts (hval : Value.okWide Tryz.prog W .any base 22 v)
    (h : DataW.Trod enc Tryz.prog W 0 (fun _ => true) true 22 v d p) (hw : ∀ n ∈ d.weights Tryz.prog 22, n ≤ reachBytes) : ∃ l, RowOf accells W v l ∧ (∀ a ∈ l, a.Good) :=
  open_structs (enc := accells) Tryz.underlying22 cells_act Ac.Good (fun _ _ _ hx hw => act_fits hx hw) hval h hw
theorem open_packs (hval : Value.okWide Tryz.prog W .any base 62 v)
    (h : DataW.Trod enc Tryz.prog W 0 (fun _ => true) true 62 v d p) (hw : ∀ n ∈ d.weights Tryz.prog 62, n ≤ reachBytes) : ∃ l, RowOf pcells W v l ∧ (∀ a ∈ l, Small22 a) :=
  open_structs (enc := pcells) Tryz.underlying62 cells_pack Small22 (fun _ _ _ hx hw => pack_fits hx hw) hval h hw
theorem open_vact (hval : Value.okWide Tryz.prog W .any base 39 v)
    (h : DataW.Trod enc Tryz.prog W 0 (fun _ => true) true 39 v d p) (hw : ∀ n ∈ d.weights Tryz.prog 39, n ≤ reachBytes) : ∃ a : Ac, v = acv a ∧ a.Good := by
  obtain ⟨cs, hcs, _⟩ := okWide_struct Tryz.underlying39 hval
  obtain ⟨fuel, hf⟩ := h
  obtain ⟨m, hm, hb⟩ := act_fits hf hw
  refine ⟨m, ?_, hb⟩
  rw [hcs] at hm ⊢
  have h1 : cs.toList = accells m := hm
  have h2 : cs = (accells m).toArray := by rw [← h1]
  rw [h2]; rfl
theorem open_way (hval : Value.okWide Tryz.prog W .any base 37 v)
    (h : DataW.Trod enc Tryz.prog W 0 (fun _ => true) true 37 v d p) : ∃ a : Ed, v = ev a ∧ EFit a := by
  obtain ⟨cs, hcs, _⟩ := okWide_struct Tryz.underlying37 hval
  obtain ⟨fuel, hf⟩ := h
  obtain ⟨m, hm, hb⟩ := edge_fits hf
  refine ⟨m, ?_, hb⟩
  rw [hcs] at hm ⊢
  have h1 : cs.toList = ecells m := hm
  have h2 : cs = (ecells m).toArray := by rw [← h1]
  rw [h2]; rfl
/-- A slice of numbers that came in. -/
theorem open_u64s (hval : Value.okWide Tryz.prog W .any base 63 v)
    (h : DataW.Trod enc Tryz.prog W 0 (fun _ => true) true 63 v d p) : ∃ l : List Nat, Row W v (ncells l) ∧ (∀ n ∈ l, n < 18446744073709551616) := by
  obtain ⟨a, len, cap, rfl⟩ := okWide_slice Tryz.underlying63 hval
  obtain ⟨fuel, hf⟩ := h
  rcases open_ints Tryz.underlying63 Tryz.underlying64 (by kernel_rfl) hf with ⟨hcs, _⟩ | ⟨x, l, c, zs, hcs, _, hl, hm, hz, hx, hcell, hwz⟩
  · simp [Value.cells] at hcs
    obtain ⟨rfl, rfl, rfl⟩ := hcs
    exact ⟨[], .inl ⟨rfl, rfl⟩, (fun n h => by cases h)⟩
  · simp [Value.cells] at hcs
    obtain ⟨rfl, rfl, rfl⟩ := hcs
    have hzl : zs.length = cap := by simpa using hz
    have hlen : ((zs.take len).map Int.toNat).length = len := by simp; omega
    refine ⟨(zs.take len).map Int.toNat, .inr ⟨x, cap, by rw [ncells_length, hlen], by rw [ncells_length, hlen]; omega, hm, fun i u hi => ?_⟩, fun n hn => ?_⟩
    · have hil : i < len := by have := (List.getElem?_eq_some_iff.1 hi).1; rw [ncells_length, hlen] at this; exact this
      have hjz : i < zs.length := by omega
      have hb := bounds_u64 (hwz zs[i] (List.getElem_mem hjz))
      rw [hcell i hjz, ← hi]
      simp [ncells, hjz, hil]
      omega
    · obtain ⟨z, hz1, rfl⟩ := List.mem_map.1 hn
      have hb := bounds_u64 (hwz z (List.mem_of_mem_take hz1))
      omega
end
end Go.Proofs.YtdbgojmjjkidbaaGreatDoor
