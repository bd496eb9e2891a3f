/-
  WHAT THE ROWS OF THIS SEAT NEED: slices of numbers and of texts that came in.
-/
import Derived.Test.YthlajefmmgdbkaaFrameM
import Derived.Test.YthlajefmmgdbkaaOrders
namespace Go.Proofs.Ythlajefmmgdbkaa
open Go.ChangeShapes Go.WideShapes Go.ChangeAt Go.RowKit

/-- A row of one-cell elements, from what each index holds. -/
theorem rowOf_ones {α : Type} {enc : α → List Value} [E : Enc enc 1] {W : World} {x : Addr} {cap : Nat} (l : List α) (h1 : l.length ≤ cap) (h2 : cap ≤ maxLen) (h : ∀ i (hi : i < l.length) u, (enc l[i])[0]? = some u → W.cell? (x.add i) = some u) : RowOf enc W (.slice (some x) l.length cap) l := by
  refine .inr ⟨x, cap, rfl, h1, h2, fun j u hj => ?_⟩
  have hl := cellsOf_length (enc := enc) l
  have hj2 : j < l.length := by have := (List.getElem?_eq_some_iff.1 hj).1; omega
  have hg := cellsOf_get (enc := enc) l j 0 hj2 (by decide)
  rw [Nat.mul_one, Nat.add_zero, hj] at hg
  exact h j hj2 u hg.symm
theorem RowOf.len_le {α : Type} {enc : α → List Value} {w : World} {v : Value} {l : List α} (h : RowOf enc w v l) : l.length ≤ maxLen := by
  rcases h with ⟨_, rfl⟩ | ⟨_, _, _, h1, h2, _⟩
  · exact Nat.zero_le _
  · omega

set_option maxRecDepth 20000 in
/-- A slice of numbers that came in. -/
theorem open_nums {H : Type} {enc : TypeId × Value → H} {W : World} {base : Nat} {v : Value} {d : DataW H} {p : List MemPlace} (hval : Value.okWide Try.prog W .any base 55 v)
    (h : DataW.Trod enc Try.prog W 0 (fun _ => true) true 55 v d p) : ∃ l, RowOf ncell W v l ∧ ∀ n ∈ l, n < 18446744073709551616 := by
  obtain ⟨a, len, cap, rfl⟩ := okWide_slice Try.underlying55 hval
  obtain ⟨fuel, hf⟩ := h
  rcases open_ints Try.underlying55 Try.underlying29 (by kernel_rfl) hf with ⟨hcs, _⟩ | ⟨x, l, c, zs, hcs, _, hl, hm, hz, hx, hcell, hwz⟩
  · simp [Value.cells] at hcs
    obtain ⟨rfl, rfl, rfl⟩ := hcs
    exact ⟨[], .inl ⟨rfl, rfl⟩, fun n h => by cases h⟩
  · simp [Value.cells] at hcs
    obtain ⟨rfl, rfl, rfl⟩ := hcs
    have hzl : zs.length = cap := by simpa using hz
    have hlen : ((zs.take len).map Int.toNat).length = len := by simp; omega
    refine ⟨(zs.take len).map Int.toNat, ?_, fun n hn => ?_⟩
    · have hr := rowOf_ones (enc := ncell) (W := W) (x := x) (cap := cap) ((zs.take len).map Int.toNat) (by rw [hlen]; omega) hm (fun i hi u hu => by
        rw [hlen] at hi
        have hjz : i < zs.length := by omega
        have hb := bounds_u64 (hwz zs[i] (List.getElem_mem hjz))
        rw [hcell i hjz, ← hu]
        simp [ncell, List.getD, hjz]
        omega)
      rw [hlen] at hr
      exact hr
    · obtain ⟨z, hz1, rfl⟩ := List.mem_map.1 hn
      have hb := bounds_u64 (hwz z (List.mem_of_mem_take hz1))
      omega

set_option maxRecDepth 20000 in
/-- A slice of texts that came in. -/
theorem open_strs {H : Type} {enc : TypeId × Value → H} {W : World} {base : Nat} {v : Value} {d : DataW H} {p : List MemPlace} (hval : Value.okWide Try.prog W .any base 60 v)
    (h : DataW.Trod enc Try.prog W 0 (fun _ => true) true 60 v d p) : ∃ l, RowOf scell W v l ∧ ∀ b ∈ l, b.size ≤ maxLen := by
  obtain ⟨a, len, cap, rfl⟩ := okWide_slice Try.underlying60 hval
  obtain ⟨fuel, hf⟩ := h
  rcases Go.Deep.open_slice1 Try.underlying60 cellsStr hf with ⟨hcs, _⟩ | ⟨x, l, c, m, n, V, D, Pl, hcs, _, hl, hm, hmm, hx, hcell⟩
  · simp [Value.cells] at hcs
    obtain ⟨rfl, rfl, rfl⟩ := hcs
    exact ⟨[], .inl ⟨rfl, rfl⟩, fun n h => by cases h⟩
  · simp [Value.cells] at hcs
    obtain ⟨rfl, rfl, rfl⟩ := hcs
    have hmc : m = cap := by simpa using hmm
    have each : ∀ i : Fin len, ∃ b : ByteArray, W.cell? (x.add i.1) = some (.string b) ∧ b.size ≤ maxLen := fun i => by
      obtain ⟨h1, h2⟩ := hcell i.1 (by omega)
      obtain ⟨b, h3, _, h4⟩ := DataW.trod_string Try.underlying9 h2
      simp only [List.cons.injEq, and_true] at h3
      exact ⟨b, by rw [h1, h3], h4⟩
    obtain ⟨f, hff⟩ := Classical.axiomOfChoice each
    have hlen : (List.ofFn f).length = len := by simp
    refine ⟨List.ofFn f, ?_, fun b hb => ?_⟩
    · have hr := rowOf_ones (enc := scell) (W := W) (x := x) (cap := cap) (List.ofFn f) (by rw [hlen]; omega) hm (fun i hi u hu => by
        rw [hlen] at hi
        have := (hff ⟨i, hi⟩).1
        rw [this, ← hu]
        simp [scell])
      rw [hlen] at hr
      exact hr
    · obtain ⟨i, rfl⟩ := List.mem_ofFn.1 hb
      exact (hff i).2
end Go.Proofs.Ythlajefmmgdbkaa
