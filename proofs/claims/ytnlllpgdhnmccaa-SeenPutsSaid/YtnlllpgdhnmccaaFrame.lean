/-
  WHAT ALL ROWS OF THIS SEAT NEED: a slice of numbers, a slice of ranges that came in; how long each can be.
-/
import Derived.Test.YtnlllpgdhnmccaaRows
import Derived.Test.YtnlllpgdhnmccaaLawAdds
import Derived.WalkKit
import Derived.ProofKit
import Derived.OpenShut
import Derived.ChangeOld
import Derived.SizedLaws
import Derived.Deep.DeepHandedRow
import Derived.Deep.SlicePairs
import Derived.Lib.LaidTab
namespace Go.Proofs.Ytnlllpgdhnmccaa
open Go.ChangeShapes Go.WideShapes Go.ChangeAt Go.RowKit

theorem own : ownKnob Try.prog.godebug = none := by kernel_rfl
theorem laidOut : laidOutB Try.prog = true := by kernel_rfl
theorem bytesU64 : Try.prog.bytesOf 23 = 8 := by kernel_rfl

/-- A slice of numbers that came in. -/
theorem open_nums {H : Type} {enc : TypeId × Value → H} {W : World} {base : Nat} {v : Value} {d : DataW H} {p : List MemPlace} (hval : Value.okWide Try.prog W .any base 57 v)
    (h : DataW.Trod enc Try.prog W 0 (fun _ => true) true 57 v d p) (hw : ∀ n ∈ d.weights Try.prog 57, n ≤ reachBytes) : ∃ l, Nums W v l ∧ (∀ n ∈ l, n < 18446744073709551616) ∧ l.length ≤ 17592186043904 := by
  obtain ⟨a, len, cap, rfl⟩ := okWide_slice Try.underlying57 hval
  obtain ⟨fuel, hf⟩ := h
  rcases open_ints Try.underlying57 Try.underlying23 (by kernel_rfl) hf with ⟨hcs, _⟩ | ⟨x, l, c, zs, hcs, _, hl, hm, hz, hx, hcell, hwz⟩
  · simp [Value.cells] at hcs
    obtain ⟨rfl, rfl, rfl⟩ := hcs
    exact ⟨[], .inl ⟨rfl, rfl⟩, (fun n h => by cases h), by simp⟩
  · simp [Value.cells] at hcs
    obtain ⟨rfl, rfl, rfl⟩ := hcs
    have hzl : zs.length = cap := by simpa using hz
    have hdv : d = .slice (lits .u64 (zs.take len)) (lits .u64 (zs.drop len)) := congrArg Prod.fst hx
    have hlen : ((zs.take len).map Int.toNat).length = len := by simp; omega
    refine ⟨(zs.take len).map Int.toNat, .inr ⟨x, cap, by rw [hlen], by omega, hm, fun i hi => ?_⟩, fun n hn => ?_, ?_⟩
    · rw [hlen] at hi
      have hjz : i < zs.length := by omega
      have hb := bounds_u64 (hwz zs[i] (List.getElem_mem hjz))
      rw [hcell i hjz]
      simp [List.getD, hjz]
      omega
    · obtain ⟨z, hz1, rfl⟩ := List.mem_map.1 hn
      have hb := bounds_u64 (hwz z (List.mem_of_mem_take hz1))
      omega
    · have h1 := hw (((lits (H := H) .u64 (zs.take len)).length + (lits (H := H) .u64 (zs.drop len)).length) * Try.prog.bytesOf 23) (by
        rw [hdv]
        simp only [DataW.weights, Try.underlying57]
        exact List.mem_cons_self)
      rw [hlen]
      rw [bytesU64] at h1
      simp [lits, reachBytes] at h1
      omega

/-- A slice of ranges that came in. -/
theorem open_ranges {H : Type} {enc : TypeId × Value → H} {W : World} {base : Nat} {v : Value} {d : DataW H} {p : List MemPlace} (hval : Value.okWide Try.prog W .any base 30 v)
    (h : DataW.Trod enc Try.prog W 0 (fun _ => true) true 30 v d p) (hw : ∀ n ∈ d.weights Try.prog 30, n ≤ reachBytes) : ∃ l, Rng W v l ∧ Upto 18446744073709551616 l ∧ l.length ≤ 17592186043904 := by
  obtain ⟨a, len, cap, rfl⟩ := okWide_slice Try.underlying30 hval
  obtain ⟨fuel, hf⟩ := h
  rcases Go.Deep.open_slice_pairs Try.underlying30 Try.underlying76 (by kernel_rfl) rfl rfl (by kernel_rfl) (by kernel_rfl) hf with ⟨hcs, _⟩ | ⟨x, l, c, m, n, V0, V1, D0, D1, P0, P1, hcs, _, hl, hm, hmm, hx, hcell⟩
  · simp [Value.cells] at hcs
    obtain ⟨rfl, rfl, rfl⟩ := hcs
    exact ⟨[], .inl ⟨rfl, rfl⟩, (fun n h => by cases h), by simp⟩
  · simp [Value.cells] at hcs
    obtain ⟨rfl, rfl, rfl⟩ := hcs
    have hmc : m = cap := by simpa using hmm
    have each : ∀ i, i < len → ∃ r : Nat × Nat, W.cell? (x.add (i * 2)) = some (.int .u64 (r.1 : Int)) ∧ W.cell? (x.add (i * 2 + 1)) = some (.int .u64 (r.2 : Int)) ∧ r.2 < 18446744073709551616 := fun i hi => by
      obtain ⟨k0, k1, t0, t1⟩ := hcell i (by omega)
      obtain ⟨n0, e0, _, w0⟩ := DataW.trod_int Try.underlying23 t0
      obtain ⟨n1, e1, _, w1⟩ := DataW.trod_int Try.underlying23 t1
      have hb0 := bounds_u64 w0
      have hb1 := bounds_u64 w1
      simp only [List.cons.injEq, and_true] at e0 e1
      refine ⟨(n0.toNat, n1.toNat), ?_, ?_, by show n1.toNat < _; omega⟩
      · rw [k0, e0]; congr 2; show n0 = ((n0.toNat : Nat) : Int); omega
      · rw [k1, e1]; congr 2; show n1 = ((n1.toNat : Nat) : Int); omega
    have hch := fun i : Fin len => (each i.1 i.2)
    obtain ⟨f, hff⟩ := Classical.axiomOfChoice hch
    have hlen : (List.ofFn f).length = len := by simp
    refine ⟨List.ofFn f, .inr ⟨x, cap, by rw [hlen], by omega, hm, fun j u hj => ?_⟩, fun r hr => ?_, ?_⟩
    · have hj2 : j < len * 2 := by
        have := (List.getElem?_eq_some_iff.1 hj).1
        rw [rcells_length, hlen] at this
        exact this
      have hi : j / 2 < len := by omega
      have hg := rcells_get (List.ofFn f) (j / 2) (by rw [hlen]; exact hi)
      have hfi : (List.ofFn f)[j / 2]'(by rw [hlen]; exact hi) = f ⟨j / 2, hi⟩ := by simp
      rw [hfi] at hg
      have hc := hff ⟨j / 2, hi⟩
      rcases Nat.mod_two_eq_zero_or_one j with h0 | h1
      · have ej : j / 2 * 2 = j := by omega
        rw [ej] at hg
        rw [hg.1] at hj
        injection hj with hj
        have := hc.1
        rw [show (⟨j / 2, hi⟩ : Fin len).1 * 2 = j from ej] at this
        rw [this, hj]
      · have ej : j / 2 * 2 + 1 = j := by omega
        rw [ej] at hg
        rw [hg.2] at hj
        injection hj with hj
        have := hc.2.1
        rw [show (⟨j / 2, hi⟩ : Fin len).1 * 2 + 1 = j from ej] at this
        rw [this, hj]
    · obtain ⟨i, rfl⟩ := List.mem_ofFn.1 hr
      exact (hff i).2.2
    · have hdv := congrArg Prod.fst hx
      simp only at hdv
      have h1 := hw ((((List.range len).map fun i => (DataW.agg [D0 i, D1 i] : DataW H)).length + ((List.range (m - len)).map fun j => (DataW.agg [D0 (len + j), D1 (len + j)] : DataW H)).length) * Try.prog.bytesOf 76) (by
        rw [hdv]
        simp only [DataW.weights, Try.underlying30]
        exact List.mem_cons_self)
      rw [hlen]
      rw [show Try.prog.bytesOf 76 = 16 by kernel_rfl] at h1
      simp [reachBytes] at h1
      omega
end Go.Proofs.Ytnlllpgdhnmccaa
