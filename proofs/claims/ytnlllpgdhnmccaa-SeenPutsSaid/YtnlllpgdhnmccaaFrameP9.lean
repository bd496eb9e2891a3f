/-
  WHAT THE ROW OF SeenPuts NEEDS BESIDES: a slice of pages that came in.
-/
import Derived.Test.YtnlllpgdhnmccaaFrame9
import Derived.Test.YtnlllpgdhnmccaaPages9
namespace Go.Proofs.Ytnlllpgdhnmccaa
open Go.ChangeShapes Go.WideShapes Go.ChangeAt Go.RowKit

theorem ranges_trod {H : Type} {enc : TypeId × Value → H} {W : World} {fuel : Nat} {cs : List Value} {xd : DataW H × List MemPlace} (hf : DataW.trod enc Try.prog W 0 (fun _ => true) true fuel 30 cs = some xd) (hw : ∀ n ∈ xd.1.weights Try.prog 30, n ≤ reachBytes) : ∃ a len cap l, cs = [.slice a len cap] ∧ Rng W (.slice a len cap) l ∧ Upto 18446744073709551616 l ∧ l.length ≤ 17592186043904 := by
  rcases Go.Deep.open_slice_pairs Try.underlying30 Try.underlying76 (by kernel_rfl) rfl rfl (by kernel_rfl) (by kernel_rfl) hf with ⟨hcs, _⟩ | ⟨x, len, cap, m, n, V0, V1, D0, D1, P0, P1, hcs, _, hl, hm, hmm, hx, hcell⟩
  · exact ⟨none, 0, 0, [], hcs, .inl ⟨rfl, rfl⟩, (fun n h => by cases h), by simp⟩
  · subst hcs
    have hmc : m = cap := by simpa using hmm
    have each : ∀ i, i < len → ∃ r : Nat × Nat, W.cell? (x.add (i * 2)) = some (.int .u64 (r.1 : Int)) ∧ W.cell? (x.add (i * 2 + 1)) = some (.int .u64 (r.2 : Int)) ∧ r.2 < 18446744073709551616 := fun i hi => by
      obtain ⟨k0, k1, t0, t1⟩ := hcell i (by omega)
      obtain ⟨n0, e0, _, w0⟩ := DataW.trod_int Try.underlying23 t0
      obtain ⟨n1, e1, _, w1⟩ := DataW.trod_int Try.underlying23 t1
      have hb0 := bounds_u64 w0
      have hb1 := bounds_u64 w1
      simp only [List.cons.injEq, and_true] at e0 e1
      refine ⟨(n0.toNat, n1.toNat), ?_, ?_, by show n1.toNat < _; omega⟩
      · rw [k0, e0]; congr 2; show n0 = ((n0.toNat : Nat) : Int); omega
      · rw [k1, e1]; congr 2; show n1 = ((n1.toNat : Nat) : Int); omega
    have hch := fun i : Fin len => (each i.1 i.2)
    obtain ⟨f, hff⟩ := Classical.axiomOfChoice hch
    have hlen : (List.ofFn f).length = len := by simp
    refine ⟨some x, len, cap, List.ofFn f, rfl, .inr ⟨x, cap, by rw [hlen], by omega, hm, fun j u hj => ?_⟩, fun r hr => ?_, ?_⟩
    · have hj2 : j < len * 2 := by
        have := (List.getElem?_eq_some_iff.1 hj).1
        rw [rcells_length, hlen] at this
        exact this
      have hi : j / 2 < len := by omega
      have hg := rcells_get (List.ofFn f) (j / 2) (by rw [hlen]; exact hi)
      have hfi : (List.ofFn f)[j / 2]'(by rw [hlen]; exact hi) = f ⟨j / 2, hi⟩ := by simp
      rw [hfi] at hg
      have hc := hff ⟨j / 2, hi⟩
      rcases Nat.mod_two_eq_zero_or_one j with h0 | h1
      · have ej : j / 2 * 2 = j := by omega
        rw [ej] at hg
        rw [hg.1] at hj
        injection hj with hj
        have := hc.1
        rw [show (⟨j / 2, hi⟩ : Fin len).1 * 2 = j from ej] at this
        rw [this, hj]
      · have ej : j / 2 * 2 + 1 = j := by omega
        rw [ej] at hg
        rw [hg.2] at hj
        injection hj with hj
        have := hc.2.1
        rw [show (⟨j / 2, hi⟩ : Fin len).1 * 2 + 1 = j from ej] at this
        rw [this, hj]
    · obtain ⟨i, rfl⟩ := List.mem_ofFn.1 hr
      exact (hff i).2.2
    · have hdv := congrArg Prod.fst hx
      simp only at hdv
      have h1 := hw ((((List.range len).map fun i => (DataW.agg [D0 i, D1 i] : DataW H)).length + ((List.range (m - len)).map fun j => (DataW.agg [D0 (len + j), D1 (len + j)] : DataW H)).length) * Try.prog.bytesOf 76) (by
        rw [hdv]
        simp only [DataW.weights, Try.underlying30]
        exact List.mem_cons_self)
      rw [hlen]
      rw [show Try.prog.bytesOf 76 = 16 by kernel_rfl] at h1
      simp [reachBytes] at h1
      omega

theorem cellsPage : Try.prog.cellsOf 39 = 2 := by kernel_rfl
theorem cellsR : Try.prog.cellsOf 30 = 1 := by kernel_rfl
theorem page_fits {H : Type} {enc : TypeId × Value → H} {W : World} {fuel : Nat} {cs : List Value} {x : DataW H × List MemPlace} (h : DataW.trod enc Try.prog W 0 (fun _ => true) true fuel 39 cs = some x) (hw : ∀ m ∈ x.1.weights Try.prog 39, m ≤ reachBytes) : ∃ a : Pg, cs = penc a ∧ a.Fits W := by
  obtain ⟨xs, n, _, hxd, hl, hx, hf⟩ := DataW.trod_struct Try.underlying39 h
  have hl' : cs.length = 2 := hl.trans cellsPage
  have f0 := hf 0 _ rfl
  have f1 := hf 1 _ rfl
  change DataW.trod enc Try.prog W 0 (fun _ => true) true n 3 (List.take (Try.prog.cellsOf 3) (List.drop 0 cs)) = xs[0]? at f0
  change DataW.trod enc Try.prog W 0 (fun _ => true) true n 30 (List.take (Try.prog.cellsOf 30) (List.drop 1 cs)) = xs[1]? at f1
  rw [cellsI] at f0
  rw [cellsR] at f1
  have hx' : xs.length = 2 := hx
  obtain ⟨x0, x1, rfl⟩ := list2 hx'
  obtain ⟨c0, c1, rfl⟩ := list2 hl'
  rw [hxd] at hw
  simp only [DataW.weights, Try.underlying39] at hw
  obtain ⟨k, h0, _, _⟩ := DataW.trod_int Try.underlying3 f0
  obtain ⟨a, len, cap, l, h1, r1, u1, l1⟩ := ranges_trod f1 (fun m hm => hw m (DataW.weights_mem_each (j := 1) (t := 30) (d := x1.1) rfl rfl m hm))
  have e0 : [c0] = [.int .i64 k] := h0
  have e1 : [c1] = [.slice a len cap] := h1
  simp at e0 e1
  have hlen : len = l.length := by
    obtain ⟨_, _, hv⟩ := r1.slice
    injection hv
  refine ⟨⟨k, a, len, cap⟩, by rw [e0, e1]; rfl, l, r1, u1, by show len ≤ _; omega⟩
set_option maxRecDepth 20000 in
/-- A slice of pages that came in. -/
theorem open_pages {H : Type} {enc : TypeId × Value → H} {W : World} {base : Nat} {v : Value} {d : DataW H} {p : List MemPlace} (hval : Value.okWide Try.prog W .any base 37 v)
    (h : DataW.Trod enc Try.prog W 0 (fun _ => true) true 37 v d p) (hw : ∀ n ∈ d.weights Try.prog 37, n ≤ reachBytes) : ∃ l, K.RowOf penc W v l ∧ (∀ a ∈ l, a.Fits W) ∧ True := by
  obtain ⟨l, h1, h2⟩ := K.open_structs (enc := penc) Try.underlying37 cellsPage (Pg.Fits W) (fun n cs x hx hw => page_fits hx hw) hval h hw
  exact ⟨l, h1, h2, trivial⟩
end Go.Proofs.Ytnlllpgdhnmccaa
