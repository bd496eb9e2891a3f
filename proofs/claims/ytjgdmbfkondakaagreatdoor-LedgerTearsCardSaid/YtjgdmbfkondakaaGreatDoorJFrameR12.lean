/-
  WHAT THE CARD OF LedgerTears NEEDS BESIDES: a slice of slices of bytes that came in.
-/
import Derived.Test.YtjgdmbfkondakaaGreatDoorJFrame12
namespace Go.Proofs.YtjgdmbfkondakaaGreatDoor
open Go.ChangeShapes Go.WideShapes Go.ChangeAt Go.RowKit

/-- Each of the slices cs holds the bytes that ls tells. -/
def HoldsAll (w : World) (cs : List Value) (ls : List (List UInt8)) : Prop :=
  cs.length = ls.length ∧ ∀ (j : Nat) (v : Value) (l : List UInt8), cs[j]? = some v → ls[j]? = some l → Holds w v l ∧ l.length ≤ 140737488351232
theorem HoldsAll.snoc {w : World} {cs : List Value} {ls : List (List UInt8)} {c : Value} {l : List UInt8} (h : HoldsAll w cs ls) (hc : Holds w c l ∧ l.length ≤ 140737488351232) : HoldsAll w (cs ++ [c]) (ls ++ [l]) := by
  refine ⟨by simp [h.1], fun j v x hv hx => ?_⟩
  by_cases hj : j < cs.length
  · rw [List.getElem?_append_left hj] at hv
    rw [List.getElem?_append_left (by rw [← h.1]; exact hj)] at hx
    exact h.2 j v x hv hx
  · rw [List.getElem?_append_right (by omega)] at hv
    rw [List.getElem?_append_right (by rw [← h.1]; omega)] at hx
    have h1 := (List.getElem?_eq_some_iff.1 hv).1
    have h0 : j - cs.length = 0 := by simpa using h1
    rw [h0] at hv
    rw [← h.1, h0] at hx
    simp at hv hx
    subst hv hx
    exact hc

theorem weightsAll_mem {H : Type} {P : Program} {e : TypeId} : ∀ {ds : List (DataW H)} {d : DataW H}, d ∈ ds → ∀ n ∈ d.weights P e, n ∈ DataW.weightsAll P e ds
  | d0 :: ds, d, hd, n, hn => by
    simp only [DataW.weightsAll, List.mem_append]
    rcases List.mem_cons.1 hd with rfl | h
    · exact Or.inl hn
    · exact Or.inr (weightsAll_mem h n hn)

set_option maxRecDepth 20000 in
/-- A slice of slices of bytes that came in. -/
theorem open_rows {H : Type} {enc : TypeId × Value → H} {W : World} {base : Nat} {v : Value} {d : DataW H} {p : List MemPlace} (hval : Value.okWide Tryz.prog W .any base 32 v)
    (h : DataW.Trod enc Tryz.prog W 0 (fun _ => true) true 32 v d p) (hw : ∀ n ∈ d.weights Tryz.prog 32, n ≤ reachBytes) : ∃ cs ls, Row W v cs ∧ HoldsAll W cs ls ∧ cs.length ≤ 140737488351232 := by
  obtain ⟨a, len, cap, rfl⟩ := okWide_slice Tryz.underlying32 hval
  obtain ⟨fuel, hf⟩ := h
  rcases DataW.trod_slice Tryz.underlying32 hf with ⟨hcs, _⟩ | ⟨x, l, c, elems, rest, n, _, hcs, hd, _, hl, hm, hlen, hel, _, _⟩
  · simp [Value.cells] at hcs
    obtain ⟨rfl, rfl, rfl⟩ := hcs
    exact ⟨[], [], .inl ⟨rfl, rfl⟩, ⟨rfl, fun j v l h => by simp at h⟩, by simp⟩
  · simp [Value.cells] at hcs
    obtain ⟨rfl, rfl, rfl⟩ := hcs
    have hdv : d = .slice (elems.map (·.1)) (rest.map (·.1)) := congrArg Prod.fst hd
    have hin : ∀ m ∈ DataW.weightsAll Tryz.prog 31 (elems.map (·.1)), m ≤ reachBytes := fun m hm' => hw m (by
      rw [hdv]
      simp only [DataW.weights, Tryz.underlying32]
      exact List.mem_cons_of_mem _ (List.mem_append_left _ hm'))
    have hsize : len ≤ 140737488351232 := by
      have h2 := hw (((elems.map (·.1)).length + (rest.map (·.1)).length) * Tryz.prog.bytesOf 31) (by
        rw [hdv]
        simp only [DataW.weights, Tryz.underlying32]
        exact List.mem_cons_self)
      rw [show Tryz.prog.bytesOf 31 = 24 by kernel_rfl] at h2
      simp [reachBytes] at h2
      omega
    have hone : ∀ i, i < len → ∃ v bs, W.cell? (x.add i) = some v ∧ Holds W v bs ∧ bs.length ≤ 140737488351232 := by
      intro i hi
      have h1 := hel i hi
      have hi' : i < elems.length := by omega
      rw [cellsBytes, Nat.mul_one, List.getElem?_eq_getElem hi'] at h1
      cases hc : W.cells? 0 (x.add i) 1 with
      | none => rw [hc] at h1; cases h1
      | some cs =>
        rw [hc] at h1
        have h2 : DataW.trod enc Tryz.prog W 0 (fun _ => true) true n 31 cs = some elems[i] := h1
        obtain ⟨v, bs, rfl, hh, hl2⟩ := bytes_of_trod h2 (fun m hm' => hin m (weightsAll_mem (List.mem_map.2 ⟨elems[i], List.getElem_mem hi', rfl⟩) m hm'))
        exact ⟨v, bs, cell_of_cells?_one hc, hh, hl2⟩
    have hall : ∀ k, k ≤ len → ∃ cs ls, cs.length = k ∧ HoldsAll W cs ls ∧ ∀ j u, cs[j]? = some u → W.cell? (x.add j) = some u := by
      intro k
      induction k with
      | zero => intro _; exact ⟨[], [], rfl, ⟨rfl, fun j v l h => by simp at h⟩, fun j u h => by simp at h⟩
      | succ k ih =>
        intro hk
        obtain ⟨cs, ls, h1, h2, h3⟩ := ih (by omega)
        obtain ⟨v, bs, h4, h5⟩ := hone k (by omega)
        refine ⟨cs ++ [v], ls ++ [bs], by simp [h1], h2.snoc h5, fun j u hj => ?_⟩
        by_cases hjk : j < cs.length
        · rw [List.getElem?_append_left hjk] at hj
          exact h3 j u hj
        · rw [List.getElem?_append_right (by omega)] at hj
          have hj1 := (List.getElem?_eq_some_iff.1 hj).1
          have h0 : j - cs.length = 0 := by simpa using hj1
          rw [h0] at hj
          simp at hj
          subst hj
          rw [show j = k by omega]
          exact h4
    obtain ⟨cs, ls, h1, h2, h3⟩ := hall len (Nat.le_refl _)
    exact ⟨cs, ls, .inr ⟨x, cap, by rw [h1], by omega, hm, h3⟩, h2, by omega⟩
theorem HoldsAll.rw {w : World} {v : Value} {cs : List Value} {ls : List (List UInt8)} (h : HoldsAll w cs ls) (hr : Row w v cs) : Rw w v ls := ⟨cs, hr, h.1, fun j u x hu hx => (h.2 j u x hu hx).1⟩
end Go.Proofs.YtjgdmbfkondakaaGreatDoor
