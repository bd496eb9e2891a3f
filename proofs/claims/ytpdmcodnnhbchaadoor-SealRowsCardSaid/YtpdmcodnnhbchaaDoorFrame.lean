/-
  WHAT ALL CARDS OF THIS SEAT NEED: the table as the row lists it, a slice of bytes that came in, a slice of such; how long each can be.
-/
import Derived.Test.YtpdmcodnnhbchaaDoorRows
import Derived.Test.YtpdmcodnnhbchaaDoorGet
import Derived.Test.YtpdmcodnnhbchaaDoorRow
import Derived.WalkKit
import Derived.ProofKit
import Derived.OpenShut
import Derived.ChangeOld
import Derived.SizedLaws
import Derived.Deep.DeepHandedRow
import Derived.Lib.LaidTab
namespace Go.Proofs.YtpdmcodnnhbchaaDoor
open Go.ChangeShapes Go.WideShapes Go.ChangeAt Go.RowKit

theorem own : ownKnob Tryd.prog.godebug = none := by kernel_rfl
theorem laidOut : laidOutB Tryd.prog = true := by kernel_rfl
theorem gTab : Tryd.prog.globalNamed "staith/word.widths" = some 0 := by kernel_rfl
theorem gTabType : (Tryd.prog.globals[0]?).map (·.type) = some 50 := by kernel_rfl
theorem cellsTab : Tryd.prog.cellsOf 50 = 4 := by kernel_rfl
theorem cellsInt : Tryd.prog.cellsOf 3 = 1 := by kernel_rfl
theorem cellsBytes : Tryd.prog.cellsOf 22 = 1 := by kernel_rfl
theorem bytesU8 : Tryd.prog.bytesOf 5 = 1 := by kernel_rfl

/-- The row's list gives the table's cells. -/
theorem tab_of {W : World} (h : laidMetH Tryd.prog [("staith/word.widths", Rows.laid_staith_word_widths)] W) : Tab W := by
  have hT : Lib.TabIs Tryd.prog W "staith/word.widths" .i64 [1, 2, 4, 8] :=
    Lib.tabIs_of_head (rest := []) gTab gTabType Tryd.underlying50 Tryd.underlying3 cellsInt cellsTab h
  intro j u hj
  match j, hj with
  | 0, hj => cases hj; exact hT.cell gTab 0 (by decide)
  | 1, hj => cases hj; exact hT.cell gTab 1 (by decide)
  | 2, hj => cases hj; exact hT.cell gTab 2 (by decide)
  | 3, hj => cases hj; exact hT.cell gTab 3 (by decide)
  | j + 4, hj => simp at hj

/-- A slice of bytes that was read holds some bytes; no more than the form's reach. -/
theorem bytes_of_trod {H : Type} {enc : TypeId × Value → H} {W : World} {fuel : Nat} {cs : List Value} {x : DataW H × List MemPlace} (hf : DataW.trod enc Tryd.prog W 0 (fun _ => true) true fuel 22 cs = some x)
    (hw : ∀ n ∈ x.1.weights Tryd.prog 22, n ≤ reachBytes) : ∃ v bs, cs = [v] ∧ Holds W v bs ∧ bs.length ≤ 140737488351232 := by
  rcases open_ints Tryd.underlying22 Tryd.underlying5 (by kernel_rfl) hf with ⟨rfl, _⟩ | ⟨x, len, cap, zs, rfl, _, hl, hm, hz, rfl, hcell, hwz⟩
  · exact ⟨_, [], rfl, .inl ⟨rfl, rfl⟩, by simp⟩
  · have hzl : zs.length = cap := by simpa using hz
    have hlen : ((zs.take len).map fun z => UInt8.ofNat z.toNat).length = len := by simp; omega
    refine ⟨_, (zs.take len).map fun z => UInt8.ofNat z.toNat, rfl, .inr ⟨x, cap, by rw [hlen], by omega, hm, fun j u hj => ?_⟩, ?_⟩
    · have hj' : j < len := by
        have := (List.getElem?_eq_some_iff.1 hj).1
        rw [bcells_length, hlen] at this
        exact this
      have hjz : j < zs.length := by omega
      have hb := bounds_u8 (hwz zs[j] (List.getElem_mem hjz))
      have hu : u = .int .u8 zs[j] := by
        simp only [bcells, List.map_map, List.getElem?_map, List.getElem?_take, hj', if_true, List.getElem?_eq_getElem hjz, Option.map_some, Function.comp, Option.some.injEq] at hj
        rw [← hj]
        congr 1
        simp
        omega
      rw [hu, hcell j hjz]
      simp [List.getD, hjz]
    · have h1 := hw (((lits (H := H) .u8 (zs.take len)).length + (lits (H := H) .u8 (zs.drop len)).length) * Tryd.prog.bytesOf 5) (by
        simp only [DataW.weights, Tryd.underlying22]
        exact List.mem_cons_self)
      rw [hlen]
      rw [bytesU8] at h1
      simp [lits, reachBytes] at h1
      omega

/-- A slice of bytes that came in. -/
theorem open_bytes {H : Type} {enc : TypeId × Value → H} {W : World} {base : Nat} {v : Value} {d : DataW H} {p : List MemPlace} (hval : Value.okWide Tryd.prog W .any base 22 v)
    (h : DataW.Trod enc Tryd.prog W 0 (fun _ => true) true 22 v d p) (hw : ∀ n ∈ d.weights Tryd.prog 22, n ≤ reachBytes) : ∃ bs, Holds W v bs ∧ bs.length ≤ 140737488351232 := by
  obtain ⟨a, len, cap, rfl⟩ := okWide_slice Tryd.underlying22 hval
  obtain ⟨fuel, hf⟩ := h
  obtain ⟨v, bs, hv, hh, hl⟩ := bytes_of_trod hf hw
  simp [Value.cells] at hv
  subst hv
  exact ⟨bs, hh, hl⟩

/-- Each of the slices cs holds the bytes that ls tells. -/
def HoldsAll (w : World) (cs : List Value) (ls : List (List UInt8)) : Prop :=
  cs.length = ls.length ∧ ∀ (j : Nat) (v : Value) (l : List UInt8), cs[j]? = some v → ls[j]? = some l → Holds w v l ∧ l.length ≤ 140737488351232
theorem HoldsAll.snoc {w : World} {cs : List Value} {ls : List (List UInt8)} {c : Value} {l : List UInt8} (h : HoldsAll w cs ls) (hc : Holds w c l ∧ l.length ≤ 140737488351232) : HoldsAll w (cs ++ [c]) (ls ++ [l]) := by
  refine ⟨by simp [h.1], fun j v x hv hx => ?_⟩
  by_cases hj : j < cs.length
  · rw [List.getElem?_append_left hj] at hv
    rw [List.getElem?_append_left (by rw [← h.1]; exact hj)] at hx
    exact h.2 j v x hv hx
  · rw [List.getElem?_append_right (by omega)] at hv
    rw [List.getElem?_append_right (by rw [← h.1]; omega)] at hx
    have h1 := (List.getElem?_eq_some_iff.1 hv).1
    have h0 : j - cs.length = 0 := by simpa using h1
    rw [h0] at hv
    rw [← h.1, h0] at hx
    simp at hv hx
    subst hv hx
    exact hc

theorem weightsAll_mem {H : Type} {P : Program} {e : TypeId} : ∀ {ds : List (DataW H)} {d : DataW H}, d ∈ ds → ∀ n ∈ d.weights P e, n ∈ DataW.weightsAll P e ds
  | d0 :: ds, d, hd, n, hn => by
    simp only [DataW.weightsAll, List.mem_append]
    rcases List.mem_cons.1 hd with rfl | h
    · exact Or.inl hn
    · exact Or.inr (weightsAll_mem h n hn)

/-- A slice of slices of bytes that came in. -/
theorem open_rows {H : Type} {enc : TypeId × Value → H} {W : World} {base : Nat} {v : Value} {d : DataW H} {p : List MemPlace} (hval : Value.okWide Tryd.prog W .any base 36 v)
    (h : DataW.Trod enc Tryd.prog W 0 (fun _ => true) true 36 v d p) (hw : ∀ n ∈ d.weights Tryd.prog 36, n ≤ reachBytes) : ∃ cs ls, Row W v cs ∧ HoldsAll W cs ls ∧ cs.length ≤ 140737488351232 := by
  obtain ⟨a, len, cap, rfl⟩ := okWide_slice Tryd.underlying36 hval
  obtain ⟨fuel, hf⟩ := h
  rcases DataW.trod_slice Tryd.underlying36 hf with ⟨hcs, _⟩ | ⟨x, l, c, elems, rest, n, _, hcs, hd, _, hl, hm, hlen, hel, _, _⟩
  · simp [Value.cells] at hcs
    obtain ⟨rfl, rfl, rfl⟩ := hcs
    exact ⟨[], [], .inl ⟨rfl, rfl⟩, ⟨rfl, fun j v l h => by simp at h⟩, by simp⟩
  · simp [Value.cells] at hcs
    obtain ⟨rfl, rfl, rfl⟩ := hcs
    have hdv : d = .slice (elems.map (·.1)) (rest.map (·.1)) := congrArg Prod.fst hd
    have hin : ∀ m ∈ DataW.weightsAll Tryd.prog 22 (elems.map (·.1)), m ≤ reachBytes := fun m hm' => hw m (by
      rw [hdv]
      simp only [DataW.weights, Tryd.underlying36]
      exact List.mem_cons_of_mem _ (List.mem_append_left _ hm'))
    have hsize : len ≤ 140737488351232 := by
      have h2 := hw (((elems.map (·.1)).length + (rest.map (·.1)).length) * Tryd.prog.bytesOf 22) (by
        rw [hdv]
        simp only [DataW.weights, Tryd.underlying36]
        exact List.mem_cons_self)
      rw [show Tryd.prog.bytesOf 22 = 24 by kernel_rfl] at h2
      simp [reachBytes] at h2
      omega
    have hone : ∀ i, i < len → ∃ v bs, W.cell? (x.add i) = some v ∧ Holds W v bs ∧ bs.length ≤ 140737488351232 := by
      intro i hi
      have h1 := hel i hi
      have hi' : i < elems.length := by omega
      rw [cellsBytes, Nat.mul_one, List.getElem?_eq_getElem hi'] at h1
      cases hc : W.cells? 0 (x.add i) 1 with
      | none => rw [hc] at h1; cases h1
      | some cs =>
        rw [hc] at h1
        have h2 : DataW.trod enc Tryd.prog W 0 (fun _ => true) true n 22 cs = some elems[i] := h1
        obtain ⟨v, bs, rfl, hh, hl2⟩ := bytes_of_trod h2 (fun m hm' => hin m (weightsAll_mem (List.mem_map.2 ⟨elems[i], List.getElem_mem hi', rfl⟩) m hm'))
        exact ⟨v, bs, cell_of_cells?_one hc, hh, hl2⟩
    have hall : ∀ k, k ≤ len → ∃ cs ls, cs.length = k ∧ HoldsAll W cs ls ∧ ∀ j u, cs[j]? = some u → W.cell? (x.add j) = some u := by
      intro k
      induction k with
      | zero => intro _; exact ⟨[], [], rfl, ⟨rfl, fun j v l h => by simp at h⟩, fun j u h => by simp at h⟩
      | succ k ih =>
        intro hk
        obtain ⟨cs, ls, h1, h2, h3⟩ := ih (by omega)
        obtain ⟨v, bs, h4, h5⟩ := hone k (by omega)
        refine ⟨cs ++ [v], ls ++ [bs], by simp [h1], h2.snoc h5, fun j u hj => ?_⟩
        by_cases hjk : j < cs.length
        · rw [List.getElem?_append_left hjk] at hj
          exact h3 j u hj
        · rw [List.getElem?_append_right (by omega)] at hj
          have hj1 := (List.getElem?_eq_some_iff.1 hj).1
          have h0 : j - cs.length = 0 := by simpa using hj1
          rw [h0] at hj
          simp at hj
          subst hj
          rw [show j = k by omega]
          exact h4
    obtain ⟨cs, ls, h1, h2, h3⟩ := hall len (Nat.le_refl _)
    exact ⟨cs, ls, .inr ⟨x, cap, by rw [h1], by omega, hm, h3⟩, h2, by omega⟩
end Go.Proofs.YtpdmcodnnhbchaaDoor
