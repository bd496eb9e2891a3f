/-
  A FILE OF THE DOCUMENT's STORE IS WRITTEN: the row of all files, the store behind it.
-/
import Derived.Test.YtndinjekocgjhaaRRead
import Derived.Test.YtndinjekocgjhaaRLeft
namespace Go.Proofs.Ytndinjekocgjhaa
open Go.RowKit

theorem cells_set (L : List Rf) (i j : Nat) (hi : i < L.length) (hj : j < 2) (u : Value) (x' : Rf) (hx : (rfc L[i]).set j u = rfc x') : (K.cellsOf rfc L).set (i * 2 + j) u = K.cellsOf rfc (L.set i x') := by
  induction L generalizing i with
  | nil => simp at hi
  | cons r t ih =>
    cases i with
    | zero =>
      rw [List.set_cons_zero, K.cellsOf_cons, K.cellsOf_cons, List.set_append_left _ _ (by simp [rfc]; omega)]
      simp only [Nat.zero_mul, Nat.zero_add]
      rw [show (rfc r).set j u = rfc x' from hx]
    | succ i =>
      have hl : (rfc r).length = 2 := rfl
      rw [List.set_cons_succ, K.cellsOf_cons, K.cellsOf_cons, List.set_append_right _ _ (by rw [hl]; omega), hl, show (i + 1) * 2 + j - 2 = i * 2 + j by omega]
      rw [ih i (by simpa using hi) hx]
theorem own_set {w : World} {T : TypeId} {g n cap : Nat} {L : List Rf} (h : K.OwnOf rfc 2 T w 0 (.slice (some ⟨g, 0, none⟩) n cap) L) {i j : Nat} (hi : i < L.length) (hj : j < 2) (u : Value) (x' : Rf) (hx : (rfc L[i]).set j u = rfc x') : K.OwnOf rfc 2 T (w.setCell ⟨g, i * 2 + j, none⟩ u) 0 (.slice (some ⟨g, 0, none⟩) n cap) (L.set i x') := by
  have hc := cells_set L i j hi hj u x' hx
  obtain ⟨h1, h2⟩ := h
  unfold K.OwnOf World.ownsRow
  have hl : (L.set i x').length = L.length := List.length_set
  rw [hl, ← hc]
  refine ⟨by rw [List.length_set]; exact h1, ?_⟩
  rcases h2 with ⟨hv, _⟩ | ⟨g', cap', cur, hv, h3, h4, h5, h6, h7, h8⟩
  · cases hv
  · injection hv with hv1 hv2 hv3
    injection hv1 with hv1
    injection hv1 with hv1
    subst hv1 hv2 hv3
    refine .inr ⟨g, cap, cur.setIfInBounds (i * 2 + j) u, rfl, h3, ?_, h5, h6, by simpa using h7, ?_⟩
    · have := heap_setCell_same w g (i * 2 + j) _ _ u h4
      simpa using this
    · rw [← h8]
      simp only [Array.toList_setIfInBounds]
      rw [List.take_set]
section
variable {w V : World} {p g n cap : Nat} {D S : Value} {L : List Rf} {kp : Int} {m : M}
theorem RAt.apart (h : RAt w p (.slice (some ⟨g, 0, none⟩) n cap) D S L kp m) {k : Nat} (hk : k = p ∨ D.ownBlock = some k ∨ S.ownBlock = some k ∨ ∃ x ∈ L, x.now.ownBlock = some k ∨ x.sure.ownBlock = some k) : k ≠ g := by
  obtain ⟨cg, hg⟩ := own_ty h.all (g := g) rfl
  have : ∃ c t, w.heap[k]? = some (.cells c t (0, 0)) ∧ t ≠ 92 := by
    rcases hk with rfl | hk | hk | ⟨x, hx, hk⟩
    · exact ⟨_, _, h.blk, by decide⟩
    · obtain ⟨c, hc⟩ := own_ty h.dir hk; exact ⟨c, _, hc, by decide⟩
    · obtain ⟨c, hc⟩ := own_ty h.sur hk; exact ⟨c, _, hc, by decide⟩
    · obtain ⟨i, hi, rfl⟩ := List.mem_iff_getElem.1 hx
      rcases hk with hk | hk
      · obtain ⟨c, hc⟩ := (h.now i hi).blk hk; exact ⟨c, _, hc, by decide⟩
      · obtain ⟨c, hc⟩ := (h.sure i hi).blk hk; exact ⟨c, _, hc, by decide⟩
  obtain ⟨c, t, hc, ht⟩ := this
  rintro rfl
  rw [hg] at hc
  simp only [Option.some.injEq, Obj.cells.injEq] at hc
  exact ht hc.2.1.symm
/-- One file is another now: its bytes lie where no row of files does. -/
theorem RAt.put (h : RAt w p (.slice (some ⟨g, 0, none⟩) n cap) D S L kp m) {i : Nat} (hi : i < L.length) {x' : Rf} {y : Fl} (hn : Buf V x'.now y.now) (hs : Buf V x'.sure y.sure) (hall : K.OwnOf rfc 2 92 V 0 (.slice (some ⟨g, 0, none⟩) n cap) (L.set i x')) (ho : ∀ k, k < w.heap.size → k ≠ g → V.heap[k]? = w.heap[k]?) : RAt V p (.slice (some ⟨g, 0, none⟩) n cap) D S (L.set i x') kp { m with all := m.all.set i y } := by
  have ho' : ∀ k, (k = p ∨ D.ownBlock = some k ∨ S.ownBlock = some k ∨ ∃ x ∈ L, x.now.ownBlock = some k ∨ x.sure.ownBlock = some k) → V.heap[k]? = w.heap[k]? := fun k hk => by
    refine ho k (h.lts k ?_) (h.apart hk)
    rcases hk with hk | hk | hk | hk
    · exact .inl hk
    · exact .inr (.inr (.inl hk))
    · exact .inr (.inr (.inr (.inl hk)))
    · exact .inr (.inr (.inr (.inr hk)))
  have hfl : ∀ j, j < L.length → ({ m with all := m.all.set i y } : M).fl j = if j = i then y else m.fl j := fun j hj => M.at_set y (by rw [← h.len]; exact hi)
  refine ⟨by rw [ho' p (.inl rfl)]; exact h.blk, h.keep, hall, own_same h.dir fun k hk => ho' k (.inr (.inl hk)), own_same h.sur fun k hk => ho' k (.inr (.inr (.inl hk))), by simp [h.len], fun j hj => ?_, fun j hj => ?_⟩
  · have hj' : j < L.length := by simpa using hj
    rw [hfl j hj']
    by_cases e : j = i
    · subst e; rw [if_pos rfl]; simpa using hn
    · rw [if_neg e, List.getElem_set_ne (fun e' => e e'.symm)]
      exact (h.now j hj').same fun k hk => ho' k (.inr (.inr (.inr ⟨_, List.getElem_mem hj', .inl hk⟩)))
  · have hj' : j < L.length := by simpa using hj
    rw [hfl j hj']
    by_cases e : j = i
    · subst e; rw [if_pos rfl]; simpa using hs
    · rw [if_neg e, List.getElem_set_ne (fun e' => e e'.symm)]
      exact (h.sure j hj').same fun k hk => ho' k (.inr (.inr (.inr ⟨_, List.getElem_mem hj', .inr hk⟩)))
end
end Go.Proofs.Ytndinjekocgjhaa
