/-
  THE DOCUMENT's INBOX: Take, Pop, by their contracts.
-/
import Derived.Test.YtkdjpleedaldcaaRTake21
namespace Go.Proofs.Ytkdjpleedaldcaa
open Go.RowKit Go.Maps
set_option maxRecDepth 20000

theorem cells_set7 (L : List Plc) (i j : Nat) (hi : i < L.length) (hj : j < 7) (u : Value) (x' : Plc) (hx : (plcells L[i]).set j u = plcells x') : (cellsOf plcells L).set (i * 7 + j) u = cellsOf plcells (L.set i x') := by
  induction L generalizing i with
  | nil => simp at hi
  | cons r L ih =>
    rcases i with _ | i
    · simp only [List.getElem_cons_zero] at hx
      rw [cellsOf_cons, List.set_cons_zero, cellsOf_cons, ← hx, Nat.zero_mul, Nat.zero_add, List.set_append_left _ _ (by simpa [plcells] using hj)]
    · simp only [List.getElem_cons_succ] at hx
      have hi' : i < L.length := by simpa using hi
      rw [cellsOf_cons, List.set_cons_succ, cellsOf_cons, ← ih i hi' hx, List.set_append_right _ _ (by simp [plcells]; omega)]
      congr 2
      simp [plcells]; omega
theorem own_set7c {w : World} {T : TypeId} {B g n cap : Nat} {L : List Plc} (h : OwnOf plcells 7 T w B (.slice (some ⟨g, 0, none⟩) n cap) L) {i j : Nat} (hi : i < L.length) (hj : j < 7) (u : Value) (x' : Plc) (hx : (plcells L[i]).set j u = plcells x') : OwnOf plcells 7 T (w.setCell ⟨g, i * 7 + j, none⟩ u) B (.slice (some ⟨g, 0, none⟩) n cap) (L.set i x') := by
  have hc := cells_set7 L i j hi hj u x' hx
  obtain ⟨h1, h2⟩ := h
  unfold OwnOf World.ownsRow
  have hl : (L.set i x').length = L.length := List.length_set
  rw [hl, ← hc]
  refine ⟨by rw [List.length_set]; exact h1, ?_⟩
  rcases h2 with ⟨hv, _⟩ | ⟨g', cap', cur, hv, h3, h4, h5, h6, h7, h8⟩
  · cases hv
  · injection hv with hv1 hv2 hv3
    injection hv1 with hv1
    injection hv1 with hv1
    subst hv1 hv2 hv3
    refine .inr ⟨g, cap, cur.setIfInBounds (i * 7 + j) u, rfl, h3, ?_, h5, h6, by simpa using h7, ?_⟩
    · simp [World.setCell, Array.getElem?_modify, h4]
    · rw [← h8]
      simp only [Array.toList_setIfInBounds]
      rw [List.take_set]
theorem own_put7 {w : World} {T : TypeId} {B g n cap : Nat} {L : List Plc} (h : OwnOf plcells 7 T w B (.slice (some ⟨g, 0, none⟩) n cap) L) {i : Nat} (hi : i < L.length) (y : Ms) :
    OwnOf plcells 7 T (((((((w.setCell ⟨g, i * 7, none⟩ (.bool true)).setCell ⟨g, i * 7 + 1, none⟩ (.int .i64 y.origin)).setCell ⟨g, i * 7 + 2, none⟩ (.int .u64 y.seq)).setCell ⟨g, i * 7 + 3, none⟩ (.int .i64 y.hop)).setCell ⟨g, i * 7 + 4, none⟩ (.string y.ex)).setCell ⟨g, i * 7 + 5, none⟩ (.string y.key)).setCell ⟨g, i * 7 + 6, none⟩ (.string y.body)) B (.slice (some ⟨g, 0, none⟩) n cap) (L.set i ⟨true, y⟩) := by
  have h0 := own_set7c h hi (j := 0) (by decide) (.bool true) ⟨true, L[i].m⟩ rfl
  have h1 := own_set7c h0 (i := i) (by rw [List.length_set]; exact hi) (j := 1) (by decide) (.int .i64 y.origin) ⟨true, { L[i].m with origin := y.origin }⟩ (by rw [List.getElem_set_self]; rfl)
  rw [List.set_set] at h1
  have h2 := own_set7c h1 (i := i) (by rw [List.length_set]; exact hi) (j := 2) (by decide) (.int .u64 y.seq) ⟨true, { L[i].m with origin := y.origin, seq := y.seq }⟩ (by rw [List.getElem_set_self]; rfl)
  rw [List.set_set] at h2
  have h3 := own_set7c h2 (i := i) (by rw [List.length_set]; exact hi) (j := 3) (by decide) (.int .i64 y.hop) ⟨true, { L[i].m with origin := y.origin, seq := y.seq, hop := y.hop }⟩ (by rw [List.getElem_set_self]; rfl)
  rw [List.set_set] at h3
  have h4 := own_set7c h3 (i := i) (by rw [List.length_set]; exact hi) (j := 4) (by decide) (.string y.ex) ⟨true, { L[i].m with origin := y.origin, seq := y.seq, hop := y.hop, ex := y.ex }⟩ (by rw [List.getElem_set_self]; rfl)
  rw [List.set_set] at h4
  have h5 := own_set7c h4 (i := i) (by rw [List.length_set]; exact hi) (j := 5) (by decide) (.string y.key) ⟨true, { L[i].m with origin := y.origin, seq := y.seq, hop := y.hop, ex := y.ex, key := y.key }⟩ (by rw [List.getElem_set_self]; rfl)
  rw [List.set_set] at h5
  have h6 := own_set7c h5 (i := i) (by rw [List.length_set]; exact hi) (j := 6) (by decide) (.string y.body) ⟨true, y⟩ (by rw [List.getElem_set_self]; rfl)
  rw [List.set_set] at h6
  exact h6
section
variable {B : Nat} {w : World} {p : Nat} {v : Value} {m : Ib}
/-- The row is another one now. -/
theorem RI.newRow (h : RI B w p v m) {w2 : World} (hb : Below w.heap.size w w2) {m' : Ib} (hs : m'.s = m.s) (hn : m'.n = m.n) {v2 : Value} (own : OwnOf plcells 7 63 w2 w.heap.size v2 (PLi m')) (hB : B ≤ w.heap.size) : RI B (w2.setCell ⟨p, 2, none⟩ v2) p v2 m' ∧ Dry p p w (w2.setCell ⟨p, 2, none⟩ v2) := by
  have hb2 : w2.heap[p]? = some (.cells #[.int .i64 m.s, .int .u16 m.n, v] 40 (0, 0)) := (hb.block p h.lt).trans h.blk
  have h1 := heap_setCell_same w2 p 2 _ 40 v2 hb2
  refine ⟨⟨?_, ?_⟩, (Dry.of_below hb).trans (Dry.set p p w2 2 _)⟩
  · rw [h1, hs, hn]
    rfl
  · exact (own.same fun g hg => Below.heap_setCell _ _ _ _ (fun e => by have := (own.lt hg).1; have := h.lt; simp at e; omega)).mono hB
end
end Go.Proofs.Ytkdjpleedaldcaa
