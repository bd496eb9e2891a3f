/-
  PACKAGE span: touches, melt, by their contracts.
-/
import Derived.Test.YtnlllpgdhnmccaaInsert
import Derived.Test.YtnlllpgdhnmccaaPuts
import Derived.Test.YtnlllpgdhnmccaaSearch
namespace Go.Proofs.Ytnlllpgdhnmccaa
open Go.RowKit Go.Sort

set_option maxHeartbeats 400000 in
theorem touches_any (a1 a2 r1 r2 : Nat) (W : World) (h1 : 1 ≤ r1) (h2 : r1 < 18446744073709551616) :
    Calls Try.prog 51 #[.agg #[.int .u64 (a1 : Int), .int .u64 (a2 : Int)], .agg #[.int .u64 (r1 : Int), .int .u64 (r2 : Int)]] W fun e w' => e = .returned (.bool (decide (r1 ≤ a2 + 1))) ∧ ∃ q os', w' = grow (W.drewN q) os' := by
  have hw : IntKind.u64.wrap ((r1 : Int) - 1) = (r1 : Int) - 1 := by rw [IntKind.wrap_u64]; omega
  have hd : decide (r1 ≤ a2 + 1) = decide ((r1 : Int) - 1 ≤ (a2 : Int)) := by rw [decide_eq_decide]; omega
  rw [hd]
  go_enter Try.func51, Try.ntmps51
  go_wp2
  go_ret
  exact ⟨rfl, 0, _, by rw [alloc_eq_grow, alloc_eq_grow, grow_grow]; rfl⟩

/-- What a round of melt carries: the row's block holds the melted ones at its head, the rest of l where it was. -/
structure Melt (w wr : World) (g c : Nat) (l out : List (Nat × Nat)) (k : Nat) : Prop where
  blk : ∃ C : List Value, wr.heap[g]? = some (.cells C.toArray 76 (0, 0)) ∧ C.length = c * 2 ∧ C.take (out.length * 2) = rcells out ∧ ∀ q, k * 2 ≤ q → q < l.length * 2 → C[q]? = (rcells l)[q]?
  size : w.heap.size ≤ wr.heap.size
  os : wr.os = w.os
  tape : wr.tape = w.tape
  output : wr.output = w.output
  block : ∀ i, i < w.heap.size → i ≠ g → wr.heap[i]? = w.heap[i]?

theorem Melt.lt {w wr : World} {g c k : Nat} {l out : List (Nat × Nat)} (h : Melt w wr g c l out k) : g < wr.heap.size := by
  obtain ⟨C, hC, _⟩ := h.blk
  exact (Array.getElem?_eq_some_iff.1 hC).1
theorem Melt.below {w wr W : World} {g c k B : Nat} {l out : List (Nat × Nat)} (h : Melt w wr g c l out k) (hb : RowKit.Below B wr W) (hB : wr.heap.size ≤ B) : Melt w W g c l out k := by
  have hlt := h.lt
  obtain ⟨C, hC, rest⟩ := h.blk
  exact ⟨⟨C, by rw [hb.block g (by omega)]; exact hC, rest⟩, Nat.le_trans h.size hb.size, hb.os.trans h.os, hb.tape.trans h.tape, hb.output.trans h.output, fun i hi hne => by rw [hb.block i (by have := h.size; omega)]; exact h.block i hi hne⟩
/-- The last of the melted ones lies in memory. -/
theorem Melt.last {w wr : World} {g c k a1 a2 : Nat} {l i : List (Nat × Nat)} (h : Melt w wr g c l (i ++ [(a1, a2)]) k) : wr.cell? ⟨g, i.length * 2, none⟩ = some (.int .u64 (a1 : Int)) ∧ wr.cell? ⟨g, i.length * 2 + 1, none⟩ = some (.int .u64 (a2 : Int)) ∧ wr.frozen? ⟨g, i.length * 2 + 1, none⟩ = false := by
  obtain ⟨C, hC, hCl, hCt, _⟩ := h.blk
  have hg := rcells_get (i ++ [(a1, a2)]) i.length (by simp)
  rw [← hCt] at hg
  simp only [List.getElem?_take, List.length_append, List.length_cons, List.length_nil, List.getElem_concat_length] at hg
  rw [if_pos (by omega), if_pos (by omega)] at hg
  exact ⟨by rw [cell_of_list hC]; exact hg.1, by rw [cell_of_list hC]; exact hg.2, frozen_of_list hC _⟩
/-- One more at the end. -/
theorem Melt.push {w W w' : World} {g c k r1 r2 : Nat} {l out : List (Nat × Nat)} (h : Melt w W g c l out k) (C : List Value) (hC : W.heap[g]? = some (.cells C.toArray 76 (0, 0))) (hk : out.length ≤ k) (hkl : k < l.length) (hlc : l.length ≤ c)
    (h' : w'.heap[g]? = some (.cells (splice C (out.length * 2) (rcells [(r1, r2)])).toArray 76 (0, 0))) (ho : Only g W w') : Melt w w' g c l (out ++ [(r1, r2)]) (k + 1) := by
  obtain ⟨C', hC', hCl, hCt, hCq⟩ := h.blk
  rw [hC] at hC'
  injection hC' with hC'
  injection hC' with hC' _ _
  have : C = C' := by simpa using hC'
  subst this
  have hA := rcells_length out
  have hsp : C = rcells out ++ C.drop (out.length * 2) := by conv => lhs; rw [← List.take_append_drop (out.length * 2) C, hCt]
  have hs := splice_in C (rcells out) (C.drop (out.length * 2)) (rcells [(r1, r2)]) 0 (out.length * 2) hsp (by rw [hA]; omega)
  have hlen : (splice C (out.length * 2) (rcells [(r1, r2)])).length = C.length := length_splice _ _ _ (by rw [hCl]; show out.length * 2 + 2 ≤ _; omega)
  refine ⟨⟨_, h', by rw [hlen]; exact hCl, ?_, fun q hq1 hq2 => ?_⟩, by rw [ho.size]; exact h.size, ho.os.trans h.os, ho.tape.trans h.tape, ho.output.trans h.output, fun i hi hne => by rw [ho.block i hne]; exact h.block i hi hne⟩
  · rw [hs, rcells_append, List.take_zero, List.nil_append, ← List.append_assoc, List.length_append]
    rw [show (out.length + [(r1, r2)].length) * 2 = (rcells out ++ rcells [(r1, r2)]).length by rw [List.length_append, hA]; show (out.length + 1) * 2 = out.length * 2 + 2; omega]
    exact List.take_left
  · rw [← hCq q (by omega) hq2]
    rw [splice, List.getElem?_append_right (by rw [List.length_take]; omega), List.getElem?_append_right (by rw [List.length_take]; show 2 ≤ _; omega), List.getElem?_drop, List.length_take]
    congr 1
    show out.length * 2 + 2 + (q - min (out.length * 2) C.length - 2) = q
    omega
/-- The last one longer. -/
theorem Melt.longer {w W : World} {g c k a1 a2 m : Nat} {l i : List (Nat × Nat)} (h : Melt w W g c l (i ++ [(a1, a2)]) k) (hk : i.length + 1 ≤ k) : Melt w (W.setCell ⟨g, i.length * 2 + 1, none⟩ (.int .u64 (m : Int))) g c l (i ++ [(a1, m)]) (k + 1) := by
  obtain ⟨C, hC, hCl, hCt, hCq⟩ := h.blk
  have hs := heap_setCell_same W g (i.length * 2 + 1) _ _ (.int .u64 (m : Int)) hC
  refine ⟨⟨C.set (i.length * 2 + 1) (.int .u64 (m : Int)), by simpa using hs, by simpa using hCl, ?_, fun q hq1 hq2 => ?_⟩, by simpa using h.size, h.os, h.tape, h.output, fun j hj hne => by rw [heap_setCell_other _ _ _ _ hne]; exact h.block j hj hne⟩
  · have e1 : (i ++ [(a1, m)]).length * 2 = (i ++ [(a1, a2)]).length * 2 := by simp
    rw [e1, List.take_set, hCt, rcells_append, rcells_append, rcells_cons, rcells_cons, rcells_nil]
    have hA := rcells_length i
    rw [List.set_append_right _ _ (by rw [hA]; omega), hA]
    simp
  · rw [List.getElem?_set_ne (by omega)]
    exact hCq q (by omega) hq2

end Go.Proofs.Ytnlllpgdhnmccaa
