/-
  PACKAGE span: touches, melt, by their contracts.
-/
import Derived.Test.YtdgbcjdikkmgdaaInsert
import Derived.Test.YtdgbcjdikkmgdaaPuts
import Derived.Test.YtdgbcjdikkmgdaaSearch
namespace Go.Proofs.Ytdgbcjdikkmgdaa
open Go.RowKit Go.Sort

set_option maxHeartbeats 400000 in
theorem touches_any (a1 a2 r1 r2 : Nat) (W : World) (h1 : 1 ≤ r1) (h2 : r1 < 18446744073709551616) :
    Calls Try.prog 36 #[.agg #[.int .u64 (a1 : Int), .int .u64 (a2 : Int)], .agg #[.int .u64 (r1 : Int), .int .u64 (r2 : Int)]] W fun e w' => e = .returned (.bool (decide (r1 ≤ a2 + 1))) ∧ ∃ q os', w' = grow (W.drewN q) os' := by
  have hw : IntKind.u64.wrap ((r1 : Int) - 1) = (r1 : Int) - 1 := by rw [IntKind.wrap_u64]; omega
  have hd : decide (r1 ≤ a2 + 1) = decide ((r1 : Int) - 1 ≤ (a2 : Int)) := by rw [decide_eq_decide]; omega
  rw [hd]
  go_enter Try.func36, Try.ntmps36
  go_wp2
  go_ret
  exact ⟨rfl, 0, _, by rw [alloc_eq_grow, alloc_eq_grow, grow_grow]; rfl⟩

/-- What a round of melt carries: the row's block holds the melted ones at its head, the rest of l where it was. -/
structure Melt (w wr : World) (g c : Nat) (l out : List (Nat × Nat)) (k : Nat) : Prop where
  blk : ∃ C : List Value, wr.heap[g]? = some (.cells C.toArray 43 (0, 0)) ∧ C.length = c * 2 ∧ C.take (out.length * 2) = rcells out ∧ ∀ q, k * 2 ≤ q → q < l.length * 2 → C[q]? = (rcells l)[q]?
  size : w.heap.size ≤ wr.heap.size
  os : wr.os = w.os
  tape : wr.tape = w.tape
  output : wr.output = w.output
  block : ∀ i, i < w.heap.size → i ≠ g → wr.heap[i]? = w.heap[i]?

theorem Melt.lt {w wr : World} {g c k : Nat} {l out : List (Nat × Nat)} (h : Melt w wr g c l out k) : g < wr.heap.size := by
  obtain ⟨C, hC, _⟩ := h.blk
  exact (Array.getElem?_eq_some_iff.1 hC).1
theorem Melt.below {w wr W : World} {g c k B : Nat} {l out : List (Nat × Nat)} (h : Melt w wr g c l out k) (hb : RowKit.Below B wr W) (hB : wr.heap.size ≤ B) : Melt w W g c l out k := by
  have hlt := h.lt
  obtain ⟨C, hC, rest⟩ := h.blk
  exact ⟨⟨C, by rw [hb.block g (by omega)]; exact hC, rest⟩, Nat.le_trans h.size hb.size, hb.os.trans h.os, hb.tape.trans h.tape, hb.output.trans h.output, fun i hi hne => by rw [hb.block i (by have := h.size; omega)]; exact h.block i hi hne⟩
/-- The last of the melted ones lies in memory. -/
theorem Melt.last {w wr : World} {g c k a1 a2 : Nat} {l i : List (Nat × Nat)} (h : Melt w wr g c l (i ++ [(a1, a2)]) k) : wr.cell? ⟨g, i.length * 2, none⟩ = some (.int .u64 (a1 : Int)) ∧ wr.cell? ⟨g, i.length * 2 + 1, none⟩ = some (.int .u64 (a2 : Int)) ∧ wr.frozen? ⟨g, i.length * 2 + 1, none⟩ = false := by
  obtain ⟨C, hC, hCl, hCt, _⟩ := h.blk
  have hg := rcells_get (i ++ [(a1, a2)]) i.length (by simp)
  rw [← hCt] at hg
  simp only [List.getElem?_take, List.length_append, List.length_cons, List.length_nil, List.getElem_concat_length] at hg
  rw [if_pos (by omega), if_pos (by omega)] at hg
  exact ⟨by rw [cell_of_list hC]; exact hg.1, by rw [cell_of_list hC]; exact hg.2, frozen_of_list hC _⟩
/-- One more at the end. -/
theorem Melt.push {w W w' : World} {g c k r1 r2 : Nat} {l out : List (Nat × Nat)} (h : Melt w W g c l out k) (C : List Value) (hC : W.heap[g]? = some (.cells C.toArray 43 (0, 0))) (hk : out.length ≤ k) (hkl : k < l.length) (hlc : l.length ≤ c)
    (h' : w'.heap[g]? = some (.cells (splice C (out.length * 2) (rcells [(r1, r2)])).toArray 43 (0, 0))) (ho : Only g W w') : Melt w w' g c l (out ++ [(r1, r2)]) (k + 1) := by
  obtain ⟨C', hC', hCl, hCt, hCq⟩ := h.blk
  rw [hC] at hC'
  injection hC' with hC'
  injection hC' with hC' _ _
  have : C = C' := by simpa using hC'
  subst this
  have hA := rcells_length out
  have hsp : C = rcells out ++ C.drop (out.length * 2) := by conv => lhs; rw [← List.take_append_drop (out.length * 2) C, hCt]
  have hs := splice_in C (rcells out) (C.drop (out.length * 2)) (rcells [(r1, r2)]) 0 (out.length * 2) hsp (by rw [hA]; omega)
  have hlen : (splice C (out.length * 2) (rcells [(r1, r2)])).length = C.length := length_splice _ _ _ (by rw [hCl]; show out.length * 2 + 2 ≤ _; omega)
  refine ⟨⟨_, h', by rw [hlen]; exact hCl, ?_, fun q hq1 hq2 => ?_⟩, by rw [ho.size]; exact h.size, ho.os.trans h.os, ho.tape.trans h.tape, ho.output.trans h.output, fun i hi hne => by rw [ho.block i hne]; exact h.block i hi hne⟩
  · rw [hs, rcells_append, List.take_zero, List.nil_append, ← List.append_assoc, List.length_append]
    rw [show (out.length + [(r1, r2)].length) * 2 = (rcells out ++ rcells [(r1, r2)]).length by rw [List.length_append, hA]; show (out.length + 1) * 2 = out.length * 2 + 2; omega]
    exact List.take_left
  · rw [← hCq q (by omega) hq2]
    rw [splice, List.getElem?_append_right (by rw [List.length_take]; omega), List.getElem?_append_right (by rw [List.length_take]; show 2 ≤ _; omega), List.getElem?_drop, List.length_take]
    congr 1
    show out.length * 2 + 2 + (q - min (out.length * 2) C.length - 2) = q
    omega
/-- The last one longer. -/
theorem Melt.longer {w W : World} {g c k a1 a2 m : Nat} {l i : List (Nat × Nat)} (h : Melt w W g c l (i ++ [(a1, a2)]) k) (hk : i.length + 1 ≤ k) : Melt w (W.setCell ⟨g, i.length * 2 + 1, none⟩ (.int .u64 (m : Int))) g c l (i ++ [(a1, m)]) (k + 1) := by
  obtain ⟨C, hC, hCl, hCt, hCq⟩ := h.blk
  have hs := heap_setCell_same W g (i.length * 2 + 1) _ _ (.int .u64 (m : Int)) hC
  refine ⟨⟨C.set (i.length * 2 + 1) (.int .u64 (m : Int)), by simpa using hs, by simpa using hCl, ?_, fun q hq1 hq2 => ?_⟩, by simpa using h.size, h.os, h.tape, h.output, fun j hj hne => by rw [heap_setCell_other _ _ _ _ hne]; exact h.block j hj hne⟩
  · have e1 : (i ++ [(a1, m)]).length * 2 = (i ++ [(a1, a2)]).length * 2 := by simp
    rw [e1, List.take_set, hCt, rcells_append, rcells_append, rcells_cons, rcells_cons, rcells_nil]
    have hA := rcells_length i
    rw [List.set_append_right _ _ (by rw [hA]; omega), hA]
    simp
  · rw [List.getElem?_set_ne (by omega)]
    exact hCq q (by omega) hq2

set_option maxHeartbeats 2000000 in
set_option maxRecDepth 100000 in
theorem melt_any (g c : Nat) (l : List (Nat × Nat)) (w : World) (hown : Own2 w 0 (.slice (some ⟨g, 0, none⟩) l.length c) l) (hr : ∀ r ∈ l, 1 ≤ r.1 ∧ r.2 < 18446744073709551616 ∧ r.1 ≤ r.2) (hlen : l.length ≤ 1000000) (hp : 0 < l.length) :
    Calls Try.prog 41 #[.slice (some ⟨g, 0, none⟩) l.length c] w fun e w' => e = .returned (.slice (some ⟨g, 0, none⟩) (meltL l).length c) ∧ Own2 w' 0 (.slice (some ⟨g, 0, none⟩) (meltL l).length c) (meltL l) ∧ w.grownBy w' (some g) := by
  rcases hown.2 with ⟨h, _⟩ | ⟨g', c', cur, hv, _, hg, hnc, hcm, hcur, htk⟩
  · cases h
  · injection hv with hv1 _ hv3
    injection hv1 with hv1
    injection hv1 with hv1 _ _
    subst hv1 hv3
    have hc63 : c ≤ 9223372036854775807 := by unfold maxLen at hcm; omega
    have hgw : g < w.heap.size := (Array.getElem?_eq_some_iff.1 hg).1
    have M0 : Hid (Melt w w g c l [] 0) := ⟨⟨cur.toList, by simpa using hg, by simpa using hcur, by simp [rcells_nil], fun q _ hq => by
      rw [← htk, List.getElem?_take, if_pos hq]⟩, Nat.le_refl _, rfl, rfl, rfl, fun _ _ _ => rfl⟩
    have HR : Hid (∀ r ∈ l, 1 ≤ r.1 ∧ r.2 < 18446744073709551616 ∧ r.1 ≤ r.2) := hr
    have hc0 : 0 < c := by omega
    obtain ⟨i0, hi0, hz0, hzs, hzb⟩ := rngInfo
    clear hown hg hcur htk hr
    go_enter Try.func41, Try.ntmps41
    go_wp2
    go_loopw [3, 11] (fun u3 u11 wr => ∃ (k : Nat) (out : List (Nat × Nat)), u11 = .int .i64 k ∧ u3 = .slice (some ⟨g, 0, none⟩) out.length c ∧ k ≤ l.length ∧ out.length ≤ k ∧ Hid (Melt w wr g c l out k ∧ (out = [] → k = 0) ∧ (∀ i a, out = i ++ [a] → i ++ meltR a (l.drop k) = meltL l))) (fun _ u11 _ => l.length - (intOf u11).toNat)
    case atStart => exact ⟨0, [], rfl, rfl, Nat.zero_le _, Nat.le_refl _, (⟨M0.out, fun _ => rfl, fun i a h => by simp at h⟩ : _ ∧ _)⟩
    case round =>
      obtain ⟨k, out, rfl, rfl, hk, ho, HB⟩ := hrel
      obtain ⟨C, hC, hCl, hCt, hCq⟩ := HB.out.1.blk
      have hgr : g < wr.heap.size := Nat.lt_of_lt_of_le hgw HB.out.1.size
      by_cases hlt : k < l.length
      · have hd : Hid (l.drop k = l[k] :: l.drop (k + 1)) := List.drop_eq_getElem_cons hlt
        obtain ⟨rc0, rc1⟩ := rcells_get l k hlt
        have c0 : wr.cell? ⟨g, k * 2, none⟩ = some (.int .u64 (l[k].1 : Int)) := by rw [cell_of_list hC, hCq _ (Nat.le_refl _) (by omega)]; exact rc0
        have c1 : wr.cell? ⟨g, k * 2 + 1, none⟩ = some (.int .u64 (l[k].2 : Int)) := by rw [cell_of_list hC, hCq _ (by omega) (by omega)]; exact rc1
        have hrr := HR.out l[k] (List.getElem_mem hlt)
        generalize l[k] = r at *
        obtain ⟨r1, r2⟩ := r
        simp only at c0 c1 hrr
        clear rc0 rc1
        obtain ⟨wq, hwq⟩ : ∃ wq, wq = wr.alloc (.cells #[.int .u64 (r1 : Int), .int .u64 (r2 : Int)] 43) := ⟨_, rfl⟩
        have e0 : wq.cell? ⟨wr.heap.size, 0, none⟩ = some (.int .u64 (r1 : Int)) := by rw [hwq]; simp [World.cell?_alloc_at]
        have e1 : wq.cell? ⟨wr.heap.size, 1, none⟩ = some (.int .u64 (r2 : Int)) := by rw [hwq]; simp [World.cell?_alloc_at]
        have MQ : Hid (Melt w wq g c l out k) := (by rw [hwq]; exact HB.out.1.below ((RowKit.Below.refl _ _).alloc (Nat.le_refl _) _) (Nat.le_refl _) : Melt w wq g c l out k)
        have hgq := MQ.out.lt
        have hsz : wr.heap.size < wq.heap.size := by rw [hwq]; simp
        have hkc : out.length + 1 ≤ c := by omega
        clear hC hCl hCt hCq
        rcases List.eq_nil_or_concat out with rfl | ⟨i, a, rfl⟩
        · obtain rfl : k = 0 := HB.out.2.1 rfl
          go_wp2
          rw [← hwq]
          clear hwq
          go_quiet (fail)
          have M2 : Hid (Melt w (wq.drewN nq) g c l [] 0) := MQ.out.below (B := wq.heap.size) ⟨rfl, rfl, rfl, Nat.le_refl _, fun _ _ => rfl⟩ (Nat.le_refl _)
          have e0' : (wq.drewN nq).cell? ⟨wr.heap.size, 0, none⟩ = some (.int .u64 (r1 : Int)) := e0
          have e1' : (wq.drewN nq).cell? ⟨wr.heap.size, 1, none⟩ = some (.int .u64 (r2 : Int)) := e1
          have hsz' : wr.heap.size < (wq.drewN nq).heap.size := hsz
          clear e0 e1 hsz MQ hgq
          generalize wq.drewN nq = wz at *
          obtain ⟨C2, hC2, hCl2, _⟩ := M2.out.blk
          have P : Hid ((wz.alloc (.cells #[.int .u64 (r1 : Int), .int .u64 (r2 : Int)] 43)).heap[g]? = some (.cells C2.toArray 43 (0, 0)) ∧ C2.length = c * 2 ∧ (∀ j v, (rcells [(r1, r2)])[j]? = some v → (wz.alloc (.cells #[.int .u64 (r1 : Int), .int .u64 (r2 : Int)] 43)).cell? ((⟨wz.heap.size, 0, none⟩ : Addr).add j) = some v)) := ⟨by rw [Below.heap_alloc _ _ _ M2.out.lt]; exact hC2, hCl2, one_src (heap_alloc_new wz _)⟩
          clear hC2 hCl2
          go_wp2_with (at_builtin; refine wpList_append2_room rfl (.tmp 29) (.tmp 31) 27 rfl 43 i0 Try.underlying27 hi0 hzs g 0 c rfl C2 P.out.1 ⟨wz.heap.size, 0, none⟩ 1 1 rfl (rcells [(r1, r2)]) rfl P.out.2.2 (rcells_one _) (by omega) (by rw [P.out.2.1]; show 0 * 2 + 2 ≤ _; omega) ?_; intro w4 HG4 only4)
          have M4 : Hid (Melt w w4 g c l ([] ++ [(r1, r2)]) (0 + 1)) := Melt.push (M2.out.below ((RowKit.Below.refl _ _).alloc (Nat.le_refl _) _) (Nat.le_refl _)) C2 P.out.1 (Nat.le_refl _) (by omega) hnc (HG4.out) only4
          refine ⟨⟨1, [(r1, r2)], by go_num, rfl, by omega, Nat.le_refl _, (⟨M4.out, (fun h => by cases h), fun i a h => ?_⟩ : _ ∧ _)⟩, by simp [intOf]; omega⟩
          obtain ⟨rfl, rfl⟩ : i = [] ∧ a = (r1, r2) := by
            cases i with
            | nil => simpa using h.symm
            | cons x t => simp at h
          have h3 := hd.out
          rw [List.drop_zero] at h3
          rw [List.nil_append]
          conv => rhs; rw [h3]
          rfl
        · obtain ⟨a1, a2⟩ := a
          rw [List.concat_eq_append] at *
          have hlen1 : (i ++ [(a1, a2)]).length = i.length + 1 := by simp
          rw [hlen1] at ho hkc
          obtain ⟨z0, z1, z2⟩ := MQ.out.last
          have q0 := fun n os => cell_grown (World.block_lt_of_cell? _ _ z0) z0 n os
          have q1 := fun n os => cell_grown (World.block_lt_of_cell? _ _ z1) z1 n os
          have q2 := fun n os => cell_grown (World.block_lt_of_cell? _ _ e0) e0 n os
          have q3 := fun n os => cell_grown (World.block_lt_of_cell? _ _ e1) e1 n os
          have mixed : Try.prog.follows .mixedOrders = true := by kernel_rfl
          have HT := fun W => touches_any a1 a2 r1 r2 W hrr.1 (by omega)
          have hfin := HB.out.2.2 i (a1, a2) rfl
          rw [hd.out, meltR] at hfin
          simp only at hfin
          have hneg : decide ((i.length : Int) < 0) = false := decide_eq_false (by omega)
          have hki : (i.length : Int) < (i.length : Int) + 1 := by omega
          by_cases ht : r1 ≤ a2 + 1
          · rw [if_pos ht] at hfin
            rw [decide_eq_true ht] at HT
            have HF : Hid (i ++ meltR (a1, max a2 r2) (l.drop (k + 1)) = meltL l) := hfin
            clear hfin ht
            go_wp2
            rw [← hwq]
            clear hwq
            go_quiet_grown (first | (go_at_call 36; refine Calls.grown_of (HT _)))
            have M2 : Hid (Melt w (grow (wq.drewN nq) osq) g c l (i ++ [(a1, a2)]) k) := MQ.out.below (below_grown_r wq.heap.size wq nq osq (Nat.le_refl _)) (Nat.le_refl _)
            have hsz' : wr.heap.size < (grow (wq.drewN nq) osq).heap.size := Nat.lt_of_lt_of_le hsz (below_grown_r wq.heap.size wq nq osq (Nat.le_refl _)).size
            have e0' := q2 nq osq
            have e1' := q3 nq osq
            simp only
            clear e0 e1 hsz MQ hgq q0 q1 q2 q3 z0 z1 z2 HT
            generalize grow (wq.drewN nq) osq = wz at *
            obtain ⟨y0, y1, y2⟩ := M2.out.last
            have hgz := M2.out.lt
            go_wp2
            go_region
            all_goals go_wp2
            all_goals (have M4 : Hid (Melt w (wz.setCell ⟨g, i.length * 2 + 1, none⟩ (.int .u64 ((max a2 r2 : Nat) : Int))).drew g c l (i ++ [(a1, max a2 r2)]) (k + 1)) := (Melt.longer M2.out ho).below (RowKit.Below.refl _ _).drew (Nat.le_refl _))
            all_goals (have M5 : Hid (Melt w (wz.setCell ⟨g, i.length * 2 + 1, none⟩ (.int .u64 (max (a2 : Int) (r2 : Int)))).drew g c l (i ++ [(a1, max a2 r2)]) (k + 1)) := (by rw [show max (a2 : Int) (r2 : Int) = ((max a2 r2 : Nat) : Int) by omega]; exact M4.out))
            all_goals (refine ⟨⟨k + 1, i ++ [(a1, max a2 r2)], by go_num, by simp, by omega, (by simp; omega), (⟨M5.out, (fun h => by simp at h), fun i' a' h => ?_⟩ : _ ∧ _)⟩, by simp [intOf]; omega⟩)
            all_goals (obtain ⟨h1, h2⟩ := List.append_inj' h rfl; obtain rfl : (a1, max a2 r2) = a' := (by simpa using h2); rw [← h1]; exact HF.out)
          · rw [if_neg ht] at hfin
            rw [decide_eq_false ht] at HT
            have HF : Hid (i ++ (a1, a2) :: meltR (r1, r2) (l.drop (k + 1)) = meltL l) := hfin
            clear hfin ht
            go_wp2
            rw [← hwq]
            clear hwq
            go_quiet_grown (first | (go_at_call 36; refine Calls.grown_of (HT _)))
            have M2 : Hid (Melt w (grow (wq.drewN nq) osq) g c l (i ++ [(a1, a2)]) k) := MQ.out.below (below_grown_r wq.heap.size wq nq osq (Nat.le_refl _)) (Nat.le_refl _)
            have hsz' : wr.heap.size < (grow (wq.drewN nq) osq).heap.size := Nat.lt_of_lt_of_le hsz (below_grown_r wq.heap.size wq nq osq (Nat.le_refl _)).size
            have e0' := q2 nq osq
            have e1' := q3 nq osq
            simp only
            clear e0 e1 hsz MQ hgq q0 q1 q2 q3 z0 z1 z2 HT
            generalize grow (wq.drewN nq) osq = wz at *
            obtain ⟨C2, hC2, hCl2, _⟩ := M2.out.blk
            have P : Hid ((wz.alloc (.cells #[.int .u64 (r1 : Int), .int .u64 (r2 : Int)] 43)).heap[g]? = some (.cells C2.toArray 43 (0, 0)) ∧ C2.length = c * 2 ∧ (∀ j v, (rcells [(r1, r2)])[j]? = some v → (wz.alloc (.cells #[.int .u64 (r1 : Int), .int .u64 (r2 : Int)] 43)).cell? ((⟨wz.heap.size, 0, none⟩ : Addr).add j) = some v)) := ⟨by rw [Below.heap_alloc _ _ _ M2.out.lt]; exact hC2, hCl2, one_src (heap_alloc_new wz _)⟩
            clear hC2 hCl2
            go_wp2_with (at_builtin; refine wpList_append2_room rfl (.tmp 29) (.tmp 31) 27 rfl 43 i0 Try.underlying27 hi0 hzs g (i.length + 1) c rfl C2 P.out.1 ⟨wz.heap.size, 0, none⟩ 1 1 rfl (rcells [(r1, r2)]) rfl P.out.2.2 (rcells_one _) (by omega) (by rw [P.out.2.1]; show (i.length + 1) * 2 + 2 ≤ _; omega) ?_; intro w4 HG4 only4)
            have M4 : Hid (Melt w w4 g c l ((i ++ [(a1, a2)]) ++ [(r1, r2)]) (k + 1)) := Melt.push (M2.out.below ((RowKit.Below.refl _ _).alloc (Nat.le_refl _) _) (Nat.le_refl _)) C2 P.out.1 (by rw [hlen1]; omega) (by omega) hnc (by rw [hlen1]; exact HG4.out) only4
            refine ⟨⟨k + 1, (i ++ [(a1, a2)]) ++ [(r1, r2)], by go_num, by simp, by omega, (by simp; omega), (⟨M4.out, (fun h => by simp at h), fun i' a' h => ?_⟩ : _ ∧ _)⟩, by simp [intOf]; omega⟩
            obtain ⟨h1, h2⟩ := List.append_inj' h rfl
            obtain rfl : (r1, r2) = a' := by simpa using h2
            rw [← h1, ← HF.out]
            simp
      · go_wp2
        obtain rfl : k = l.length := by omega
        go_ret
        rcases List.eq_nil_or_concat out with rfl | ⟨i, a, rfl⟩
        · have := HB.out.2.1 rfl; omega
        · have hm := HB.out.2.2 i a (by simp)
          rw [List.drop_eq_nil_of_le (Nat.le_refl _), meltR] at hm
          rw [List.concat_eq_append] at *
          rw [← hm]
          refine ⟨rfl, ?_, ⟨HB.out.1.os, HB.out.1.tape, HB.out.1.output, HB.out.1.size, fun j hj hne => HB.out.1.block j hj (fun he => hne (by rw [he]))⟩⟩
          refine own2_mk (T := C.drop ((i ++ [a]).length * 2)) (Nat.zero_le _) ?_ rfl (by omega) hcm (by rw [List.length_drop]; omega)
          rw [hC, ← hCt, List.take_append_drop]
end Go.Proofs.Ytdgbcjdikkmgdaa
