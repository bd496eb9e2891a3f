/-
  Mend and Severed, by their contracts.
-/
import Derived.Test.YtdbgojmjjkidbaaGreatDoorJLook22
import Derived.Test.YtdbgojmjjkidbaaGreatDoorJEIter22
namespace Go.Proofs.YtdbgojmjjkidbaaGreatDoor
open Go.RowKit Go.Maps Go.Sort K
set_option maxRecDepth 20000

section
variable {w U w4 : World} {p b : Nat} {v v' : Value} {L L' : List Px} {s : Wr} {l : List Pc} {F F' : Nat → Prop}
/-- The map holds other ways. -/
theorem map_set {E : List Ed} (hq : WAt w p v b L s) (hU : Below w.heap.size w U) (gr : U.grownBy w4 (some b)) (hm : EAt w4 b E) : WAt w4 p v b L { s with ways := E } ∧ Moved w w4 (foot p v b L) (foot p v b L) := by
  have hqU := hq.same fun k hk => hU.block k (hq.lts k hk)
  have hne : ∀ k, k < U.heap.size → k ≠ b → w4.heap[k]? = U.heap[k]? := fun k hk hn => gr.block k hk (fun e => hn (by injection e))
  refine ⟨⟨(hne p hqU.lt (fun e => hqU.ne_map e.symm)).trans hqU.blk, hqU.rows.same fun g hg => hne g (hqU.rows.lt hg).2 (fun e => hqU.row_map (by rw [hg, e])), hm, fun x hx => owns_same (hqU.all x hx) fun g hg => hne g (owns_lt (hqU.all x hx) hg) (hqU.x_ne hx hg).2.2, hqU.eq⟩, ?_⟩
  refine ⟨gr.os.trans hU.os, gr.tape.trans hU.tape, gr.output.trans hU.output, Nat.le_trans hU.size gr.size, fun k hk hn => ?_, fun k hk => .inl hk⟩
  rw [hne k (Nat.lt_of_lt_of_le hk hU.size) (fun e => hn (.inr (.inr (.inl e)))), hU.block k hk]
theorem mendW_no {e : Ed} (h : e ∉ s.ways) : mendW s e = (3, s) := by unfold mendW; rw [if_neg h]
theorem mendW_yes {e : Ed} (h : e ∈ s.ways) : mendW s e = (0, { s with ways := s.ways.filter fun y => decide (y ≠ e) }) := by unfold mendW; rw [if_pos h]
set_option maxHeartbeats 4000000 in
theorem mend_any {x : Ed} (h : Wt w p F s) (ok : s.Ok) (hx : EFit x) : Calls Tryz.prog 26 #[.pointer (some ⟨p, 0, none⟩), ev x] w (EndP w p F (mendW s x)) := by
  obtain ⟨v, b, L, hq, hF⟩ := h
  obtain ⟨W, fold⟩ : ∃ W, w.alloc (.cells #[.int .i64 x.1, .int .i64 x.2] 37) = W := ⟨_, rfl⟩
  have bW : Below w.heap.size w W := by rw [← fold]; exact box_belowW _ _
  have x0 : W.cell? ⟨w.heap.size, 0, none⟩ = some (.int .i64 x.1) := by rw [← fold]; exact cell_of_list (C := ecells x) (heap_alloc_new w _) 0
  have x1 : W.cell? ⟨w.heap.size, 1, none⟩ = some (.int .i64 x.2) := by rw [← fold]; exact cell_of_list (C := ecells x) (heap_alloc_new w _) 1
  have hqW := hq.same fun k hk => bW.block k (hq.lts k hk)
  have hM := wmade_at hqW ok
  have hC := cut_at hqW ok hx
  obtain ⟨R, hR⟩ : ∃ R, mendW s x = R := ⟨_, rfl⟩
  rw [hR]
  have HQ : Hid (Wt w p F s) := ⟨_, _, _, hq, hF⟩
  by_cases hin : x ∈ s.ways
  · have HE : Hid (R = (0, { s with ways := s.ways.filter fun y => decide (y ≠ x) })) := by
      show _ = _
      rw [← hR, mendW_yes hin]
    rw [decide_eq_true hin] at hC
    have HP : Hid (∀ V, Below W.heap.size W V → V.cell? ⟨p, 2, none⟩ = some (.map (some b)) ∧ V.cell? ⟨w.heap.size, 0, none⟩ = some (.int .i64 x.1) ∧ V.cell? ⟨w.heap.size, 1, none⟩ = some (.int .i64 x.2) ∧ ∃ f : TypeId → World, ∀ ty, (Builtin.delete_ #[68, 37] ty #[.map (some b), ev x]).run Tryz.prog V.drew = .ok (.tuple #[]) (f ty) ∧
        Hid (EndP w p F R (.returned (.int .i64 0)) (f ty))) := fun V b1 => by
      have bV : Below w.heap.size w V := keptW bW b1
      have hV := hq.same fun k hk => bV.block k (hq.lts k hk)
      obtain ⟨f, hf⟩ := (hV.ways.same (w' := V.drew) rfl).del ok.ord ok.efit hx
      have hl := World.block_lt_of_cell? _ _ x0
      refine ⟨hV.cells.2.2, (b1.cell (p := ⟨w.heap.size, 0, none⟩) hl).trans x0, (b1.cell (p := ⟨w.heap.size, 1, none⟩) hl).trans x1, f, fun ty => ?_⟩
      obtain ⟨r, hm, gr⟩ := hf ty
      obtain ⟨q4, m4⟩ := map_set hq bV.drew gr hm
      refine ⟨r, ?_⟩
      show EndP _ _ _ _ _ _
      rw [HE.out]
      exact ⟨rfl, _, ⟨_, _, _, q4, fun _ => Iff.rfl⟩, m4.toF hF⟩
    clear hq hF hqW ok hin hR bW
    go_enter Tryz.func26, Tryz.ntmps26
    go_wp2_with fail
    try rw [fold]
    clear fold
    refine hM.mono ?_
    rintro e V ⟨rfl, h⟩
    subst h
    go_wp2_with (go_at_call 34; refine hC.mono ?_; rintro e V2 ⟨rfl, b2⟩; obtain ⟨k2, k3, k4, f, hf⟩ := HP.out V2 b2; have r3 := fun ty => (hf ty).1; have HF2 : Hid (∀ ty, _) := fun ty => (hf ty).2; clear hf)
    go_region
    all_goals go_wp2
    all_goals go_ret
    all_goals exact (HF2.out _).out
  · have HE : Hid (R = (3, s)) := by
      show _ = _
      rw [← hR, mendW_no hin]
    rw [decide_eq_false hin] at hC
    have HW : Hid (Below w.heap.size w W) := bW
    clear hq hF hqW ok hin hR bW
    go_enter Tryz.func26, Tryz.ntmps26
    go_wp2_with fail
    try rw [fold]
    clear fold
    refine hM.mono ?_
    rintro e V ⟨rfl, h⟩
    subst h
    go_wp2_with (go_at_call 34; refine hC.mono ?_; rintro e V2 ⟨rfl, b2⟩)
    go_ret
    rw [HE.out]
    exact EndP.same HQ.out (keptW HW.out b2)
theorem severed_at (hq : WAt w p v b L s) (ok : s.Ok) : Calls Tryz.prog 28 #[.pointer (some ⟨p, 0, none⟩)] w fun e w' => ∃ v', e = .returned v' ∧ OwnE w' w.heap.size v' s.ways ∧ Below w.heap.size w w' := by
  have hM := wmade_at hq ok
  obtain ⟨_, _, c2⟩ := hq.cells
  have b1 : Below w.heap.size w (w.alloc (.cells #[.map (some b)] 68)) := box_belowW _ _
  have hm : MapAtEd w (some b) s.ways := .inr ⟨b, rfl, hq.ways⟩
  have hn := ok.nways
  have hS := sortedFunc_anyEd w.heap.size (some b) s.ways (el_of ok.ord ok.efit) ok.ord (by omega) _ (cell_of_list (C := [.map (some b)]) (heap_alloc_new w _) 0) (hm.below b1)
  clear hq ok
  go_enter Tryz.func28, Tryz.ntmps28
  go_wp2_with fail
  refine hM.mono ?_
  rintro e w ⟨rfl, rfl⟩
  go_wp2_with fail
  refine (values_anyEd (some b) w).mono ?_
  rintro e w1 ⟨rfl, rfl⟩
  go_wp2_with fail
  refine hS.mono ?_
  rintro e w2 ⟨v, rfl, own, b⟩
  obtain ⟨va, vc, rfl⟩ := own.rng.slice
  go_wp2
  go_ret
  exact ⟨_, rfl, own.mono b1.size, b1.trans (b.mono b1.size)⟩
end
end Go.Proofs.YtdbgojmjjkidbaaGreatDoor

/-
  ONE PACKET of a row is written.
-/
namespace Go.Proofs.YtdbgojmjjkidbaaGreatDoor
open Go.RowKit Go.Maps Go.Sort K
set_option maxRecDepth 20000

theorem cellsOf_set : ∀ (L : List Px) (q : Nat) (x : Px), cellsOf pxcells (L.set q x) = ((cellsOf pxcells L).set (q * 2) (.slice x.a x.n x.c)).set (q * 2 + 1) (.bool x.t)
  | [], q, x => by simp [cellsOf]
  | y :: r, 0, x => rfl
  | y :: r, q + 1, x => by
    rw [List.set_cons_succ, cellsOf_cons, cellsOf_cons, cellsOf_set r q x, show (q + 1) * 2 = q * 2 + 1 + 1 by omega]
    show _ = ((_ :: _ :: cellsOf pxcells r).set _ _).set _ _
    simp only [List.set_cons_succ]
    rfl
theorem os_setCellW (w : World) (p : Addr) (v : Value) : (w.setCell p v).os = w.os := by
  unfold World.setCell; split <;> rfl
theorem tape_setCellW (w : World) (p : Addr) (v : Value) : (w.setCell p v).tape = w.tape := by
  unfold World.setCell; split <;> rfl
theorem output_setCellW (w : World) (p : Addr) (v : Value) : (w.setCell p v).output = w.output := by
  unfold World.setCell; split <;> rfl
/-- Two cells of a block are written. -/
abbrev put2 (w : World) (g i : Nat) (x : Px) : World := (w.setCell ⟨g, i, none⟩ (.slice x.a x.n x.c)).setCell ⟨g, i + 1, none⟩ (.bool x.t)
theorem put2_other (w : World) {g k : Nat} (i : Nat) (x : Px) (h : k ≠ g) : (put2 w g i x).heap[k]? = w.heap[k]? := by
  unfold put2
  rw [heap_setCell_other _ _ _ _ h, heap_setCell_other _ _ _ _ h]
theorem put2_size (w : World) (g i : Nat) (x : Px) : (put2 w g i x).heap.size = w.heap.size := by simp [put2]
theorem put2_grown (w : World) (g i : Nat) (x : Px) : w.grownBy (put2 w g i x) (some g) :=
  ⟨by unfold put2; rw [os_setCellW, os_setCellW], by unfold put2; rw [tape_setCellW, tape_setCellW], by unfold put2; rw [output_setCellW, output_setCellW], by rw [put2_size]; exact Nat.le_refl _, fun k _ hn => put2_other w i x (fun e => hn (by rw [e]))⟩
theorem OwnP.soft {w : World} {base g n c : Nat} {L : List Px} (h : OwnP w base (.slice (some ⟨g, 0, none⟩) n c) L) (q : Nat) (hq : q < L.length) :
    w.cell? ⟨g, q * 2, none⟩ = some (.slice L[q].a L[q].n L[q].c) ∧ w.cell? ⟨g, q * 2 + 1, none⟩ = some (.bool L[q].t) ∧ w.frozen? ⟨g, q * 2, none⟩ = false ∧ w.frozen? ⟨g, q * 2 + 1, none⟩ = false ∧ n = L.length ∧ L.length ≤ c ∧ c ≤ maxLen := by
  rcases OwnOf.split h with ⟨h0, _⟩ | ⟨g', c', T, hv, hbg, hg, h1, h2, hT⟩
  · cases h0
  · injection hv with hv1 hv2 hv3
    injection hv1 with hv1
    injection hv1 with hv1 _ _
    subst hv1 hv2 hv3
    have hl := cellsOf_length (enc := pxcells) (K := 2) L
    refine ⟨?_, ?_, frozen_of_list hg _, frozen_of_list hg _, rfl, h1, h2⟩
    · rw [cell_of_list hg, List.getElem?_append_left (by omega)]
      have := cellsOf_get (enc := pxcells) (K := 2) L q 0 hq (by decide)
      exact this
    · rw [cell_of_list hg, List.getElem?_append_left (by omega)]
      exact cellsOf_get (enc := pxcells) (K := 2) L q 1 hq (by decide)
theorem OwnP.put {w : World} {base g n c : Nat} {L : List Px} (h : OwnP w base (.slice (some ⟨g, 0, none⟩) n c) L) (q : Nat) (hq : q < L.length) (x : Px) :
    OwnP (put2 w g (q * 2) x) base (.slice (some ⟨g, 0, none⟩) n c) (L.set q x) := by
  rcases OwnOf.split h with ⟨h0, _⟩ | ⟨g', c', T, hv, hbg, hg, h1, h2, hT⟩
  · cases h0
  · injection hv with hv1 hv2 hv3
    injection hv1 with hv1
    injection hv1 with hv1 _ _
    subst hv1 hv2 hv3
    have hl := cellsOf_length (enc := pxcells) (K := 2) L
    have e1 := heap_setCell_same w g (q * 2) _ _ (.slice x.a x.n x.c) hg
    have e2 := heap_setCell_same _ g (q * 2 + 1) _ _ (.bool x.t) e1
    refine ownOf_mk (R := T) hbg ?_ (by rw [List.length_set]) (by rw [List.length_set]; exact h1) h2 (by rw [List.length_set]; exact hT)
    rw [e2, cellsOf_set]
    congr 2
    simp only [List.setIfInBounds_toArray]
    rw [List.set_append_left _ _ (by omega), List.set_append_left _ _ (by rw [List.length_set]; omega)]
theorem elem_set {w U : World} {p b g n c q : Nat} {L : List Px} {s : Wr} (hq : WAt w p (.slice (some ⟨g, 0, none⟩) n c) b L s) (hU : Below w.heap.size w U) (hk : q < L.length) (x : Px) (hx : OwnB U x.v x.b) (hn : ∀ k, x.v.ownBlock = some k → w.heap.size ≤ k) :
    WAt (put2 U g (q * 2) x) p (.slice (some ⟨g, 0, none⟩) n c) b (L.set q x) { s with l := s.l.set q x.pc } ∧ Moved w (put2 U g (q * 2) x) (foot p (.slice (some ⟨g, 0, none⟩) n c) b L) (foot p (.slice (some ⟨g, 0, none⟩) n c) b (L.set q x)) := by
  have hqU := hq.same fun k hk => hU.block k (hq.lts k hk)
  have hg : g < w.heap.size := (hq.rows.lt (g := g) rfl).2
  have ho : ∀ k, k ≠ g → (put2 U g (q * 2) x).heap[k]? = U.heap[k]? := fun k h => put2_other U (q * 2) x h
  have hpg : p ≠ g := fun e => hq.ne_row (by rw [e]; rfl)
  have hbg : b ≠ g := fun e => hq.row_map (by rw [e]; rfl)
  refine ⟨⟨(ho p hpg).trans hqU.blk, hqU.rows.put q hk x, hqU.ways.same (ho b hbg), fun y hy => ?_, by rw [List.map_set, hq.eq]⟩, ?_⟩
  · rcases List.mem_or_eq_of_mem_set hy with hy | rfl
    · exact owns_same (hqU.all y hy) fun k hk => ho k (fun e => (hqU.x_ne hy hk).2.1 (by rw [e]; rfl))
    · exact owns_same hx fun k hk => ho k (by have := hn k hk; omega)
  · refine ⟨(put2_grown U g (q * 2) x).os.trans hU.os, (put2_grown U g (q * 2) x).tape.trans hU.tape, (put2_grown U g (q * 2) x).output.trans hU.output, by rw [put2_size]; exact hU.size, fun k hk hnf => ?_, ?_⟩
    · rw [ho k (fun e => hnf (.inr (.inl (by rw [e]; rfl)))), hU.block k hk]
    · rintro k (rfl | hk | rfl | ⟨y, hy, hk⟩)
      · exact .inl (.inl rfl)
      · exact .inl (.inr (.inl hk))
      · exact .inl (.inr (.inr (.inl rfl)))
      · rcases List.mem_or_eq_of_mem_set hy with hy | rfl
        · exact .inl (.inr (.inr (.inr ⟨y, hy, hk⟩)))
        · exact .inr (hn k hk)
end Go.Proofs.YtdbgojmjjkidbaaGreatDoor
