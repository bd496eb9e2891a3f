/-
  Add, by its contract.
-/
import Derived.Test.YtjgdmbfkondakaaGreatDoorJLedgers
namespace Go.Proofs.YtjgdmbfkondakaaGreatDoor
open Go.RowKit

/-- One record more waits. -/
def Lg.more (l : Lg) (bs : List UInt8) : Lg := { l with wait := l.wait ++ sealL bs, cnt := l.cnt + 1 }
section
variable {w : World} {q p : Nat} {V : Value} {l : Lg} {F : Nat → Prop} {m : M}
theorem sealL_le (bs : List UInt8) : (sealL bs).length ≤ 1048584 := by
  by_cases h : bs.length ≤ 1048576
  · rw [sealL_length bs h]; omega
  · unfold sealL; rw [if_neg h]; simp
/-- What append and the two stores leave. -/
theorem LdAt.added (h : LdAt w q V l p F m) (bs : List UInt8) (hw : l.wait.length ≤ 1100000000) {va : Option Addr} {vn vc : Nat} (hV : V = .slice va vn vc) (w2 : World) (sv : Value) (ow : Owns w2 w.heap.size 5 sv (sealL bs)) (b2 : Below w.heap.size w w2) :
    ∃ v' u, (Builtin.append_ #[31, 31] 31 #[.slice va vn vc, sv]).run Tryz.prog w2 = .ok v' u ∧ u.cell? ⟨q, 3, none⟩ = some (.slice va vn vc) ∧ u.frozen? ⟨q, 3, none⟩ = false ∧ ∃ sa sn sc, sv = .slice sa sn sc ∧ ∃ oa oc, v' = .slice oa (vn + sn) oc ∧
      Hid (∃ W5, u.setCell ⟨q, 3, none⟩ (.slice oa (vn + sn) oc) = W5 ∧ W5.cell? ⟨q, 4, none⟩ = some (.int .i64 (l.cnt : Int)) ∧ W5.frozen? ⟨q, 4, none⟩ = false ∧ Hid (∃ V' F', LdAt (W5.setCell ⟨q, 4, none⟩ (.int .i64 ((l.cnt : Int) + 1))) q V' (l.more bs) p F' m ∧ Moved w (W5.setCell ⟨q, 4, none⟩ (.int .i64 ((l.cnt : Int) + 1))) (lfoot q V F) (lfoot q V' F'))) := by
  have h2 := h.kept b2
  obtain ⟨v', u, hap, hb', gr, hloc, _⟩ := run_append_buf 31 h2.buf ow.holds (by have := sealL_le bs; omega)
  subst hV
  have hvn : vn = l.wait.length := by obtain ⟨_, _, e⟩ := h.buf.slice; injection e
  obtain ⟨sa, sc, hsv⟩ := ow.holds.slice
  obtain ⟨oa, oc, hv'⟩ := hb'.slice
  have hqv : some q ≠ (Value.slice va vn vc).ownBlock := fun e => h2.vq e.symm rfl
  have hqu : u.heap[q]? = some (.cells (lcell p (.slice va vn vc) l).toArray 56 (0, 0)) := (gr.block q h2.lt hqv).trans h2.blk
  have hv'' : v' = .slice oa (vn + (sealL bs).length) oc := by rw [hv', List.length_append, hvn]
  refine ⟨v', u, hap, by simp only [World.cell?]; rw [hqu]; rfl, by simp only [World.frozen?]; rw [hqu]; simp, sa, _, sc, hsv, oa, oc, hv'', _, rfl, ?_, ?_, ?_⟩
  · simp only [World.cell?]
    rw [heap_set_list (i := 3) hqu _]
    rfl
  · simp only [World.frozen?]
    rw [heap_set_list (i := 3) hqu _]
    simp
  · rw [← hv'']
    have hq1 := heap_set_list (i := 3) hqu v'
    have ho : ∀ k, k ≠ q → ((u.setCell ⟨q, 3, none⟩ v').setCell ⟨q, 4, none⟩ (.int .i64 ((l.cnt : Int) + 1))).heap[k]? = u.heap[k]? := fun k hk => by rw [Below.heap_setCell _ _ _ _ hk, Below.heap_setCell _ _ _ _ hk]
    obtain ⟨r1, r2⟩ := h2.turn (w' := (u.setCell ⟨q, 3, none⟩ v').setCell ⟨q, 4, none⟩ (.int .i64 ((l.cnt : Int) + 1))) (V' := v') (l' := l.more bs) (heap_set_list (i := 4) hq1 _) (fun k hk hkq hkv => (ho k hkq).trans (gr.block k hk fun e => hkv e.symm)) (hb'.same fun g hg => ho g (fun e => by
      subst e
      obtain ⟨c, hc⟩ := hb'.blk hg
      rw [hqu] at hc
      simp at hc)) (hloc.imp id .inr) gr.os gr.tape gr.output (by simpa using gr.size)
    exact ⟨v', F, r1, (Moved.of_below b2).trans r2⟩
set_option maxRecDepth 20000 in
set_option maxHeartbeats 4000000 in
theorem add_at (h : LdAt w q V l p F m) (he : Env w) (h6 : ∀ k, lfoot q V F k → 6 ≤ k) (bv : Value) (bs : List UInt8) (hb : ∀ W G', Moved w W (lfoot q V F) G' → Holds W bv bs) (hw : l.wait.length ≤ 1100000000) :
    Calls Tryz.prog 13 #[.pointer (some ⟨q, 0, none⟩), bv] w fun e w' => e = .returned (.int .i64 (refE l m bs.length)) ∧ ∃ V' F', LdAt w' q V' (if refE l m bs.length = 0 then l.more bs else l.checked m) p F' m ∧ Moved w w' (lfoot q V F) (lfoot q V' F') := by
  obtain ⟨ba, bc, rfl⟩ := (hb w _ (.refl _ _)).slice
  have hR := refuse_at h he h6 (.slice ba bs.length bc) bs.length ⟨_, _, rfl⟩
  by_cases hr : refE l m bs.length = 0
  · rw [if_pos hr, hr]
    rw [hr] at hR
    have hl : l.checked m = l ∧ l.cnt ≤ 1000 := by
      unfold refE at hr
      split at hr
      · rename_i h0; exact absurd hr h0
      · rename_i h0
        refine ⟨(offE_zero (by simpa using h0)).1, ?_⟩
        split at hr
        · cases hr
        · omega
    rw [hl.1] at hR
    have hcn := hl.2
    have HB : Hid (∀ W G', Moved w W (lfoot q V F) G' → Holds W (.slice ba bs.length bc) bs) := hb
    have HE0 : Hid (Env w ∧ ∀ k, lfoot q V F k → 6 ≤ k) := ⟨he, h6⟩
    clear h he h6 hb hr hl
    go_enter Tryz.func13, Tryz.ntmps13
    go_wp2_with fail
    refine hR.mono ?_
    rintro e w1 ⟨rfl, V1, F1, h1, mv1⟩
    clear hR
    obtain ⟨va, vn, vc, hV1⟩ : ∃ va vn vc, V1 = .slice va vn vc := by obtain ⟨a, c, e⟩ := h1.buf.slice; exact ⟨_, _, _, e⟩
    have bD : Below w1.heap.size w1 w1.drew := (Below.refl _ w1).drew
    have hD := h1.kept bD
    have hSeal := seal_any (.slice ba bs.length bc) bs w1.drew ((HE0.out.1.moved mv1 HE0.out.2).below bD).tab ((HB.out w1 _ mv1).below bD (Nat.le_refl _))
    have q3 : w1.cell? ⟨q, 3, none⟩ = some (.slice va vn vc) := by rw [← hV1]; exact h1.cells.2.2.2.1
    have HC3 : Hid (∀ w2, Below w1.drew.heap.size w1.drew w2 → w2.cell? ⟨q, 3, none⟩ = some (.slice va vn vc)) := fun w2 b => by rw [← hV1]; exact (hD.kept b).cells.2.2.2.1
    have HX0 : Hid (∀ w2 sv, Owns w2 w1.drew.heap.size 5 sv (sealL bs) → Below w1.drew.heap.size w1.drew w2 → _) := fun w2 sv ow b2 => hD.added bs hw hV1 w2 sv ow b2
    have HM1 : Hid (Moved w w1.drew (lfoot q V F) (lfoot q V1 F1)) := mv1.trans (.of_below bD)
    have hcw : IntKind.i64.wrap ((l.cnt : Int) + 1) = (l.cnt : Int) + 1 := by rw [IntKind.wrap_i64]; omega
    have HX : Hid (∀ w2 sv, Owns w2 w1.drew.heap.size 5 sv (sealL bs) → Below w1.drew.heap.size w1.drew w2 → ∃ v' u, (Builtin.append_ #[31, 31] 31 #[.slice va vn vc, sv]).run Tryz.prog w2 = .ok v' u ∧ u.cell? ⟨q, 3, none⟩ = some (.slice va vn vc) ∧ u.frozen? ⟨q, 3, none⟩ = false ∧ ∃ sa sn sc, sv = .slice sa sn sc ∧ ∃ oa oc, v' = .slice oa (vn + sn) oc ∧
      Hid (∃ W5, u.setCell ⟨q, 3, none⟩ (.slice oa (vn + sn) oc) = W5 ∧ W5.cell? ⟨q, 4, none⟩ = some (.int .i64 (l.cnt : Int)) ∧ W5.frozen? ⟨q, 4, none⟩ = false ∧ Hid (∃ V' F', LdAt (W5.setCell ⟨q, 4, none⟩ (.int .i64 ((l.cnt : Int) + 1))) q V' (l.more bs) p F' m ∧ Moved w (W5.setCell ⟨q, 4, none⟩ (.int .i64 ((l.cnt : Int) + 1))) (lfoot q V F) (lfoot q V' F')))) := fun w2 sv ow b2 => by
      obtain ⟨v', u, a1, a2, a3, sa, sn, sc, a4, oa, oc, a5, W5, a6, a7, a8, V2, F2, a9, a10⟩ := hD.added bs hw hV1 w2 sv ow b2
      exact ⟨v', u, a1, a2, a3, sa, sn, sc, a4, oa, oc, a5, W5, a6, a7, a8, V2, F2, a9, HM1.out.trans a10⟩
    clear HX0 h1 mv1 bD hD hV1 HE0 HB
    generalize (l.cnt : Int) = cn at *
    go_wp2
    refine wp_region_noPanic ?_
    refine wp_region_any (by kernel_rfl) ?_
    change wpAny _ _ _ _ _ _ _ (World.drew _)
    refine wpAny_take (i := 0) (v := ?_) (by simp only [List.getElem?_toArray, List.getElem?_cons_zero]; rfl) (by kernel_rfl) (by kernel_rfl) (by kernel_rfl) (fun _ _ _ h => h) (Or.inl ⟨by rfl, ?_⟩) ?_
    rotate_left
    · (intro w; go_simp; try with_reducible rfl)
    try simp only [Act.put, List.setIfInBounds_toArray, List.set_cons_zero, List.set_cons_succ]
    refine wpAny_take (i := 1) (v := ?_) (by simp only [List.getElem?_toArray, List.getElem?_cons_succ, List.getElem?_cons_zero]; rfl) (by kernel_rfl) (by kernel_rfl) (by kernel_rfl) (fun _ _ _ h => h) (Or.inl ⟨by rfl, ?_⟩) ?_
    rotate_left
    · (intro w; go_simp; try with_reducible rfl)
    try simp only [Act.put, List.setIfInBounds_toArray, List.set_cons_zero, List.set_cons_succ]
    refine wpAny_take (i := 2) (v := ?_) (by simp only [List.getElem?_toArray, List.getElem?_cons_succ, List.getElem?_cons_zero]; rfl) (by kernel_rfl) (by kernel_rfl) (by kernel_rfl) (fun _ _ _ h => h) (Or.inl ⟨by rfl, ?_⟩) ?_
    rotate_left
    · (intro w; go_simp; try with_reducible rfl)
    try simp only [Act.put, List.setIfInBounds_toArray, List.set_cons_zero, List.set_cons_succ]
    refine wpAny_take (i := 3) (v := ?_) (by simp only [List.getElem?_toArray, List.getElem?_cons_succ, List.getElem?_cons_zero]; rfl) (by kernel_rfl) (by kernel_rfl) (by kernel_rfl) (fun _ _ _ h => h) (Or.inl ⟨by rfl, ?_⟩) ?_
    rotate_left
    · (intro w; go_simp; try with_reducible rfl)
    try simp only [Act.put, List.setIfInBounds_toArray, List.set_cons_zero, List.set_cons_succ]
    refine wpAny_take (i := 5) (v := ?_) (by simp only [List.getElem?_toArray, List.getElem?_cons_succ, List.getElem?_cons_zero]; rfl) (by kernel_rfl) (by kernel_rfl) (by kernel_rfl) (fun _ _ _ h => h) (Or.inl ⟨by rfl, ?_⟩) ?_
    rotate_left
    · (intro w; go_simp; try with_reducible rfl)
    try simp only [Act.put, List.setIfInBounds_toArray, List.set_cons_zero, List.set_cons_succ]
    refine wpAny_ready (rs := [4, 6]) (by kernel_rfl) (by simp) ?_
    refine AllReady.cons rfl (fun K hK => ?_) (AllReady.cons rfl (fun K hK => ?_) AllReady.nil)
    · go_simp
      refine hK _ _ ?_
      clear hK K
      try simp only [Act.put, List.setIfInBounds_toArray, List.set_cons_zero, List.set_cons_succ]
      refine wpAny_ready (rs := [6]) (by kernel_rfl) (by simp) ?_
      refine AllReady.cons rfl (fun K hK => ?_) AllReady.nil
      go_simp
      go_at_call 32
      refine hSeal.mono ?_
      rintro e w2 ⟨sv, rfl, ow, b2⟩
      obtain ⟨v', u, hap, hq0, f3, sa, sn, sc, hsv, oa, oc, hvv, HE⟩ := HX.out w2 sv ow b2
      subst hsv hvv
      dsimp only
      refine hK _ _ ?_
      clear hK K
      try simp only [Act.put, List.setIfInBounds_toArray, List.set_cons_zero, List.set_cons_succ]
      refine wpAny_ready (rs := [7]) (by kernel_rfl) (by simp) ?_
      refine AllReady.cons rfl (fun K hK => ?_) AllReady.nil
      refine step_append_run rfl (.tmp 16) (.tmp 18) #[31, 31] rfl (.slice va vn vc) (.slice sa sn sc) (by rfl) (by rfl) (.slice oa (vn + sn) oc) u hap ?_
      refine hK _ _ ?_
      clear hK K
      try simp only [Act.put, List.setIfInBounds_toArray]
      refine wpAny_take (i := 8) (v := ?_) (by simp only [List.getElem?_toArray, List.getElem?_cons_succ, List.getElem?_cons_zero]; rfl) (by kernel_rfl) (by kernel_rfl) (by kernel_rfl) (fun _ _ _ h => h) (Or.inl ⟨by rfl, ?_⟩) ?_
      rotate_left
      · (intro w; go_simp; try with_reducible rfl)
      try simp only [Act.put]
      refine wpAny_take (i := 9) (v := ?_) (by simp only [List.getElem?_toArray, List.getElem?_cons_succ, List.getElem?_cons_zero]; rfl) (by kernel_rfl) (by kernel_rfl) (by kernel_rfl) (fun _ _ _ h => h) (Or.inl ⟨by rfl, ?_⟩) ?_
      rotate_left
      · (intro w; go_simp; try with_reducible rfl)
      try simp only [Act.put]
      refine wpAny_ready (rs := [10]) (by kernel_rfl) (by simp) ?_
      refine AllReady.cons rfl (fun K hK => ?_) AllReady.nil
      go_simp
      refine hK _ _ ?_
      clear hK K
      try simp only [Act.put, List.setIfInBounds_toArray, List.set_cons_zero, List.set_cons_succ]
      refine wpAny_done (by kernel_rfl) ?_ _
      refine NoPanic.normal ?_
      obtain ⟨W5, fold5, c4, f4, HF⟩ := HE.out
      go_wp2
      go_ret
      exact ⟨rfl, HF.out⟩
    · go_simp
      go_at_call 32
      refine hSeal.mono ?_
      rintro e w2 ⟨sv, rfl, ow, b2⟩
      obtain ⟨v', u, hap, hq0, f3, sa, sn, sc, hsv, oa, oc, hvv, HE⟩ := HX.out w2 sv ow b2
      subst hsv hvv
      dsimp only
      refine hK _ _ ?_
      clear hK K
      try simp only [Act.put, List.setIfInBounds_toArray, List.set_cons_zero, List.set_cons_succ]
      have q3 := HC3.out _ b2
      refine wpAny_ready (rs := [4]) (by kernel_rfl) (by simp) ?_
      refine AllReady.cons rfl (fun K hK => ?_) AllReady.nil
      go_simp
      refine hK _ _ ?_
      clear hK K
      try simp only [Act.put, List.setIfInBounds_toArray, List.set_cons_zero, List.set_cons_succ]
      refine wpAny_ready (rs := [7]) (by kernel_rfl) (by simp) ?_
      refine AllReady.cons rfl (fun K hK => ?_) AllReady.nil
      refine step_append_run rfl (.tmp 16) (.tmp 18) #[31, 31] rfl (.slice va vn vc) (.slice sa sn sc) (by rfl) (by rfl) (.slice oa (vn + sn) oc) u hap ?_
      refine hK _ _ ?_
      clear hK K
      try simp only [Act.put, List.setIfInBounds_toArray]
      refine wpAny_take (i := 8) (v := ?_) (by simp only [List.getElem?_toArray, List.getElem?_cons_succ, List.getElem?_cons_zero]; rfl) (by kernel_rfl) (by kernel_rfl) (by kernel_rfl) (fun _ _ _ h => h) (Or.inl ⟨by rfl, ?_⟩) ?_
      rotate_left
      · (intro w; go_simp; try with_reducible rfl)
      try simp only [Act.put]
      refine wpAny_take (i := 9) (v := ?_) (by simp only [List.getElem?_toArray, List.getElem?_cons_succ, List.getElem?_cons_zero]; rfl) (by kernel_rfl) (by kernel_rfl) (by kernel_rfl) (fun _ _ _ h => h) (Or.inl ⟨by rfl, ?_⟩) ?_
      rotate_left
      · (intro w; go_simp; try with_reducible rfl)
      try simp only [Act.put]
      refine wpAny_ready (rs := [10]) (by kernel_rfl) (by simp) ?_
      refine AllReady.cons rfl (fun K hK => ?_) AllReady.nil
      go_simp
      refine hK _ _ ?_
      clear hK K
      try simp only [Act.put, List.setIfInBounds_toArray, List.set_cons_zero, List.set_cons_succ]
      refine wpAny_done (by kernel_rfl) ?_ _
      refine NoPanic.normal ?_
      obtain ⟨W5, fold5, c4, f4, HF⟩ := HE.out
      go_wp2
      go_ret
      exact ⟨rfl, HF.out⟩
  · rw [if_neg hr]
    generalize refE l m bs.length = z at *
    clear h
    go_enter Tryz.func13, Tryz.ntmps13
    go_wp2_with (go_at_call 31; refine hR.mono ?_; rintro e w1 ⟨rfl, V', F', hh, mv⟩)
    go_ret
    exact ⟨rfl, V', F', hh, mv⟩
end
end Go.Proofs.YtjgdmbfkondakaaGreatDoor
