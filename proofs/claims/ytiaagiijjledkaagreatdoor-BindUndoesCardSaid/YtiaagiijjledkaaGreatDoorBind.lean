/-
  has, Bind, Unbind, by their contracts.
-/
import Derived.Test.YtiaagiijjledkaaGreatDoorDeclare
namespace Go.Proofs.YtiaagiijjledkaaGreatDoor
open Go.RowKit Go.Sort Go.Maps

theorem BAt.storeNew {w : World} {b : Nat} {l : List Bd} (h : BAt w b l) (hl : BL l) (x : Bd) (hx : x.Fit) (hn : x ∉ l) (hl' : BL (insC cmpB x l)) (hlen : l.length ≤ 1000000) :
    ∃ w', (Instr.mapUpdate 51 (.map (some b)) (bv x) (.agg #[])).run Tryz.prog w = .ok () w' ∧ BAt w' b (insC cmpB x l) ∧ w.grownBy w' (some b) := by
  obtain ⟨w', h1, h2, h3⟩ := World.ownsMap.update h bKeyed Tryz.underlying51 (by unfold maxLen; omega) (keyOf_bd hx) unitElem_mk
  refine ⟨w', h1, ?_, h3⟩
  have e : (DofG bkl bd l).put (bkl x) (.agg []) = DofG bkl bd (x :: l) := put_new bKeyed.one hl.keys hl.diff (x := x) ⟨_, keyOf_bd hx⟩ (fun y hy e => hn (by rw [← bkl_inj (hl.fit y hy) hx e]; exact hy))
  rw [e] at h2
  exact BAt.perm h2 hl' (insC_perm x l).symm
theorem BAt.storeOld {w : World} {b : Nat} {l : List Bd} (h : BAt w b l) (hl : BL l) (x : Bd) (hx : x ∈ l) (hlen : l.length ≤ 1000000) :
    ∃ w', (Instr.mapUpdate 51 (.map (some b)) (bv x) (.agg #[])).run Tryz.prog w = .ok () w' ∧ BAt w' b l ∧ w.grownBy w' (some b) := by
  obtain ⟨w', h1, h2, h3⟩ := World.ownsMap.update h bKeyed Tryz.underlying51 (by unfold maxLen; omega) (keyOf_bd (hl.fit x hx)) unitElem_mk
  refine ⟨w', h1, ?_, h3⟩
  have e : (DofG bkl bd l).put (bkl x) (.agg []) = DofG bkl bd l := put_old bKeyed.one hl.keys hl.diff hx
  rw [e] at h2
  exact BAt.perm h2 hl (List.Perm.refl _)
/-- The bindings were changed. -/
theorem TAt.setB {w w' : World} {p bx bb : Nat} {s : Tb} {l : List Bd} (h : TAt w p bx bb s) (hb : BAt w' bb l) (gr : w.grownBy w' (some bb)) : TAt w' p bx bb { s with bs := l } :=
  ⟨(gr.block p ((Array.getElem?_eq_some_iff.1 h.blk).1) (fun e => h.ne_b (by injection e with e; exact e.symm))).trans h.blk, h.x.same (gr.block bx h.x.lt (fun e => h.ne (by injection e))), hb, h.ne⟩
theorem moved_setB {w w' : World} (p : Nat) (bx : Nat) {bb : Nat} (gr : w.grownBy w' (some bb)) : Moved w w' (footT p bx bb) (footT p bx bb) :=
  ⟨gr.os, gr.tape, gr.output, gr.size, fun k hk hn => gr.block k hk (fun e => hn (by injection e with e; exact .inr (.inr e))), fun _ h => .inl h⟩

set_option maxRecDepth 20000 in
set_option maxHeartbeats 1000000 in
theorem has_any (p : Nat) (F : Nat → Prop) (s : Tb) (x : Bd) (w : World) (h : T w p F s) (ok : s.Ok) (hx : x.Fit) :
    Calls Tryz.prog 41 #[.pointer (some ⟨p, 0, none⟩), bv x] w fun e w' => e = .returned (.bool (decide (x ∈ s.bs))) ∧ Below w.heap.size w w' := by
  obtain ⟨bx, bb, hq, _⟩ := h
  obtain ⟨_, c1⟩ := cells2 hq.blk
  obtain ⟨W, fold⟩ : ∃ W, w.alloc (.cells #[.string x.ex, .string x.que, .string x.pat] 35) = W := ⟨_, rfl⟩
  have bW : Below w.heap.size w W := by rw [← fold]; exact (Below.refl _ _).alloc (Nat.le_refl _) _
  have x0 : W.cell? ⟨w.heap.size, 0, none⟩ = some (.string x.ex) := by rw [← fold]; exact cell_of_list (C := bcells x) (heap_alloc_new w _) 0
  have x1 : W.cell? ⟨w.heap.size, 1, none⟩ = some (.string x.que) := by rw [← fold]; exact cell_of_list (C := bcells x) (heap_alloc_new w _) 1
  have x2 : W.cell? ⟨w.heap.size, 2, none⟩ = some (.string x.pat) := by rw [← fold]; exact cell_of_list (C := bcells x) (heap_alloc_new w _) 2
  have c1' : W.cell? ⟨p, 1, none⟩ = some (.map (some bb)) := (bW.cell (p := ⟨p, 1, none⟩) (Array.getElem?_eq_some_iff.1 hq.blk).1).trans c1
  have kl : ∀ W', W'.heap[bb]? = w.heap[bb]? → (Instr.lookup 51 (.map (some bb)) (bv x) true).run Tryz.prog W' = .ok (.tuple #[.agg #[], .bool (decide (x ∈ s.bs))]) W' := fun W' e => (hq.b.same e).look ok.bl hx
  have hbb : bb < w.heap.size := hq.b.lt
  have la := kl W.drew (bW.block bb hbb)
  have lb : ∀ o, (Instr.lookup 51 (.map (some bb)) (bv x) true).run Tryz.prog ((W.alloc o).drew) = _ := fun o => kl ((W.alloc o).drew) ((Below.heap_alloc W _ _ (Nat.lt_of_lt_of_le hbb bW.size)).trans (bW.block bb hbb))
  have w0 := fun o => cell_allocK o x0
  have w1 := fun o => cell_allocK o x1
  have w2 := fun o => cell_allocK o x2
  have w3 := fun o => cell_allocK o c1'
  generalize decide (x ∈ s.bs) = r at *
  clear kl c1 hq
  go_enter Tryz.func41, Tryz.ntmps41
  go_wp2
  go_region
  all_goals go_wp2
  all_goals go_ret
  all_goals exact ⟨rfl, bW.trans ((((Below.refl _ _).alloc (Nat.le_refl _) _).drew).mono bW.size)⟩

def Tb.bind (s : Tb) (b : Bd) : Int × Tb :=
  if nameB (txt b.que) = false then (2, s) else match findX s.xs b.ex with
  | none => (3, s)
  | some x => if mayP x.kind b.pat = false then (2, s) else if b ∈ s.bs then (0, s) else if 32 ≤ s.bs.length then (5, s) else (0, { s with bs := insC cmpB b s.bs })
theorem insB_ord {s : Tb} (ok : s.Ok) {b : Bd} (hn : b ∉ s.bs) : Ord cmpB (insC cmpB b s.bs) := insC_ord cmpB3 ok.ob (fun y hy e => hn (by rw [← cmpB_eq e]; exact hy))
theorem Tb.Ok.bind {s : Tb} (ok : s.Ok) {b : Bd} (hb : b.Fit) : (s.bind b).2.Ok := by
  unfold Tb.bind
  split
  · exact ok
  · split
    · exact ok
    · rename_i x hf
      split
      · exact ok
      · split
        · exact ok
        · rename_i hn
          split
          · exact ok
          · obtain ⟨hx, hxn⟩ := findX_some hf
            refine ⟨ok.ox, insB_ord ok hn, ok.good, fun y hy => ?_, fun y hy => ?_, ok.nx, ?_⟩
            · rcases mem_insC.1 hy with rfl | hy
              · exact hb
              · exact ok.fit y hy
            · rcases mem_insC.1 hy with rfl | hy
              · exact ⟨x, hx, hxn⟩
              · exact ok.leads y hy
            · show (insC cmpB b s.bs).length ≤ 32
              rw [(insC_perm b s.bs).length_eq]
              simp; omega

set_option maxRecDepth 20000 in
set_option maxHeartbeats 4000000 in
theorem bind_any (p : Nat) (F : Nat → Prop) (s : Tb) (x : Bd) (w : World) (h : T w p F s) (ok : s.Ok) (hx : x.Fit) :
    Calls Tryz.prog 17 #[.pointer (some ⟨p, 0, none⟩), bv x] w fun e w' => e = .returned (.int .i64 (s.bind x).1) ∧ ∃ F', T w' p F' (s.bind x).2 ∧ Moved w w' F F' := by
  obtain ⟨W, fold⟩ : ∃ W, w.alloc (.cells #[.string x.ex, .string x.que, .string x.pat] 35) = W := ⟨_, rfl⟩
  have bW : Below w.heap.size w W := by rw [← fold]; exact (Below.refl _ _).alloc (Nat.le_refl _) _
  have sW : W.heap.size = w.heap.size + 1 := by rw [← fold]; simp
  have x0 : W.cell? ⟨w.heap.size, 0, none⟩ = some (.string x.ex) := by rw [← fold]; exact cell_of_list (C := bcells x) (heap_alloc_new w _) 0
  have x1 : W.cell? ⟨w.heap.size, 1, none⟩ = some (.string x.que) := by rw [← fold]; exact cell_of_list (C := bcells x) (heap_alloc_new w _) 1
  have x2 : W.cell? ⟨w.heap.size, 2, none⟩ = some (.string x.pat) := by rw [← fold]; exact cell_of_list (C := bcells x) (heap_alloc_new w _) 2
  have hM := made_any p F s W (h.kept bW)
  have hN := name_any x.que W hx.2.1
  have hend : Hid (∀ w', Below w.heap.size w w' → ∃ F', T w' p F' s ∧ Moved w w' F F') := fun w' hb => ⟨F, h.kept hb, .of_below hb⟩
  cases hg : nameB (txt x.que) with
  | false =>
    have hd : s.bind x = (2, s) := by unfold Tb.bind; rw [if_pos hg]
    rw [hd]
    rw [hg] at hN
    go_enter Tryz.func17, Tryz.ntmps17
    go_wp2_with fail
    refine hM.mono ?_
    rintro e W ⟨rfl, rfl⟩
    go_wp2_with fail
    refine hN.mono ?_
    rintro e w2 ⟨rfl, b2⟩
    go_wp2
    go_ret
    exact ⟨rfl, hend.out _ (bW.trans (b2.mono (by omega)))⟩
  | true =>
    rw [hg] at hN
    go_enter Tryz.func17, Tryz.ntmps17
    go_wp2_with fail
    refine hM.mono ?_
    rintro e W ⟨rfl, rfl⟩
    go_wp2_with fail
    refine hN.mono ?_
    rintro e w2 ⟨rfl, b2⟩
    have b02 : Below w.heap.size w w2 := bW.trans (b2.mono (by omega))
    obtain ⟨bx, bb, hq, hF⟩ := h.kept b02
    obtain ⟨c0, c1⟩ := cells2 hq.blk
    have hw : w.heap.size < W.heap.size := by omega
    have y0 := (b2.cell (p := ⟨w.heap.size, 0, none⟩) hw).trans x0
    have y1 := (b2.cell (p := ⟨w.heap.size, 1, none⟩) hw).trans x1
    have y2 := (b2.cell (p := ⟨w.heap.size, 2, none⟩) hw).trans x2
    have HQ : Hid (TAt w2 p bx bb s) := hq
    have kl : ∀ W', W'.heap[bx]? = w2.heap[bx]? → (Instr.lookup 50 (.map (some bx)) (.string x.ex) true).run Tryz.prog W' = .ok (.tuple #[xv ((findX s.xs x.ex).getD zeroEx), .bool (findX s.xs x.ex).isSome]) W' := fun W' e => (hq.x.same e).look ok.xl hx.1
    have la := kl w2.drew rfl
    have lb : ∀ o, (Instr.lookup 50 (.map (some bx)) (.string x.ex) true).run Tryz.prog ((w2.alloc o).drew) = _ := fun o => kl ((w2.alloc o).drew) (Below.heap_alloc w2 _ _ hq.x.lt)
    have hlen : s.bs.length ≤ 1000000 := by have := ok.nb; omega
    have HB02 : Hid (Below w.heap.size w w2) := b02
    have HF : Hid (∀ k, F k ↔ footT p bx bb k) := hF
    have HG : Hid (nameB (txt x.que) = true) := hg
    obtain ⟨yy, hyy⟩ : ∃ yy, (findX s.xs x.ex).getD zeroEx = yy := ⟨_, rfl⟩
    obtain ⟨rr, hrr⟩ : ∃ rr, (findX s.xs x.ex).isSome = rr := ⟨_, rfl⟩
    rw [hyy, hrr] at la
    simp only [hyy, hrr] at lb
    have HYY : Hid ((findX s.xs x.ex).getD zeroEx = yy ∧ (findX s.xs x.ex).isSome = rr) := ⟨hyy, hrr⟩
    have HX0 : Hid (w2.cell? ⟨w.heap.size, 0, none⟩ = some (.string x.ex) ∧ w2.cell? ⟨w.heap.size, 1, none⟩ = some (.string x.que) ∧ w2.cell? ⟨w.heap.size, 2, none⟩ = some (.string x.pat) ∧ w.heap.size < w2.heap.size) := ⟨y0, y1, y2, by have := b2.size; omega⟩
    clear x0 x1 x2 hM hN kl fold hg hq hF b02 hyy hrr
    have ya := fun o => cell_allocK o y0
    have ca := fun o => cell_allocK o c0
    go_wp2
    go_cut [5, 6] from 7 to 52 (fun s5 s6 wx => s5 = .pointer (some ⟨w2.heap.size, 0, none⟩) ∧ s6 = .bool rr ∧ Below w2.heap.size w2 wx ∧ wx.heap[w2.heap.size]? = some (.cells (xcells yy).toArray 33 (0, 0)))
    case first =>
      go_region
      all_goals go_wp2
      all_goals go_meet
      all_goals exact ⟨rfl, rfl, ((Below.refl _ _).alloc (Nat.le_refl _) _).drew, heap_alloc_new w2 _⟩
    case rest =>
      obtain ⟨rfl, rfl, b3, hz⟩ := hcut
      have z1 : wc.cell? ⟨w2.heap.size, 1, none⟩ = some (.int .i64 yy.kind) := cell_of_list hz 1
      obtain ⟨v0, v1, v2, hw2⟩ := HX0.out
      have u0 := (b3.cell (p := ⟨w.heap.size, 0, none⟩) hw2).trans v0
      have u1 := (b3.cell (p := ⟨w.heap.size, 1, none⟩) hw2).trans v1
      have u2 := (b3.cell (p := ⟨w.heap.size, 2, none⟩) hw2).trans v2
      have HB3 : Hid (Below w.heap.size w wc) := HB02.out.trans (b3.mono (by omega))
      have hwc : w.heap.size < wc.heap.size := Nat.lt_of_lt_of_le hw2 b3.size
      clear la lb ya ca y0 y1 y2 v0 v1 v2 hz HX0 c0 c1 b3
      cases hf : findX s.xs x.ex with
      | none =>
        obtain rfl : false = rr := by have := HYY.out.2; rw [hf] at this; exact this
        have hd : Hid (s.bind x = (3, s)) := by show s.bind x = (3, s); unfold Tb.bind; rw [if_neg (by rw [HG.out]; decide), hf]
        clear hf
        go_wp2
        go_ret
        rw [hd.out]; exact ⟨rfl, hend.out _ HB3.out⟩
      | some y =>
        obtain ⟨rfl, rfl⟩ : y = yy ∧ true = rr := by have := HYY.out; rw [hf] at this; exact this
        have hL := leads_any y.kind x.pat wc hx.2.2
        cases hm : mayP y.kind x.pat with
        | false =>
          have hd : Hid (s.bind x = (2, s)) := by show s.bind x = (2, s); unfold Tb.bind; rw [if_neg (by rw [HG.out]; decide), hf]; simp [hm]
          rw [hm] at hL
          clear hf
          go_wp2_with fail
          refine hL.mono ?_
          rintro e w4 ⟨rfl, b4⟩
          go_wp2
          go_ret
          rw [hd.out]; exact ⟨rfl, hend.out _ (HB3.out.trans (b4.mono HB3.out.size))⟩
        | true =>
          rw [hm] at hL
          go_wp2_with fail
          refine hL.mono ?_
          rintro e w4 ⟨rfl, b4⟩
          have B4 : Below w.heap.size w w4 := HB3.out.trans (b4.mono HB3.out.size)
          have hH := has_any p F s x w4 (h.kept B4) ok hx
          have q0 := (b4.cell (p := ⟨w.heap.size, 0, none⟩) hwc).trans u0
          have q1 := (b4.cell (p := ⟨w.heap.size, 1, none⟩) hwc).trans u1
          have q2 := (b4.cell (p := ⟨w.heap.size, 2, none⟩) hwc).trans u2
          clear u0 u1 u2 z1
          have hw4 : w.heap.size < w4.heap.size := Nat.lt_of_lt_of_le hwc b4.size
          by_cases hin : x ∈ s.bs
          · have hd : Hid (s.bind x = (0, s)) := by show s.bind x = (0, s); unfold Tb.bind; rw [if_neg (by rw [HG.out]; decide), hf]; simp [hm, hin]
            rw [decide_eq_true hin] at hH
            clear hf hm
            go_wp2_with fail
            refine hH.mono ?_
            rintro e w5 ⟨rfl, b5⟩
            have B5 : Below w.heap.size w w5 := B4.trans (b5.mono B4.size)
            have r0 := (b5.cell (p := ⟨w.heap.size, 0, none⟩) hw4).trans q0
            have r1 := (b5.cell (p := ⟨w.heap.size, 1, none⟩) hw4).trans q1
            have r2 := (b5.cell (p := ⟨w.heap.size, 2, none⟩) hw4).trans q2
            have b25 : Below w.heap.size w w5 := B5
            obtain ⟨bx5, bb5, hq5, hF5⟩ := h.kept B5
            obtain ⟨_, d1⟩ := cells2 hq5.blk
            obtain ⟨w6, hst, hb6, gr6⟩ := BAt.storeOld (w := w5.drew) hq5.b ok.bl x hin hlen
            have HE : Hid (∃ F', T w6 p F' s ∧ Moved w w6 F F') := by
              have m5 : Moved w w5.drew F F := .of_below B5.drew
              have m6 : Moved w5.drew w6 F (footT p bx5 bb5) := (moved_setB p bx5 gr6).weak fun k hk => (hF5 k).2 hk
              exact ⟨footT p bx5 bb5, ⟨bx5, bb5, (show TAt w5.drew p bx5 bb5 s from ⟨hq5.blk, hq5.x, hq5.b, hq5.ne⟩).setB hb6 gr6, fun _ => Iff.rfl⟩, m5.trans m6⟩
            clear q0 q1 q2 hq5 hF5 hb6 gr6
            go_wp2
            go_region
            all_goals go_wp2
            all_goals go_ret
            all_goals (rw [hd.out]; exact ⟨rfl, HE.out⟩)
          · rw [decide_eq_false hin] at hH
            have hfit := hx
            go_wp2_with fail
            refine hH.mono ?_
            rintro e w5 ⟨rfl, b5⟩
            have B5 : Below w.heap.size w w5 := B4.trans (b5.mono B4.size)
            have r0 := (b5.cell (p := ⟨w.heap.size, 0, none⟩) hw4).trans q0
            have r1 := (b5.cell (p := ⟨w.heap.size, 1, none⟩) hw4).trans q1
            have r2 := (b5.cell (p := ⟨w.heap.size, 2, none⟩) hw4).trans q2
            obtain ⟨bx5, bb5, hq5, hF5⟩ := h.kept B5
            obtain ⟨_, d1⟩ := cells2 hq5.blk
            have hl5 := hq5.b.len
            by_cases h32 : 32 ≤ s.bs.length
            · have hd : Hid (s.bind x = (5, s)) := by show s.bind x = (5, s); unfold Tb.bind; rw [if_neg (by rw [HG.out]; decide), hf]; simp [hm, hin, h32]
              have h32' : (32 : Int) ≤ (s.bs.length : Int) := by omega
              clear hf hm q0 q1 q2 hq5 hF5
              go_wp2
              go_ret
              rw [hd.out]; exact ⟨rfl, hend.out _ B5⟩
            · have hd : Hid (s.bind x = (0, { s with bs := insC cmpB x s.bs })) := by show s.bind x = _; unfold Tb.bind; rw [if_neg (by rw [HG.out]; decide), hf]; simp [hm, hin, h32]
              have okD := ok.bind hfit
              rw [hd.out] at okD
              obtain ⟨w6, hst, hb6, gr6⟩ := BAt.storeNew (w := w5.drew) hq5.b ok.bl x hfit hin okD.bl hlen
              have HE : Hid (∃ F', T w6 p F' { s with bs := insC cmpB x s.bs } ∧ Moved w w6 F F') := by
                have m5 : Moved w w5.drew F F := .of_below B5.drew
                have m6 : Moved w5.drew w6 F (footT p bx5 bb5) := (moved_setB p bx5 gr6).weak fun k hk => (hF5 k).2 hk
                exact ⟨footT p bx5 bb5, ⟨bx5, bb5, (show TAt w5.drew p bx5 bb5 s from ⟨hq5.blk, hq5.x, hq5.b, hq5.ne⟩).setB hb6 gr6, fun _ => Iff.rfl⟩, m5.trans m6⟩
              have h32' : ¬ (32 : Int) ≤ (s.bs.length : Int) := by omega
              clear hf hm q0 q1 q2 hq5 hF5 hb6 gr6 okD
              go_wp2
              go_region
              all_goals go_wp2
              all_goals go_ret
              all_goals (rw [hd.out]; exact ⟨rfl, HE.out⟩)
end Go.Proofs.YtiaagiijjledkaaGreatDoor
