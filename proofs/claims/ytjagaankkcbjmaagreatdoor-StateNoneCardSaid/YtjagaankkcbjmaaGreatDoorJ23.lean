/-
  Declare, by its contract.
-/
import Derived.Test.YtjagaankkcbjmaaGreatDoorJ11
import Derived.Deep.CutRange
import Derived.Maps.RangeWalk
import Derived.Laws.IdiomRangeMap
import Derived.Laws.ResultCell
import Derived.Laws.Rows
namespace Go.Proofs.YtjagaankkcbjmaaGreatDoor.K
end Go.Proofs.YtjagaankkcbjmaaGreatDoor.K
namespace Go.Proofs.YtjagaankkcbjmaaGreatDoor.B
open Go.Proofs.YtjagaankkcbjmaaGreatDoor.K
open Go.RowKit Go.Sort Go.Maps

theorem cell_allocK {w : World} {a : Addr} {v : Value} (o : Obj) (h : w.cell? a = some v) : (w.alloc o).cell? a = some v := by
  rw [World.cell?_alloc_old _ _ _ (Nat.ne_of_lt (World.block_lt_of_cell? _ _ h))]; exact h
theorem XAt.storeNew {w : World} {b : Nat} {l : List Ex} (h : XAt w b l) (hl : XL l) (x : Ex) (hx : x.name.size ≤ maxLen) (hn : ∀ y ∈ l, y.name ≠ x.name) (hl' : XL (insC cmpX x l)) (hlen : l.length ≤ 1000000) :
    ∃ w', (Instr.mapUpdate 168 (.map (some b)) (.string x.name) (xv x)).run Tryz.prog w = .ok () w' ∧ XAt w' b (insC cmpX x l) ∧ w.grownBy w' (some b) := by
  obtain ⟨w', h1, h2, h3⟩ := World.ownsMap.update h xKeyed Tryz.underlying168 (by unfold maxLen; omega) (keyOf_str hx) (rdEx_xv x)
  refine ⟨w', h1, ?_, h3⟩
  have e : (DofG xkl xd l).put (.string x.name.data.toList) (.held x) = DofG xkl xd (x :: l) := put_new xKeyed.one hl.keys hl.diff (x := x) ⟨_, keyOf_str hx⟩ (fun y hy e => hn y hy (str_inj e))
  rw [e] at h2
  exact XAt.perm h2 hl' (insC_perm x l).symm
theorem XAt.storeOld {w : World} {b : Nat} {l : List Ex} (h : XAt w b l) (hl : XL l) (x : Ex) (hx : x ∈ l) (hlen : l.length ≤ 1000000) :
    ∃ w', (Instr.mapUpdate 168 (.map (some b)) (.string x.name) (xv x)).run Tryz.prog w = .ok () w' ∧ XAt w' b l ∧ w.grownBy w' (some b) := by
  obtain ⟨w', h1, h2, h3⟩ := World.ownsMap.update h xKeyed Tryz.underlying168 (by unfold maxLen; omega) (keyOf_str (hl.fit x hx)) (rdEx_xv x)
  refine ⟨w', h1, ?_, h3⟩
  have e : (DofG xkl xd l).put (.string x.name.data.toList) (.held x) = DofG xkl xd l := put_old xKeyed.one hl.keys hl.diff hx
  rw [e] at h2
  exact XAt.perm h2 hl (List.Perm.refl _)
/-- The exchanges were changed. -/
theorem TAt.setX {w w' : World} {p bx bb : Nat} {s : Tb} {l : List Ex} (h : TAt w p bx bb s) (hx : XAt w' bx l) (gr : w.grownBy w' (some bx)) : TAt w' p bx bb { s with xs := l } :=
  ⟨(gr.block p ((Array.getElem?_eq_some_iff.1 h.blk).1) (fun e => h.ne_x (by injection e with e; exact e.symm))).trans h.blk, hx, h.b.same (gr.block bb h.b.lt (fun e => h.ne (by injection e with e; exact e.symm))), h.ne⟩
theorem moved_setX {w w' : World} (p : Nat) {bx : Nat} (bb : Nat) (gr : w.grownBy w' (some bx)) : Moved w w' (footT p bx bb) (footT p bx bb) :=
  ⟨gr.os, gr.tape, gr.output, gr.size, fun k hk hn => gr.block k hk (fun e => hn (by injection e with e; exact .inr (.inl e))), fun _ h => .inl h⟩

def Tb.declare (s : Tb) (x : Ex) : Int × Tb :=
  if goodX x = false then (2, s) else match findX s.xs x.name with
  | some y => if y = x then (0, s) else (12, s)
  | none => if 8 ≤ s.xs.length then (5, s) else (0, { s with xs := insC cmpX x s.xs })
theorem mem_insC {α : Type} {c : α → α → Int} {x y : α} {l : List α} : y ∈ insC c x l ↔ y = x ∨ y ∈ l := by rw [(insC_perm x l).mem_iff, List.mem_cons]
theorem insX_ord {s : Tb} (ok : s.Ok) {x : Ex} (hn : ∀ y ∈ s.xs, y.name ≠ x.name) : Ord cmpX (insC cmpX x s.xs) := insC_ord cmpX3 ok.ox (fun y hy e => hn y hy (cmpS_eq e))
theorem Tb.Ok.declare {s : Tb} (ok : s.Ok) (x : Ex) : (s.declare x).2.Ok := by
  unfold Tb.declare
  split
  · exact ok
  · rename_i hg
    split
    · split <;> exact ok
    · rename_i hf
      split
      · exact ok
      · rename_i hlen
        refine ⟨insX_ord ok (findX_none hf), ok.ob, fun y hy => ?_, ok.fit, fun b hb => ?_, ?_, ok.nb⟩
        · rcases mem_insC.1 hy with rfl | hy
          · simpa using hg
          · exact ok.good y hy
        · obtain ⟨y, hy, e⟩ := ok.leads b hb
          exact ⟨y, mem_insC.2 (.inr hy), e⟩
        · show (insC cmpX x s.xs).length ≤ 8
          rw [(insC_perm x s.xs).length_eq]
          simp; omega

set_option maxRecDepth 20000 in
set_option maxHeartbeats 4000000 in
theorem declare_any (p : Nat) (F : Nat → Prop) (s : Tb) (x : Ex) (w : World) (h : T w p F s) (ok : s.Ok) (hs : x.name.size ≤ maxLen) :
    Calls Tryz.prog 139 #[.pointer (some ⟨p, 0, none⟩), xv x] w fun e w' => e = .returned (.int .i64 (s.declare x).1) ∧ ∃ F', T w' p F' (s.declare x).2 ∧ Moved w w' F F' := by
  obtain ⟨W, fold⟩ : ∃ W, w.alloc (.cells #[.string x.name, .int .i64 x.kind, .bool x.fed] 34) = W := ⟨_, rfl⟩
  have bW : Below w.heap.size w W := by rw [← fold]; exact (Below.refl _ _).alloc (Nat.le_refl _) _
  have sW : W.heap.size = w.heap.size + 1 := by rw [← fold]; simp
  have x0 : W.cell? ⟨w.heap.size, 0, none⟩ = some (.string x.name) := by rw [← fold]; exact cell_of_list (C := xcells x) (heap_alloc_new w _) 0
  have x1 : W.cell? ⟨w.heap.size, 1, none⟩ = some (.int .i64 x.kind) := by rw [← fold]; exact cell_of_list (C := xcells x) (heap_alloc_new w _) 1
  have x2 : W.cell? ⟨w.heap.size, 2, none⟩ = some (.bool x.fed) := by rw [← fold]; exact cell_of_list (C := xcells x) (heap_alloc_new w _) 2
  have hM := made_any p F s W (h.kept bW)
  have hG := good_any x W hs
  have hend : Hid (∀ w', Below w.heap.size w w' → ∃ F', T w' p F' s ∧ Moved w w' F F') := fun w' hb => ⟨F, h.kept hb, .of_below hb⟩
  cases hg : goodX x with
  | false =>
    have hd : s.declare x = (2, s) := by unfold Tb.declare; rw [if_pos hg]
    rw [hd]
    rw [hg] at hG
    go_enter Tryz.func139, Tryz.ntmps139
    go_wp2_with fail
    refine hM.mono ?_
    rintro e W ⟨rfl, rfl⟩
    go_wp2_with fail
    refine hG.mono ?_
    rintro e w2 ⟨rfl, b2⟩
    go_wp2
    go_ret
    exact ⟨rfl, hend.out _ (bW.trans (b2.mono (by omega)))⟩
  | true =>
    rw [hg] at hG
    go_enter Tryz.func139, Tryz.ntmps139
    go_wp2_with fail
    refine hM.mono ?_
    rintro e W ⟨rfl, rfl⟩
    go_wp2_with fail
    refine hG.mono ?_
    rintro e w2 ⟨rfl, b2⟩
    have b02 : Below w.heap.size w w2 := bW.trans (b2.mono (by omega))
    obtain ⟨bx, bb, hq, hF⟩ := h.kept b02
    obtain ⟨c0, c1⟩ := cells2 hq.blk
    have hw : w.heap.size < W.heap.size := by omega
    have y0 := (b2.cell (p := ⟨w.heap.size, 0, none⟩) hw).trans x0
    have y1 := (b2.cell (p := ⟨w.heap.size, 1, none⟩) hw).trans x1
    have y2 := (b2.cell (p := ⟨w.heap.size, 2, none⟩) hw).trans x2
    have HQ : Hid (TAt w2 p bx bb s) := hq
    have k1 := hq.x.look ok.xl hs
    have kl : ∀ W', W'.heap[bx]? = w2.heap[bx]? → (Instr.lookup 168 (.map (some bx)) (.string x.name) true).run Tryz.prog W' = .ok (.tuple #[xv ((findX s.xs x.name).getD zeroEx), .bool (findX s.xs x.name).isSome]) W' := fun W' e => (hq.x.same e).look ok.xl hs
    have la := kl w2.drew rfl
    have lb : ∀ o, (Instr.lookup 168 (.map (some bx)) (.string x.name) true).run Tryz.prog ((w2.alloc o).drew) = _ := fun o => kl ((w2.alloc o).drew) (Below.heap_alloc w2 _ _ hq.x.lt)
    have hlen : s.xs.length ≤ 1000000 := by have := ok.nx; omega
    have HB02 : Hid (Below w.heap.size w w2) := b02
    have HF : Hid (∀ k, F k ↔ footT p bx bb k) := hF
    have HG : Hid (goodX x = true) := hg
    obtain ⟨yy, hyy⟩ : ∃ yy, (findX s.xs x.name).getD zeroEx = yy := ⟨_, rfl⟩
    obtain ⟨rr, hrr⟩ : ∃ rr, (findX s.xs x.name).isSome = rr := ⟨_, rfl⟩
    rw [hyy, hrr] at la
    simp only [hyy, hrr] at lb
    have HYY : Hid ((findX s.xs x.name).getD zeroEx = yy ∧ (findX s.xs x.name).isSome = rr) := ⟨hyy, hrr⟩
    have HX0 : Hid (w2.cell? ⟨w.heap.size, 0, none⟩ = some (.string x.name) ∧ w2.cell? ⟨w.heap.size, 1, none⟩ = some (.int .i64 x.kind) ∧ w2.cell? ⟨w.heap.size, 2, none⟩ = some (.bool x.fed) ∧ w.heap.size < w2.heap.size) := ⟨y0, y1, y2, by have := b2.size; omega⟩
    clear x0 x1 x2 hM hG kl k1 fold hg hq hF b02 hyy hrr
    have ya := fun o => cell_allocK o y0
    have ca := fun o => cell_allocK o c0
    go_wp2
    go_cut [5, 6] from 7 to 47 (fun s5 s6 wx => s5 = .pointer (some ⟨w2.heap.size, 0, none⟩) ∧ s6 = .bool rr ∧ Below w2.heap.size w2 wx ∧ wx.heap[w2.heap.size]? = some (.cells (xcells yy).toArray 34 (0, 0)))
    case first =>
      go_region
      all_goals go_wp2
      all_goals go_meet
      all_goals exact ⟨rfl, rfl, ((Below.refl _ _).alloc (Nat.le_refl _) _).drew, heap_alloc_new w2 _⟩
    case rest =>
      obtain ⟨rfl, rfl, b3, hz⟩ := hcut
      have z0 : wc.cell? ⟨w2.heap.size, 0, none⟩ = some (.string yy.name) := cell_of_list hz 0
      have z1 : wc.cell? ⟨w2.heap.size, 1, none⟩ = some (.int .i64 yy.kind) := cell_of_list hz 1
      have z2 : wc.cell? ⟨w2.heap.size, 2, none⟩ = some (.bool yy.fed) := cell_of_list hz 2
      obtain ⟨v0, v1, v2, hw2⟩ := HX0.out
      have u0 := (b3.cell (p := ⟨w.heap.size, 0, none⟩) hw2).trans v0
      have u1 := (b3.cell (p := ⟨w.heap.size, 1, none⟩) hw2).trans v1
      have u2 := (b3.cell (p := ⟨w.heap.size, 2, none⟩) hw2).trans v2
      have d0 := (b3.cell (p := ⟨p, 0, none⟩) (Array.getElem?_eq_some_iff.1 HQ.out.blk).1).trans c0
      have hq3 := HQ.out.same (w' := wc) fun k hk => b3.block k (HQ.out.lts k hk)
      have HB3 : Hid (Below w.heap.size w wc) := HB02.out.trans (b3.mono (by omega))
      have HQ3 : Hid (TAt wc p bx bb s) := hq3
      have hl3 := hq3.x.len
      have HM4 : Hid (∀ w4, wc.drew.grownBy w4 (some bx) → ∀ l, XAt w4 bx l → ∃ F', T w4 p F' { s with xs := l } ∧ Moved w w4 F F') := fun w4 gr4 l hx4 => by
        have b30 : Moved w wc.drew F F := .of_below HB3.out.drew
        have m4 : Moved wc.drew w4 F (footT p bx bb) := (moved_setX p bb gr4).weak fun k hk => (HF.out k).2 hk
        exact ⟨footT p bx bb, ⟨bx, bb, (show TAt wc.drew p bx bb s from ⟨HQ3.out.blk, HQ3.out.x, HQ3.out.b, HQ3.out.ne⟩).setX hx4 gr4, fun _ => Iff.rfl⟩, b30.trans m4⟩
      clear la lb ya ca y0 y1 y2 v0 v1 v2 hz hq3 HX0 c0 c1 b3
      cases hf : findX s.xs x.name with
      | some y =>
        obtain ⟨rfl, rfl⟩ : y = yy ∧ true = rr := by have := HYY.out; rw [hf] at this; exact this
        obtain ⟨hy, hyn⟩ := findX_some hf
        by_cases hyx : y = x
        · subst hyx
          have hd : Hid (s.declare y = (0, s)) := by show s.declare y = (0, s); unfold Tb.declare; rw [if_neg (by rw [HG.out]; decide), hf]; simp
          obtain ⟨w4, hst, hx4, gr4⟩ := XAt.storeOld (w := wc.drew) HQ3.out.x ok.xl y hy hlen
          have HE : Hid (∃ F', T w4 p F' s ∧ Moved w w4 F F') := HM4.out w4 gr4 s.xs hx4
          clear hf hy hx4 gr4 hl3
          go_wp2
          go_region
          all_goals go_wp2
          all_goals go_ret
          all_goals (rw [hd.out]; exact ⟨rfl, HE.out⟩)
        · have hd : Hid (s.declare x = (12, s)) := by show s.declare x = (12, s); unfold Tb.declare; rw [if_neg (by rw [HG.out]; decide), hf]; simp [hyx]
          have hdiff : y.kind = x.kind → ¬ y.fed = x.fed := fun h1 h2 => hyx (by cases y; cases x; simp only at h1 h2 hyn; rw [h1, h2, hyn])
          rw [hyn] at z0
          clear hf hy hyx hl3
          by_cases hkk : y.kind = x.kind
          · have hff := hdiff hkk
            rw [hkk] at z1
            clear hdiff hkk
            generalize y.fed = yf at z2 hff
            generalize x.fed = xf at u2 hff
            cases yf <;> cases xf <;> first | exact absurd rfl hff | skip
            all_goals clear hff
            all_goals go_wp2
            all_goals go_ret
            all_goals (rw [hd.out]; exact ⟨rfl, hend.out _ HB3.out⟩)
          · clear hdiff
            go_wp2
            all_goals go_ret
            all_goals (rw [hd.out]; exact ⟨rfl, hend.out _ HB3.out⟩)
      | none =>
        obtain rfl : false = rr := by have := HYY.out.2; rw [hf] at this; exact this
        by_cases h8 : 8 ≤ s.xs.length
        · have hd : Hid (s.declare x = (5, s)) := by show s.declare x = (5, s); unfold Tb.declare; rw [if_neg (by rw [HG.out]; decide), hf]; simp [h8]
          have h8' : (8 : Int) ≤ (s.xs.length : Int) := by omega
          clear hf
          go_wp2
          go_ret
          rw [hd.out]; exact ⟨rfl, hend.out _ HB3.out⟩
        · have hd : Hid (s.declare x = (0, { s with xs := insC cmpX x s.xs })) := by show s.declare x = _; unfold Tb.declare; rw [if_neg (by rw [HG.out]; decide), hf]; simp [h8]
          have okD := ok.declare x
          rw [hd.out] at okD
          obtain ⟨w4, hst, hx4, gr4⟩ := XAt.storeNew (w := wc.drew) HQ3.out.x ok.xl x hs (findX_none hf) okD.xl hlen
          have HE : Hid _ := HM4.out w4 gr4 _ hx4
          have h8' : ¬ (8 : Int) ≤ (s.xs.length : Int) := by omega
          clear hf hx4 gr4 okD
          go_wp2
          go_region
          all_goals go_wp2
          all_goals go_ret
          all_goals (rw [hd.out]; exact ⟨rfl, HE.out⟩)
end Go.Proofs.YtjagaankkcbjmaaGreatDoor.B

/-
  has, Bind, Unbind, by their contracts.
-/
namespace Go.Proofs.YtjagaankkcbjmaaGreatDoor.K
end Go.Proofs.YtjagaankkcbjmaaGreatDoor.K
namespace Go.Proofs.YtjagaankkcbjmaaGreatDoor.B
open Go.Proofs.YtjagaankkcbjmaaGreatDoor.K
open Go.RowKit Go.Sort Go.Maps

theorem BAt.storeNew {w : World} {b : Nat} {l : List Bd} (h : BAt w b l) (hl : BL l) (x : Bd) (hx : x.Fit) (hn : x ∉ l) (hl' : BL (insC cmpB x l)) (hlen : l.length ≤ 1000000) :
    ∃ w', (Instr.mapUpdate 169 (.map (some b)) (bv x) (.agg #[])).run Tryz.prog w = .ok () w' ∧ BAt w' b (insC cmpB x l) ∧ w.grownBy w' (some b) := by
  obtain ⟨w', h1, h2, h3⟩ := World.ownsMap.update h bKeyed Tryz.underlying169 (by unfold maxLen; omega) (keyOf_bd hx) unitElem_mk
  refine ⟨w', h1, ?_, h3⟩
  have e : (DofG bkl bd l).put (bkl x) (.agg []) = DofG bkl bd (x :: l) := put_new bKeyed.one hl.keys hl.diff (x := x) ⟨_, keyOf_bd hx⟩ (fun y hy e => hn (by rw [← bkl_inj (hl.fit y hy) hx e]; exact hy))
  rw [e] at h2
  exact BAt.perm h2 hl' (insC_perm x l).symm
theorem BAt.storeOld {w : World} {b : Nat} {l : List Bd} (h : BAt w b l) (hl : BL l) (x : Bd) (hx : x ∈ l) (hlen : l.length ≤ 1000000) :
    ∃ w', (Instr.mapUpdate 169 (.map (some b)) (bv x) (.agg #[])).run Tryz.prog w = .ok () w' ∧ BAt w' b l ∧ w.grownBy w' (some b) := by
  obtain ⟨w', h1, h2, h3⟩ := World.ownsMap.update h bKeyed Tryz.underlying169 (by unfold maxLen; omega) (keyOf_bd (hl.fit x hx)) unitElem_mk
  refine ⟨w', h1, ?_, h3⟩
  have e : (DofG bkl bd l).put (bkl x) (.agg []) = DofG bkl bd l := put_old bKeyed.one hl.keys hl.diff hx
  rw [e] at h2
  exact BAt.perm h2 hl (List.Perm.refl _)

set_option maxRecDepth 20000 in
set_option maxHeartbeats 1000000 in
theorem has_any (p : Nat) (F : Nat → Prop) (s : Tb) (x : Bd) (w : World) (h : T w p F s) (ok : s.Ok) (hx : x.Fit) :
    Calls Tryz.prog 223 #[.pointer (some ⟨p, 0, none⟩), bv x] w fun e w' => e = .returned (.bool (decide (x ∈ s.bs))) ∧ Below w.heap.size w w' := by
  obtain ⟨bx, bb, hq, _⟩ := h
  obtain ⟨_, c1⟩ := cells2 hq.blk
  obtain ⟨W, fold⟩ : ∃ W, w.alloc (.cells #[.string x.ex, .string x.que, .string x.pat] 36) = W := ⟨_, rfl⟩
  have bW : Below w.heap.size w W := by rw [← fold]; exact (Below.refl _ _).alloc (Nat.le_refl _) _
  have x0 : W.cell? ⟨w.heap.size, 0, none⟩ = some (.string x.ex) := by rw [← fold]; exact cell_of_list (C := bcells x) (heap_alloc_new w _) 0
  have x1 : W.cell? ⟨w.heap.size, 1, none⟩ = some (.string x.que) := by rw [← fold]; exact cell_of_list (C := bcells x) (heap_alloc_new w _) 1
  have x2 : W.cell? ⟨w.heap.size, 2, none⟩ = some (.string x.pat) := by rw [← fold]; exact cell_of_list (C := bcells x) (heap_alloc_new w _) 2
  have c1' : W.cell? ⟨p, 1, none⟩ = some (.map (some bb)) := (bW.cell (p := ⟨p, 1, none⟩) (Array.getElem?_eq_some_iff.1 hq.blk).1).trans c1
  have kl : ∀ W', W'.heap[bb]? = w.heap[bb]? → (Instr.lookup 169 (.map (some bb)) (bv x) true).run Tryz.prog W' = .ok (.tuple #[.agg #[], .bool (decide (x ∈ s.bs))]) W' := fun W' e => (hq.b.same e).look ok.bl hx
  have hbb : bb < w.heap.size := hq.b.lt
  have la := kl W.drew (bW.block bb hbb)
  have lb : ∀ o, (Instr.lookup 169 (.map (some bb)) (bv x) true).run Tryz.prog ((W.alloc o).drew) = _ := fun o => kl ((W.alloc o).drew) ((Below.heap_alloc W _ _ (Nat.lt_of_lt_of_le hbb bW.size)).trans (bW.block bb hbb))
  have w0 := fun o => cell_allocK o x0
  have w1 := fun o => cell_allocK o x1
  have w2 := fun o => cell_allocK o x2
  have w3 := fun o => cell_allocK o c1'
  generalize decide (x ∈ s.bs) = r at *
  clear kl c1 hq
  go_enter Tryz.func223, Tryz.ntmps223
  go_wp2
  go_region
  all_goals go_wp2
  all_goals go_ret
  all_goals exact ⟨rfl, bW.trans ((((Below.refl _ _).alloc (Nat.le_refl _) _).drew).mono bW.size)⟩

def Tb.bind (s : Tb) (b : Bd) : Int × Tb :=
  if nameB (txt b.que) = false then (2, s) else match findX s.xs b.ex with
  | none => (3, s)
  | some x => if mayP x.kind b.pat = false then (2, s) else if b ∈ s.bs then (0, s) else if 32 ≤ s.bs.length then (5, s) else (0, { s with bs := insC cmpB b s.bs })
theorem insB_ord {s : Tb} (ok : s.Ok) {b : Bd} (hn : b ∉ s.bs) : Ord cmpB (insC cmpB b s.bs) := insC_ord cmpB3 ok.ob (fun y hy e => hn (by rw [← cmpB_eq e]; exact hy))
theorem Tb.Ok.bind {s : Tb} (ok : s.Ok) {b : Bd} (hb : b.Fit) : (s.bind b).2.Ok := by
  unfold Tb.bind
  split
  · exact ok
  · split
    · exact ok
    · rename_i x hf
      split
      · exact ok
      · split
        · exact ok
        · rename_i hn
          split
          · exact ok
          · obtain ⟨hx, hxn⟩ := findX_some hf
            refine ⟨ok.ox, insB_ord ok hn, ok.good, fun y hy => ?_, fun y hy => ?_, ok.nx, ?_⟩
            · rcases mem_insC.1 hy with rfl | hy
              · exact hb
              · exact ok.fit y hy
            · rcases mem_insC.1 hy with rfl | hy
              · exact ⟨x, hx, hxn⟩
              · exact ok.leads y hy
            · show (insC cmpB b s.bs).length ≤ 32
              rw [(insC_perm b s.bs).length_eq]
              simp; omega

end Go.Proofs.YtjagaankkcbjmaaGreatDoor.B

/-
  maps.DeleteFunc at bindings, shed, Drop, Forget, by their contracts.
-/
namespace Go.Proofs.YtjagaankkcbjmaaGreatDoor.K
end Go.Proofs.YtjagaankkcbjmaaGreatDoor.K
namespace Go.Proofs.YtjagaankkcbjmaaGreatDoor.B
open Go.Proofs.YtjagaankkcbjmaaGreatDoor.K
open Go.RowKit Go.Sort Go.Maps Go.Shelf



end Go.Proofs.YtjagaankkcbjmaaGreatDoor.B

/-
  shed, Drop, Find, by their contracts.
-/
namespace Go.Proofs.YtjagaankkcbjmaaGreatDoor.K
end Go.Proofs.YtjagaankkcbjmaaGreatDoor.K
namespace Go.Proofs.YtjagaankkcbjmaaGreatDoor.B
open Go.Proofs.YtjagaankkcbjmaaGreatDoor.K
open Go.RowKit Go.Sort Go.Maps Go.Shelf

def keepB (pd : Bd → Bool) (l : List Bd) : List Bd := l.filter fun x => !pd x
theorem keepB_le (pd : Bd → Bool) (l : List Bd) : (keepB pd l).length ≤ l.length := List.length_filter_le _ _
theorem Tb.Ok.keep {s : Tb} (ok : s.Ok) (pd : Bd → Bool) : Tb.Ok { s with bs := keepB pd s.bs } :=
  ⟨ok.ox, ok.ob.filter _, ok.good, fun b hb => ok.fit b (List.mem_filter.1 hb).1, fun b hb => ok.leads b (List.mem_filter.1 hb).1, ok.nx, Nat.le_trans (keepB_le pd s.bs) ok.nb⟩

def Tb.drop (s : Tb) (n : ByteArray) : Int × Tb := match findX s.xs n with
  | none => (3, s)
  | some _ => (0, ⟨s.xs.filter fun x => !decide (x.name = n), keepB (fun b => b.ex.toList == n.toList) s.bs⟩)
theorem baList_eq {a b : ByteArray} : (a.toList == b.toList) = decide (a = b) := by
  rw [Bool.eq_iff_iff, beq_iff_eq, decide_eq_true_iff]
  constructor
  · intro h; rw [ByteArray.toList_eq, ByteArray.toList_eq] at h; exact arr_inj h
  · rintro rfl; rfl
theorem Tb.Ok.drop {s : Tb} (ok : s.Ok) (n : ByteArray) : (s.drop n).2.Ok := by
  unfold Tb.drop
  split
  · exact ok
  · refine ⟨ok.ox.filter _, ok.ob.filter _, fun x hx => ok.good x (List.mem_filter.1 hx).1, fun b hb => ok.fit b (List.mem_filter.1 hb).1, fun b hb => ?_, Nat.le_trans (List.length_filter_le _ _) ok.nx, Nat.le_trans (keepB_le _ s.bs) ok.nb⟩
    obtain ⟨hb1, hb2⟩ := List.mem_filter.1 hb
    obtain ⟨x, hx, e⟩ := ok.leads b hb1
    refine ⟨x, List.mem_filter.2 ⟨hx, ?_⟩, e⟩
    have hb3 : (!(b.ex.toList == n.toList)) = true := hb2
    rw [baList_eq, ← e] at hb3
    exact hb3
set_option maxRecDepth 20000 in
theorem XAt.del {w : World} {b : Nat} {l : List Ex} (h : XAt w b l) (hl : XL l) {s : ByteArray} (hs : s.size ≤ maxLen) :
    ∃ f : TypeId → World, ∀ ty, (Builtin.delete_ #[168, 9] ty #[.map (some b), .string s]).run Tryz.prog w = .ok (.tuple #[]) (f ty) ∧ XAt (f ty) b (l.filter fun x => !decide (x.name = s)) ∧ w.grownBy (f ty) (some b) := by
  have each : ∀ ty : TypeId, ∃ w', (Builtin.delete_ #[168, 9] ty #[.map (some b), .string s]).run Tryz.prog w = .ok (.tuple #[]) w' ∧ XAt w' b (l.filter fun x => !decide (x.name = s)) ∧ w.grownBy w' (some b) := fun ty => by
    obtain ⟨w', h1, h2, h3⟩ := World.ownsMap.drop h xKeyed Tryz.underlying168 (keyOf_str hs) ty
    refine ⟨w', h1, ?_, h3.grown⟩
    rw [del_DofG xKeyed.one hl.keys hl.diff] at h2
    have e : (l.filter fun y => !(xkl y).sameKey (.string s.data.toList)) = l.filter fun x => !decide (x.name = s) := List.filter_congr fun y _ => by
      congr 1
      rw [Bool.eq_iff_iff, sameKey_iff xKeyed.one ⟨_, keyOf_str hs⟩, decide_eq_true_iff]
      exact ⟨fun e => str_inj e, fun e => by rw [← e]; rfl⟩
    rw [e] at h2
    exact ownsMapG_fit h2
  obtain ⟨f, hf⟩ := Classical.axiomOfChoice each
  exact ⟨f, hf⟩

end Go.Proofs.YtjagaankkcbjmaaGreatDoor.B

/-
  Find, Forget, Unbind, by their contracts.
-/
namespace Go.Proofs.YtjagaankkcbjmaaGreatDoor.K
end Go.Proofs.YtjagaankkcbjmaaGreatDoor.K
namespace Go.Proofs.YtjagaankkcbjmaaGreatDoor.B
open Go.Proofs.YtjagaankkcbjmaaGreatDoor.K
open Go.RowKit Go.Sort Go.Maps Go.Shelf

def Soft3 (w : World) (b : Nat) : Prop := ∃ cs, w.heap[b]? = some (.cells cs 34 (0, 0)) ∧ cs.size = 3
abbrev put3 (w : World) (g : Nat) (v0 v1 v2 : Value) : World := ((w.setCell ⟨g, 0, none⟩ v0).setCell ⟨g, 1, none⟩ v1).setCell ⟨g, 2, none⟩ v2
theorem put3_at {w : World} {g : Nat} (h : Soft3 w g) (v0 v1 v2 : Value) : (put3 w g v0 v1 v2).heap[g]? = some (.cells #[v0, v1, v2] 34 (0, 0)) := by
  obtain ⟨⟨l⟩, h1, h2⟩ := h
  match l, h2 with
  | [a0, a1, a2], _ =>
    have e0 := heap_setCell_same w g 0 _ _ v0 h1
    have e1 := heap_setCell_same _ g 1 _ _ v1 e0
    have e2 := heap_setCell_same _ g 2 _ _ v2 e1
    rw [e2]
    simp
theorem put3_other {w : World} {g k : Nat} (v0 v1 v2 : Value) (h : k ≠ g) : (put3 w g v0 v1 v2).heap[k]? = w.heap[k]? := by
  unfold put3
  rw [heap_setCell_other _ _ _ _ h, heap_setCell_other _ _ _ _ h, heap_setCell_other _ _ _ _ h]
theorem put3_size (w : World) (g : Nat) (v0 v1 v2 : Value) : (put3 w g v0 v1 v2).heap.size = w.heap.size := by simp [put3]
theorem put3_below {w0 w : World} {g : Nat} (v0 v1 v2 : Value) (h : Below w0.heap.size w0 w) (hg : w0.heap.size ≤ g) : Below w0.heap.size w0 (put3 w g v0 v1 v2) :=
  h.trans ⟨rfl, rfl, rfl, Nat.le_of_eq (put3_size w g v0 v1 v2).symm, fun k hk => put3_other v0 v1 v2 (by omega)⟩
theorem ret_x {fn : Func} {R : Ending → World → Prop} {a : Act} {w : World} {p u : Tmp} (h : fn.results = #[.cell p 34, .tmp u]) (g : Nat) {v0 v1 v2 r : Value} (hp : a.tmps.getD p undef = .pointer (some ⟨g, 0, none⟩)) (hu : a.tmps.getD u undef = r) (hd : a.defers = [])
    (hg : w.heap[g]? = some (.cells #[v0, v1, v2] 34 (0, 0))) (hR : R (.returned (.tuple #[.agg #[v0, v1, v2], r])) w) : bodyPost Tryz.prog fn R .ret a w := by
  have hr : (results fn a.tmps).run Tryz.prog w = .ok (.tuple #[.agg #[v0, v1, v2], a.tmps.getD u undef]) w := by
    rw [results_cell_tmp h, hp]
    simp [asAddr, run_loadVar_row w g _ _ _ _ _ hg Tryz.underlying34 rfl xInfo3, Result.andThen]
  exact bodyPost_ret hr hd (by rw [hu]; exact hR)

set_option maxRecDepth 20000 in
set_option maxHeartbeats 2000000 in
theorem find_any (p : Nat) (F : Nat → Prop) (s : Tb) (n : ByteArray) (w : World) (h : T w p F s) (ok : s.Ok) (hs : n.size ≤ maxLen) :
    Calls Tryz.prog 192 #[.pointer (some ⟨p, 0, none⟩), .string n] w fun e w' => e = .returned (.tuple #[xv ((findX s.xs n).getD zeroEx), .bool (findX s.xs n).isSome]) ∧ Below w.heap.size w w' := by
  obtain ⟨W, fold⟩ : ∃ W, w.alloc (.cells #[.string ⟨#[]⟩, .int .i64 0, .bool false] 34) = W := ⟨_, rfl⟩
  have bW : Below w.heap.size w W := by rw [← fold]; exact (Below.refl _ _).alloc (Nat.le_refl _) _
  have hWz : W.heap[w.heap.size]? = some (.cells #[.string ⟨#[]⟩, .int .i64 0, .bool false] 34 (0, 0)) := by rw [← fold]; exact heap_alloc_new w _
  have hM := made_any p F s W (h.kept bW)
  obtain ⟨bx, bb, hq, hF⟩ := h.kept bW
  obtain ⟨c0, c1⟩ := cells2 hq.blk
  have la := hq.x.look ok.xl hs
  generalize (findX s.xs n).getD zeroEx = yy at la ⊢
  generalize (findX s.xs n).isSome = rr at la ⊢
  obtain ⟨W2, fold2⟩ : ∃ W2, W.alloc (.cells #[.string yy.name, .int .i64 yy.kind, .bool yy.fed] 34) = W2 := ⟨_, rfl⟩
  have b2 : Below W.heap.size W W2 := by rw [← fold2]; exact (Below.refl _ _).alloc (Nat.le_refl _) _
  have z0 : W2.cell? ⟨W.heap.size, 0, none⟩ = some (.string yy.name) := by rw [← fold2]; exact cell_of_list (C := xcells yy) (heap_alloc_new W _) 0
  have z1 : W2.cell? ⟨W.heap.size, 1, none⟩ = some (.int .i64 yy.kind) := by rw [← fold2]; exact cell_of_list (C := xcells yy) (heap_alloc_new W _) 1
  have z2 : W2.cell? ⟨W.heap.size, 2, none⟩ = some (.bool yy.fed) := by rw [← fold2]; exact cell_of_list (C := xcells yy) (heap_alloc_new W _) 2
  have hlt : w.heap.size < W.heap.size := (Array.getElem?_eq_some_iff.1 hWz).1
  have hW2z : W2.heap[w.heap.size]? = some (.cells #[.string ⟨#[]⟩, .int .i64 0, .bool false] 34 (0, 0)) := (b2.block _ hlt).trans hWz
  have t0 : W2.cell? ⟨w.heap.size, 0, none⟩ = some (.string ⟨#[]⟩) := cell_of_list (C := [.string ⟨#[]⟩, .int .i64 0, .bool false]) hW2z 0
  have t1 : W2.cell? ⟨w.heap.size, 1, none⟩ = some (.int .i64 0) := cell_of_list (C := [.string ⟨#[]⟩, .int .i64 0, .bool false]) hW2z 1
  have t2 : W2.cell? ⟨w.heap.size, 2, none⟩ = some (.bool false) := cell_of_list (C := [.string ⟨#[]⟩, .int .i64 0, .bool false]) hW2z 2
  have f0 := frozen_of_list hW2z
  have HZ : Hid _ := put3_at (w := W2) ⟨_, hW2z, rfl⟩ (.string yy.name) (.int .i64 yy.kind) (.bool yy.fed)
  have HE : Hid _ := put3_below (w := W2) (.string yy.name) (.int .i64 yy.kind) (.bool yy.fed) (bW.trans (b2.mono bW.size)) (Nat.le_refl _)
  have hne : ¬ w.heap.size = W.heap.size := by omega
  clear hq hF hWz hW2z bW b2 hlt
  go_enter Tryz.func192, Tryz.ntmps192
  go_wp2_with fail
  refine hM.mono ?_
  rintro e W ⟨rfl, rfl⟩
  clear fold
  go_wp2_with (at_lookup; refine wpList_lookup_run _ rfl _ _ _ rfl _ _ _ rfl rfl la ?_)
  refine ret_x (p := 4) (u := 5) (r := .bool rr) rfl w.heap.size rfl rfl rfl HZ.out ?_
  exact ⟨rfl, HE.out⟩

end Go.Proofs.YtjagaankkcbjmaaGreatDoor.B

/-
  Unbind, by its contract.
-/
namespace Go.Proofs.YtjagaankkcbjmaaGreatDoor.K
end Go.Proofs.YtjagaankkcbjmaaGreatDoor.K
namespace Go.Proofs.YtjagaankkcbjmaaGreatDoor.B
open Go.Proofs.YtjagaankkcbjmaaGreatDoor.K
open Go.RowKit Go.Sort Go.Maps Go.Shelf

def Tb.unbind (s : Tb) (b : Bd) : Int × Tb := if b ∈ s.bs then (0, { s with bs := s.bs.filter fun y => !decide (y = b) }) else (3, s)
theorem Tb.Ok.unbind {s : Tb} (ok : s.Ok) (b : Bd) : (s.unbind b).2.Ok := by
  unfold Tb.unbind
  split
  · exact ⟨ok.ox, ok.ob.filter _, ok.good, fun y hy => ok.fit y (List.mem_filter.1 hy).1, fun y hy => ok.leads y (List.mem_filter.1 hy).1, ok.nx, Nat.le_trans (List.length_filter_le _ _) ok.nb⟩
  · exact ok
set_option maxRecDepth 20000 in
theorem BAt.del {w : World} {b : Nat} {l : List Bd} (h : BAt w b l) (hl : BL l) {x : Bd} (hx : x.Fit) :
    ∃ f : TypeId → World, ∀ ty, (Builtin.delete_ #[169, 36] ty #[.map (some b), bv x]).run Tryz.prog w = .ok (.tuple #[]) (f ty) ∧ BAt (f ty) b (l.filter fun y => !decide (y = x)) ∧ w.grownBy (f ty) (some b) := by
  have each : ∀ ty : TypeId, ∃ w', (Builtin.delete_ #[169, 36] ty #[.map (some b), bv x]).run Tryz.prog w = .ok (.tuple #[]) w' ∧ BAt w' b (l.filter fun y => !decide (y = x)) ∧ w.grownBy w' (some b) := fun ty => by
    obtain ⟨w', h1, h2, h3⟩ := World.ownsMap.drop h bKeyed Tryz.underlying169 (keyOf_bd hx) ty
    refine ⟨w', h1, ?_, h3.grown⟩
    rw [del_DofG bKeyed.one hl.keys hl.diff] at h2
    have e : (l.filter fun y => !(bkl y).sameKey (bkl x)) = l.filter fun y => !decide (y = x) := List.filter_congr fun y hy => by
      congr 1
      rw [Bool.eq_iff_iff, sameKey_iff bKeyed.one ⟨_, keyOf_bd hx⟩, decide_eq_true_iff]
      exact ⟨fun e => bkl_inj (hl.fit y hy) hx e, fun e => by rw [e]⟩
    rw [e] at h2
    exact ownsMapG_fit h2
  obtain ⟨f, hf⟩ := Classical.axiomOfChoice each
  exact ⟨f, hf⟩
end Go.Proofs.YtjagaankkcbjmaaGreatDoor.B
