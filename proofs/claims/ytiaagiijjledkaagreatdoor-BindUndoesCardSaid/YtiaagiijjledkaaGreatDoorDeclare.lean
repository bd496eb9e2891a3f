/-
  Declare, by its contract.
-/
import Derived.Test.YtiaagiijjledkaaGreatDoorTable
import Derived.Deep.CutRange
namespace Go.Proofs.YtiaagiijjledkaaGreatDoor
open Go.RowKit Go.Sort Go.Maps

theorem cell_allocK {w : World} {a : Addr} {v : Value} (o : Obj) (h : w.cell? a = some v) : (w.alloc o).cell? a = some v := by
  rw [World.cell?_alloc_old _ _ _ (Nat.ne_of_lt (World.block_lt_of_cell? _ _ h))]; exact h
theorem XAt.storeNew {w : World} {b : Nat} {l : List Ex} (h : XAt w b l) (hl : XL l) (x : Ex) (hx : x.name.size ≤ maxLen) (hn : ∀ y ∈ l, y.name ≠ x.name) (hl' : XL (insC cmpX x l)) (hlen : l.length ≤ 1000000) :
    ∃ w', (Instr.mapUpdate 50 (.map (some b)) (.string x.name) (xv x)).run Tryz.prog w = .ok () w' ∧ XAt w' b (insC cmpX x l) ∧ w.grownBy w' (some b) := by
  obtain ⟨w', h1, h2, h3⟩ := World.ownsMap.update h xKeyed Tryz.underlying50 (by unfold maxLen; omega) (keyOf_str hx) (rdEx_xv x)
  refine ⟨w', h1, ?_, h3⟩
  have e : (DofG xkl xd l).put (.string x.name.data.toList) (.held x) = DofG xkl xd (x :: l) := put_new xKeyed.one hl.keys hl.diff (x := x) ⟨_, keyOf_str hx⟩ (fun y hy e => hn y hy (str_inj e))
  rw [e] at h2
  exact XAt.perm h2 hl' (insC_perm x l).symm
theorem XAt.storeOld {w : World} {b : Nat} {l : List Ex} (h : XAt w b l) (hl : XL l) (x : Ex) (hx : x ∈ l) (hlen : l.length ≤ 1000000) :
    ∃ w', (Instr.mapUpdate 50 (.map (some b)) (.string x.name) (xv x)).run Tryz.prog w = .ok () w' ∧ XAt w' b l ∧ w.grownBy w' (some b) := by
  obtain ⟨w', h1, h2, h3⟩ := World.ownsMap.update h xKeyed Tryz.underlying50 (by unfold maxLen; omega) (keyOf_str (hl.fit x hx)) (rdEx_xv x)
  refine ⟨w', h1, ?_, h3⟩
  have e : (DofG xkl xd l).put (.string x.name.data.toList) (.held x) = DofG xkl xd l := put_old xKeyed.one hl.keys hl.diff hx
  rw [e] at h2
  exact XAt.perm h2 hl (List.Perm.refl _)
/-- The exchanges were changed. -/
theorem TAt.setX {w w' : World} {p bx bb : Nat} {s : Tb} {l : List Ex} (h : TAt w p bx bb s) (hx : XAt w' bx l) (gr : w.grownBy w' (some bx)) : TAt w' p bx bb { s with xs := l } :=
  ⟨(gr.block p ((Array.getElem?_eq_some_iff.1 h.blk).1) (fun e => h.ne_x (by injection e with e; exact e.symm))).trans h.blk, hx, h.b.same (gr.block bb h.b.lt (fun e => h.ne (by injection e with e; exact e.symm))), h.ne⟩
theorem moved_setX {w w' : World} (p : Nat) {bx : Nat} (bb : Nat) (gr : w.grownBy w' (some bx)) : Moved w w' (footT p bx bb) (footT p bx bb) :=
  ⟨gr.os, gr.tape, gr.output, gr.size, fun k hk hn => gr.block k hk (fun e => hn (by injection e with e; exact .inr (.inl e))), fun _ h => .inl h⟩

def Tb.declare (s : Tb) (x : Ex) : Int × Tb :=
  if goodX x = false then (2, s) else match findX s.xs x.name with
  | some y => if y = x then (0, s) else (12, s)
  | none => if 8 ≤ s.xs.length then (5, s) else (0, { s with xs := insC cmpX x s.xs })
theorem mem_insC {α : Type} {c : α → α → Int} {x y : α} {l : List α} : y ∈ insC c x l ↔ y = x ∨ y ∈ l := by rw [(insC_perm x l).mem_iff, List.mem_cons]
theorem insX_ord {s : Tb} (ok : s.Ok) {x : Ex} (hn : ∀ y ∈ s.xs, y.name ≠ x.name) : Ord cmpX (insC cmpX x s.xs) := insC_ord cmpX3 ok.ox (fun y hy e => hn y hy (cmpS_eq e))
theorem Tb.Ok.declare {s : Tb} (ok : s.Ok) (x : Ex) : (s.declare x).2.Ok := by
  unfold Tb.declare
  split
  · exact ok
  · rename_i hg
    split
    · split <;> exact ok
    · rename_i hf
      split
      · exact ok
      · rename_i hlen
        refine ⟨insX_ord ok (findX_none hf), ok.ob, fun y hy => ?_, ok.fit, fun b hb => ?_, ?_, ok.nb⟩
        · rcases mem_insC.1 hy with rfl | hy
          · simpa using hg
          · exact ok.good y hy
        · obtain ⟨y, hy, e⟩ := ok.leads b hb
          exact ⟨y, mem_insC.2 (.inr hy), e⟩
        · show (insC cmpX x s.xs).length ≤ 8
          rw [(insC_perm x s.xs).length_eq]
          simp; omega

set_option maxRecDepth 20000 in
set_option maxHeartbeats 4000000 in
theorem declare_any (p : Nat) (F : Nat → Prop) (s : Tb) (x : Ex) (w : World) (h : T w p F s) (ok : s.Ok) (hs : x.name.size ≤ maxLen) :
    Calls Tryz.prog 20 #[.pointer (some ⟨p, 0, none⟩), xv x] w fun e w' => e = .returned (.int .i64 (s.declare x).1) ∧ ∃ F', T w' p F' (s.declare x).2 ∧ Moved w w' F F' := by
  obtain ⟨W, fold⟩ : ∃ W, w.alloc (.cells #[.string x.name, .int .i64 x.kind, .bool x.fed] 33) = W := ⟨_, rfl⟩
  have bW : Below w.heap.size w W := by rw [← fold]; exact (Below.refl _ _).alloc (Nat.le_refl _) _
  have sW : W.heap.size = w.heap.size + 1 := by rw [← fold]; simp
  have x0 : W.cell? ⟨w.heap.size, 0, none⟩ = some (.string x.name) := by rw [← fold]; exact cell_of_list (C := xcells x) (heap_alloc_new w _) 0
  have x1 : W.cell? ⟨w.heap.size, 1, none⟩ = some (.int .i64 x.kind) := by rw [← fold]; exact cell_of_list (C := xcells x) (heap_alloc_new w _) 1
  have x2 : W.cell? ⟨w.heap.size, 2, none⟩ = some (.bool x.fed) := by rw [← fold]; exact cell_of_list (C := xcells x) (heap_alloc_new w _) 2
  have hM := made_any p F s W (h.kept bW)
  have hG := good_any x W hs
  have hend : Hid (∀ w', Below w.heap.size w w' → ∃ F', T w' p F' s ∧ Moved w w' F F') := fun w' hb => ⟨F, h.kept hb, .of_below hb⟩
  cases hg : goodX x with
  | false =>
    have hd : s.declare x = (2, s) := by unfold Tb.declare; rw [if_pos hg]
    rw [hd]
    rw [hg] at hG
    go_enter Tryz.func20, Tryz.ntmps20
    go_wp2_with fail
    refine hM.mono ?_
    rintro e W ⟨rfl, rfl⟩
    go_wp2_with fail
    refine hG.mono ?_
    rintro e w2 ⟨rfl, b2⟩
    go_wp2
    go_ret
    exact ⟨rfl, hend.out _ (bW.trans (b2.mono (by omega)))⟩
  | true =>
    rw [hg] at hG
    go_enter Tryz.func20, Tryz.ntmps20
    go_wp2_with fail
    refine hM.mono ?_
    rintro e W ⟨rfl, rfl⟩
    go_wp2_with fail
    refine hG.mono ?_
    rintro e w2 ⟨rfl, b2⟩
    have b02 : Below w.heap.size w w2 := bW.trans (b2.mono (by omega))
    obtain ⟨bx, bb, hq, hF⟩ := h.kept b02
    obtain ⟨c0, c1⟩ := cells2 hq.blk
    have hw : w.heap.size < W.heap.size := by omega
    have y0 := (b2.cell (p := ⟨w.heap.size, 0, none⟩) hw).trans x0
    have y1 := (b2.cell (p := ⟨w.heap.size, 1, none⟩) hw).trans x1
    have y2 := (b2.cell (p := ⟨w.heap.size, 2, none⟩) hw).trans x2
    have HQ : Hid (TAt w2 p bx bb s) := hq
    have k1 := hq.x.look ok.xl hs
    have kl : ∀ W', W'.heap[bx]? = w2.heap[bx]? → (Instr.lookup 50 (.map (some bx)) (.string x.name) true).run Tryz.prog W' = .ok (.tuple #[xv ((findX s.xs x.name).getD zeroEx), .bool (findX s.xs x.name).isSome]) W' := fun W' e => (hq.x.same e).look ok.xl hs
    have la := kl w2.drew rfl
    have lb : ∀ o, (Instr.lookup 50 (.map (some bx)) (.string x.name) true).run Tryz.prog ((w2.alloc o).drew) = _ := fun o => kl ((w2.alloc o).drew) (Below.heap_alloc w2 _ _ hq.x.lt)
    have hlen : s.xs.length ≤ 1000000 := by have := ok.nx; omega
    have HB02 : Hid (Below w.heap.size w w2) := b02
    have HF : Hid (∀ k, F k ↔ footT p bx bb k) := hF
    have HG : Hid (goodX x = true) := hg
    obtain ⟨yy, hyy⟩ : ∃ yy, (findX s.xs x.name).getD zeroEx = yy := ⟨_, rfl⟩
    obtain ⟨rr, hrr⟩ : ∃ rr, (findX s.xs x.name).isSome = rr := ⟨_, rfl⟩
    rw [hyy, hrr] at la
    simp only [hyy, hrr] at lb
    have HYY : Hid ((findX s.xs x.name).getD zeroEx = yy ∧ (findX s.xs x.name).isSome = rr) := ⟨hyy, hrr⟩
    have HX0 : Hid (w2.cell? ⟨w.heap.size, 0, none⟩ = some (.string x.name) ∧ w2.cell? ⟨w.heap.size, 1, none⟩ = some (.int .i64 x.kind) ∧ w2.cell? ⟨w.heap.size, 2, none⟩ = some (.bool x.fed) ∧ w.heap.size < w2.heap.size) := ⟨y0, y1, y2, by have := b2.size; omega⟩
    clear x0 x1 x2 hM hG kl k1 fold hg hq hF b02 hyy hrr
    have ya := fun o => cell_allocK o y0
    have ca := fun o => cell_allocK o c0
    go_wp2
    go_cut [5, 6] from 7 to 47 (fun s5 s6 wx => s5 = .pointer (some ⟨w2.heap.size, 0, none⟩) ∧ s6 = .bool rr ∧ Below w2.heap.size w2 wx ∧ wx.heap[w2.heap.size]? = some (.cells (xcells yy).toArray 33 (0, 0)))
    case first =>
      go_region
      all_goals go_wp2
      all_goals go_meet
      all_goals exact ⟨rfl, rfl, ((Below.refl _ _).alloc (Nat.le_refl _) _).drew, heap_alloc_new w2 _⟩
    case rest =>
      obtain ⟨rfl, rfl, b3, hz⟩ := hcut
      have z0 : wc.cell? ⟨w2.heap.size, 0, none⟩ = some (.string yy.name) := cell_of_list hz 0
      have z1 : wc.cell? ⟨w2.heap.size, 1, none⟩ = some (.int .i64 yy.kind) := cell_of_list hz 1
      have z2 : wc.cell? ⟨w2.heap.size, 2, none⟩ = some (.bool yy.fed) := cell_of_list hz 2
      obtain ⟨v0, v1, v2, hw2⟩ := HX0.out
      have u0 := (b3.cell (p := ⟨w.heap.size, 0, none⟩) hw2).trans v0
      have u1 := (b3.cell (p := ⟨w.heap.size, 1, none⟩) hw2).trans v1
      have u2 := (b3.cell (p := ⟨w.heap.size, 2, none⟩) hw2).trans v2
      have d0 := (b3.cell (p := ⟨p, 0, none⟩) (Array.getElem?_eq_some_iff.1 HQ.out.blk).1).trans c0
      have hq3 := HQ.out.same (w' := wc) fun k hk => b3.block k (HQ.out.lts k hk)
      have HB3 : Hid (Below w.heap.size w wc) := HB02.out.trans (b3.mono (by omega))
      have HQ3 : Hid (TAt wc p bx bb s) := hq3
      have hl3 := hq3.x.len
      have HM4 : Hid (∀ w4, wc.drew.grownBy w4 (some bx) → ∀ l, XAt w4 bx l → ∃ F', T w4 p F' { s with xs := l } ∧ Moved w w4 F F') := fun w4 gr4 l hx4 => by
        have b30 : Moved w wc.drew F F := .of_below HB3.out.drew
        have m4 : Moved wc.drew w4 F (footT p bx bb) := (moved_setX p bb gr4).weak fun k hk => (HF.out k).2 hk
        exact ⟨footT p bx bb, ⟨bx, bb, (show TAt wc.drew p bx bb s from ⟨HQ3.out.blk, HQ3.out.x, HQ3.out.b, HQ3.out.ne⟩).setX hx4 gr4, fun _ => Iff.rfl⟩, b30.trans m4⟩
      clear la lb ya ca y0 y1 y2 v0 v1 v2 hz hq3 HX0 c0 c1 b3
      cases hf : findX s.xs x.name with
      | some y =>
        obtain ⟨rfl, rfl⟩ : y = yy ∧ true = rr := by have := HYY.out; rw [hf] at this; exact this
        obtain ⟨hy, hyn⟩ := findX_some hf
        by_cases hyx : y = x
        · subst hyx
          have hd : Hid (s.declare y = (0, s)) := by show s.declare y = (0, s); unfold Tb.declare; rw [if_neg (by rw [HG.out]; decide), hf]; simp
          obtain ⟨w4, hst, hx4, gr4⟩ := XAt.storeOld (w := wc.drew) HQ3.out.x ok.xl y hy hlen
          have HE : Hid (∃ F', T w4 p F' s ∧ Moved w w4 F F') := HM4.out w4 gr4 s.xs hx4
          clear hf hy hx4 gr4 hl3
          go_wp2
          go_region
          all_goals go_wp2
          all_goals go_ret
          all_goals (rw [hd.out]; exact ⟨rfl, HE.out⟩)
        · have hd : Hid (s.declare x = (12, s)) := by show s.declare x = (12, s); unfold Tb.declare; rw [if_neg (by rw [HG.out]; decide), hf]; simp [hyx]
          have hdiff : y.kind = x.kind → ¬ y.fed = x.fed := fun h1 h2 => hyx (by cases y; cases x; simp only at h1 h2 hyn; rw [h1, h2, hyn])
          rw [hyn] at z0
          clear hf hy hyx hl3
          by_cases hkk : y.kind = x.kind
          · have hff := hdiff hkk
            rw [hkk] at z1
            clear hdiff hkk
            generalize y.fed = yf at z2 hff
            generalize x.fed = xf at u2 hff
            cases yf <;> cases xf <;> first | exact absurd rfl hff | skip
            all_goals clear hff
            all_goals go_wp2
            all_goals go_ret
            all_goals (rw [hd.out]; exact ⟨rfl, hend.out _ HB3.out⟩)
          · clear hdiff
            go_wp2
            all_goals go_ret
            all_goals (rw [hd.out]; exact ⟨rfl, hend.out _ HB3.out⟩)
      | none =>
        obtain rfl : false = rr := by have := HYY.out.2; rw [hf] at this; exact this
        by_cases h8 : 8 ≤ s.xs.length
        · have hd : Hid (s.declare x = (5, s)) := by show s.declare x = (5, s); unfold Tb.declare; rw [if_neg (by rw [HG.out]; decide), hf]; simp [h8]
          have h8' : (8 : Int) ≤ (s.xs.length : Int) := by omega
          clear hf
          go_wp2
          go_ret
          rw [hd.out]; exact ⟨rfl, hend.out _ HB3.out⟩
        · have hd : Hid (s.declare x = (0, { s with xs := insC cmpX x s.xs })) := by show s.declare x = _; unfold Tb.declare; rw [if_neg (by rw [HG.out]; decide), hf]; simp [h8]
          have okD := ok.declare x
          rw [hd.out] at okD
          obtain ⟨w4, hst, hx4, gr4⟩ := XAt.storeNew (w := wc.drew) HQ3.out.x ok.xl x hs (findX_none hf) okD.xl hlen
          have HE : Hid _ := HM4.out w4 gr4 _ hx4
          have h8' : ¬ (8 : Int) ≤ (s.xs.length : Int) := by omega
          clear hf hx4 gr4 okD
          go_wp2
          go_region
          all_goals go_wp2
          all_goals go_ret
          all_goals (rw [hd.out]; exact ⟨rfl, HE.out⟩)
end Go.Proofs.YtiaagiijjledkaaGreatDoor
