/-
  The document's Good of a packet, by its contract; Kind of both.
-/
import Derived.Test.YtopacoghnofliaaDoorJRows19
import Derived.Test.YtopacoghnofliaaDoorRGoods
import Derived.BigRegion
import Derived.Deep.RegionWith
namespace Go.Proofs.YtopacoghnofliaaDoor
open Go.RowKit

theorem pk_zero (p : Pk) : decide (p = zP p.kind p.fr p.dest p.ep) = decide (p.num = 0 ∧ p.mask = 0 ∧ p.m = zM) := by
  congr 1
  refine propext ⟨fun h => ?_, fun h => ?_⟩
  · refine ⟨?_, ?_, ?_⟩ <;> (rw [h]; rfl)
  · obtain ⟨k, f, d, e, n, x, m⟩ := p
    simp only at h ⊢
    rw [h.1, h.2.1, h.2.2]
    rfl
theorem pk_data (p : Pk) : decide (p = { zP p.kind p.fr p.dest p.ep with num := p.num, m := p.m }) = decide (p.mask = 0) := by
  congr 1
  refine propext ⟨fun h => ?_, fun h => ?_⟩
  · rw [h]; rfl
  · obtain ⟨k, f, d, e, n, x, m⟩ := p
    simp only at h ⊢
    rw [h]
    rfl
theorem pk_ack (p : Pk) : decide (p = { zP p.kind p.fr p.dest p.ep with num := p.num, mask := p.mask }) = decide (p.m = zM) := by
  congr 1
  refine propext ⟨fun h => ?_, fun h => ?_⟩
  · rw [h]; rfl
  · obtain ⟨k, f, d, e, n, x, m⟩ := p
    simp only at h ⊢
    rw [h]
    rfl
theorem ep_pos (p : Pk) : decide (0 < p.ep) = decide (1 ≤ p.ep) := by congr 1
theorem kindB1 {p : Pk} (h : p.kind = 1) : kindB p = (decide (p = zP p.kind p.fr p.dest p.ep) && decide (0 < p.ep)) := by rw [pk_zero, ep_pos]; unfold kindB; rw [if_pos h, Bool.and_comm]
theorem kindB2 {p : Pk} (h : p.kind = 2) : kindB p = decide (p = zP p.kind p.fr p.dest p.ep) := by rw [pk_zero]; unfold kindB; rw [if_neg (by omega), if_pos h]
theorem kindB3 {p : Pk} (h : p.kind = 3) : kindB p = (goodM p.m && (decide (p = { zP p.kind p.fr p.dest p.ep with num := p.num, m := p.m }) && decide (0 < p.ep))) := by
  rw [pk_data, ep_pos]; unfold kindB; rw [if_neg (by omega), if_neg (by omega), if_pos h]
  cases decide (1 ≤ p.ep) <;> cases goodM p.m <;> simp
theorem kindB4 {p : Pk} (h : p.kind = 4) : kindB p = (decide (p = { zP p.kind p.fr p.dest p.ep with num := p.num, mask := p.mask }) && decide (0 < p.ep)) := by rw [pk_ack, ep_pos]; unfold kindB; rw [if_neg (by omega), if_neg (by omega), if_neg (by omega), if_pos h, Bool.and_comm]
theorem kindB0 {p : Pk} (h1 : ¬ p.kind = 1) (h2 : ¬ p.kind = 2) (h3 : ¬ p.kind = 3) (h4 : ¬ p.kind = 4) : kindB p = false := by unfold kindB; rw [if_neg h1, if_neg h2, if_neg h3, if_neg h4]
/-- A packet in a box, and what is made of it in another one. -/
structure GPk (w U : World) (A B : Nat) (p z : Pk) : Prop where
  hA : U.heap[A]? = some (.cells (pcells p).toArray 29 (0, 0))
  hB : U.heap[B]? = some (.cells (pcells z).toArray 29 (0, 0))
  bel : Below w.heap.size w U
  ne : A ≠ B
  wB : w.heap.size ≤ B
theorem GPk.set {w U : World} {A B : Nat} {p z : Pk} (h : GPk w U A B p z) (j : Nat) (v : Value) (z' : Pk) (hz : (pcells z).set j v = pcells z') : GPk w (U.setCell ⟨B, j, none⟩ v) A B p z' :=
  ⟨(Below.heap_setCell _ _ _ _ h.ne).trans h.hA, by rw [← hz]; exact set_list h.hB v, h.bel.setCell (p := ⟨B, j, none⟩) h.wB v, h.ne, h.wB⟩
theorem GPk.msg {w U : World} {A B : Nat} {p z : Pk} (h : GPk w U A B p z) (m : Ms) : GPk w ((((((U.setCell ⟨B, 6, none⟩ (.int .i64 m.origin)).setCell ⟨B, 7, none⟩ (.int .u64 m.seq)).setCell ⟨B, 8, none⟩ (.int .i64 m.hop)).setCell ⟨B, 9, none⟩ (.string m.ex)).setCell ⟨B, 10, none⟩ (.string m.key)).setCell ⟨B, 11, none⟩ (.string m.body)) A B p { z with m := m } :=
  (((((h.set 6 (.int .i64 m.origin) { z with m := { z.m with origin := m.origin } } rfl).set 7 (.int .u64 m.seq) { z with m := { z.m with origin := m.origin, seq := m.seq } } rfl).set 8 (.int .i64 m.hop) { z with m := { z.m with origin := m.origin, seq := m.seq, hop := m.hop } } rfl).set 9 (.string m.ex) { z with m := { z.m with origin := m.origin, seq := m.seq, hop := m.hop, ex := m.ex } } rfl).set 10 (.string m.key) { z with m := { z.m with origin := m.origin, seq := m.seq, hop := m.hop, ex := m.ex, key := m.key } } rfl).set 11 (.string m.body) { z with m := m } rfl
theorem GPk.drew {w U : World} {A B : Nat} {p z : Pk} (h : GPk w U A B p z) : GPk w U.drew A B p z := ⟨h.hA, h.hB, h.bel.drew, h.ne, h.wB⟩
theorem GPk.kept {w U V : World} {A B : Nat} {p z : Pk} (h : GPk w U A B p z) (hb : Below U.heap.size U V) : GPk w V A B p z :=
  ⟨(hb.block _ (Array.getElem?_eq_some_iff.1 h.hA).1).trans h.hA, (hb.block _ (Array.getElem?_eq_some_iff.1 h.hB).1).trans h.hB, keptW h.bel hb, h.ne, h.wB⟩
set_option maxRecDepth 20000 in
set_option maxHeartbeats 8000000 in
theorem rgoodP_any (p : Pk) (w : World) (hp : p.m.Fits) : Calls Tryd.prog 10 #[pv p] w fun e w' => e = .returned (.bool (goodP p)) ∧ Below w.heap.size w w' := by
  obtain ⟨W, fold⟩ : ∃ W, w.alloc (.cells #[.int .i64 p.kind, .int .i64 p.fr, .int .i64 p.dest, .int .u64 p.ep, .int .u16 p.num, .int .u64 p.mask, .int .i64 p.m.origin, .int .u64 p.m.seq, .int .i64 p.m.hop, .string p.m.ex, .string p.m.key, .string p.m.body] 29) = W := ⟨_, rfl⟩
  have b0 : Below w.heap.size w W := by rw [← fold]; exact box_below w _
  have x0 : W.heap[w.heap.size]? = some (.cells (pcells p).toArray 29 (0, 0)) := by rw [← fold]; exact heap_alloc_new w _
  obtain ⟨V0, fold0⟩ : ∃ X, W.alloc (.cells #[.int .i64 0, .int .i64 0, .int .i64 0, .int .u64 0, .int .u16 0, .int .u64 0, .int .i64 0, .int .u64 0, .int .i64 0, .string ⟨#[]⟩, .string ⟨#[]⟩, .string ⟨#[]⟩] 29) = X := ⟨_, rfl⟩
  have hz0 : V0.heap[W.heap.size]? = some (.cells (pcells nilP).toArray 29 (0, 0)) := by rw [← fold0]; exact heap_alloc_new W _
  have bV0 : Below W.heap.size W V0 := by rw [← fold0]; exact box_below W _
  obtain ⟨X, foldX⟩ : ∃ X, V0.setRow W.heap.size (pcells (zP p.kind p.fr p.dest p.ep)).toArray = X := ⟨_, rfl⟩
  have bX : Below W.heap.size W X := by rw [← foldX]; exact below_setRow bV0 (Nat.le_refl _) _
  have HG : Hid (GPk w X w.heap.size W.heap.size p (zP p.kind p.fr p.dest p.ep)) := ⟨(bX.block _ (Array.getElem?_eq_some_iff.1 x0).1).trans x0, by rw [← foldX]; exact setRow_heap _ _ _ _ _ _ hz0, keptW b0 bX, by have := (Array.getElem?_eq_some_iff.1 x0).1; omega, b0.size⟩
  have HZ : Hid (V0.heap[W.heap.size]? = some (.cells (pcells nilP).toArray 29 (0, 0)) ∧ Below w.heap.size w W) := ⟨hz0, b0⟩
  have HA : Hid p.m.Fits := hp
  obtain ⟨y0, y1, y2, y3, y4, y5, y6, y7, y8, y9, y10, y11⟩ := cells12 x0
  clear b0 x0 hz0 bV0 bX hp
  go_enter Tryd.func10, Tryd.ntmps10
  cases h1 : inB p.fr 1 8
  · have HF : Hid (goodP p = false) := by show goodP p = false; unfold goodP; rw [h1]; simp
    go_wp2_with (go_at_call 23; refine (rsite_any _ _).mono ?_; rintro e W ⟨rfl, rfl⟩)
    go_ret
    exact ⟨by rw [HF.out]; rfl, HZ.out.2⟩
  cases h2 : inB p.dest 1 8
  · have HF : Hid (goodP p = false) := by show goodP p = false; unfold goodP; rw [h2]; simp
    go_wp2_with (go_at_call 23; refine (rsite_any _ _).mono ?_; rintro e W ⟨rfl, rfl⟩)
    go_ret
    exact ⟨by rw [HF.out]; rfl, HZ.out.2⟩
  cases h3 : (p.fr == p.dest)
  rotate_left
  · have HF : Hid (goodP p = false) := by
      show goodP p = false
      have : decide (p.fr = p.dest) = true := by simpa using h3
      unfold goodP; rw [this]; simp
    go_wp2_with (go_at_call 23; refine (rsite_any _ _).mono ?_; rintro e W ⟨rfl, rfl⟩)
    go_ret
    exact ⟨by rw [HF.out]; rfl, HZ.out.2⟩
  have HP : Hid (goodP p = kindB p) := goodP_of h1 h2 h3
  obtain ⟨a0, a1, a2, a3, a4, a5, a6, a7, a8, a9, a10, a11⟩ := cells12 HG.out.hA
  by_cases hk : p.kind = 1
  · have HB : Hid (goodP p = (decide (p = zP p.kind p.fr p.dest p.ep) && decide (0 < p.ep))) := HP.out.trans (kindB1 hk)
    have q1 : (p.kind == 1) = true := by rw [hk]; rfl
    have q2 : (p.kind == 2) = false := by rw [beq_eq_false_iff_ne]; omega
    have q3 : (p.kind == 3) = false := by rw [beq_eq_false_iff_ne]; omega
    have q4 : (p.kind == 4) = false := by rw [beq_eq_false_iff_ne]; omega
    clear hk
    have heq : ∀ Y : World, (binOp .eql 29 (.agg (pcells p).toArray) (.agg (pcells (zP p.kind p.fr p.dest p.ep)).toArray)).run Tryd.prog Y = .ok (.bool (decide (p = zP p.kind p.fr p.dest p.ep))) Y := fun Y => run_eqP p (zP p.kind p.fr p.dest p.ep) Y
    have hgA := eqGuardP
    obtain ⟨bz, hbz⟩ : ∃ b, decide (p = zP p.kind p.fr p.dest p.ep) = b := ⟨_, rfl⟩
    rw [hbz] at HB heq
    clear hbz
    cases bz
    · go_wp2_with (first | (go_at_call 23; refine (rsite_any _ _).mono ?_; rintro e W ⟨rfl, rfl⟩) | refine wpList_store_row rfl 29 _ _ rfl W.heap.size (pcells (zP p.kind p.fr p.dest p.ep)).toArray rfl rfl 29 (pcells nilP).toArray HZ.out.1 info12 rfl (one12 _) ?_ | refine wpList_load_row rfl 29 _ rfl w.heap.size rfl 29 (pcells p).toArray (0, 0) _ HG.out.hA Tryd.underlying29 rfl info12 ?_ | refine wpList_load_row rfl 29 _ rfl W.heap.size rfl 29 _ (0, 0) _ HG.out.hB Tryd.underlying29 rfl info12 ?_)
      go_ret
      exact ⟨by rw [HB.out]; rfl, HG.out.bel⟩
    · cases h4 : decide (0 < p.ep)
      · rw [h4] at HB
        go_wp2_with (first | (go_at_call 23; refine (rsite_any _ _).mono ?_; rintro e W ⟨rfl, rfl⟩) | refine wpList_store_row rfl 29 _ _ rfl W.heap.size (pcells (zP p.kind p.fr p.dest p.ep)).toArray rfl rfl 29 (pcells nilP).toArray HZ.out.1 info12 rfl (one12 _) ?_ | refine wpList_load_row rfl 29 _ rfl w.heap.size rfl 29 (pcells p).toArray (0, 0) _ HG.out.hA Tryd.underlying29 rfl info12 ?_ | refine wpList_load_row rfl 29 _ rfl W.heap.size rfl 29 _ (0, 0) _ HG.out.hB Tryd.underlying29 rfl info12 ?_)
        go_ret
        exact ⟨by rw [HB.out]; rfl, HG.out.bel⟩
      · rw [h4] at HB
        go_wp2_with (first | (go_at_call 23; refine (rsite_any _ _).mono ?_; rintro e W ⟨rfl, rfl⟩) | refine wpList_store_row rfl 29 _ _ rfl W.heap.size (pcells (zP p.kind p.fr p.dest p.ep)).toArray rfl rfl 29 (pcells nilP).toArray HZ.out.1 info12 rfl (one12 _) ?_ | refine wpList_load_row rfl 29 _ rfl w.heap.size rfl 29 (pcells p).toArray (0, 0) _ HG.out.hA Tryd.underlying29 rfl info12 ?_ | refine wpList_load_row rfl 29 _ rfl W.heap.size rfl 29 _ (0, 0) _ HG.out.hB Tryd.underlying29 rfl info12 ?_)
        go_ret
        exact ⟨by rw [HB.out]; rfl, HG.out.bel⟩
  by_cases hk2 : p.kind = 2
  · have HB : Hid (goodP p = decide (p = zP p.kind p.fr p.dest p.ep)) := HP.out.trans (kindB2 hk2)
    have q1 : (p.kind == 1) = false := by rw [beq_eq_false_iff_ne]; omega
    have q2 : (p.kind == 2) = true := by rw [hk2]; rfl
    have q3 : (p.kind == 3) = false := by rw [beq_eq_false_iff_ne]; omega
    have q4 : (p.kind == 4) = false := by rw [beq_eq_false_iff_ne]; omega
    clear hk2
    have heq : ∀ Y : World, (binOp .eql 29 (.agg (pcells p).toArray) (.agg (pcells (zP p.kind p.fr p.dest p.ep)).toArray)).run Tryd.prog Y = .ok (.bool (decide (p = zP p.kind p.fr p.dest p.ep))) Y := fun Y => run_eqP p (zP p.kind p.fr p.dest p.ep) Y
    have hgA := eqGuardP
    go_wp2_with (first | (go_at_call 23; refine (rsite_any _ _).mono ?_; rintro e W ⟨rfl, rfl⟩) | refine wpList_store_row rfl 29 _ _ rfl W.heap.size (pcells (zP p.kind p.fr p.dest p.ep)).toArray rfl rfl 29 (pcells nilP).toArray HZ.out.1 info12 rfl (one12 _) ?_ | refine wpList_load_row rfl 29 _ rfl w.heap.size rfl 29 (pcells p).toArray (0, 0) _ HG.out.hA Tryd.underlying29 rfl info12 ?_ | refine wpList_load_row rfl 29 _ rfl W.heap.size rfl 29 _ (0, 0) _ HG.out.hB Tryd.underlying29 rfl info12 ?_)
    go_ret
    exact ⟨by rw [HB.out]; rfl, HG.out.bel⟩
  by_cases hk3 : p.kind = 3
  · have HB : Hid (goodP p = (goodM p.m && (decide (p = { zP p.kind p.fr p.dest p.ep with num := p.num, m := p.m }) && decide (0 < p.ep)))) := HP.out.trans (kindB3 hk3)
    have q1 : (p.kind == 1) = false := by rw [beq_eq_false_iff_ne]; omega
    have q2 : (p.kind == 2) = false := by rw [beq_eq_false_iff_ne]; omega
    have q3 : (p.kind == 3) = true := by rw [hk3]; rfl
    have q4 : (p.kind == 4) = false := by rw [beq_eq_false_iff_ne]; omega
    clear hk3
    have heq : ∀ Y : World, (binOp .eql 29 (.agg (pcells p).toArray) (.agg (pcells ({ zP p.kind p.fr p.dest p.ep with num := p.num, m := p.m })).toArray)).run Tryd.prog Y = .ok (.bool (decide (p = { zP p.kind p.fr p.dest p.ep with num := p.num, m := p.m }))) Y := fun Y => run_eqP p ({ zP p.kind p.fr p.dest p.ep with num := p.num, m := p.m }) Y
    have hgA := eqGuardP
    have ne1 : w.heap.size ≠ W.heap.size := HG.out.ne
    have ne2 : ¬ W.heap.size = w.heap.size := fun e => HG.out.ne e.symm
    obtain ⟨d0, d1, d2, d3, d4, d5, d6, d7, d8, d9, d10, d11⟩ := cells12 HG.out.hB
    have fB := fun j => box_free HG.out.hB j
    have NW : Hid (W.heap.size = W.heap.size) := rfl
    go_wp2_with (first | (go_at_call 23; refine (rsite_any _ _).mono ?_; rintro e W ⟨rfl, rfl⟩) | refine wpList_store_row rfl 29 _ _ rfl W.heap.size (pcells (zP p.kind p.fr p.dest p.ep)).toArray rfl rfl 29 (pcells nilP).toArray HZ.out.1 info12 rfl (one12 _) ?_)
    go_region
    obtain ⟨Y, hY⟩ : ∃ Y, (((((((X.setCell ⟨W.heap.size, 4, none⟩ (.int .u16 p.num)).setCell ⟨W.heap.size, 6, none⟩ (.int .i64 p.m.origin)).setCell ⟨W.heap.size, 7, none⟩ (.int .u64 p.m.seq)).setCell ⟨W.heap.size, 8, none⟩ (.int .i64 p.m.hop)).setCell ⟨W.heap.size, 9, none⟩ (.string p.m.ex)).setCell ⟨W.heap.size, 10, none⟩ (.string p.m.key)).setCell ⟨W.heap.size, 11, none⟩ (.string p.m.body)).drew = Y := ⟨_, rfl⟩
    have HY : Hid (GPk w Y w.heap.size W.heap.size p ({ zP p.kind p.fr p.dest p.ep with num := p.num, m := p.m })) := by
      have h := ((HG.out.set 4 (.int .u16 p.num) { zP p.kind p.fr p.dest p.ep with num := p.num } rfl).msg p.m).drew
      rw [hY] at h
      exact h
    rw [hY]
    clear hY fB a0 a1 a2 a3 a4 a5 a6 a7 a8 a9 a10 a11 y0 y1 y2 y3 y4 y5 y6 y7 y8 y9 y10 y11 d0 d1 d2 d3 d4 d5 d6 d7 d8 d9 d10 d11
    obtain ⟨a0, a1, a2, a3, a4, a5, a6, a7, a8, a9, a10, a11⟩ := cells12 HY.out.hA
    have hM := rgoodM_any p.m Y HA.out
    go_wp2_with fail
    refine hM.mono ?_
    rintro e U ⟨rfl, bU⟩
    have HU : Hid (GPk w U w.heap.size W.heap.size p ({ zP p.kind p.fr p.dest p.ep with num := p.num, m := p.m })) := HY.out.kept bU
    clear hM bU a0 a1 a2 a3 a4 a5 a6 a7 a8 a9 a10 a11
    obtain ⟨a0, a1, a2, a3, a4, a5, a6, a7, a8, a9, a10, a11⟩ := cells12 HU.out.hA
    cases hm : goodM p.m
    · rw [hm] at HB
      go_wp2
      go_ret
      exact ⟨by rw [HB.out]; rfl, HU.out.bel⟩
    rw [hm] at HB
    clear hm
    obtain ⟨bz, hbz⟩ : ∃ b, decide (p = { zP p.kind p.fr p.dest p.ep with num := p.num, m := p.m }) = b := ⟨_, rfl⟩
    rw [hbz] at HB heq
    clear hbz
    cases bz
    · go_wp2_with (first | refine wpList_load_row rfl 29 _ rfl w.heap.size rfl 29 (pcells p).toArray (0, 0) _ HU.out.hA Tryd.underlying29 rfl info12 ?_ | refine wpList_load_row rfl 29 _ rfl W.heap.size rfl 29 _ (0, 0) _ HU.out.hB Tryd.underlying29 rfl info12 ?_)
      go_ret
      exact ⟨by rw [HB.out]; rfl, HU.out.bel⟩
    · cases h4 : decide (0 < p.ep)
      · rw [h4] at HB
        go_wp2_with (first | refine wpList_load_row rfl 29 _ rfl w.heap.size rfl 29 (pcells p).toArray (0, 0) _ HU.out.hA Tryd.underlying29 rfl info12 ?_ | refine wpList_load_row rfl 29 _ rfl W.heap.size rfl 29 _ (0, 0) _ HU.out.hB Tryd.underlying29 rfl info12 ?_)
        go_ret
        exact ⟨by rw [HB.out]; rfl, HU.out.bel⟩
      · rw [h4] at HB
        go_wp2_with (first | refine wpList_load_row rfl 29 _ rfl w.heap.size rfl 29 (pcells p).toArray (0, 0) _ HU.out.hA Tryd.underlying29 rfl info12 ?_ | refine wpList_load_row rfl 29 _ rfl W.heap.size rfl 29 _ (0, 0) _ HU.out.hB Tryd.underlying29 rfl info12 ?_)
        go_ret
        exact ⟨by rw [HB.out]; rfl, HU.out.bel⟩
  by_cases hk4 : p.kind = 4
  · have HB : Hid (goodP p = (decide (p = { zP p.kind p.fr p.dest p.ep with num := p.num, mask := p.mask }) && decide (0 < p.ep))) := HP.out.trans (kindB4 hk4)
    have q1 : (p.kind == 1) = false := by rw [beq_eq_false_iff_ne]; omega
    have q2 : (p.kind == 2) = false := by rw [beq_eq_false_iff_ne]; omega
    have q3 : (p.kind == 3) = false := by rw [beq_eq_false_iff_ne]; omega
    have q4 : (p.kind == 4) = true := by rw [hk4]; rfl
    clear hk4
    have heq : ∀ Y : World, (binOp .eql 29 (.agg (pcells p).toArray) (.agg (pcells ({ zP p.kind p.fr p.dest p.ep with num := p.num, mask := p.mask })).toArray)).run Tryd.prog Y = .ok (.bool (decide (p = { zP p.kind p.fr p.dest p.ep with num := p.num, mask := p.mask }))) Y := fun Y => run_eqP p ({ zP p.kind p.fr p.dest p.ep with num := p.num, mask := p.mask }) Y
    have hgA := eqGuardP
    have ne1 : w.heap.size ≠ W.heap.size := HG.out.ne
    have ne2 : ¬ W.heap.size = w.heap.size := fun e => HG.out.ne e.symm
    obtain ⟨d0, d1, d2, d3, d4, d5, d6, d7, d8, d9, d10, d11⟩ := cells12 HG.out.hB
    have fB := fun j => box_free HG.out.hB j
    go_wp2_with (first | (go_at_call 23; refine (rsite_any _ _).mono ?_; rintro e W ⟨rfl, rfl⟩) | refine wpList_store_row rfl 29 _ _ rfl W.heap.size (pcells (zP p.kind p.fr p.dest p.ep)).toArray rfl rfl 29 (pcells nilP).toArray HZ.out.1 info12 rfl (one12 _) ?_)
    go_region
    obtain ⟨Y, hY⟩ : ∃ Y, ((X.setCell ⟨W.heap.size, 4, none⟩ (.int .u16 p.num)).setCell ⟨W.heap.size, 5, none⟩ (.int .u64 p.mask)).drew = Y := ⟨_, rfl⟩
    have HY : Hid (GPk w Y w.heap.size W.heap.size p ({ zP p.kind p.fr p.dest p.ep with num := p.num, mask := p.mask })) := by
      have h := ((HG.out.set 4 (.int .u16 p.num) { zP p.kind p.fr p.dest p.ep with num := p.num } rfl).set 5 (.int .u64 p.mask) ({ zP p.kind p.fr p.dest p.ep with num := p.num, mask := p.mask }) rfl).drew
      rw [hY] at h
      exact h
    rw [hY]
    clear hY fB a0 a1 a2 a3 a4 a5 a6 a7 a8 a9 a10 a11 y0 y1 y2 y3 y4 y5 y6 y7 y8 y9 y10 y11 d0 d1 d2 d3 d4 d5 d6 d7 d8 d9 d10 d11
    obtain ⟨a0, a1, a2, a3, a4, a5, a6, a7, a8, a9, a10, a11⟩ := cells12 HY.out.hA
    obtain ⟨bz, hbz⟩ : ∃ b, decide (p = { zP p.kind p.fr p.dest p.ep with num := p.num, mask := p.mask }) = b := ⟨_, rfl⟩
    rw [hbz] at HB heq
    clear hbz
    cases bz
    · go_wp2_with (first | refine wpList_load_row rfl 29 _ rfl w.heap.size rfl 29 (pcells p).toArray (0, 0) _ HY.out.hA Tryd.underlying29 rfl info12 ?_ | refine wpList_load_row rfl 29 _ rfl W.heap.size rfl 29 _ (0, 0) _ HY.out.hB Tryd.underlying29 rfl info12 ?_)
      go_ret
      exact ⟨by rw [HB.out]; rfl, HY.out.bel⟩
    · cases h4 : decide (0 < p.ep)
      · rw [h4] at HB
        go_wp2_with (first | refine wpList_load_row rfl 29 _ rfl w.heap.size rfl 29 (pcells p).toArray (0, 0) _ HY.out.hA Tryd.underlying29 rfl info12 ?_ | refine wpList_load_row rfl 29 _ rfl W.heap.size rfl 29 _ (0, 0) _ HY.out.hB Tryd.underlying29 rfl info12 ?_)
        go_ret
        exact ⟨by rw [HB.out]; rfl, HY.out.bel⟩
      · rw [h4] at HB
        go_wp2_with (first | refine wpList_load_row rfl 29 _ rfl w.heap.size rfl 29 (pcells p).toArray (0, 0) _ HY.out.hA Tryd.underlying29 rfl info12 ?_ | refine wpList_load_row rfl 29 _ rfl W.heap.size rfl 29 _ (0, 0) _ HY.out.hB Tryd.underlying29 rfl info12 ?_)
        go_ret
        exact ⟨by rw [HB.out]; rfl, HY.out.bel⟩
  · have HB : Hid (goodP p = false) := HP.out.trans (kindB0 hk hk2 hk3 hk4)
    have q1 : (p.kind == 1) = false := by rw [beq_eq_false_iff_ne]; omega
    have q2 : (p.kind == 2) = false := by rw [beq_eq_false_iff_ne]; omega
    have q3 : (p.kind == 3) = false := by rw [beq_eq_false_iff_ne]; omega
    have q4 : (p.kind == 4) = false := by rw [beq_eq_false_iff_ne]; omega
    clear hk hk2 hk3 hk4
    go_wp2_with (first | (go_at_call 23; refine (rsite_any _ _).mono ?_; rintro e W ⟨rfl, rfl⟩) | refine wpList_store_row rfl 29 _ _ rfl W.heap.size (pcells (zP p.kind p.fr p.dest p.ep)).toArray rfl rfl 29 (pcells nilP).toArray HZ.out.1 info12 rfl (one12 _) ?_)
    go_ret
    exact ⟨by rw [HB.out]; rfl, HG.out.bel⟩
theorem kindN_any (p : Pk) (w : World) (hK : PKinds w) : Calls Tryd.prog 11 #[pv p] w fun e w' => e = .returned (.string (nameP p.kind)) ∧ Below w.heap.size w w' := by
  obtain ⟨W, fold⟩ : ∃ W, w.alloc (.cells #[.int .i64 p.kind, .int .i64 p.fr, .int .i64 p.dest, .int .u64 p.ep, .int .u16 p.num, .int .u64 p.mask, .int .i64 p.m.origin, .int .u64 p.m.seq, .int .i64 p.m.hop, .string p.m.ex, .string p.m.key, .string p.m.body] 29) = W := ⟨_, rfl⟩
  have b0 : Below w.heap.size w W := by rw [← fold]; exact box_below w _
  have x0 : W.heap[w.heap.size]? = some (.cells (pcells p).toArray 29 (0, 0)) := by rw [← fold]; exact heap_alloc_new w _
  have y0 : W.cell? ⟨w.heap.size, 0, none⟩ = some (.int .i64 p.kind) := box_at x0 rfl
  have hL := rowOf_any p.kind W (hK.below b0)
  have HB : Hid (Below w.heap.size w W) := b0
  clear hK b0 x0
  go_enter Tryd.func11, Tryd.ntmps11
  go_wp2_with fail
  try rw [fold]
  refine hL.mono ?_
  rintro e V ⟨rfl, b1⟩
  have HV : Hid (Below w.heap.size w V) := keptW HB.out b1
  clear hL b1
  cases hk : isK p.kind with
  | false =>
    have hn : nameP p.kind = ⟨#[]⟩ := by
      unfold isK inB at hk
      rw [Bool.and_eq_false_iff, decide_eq_false_iff_not, decide_eq_false_iff_not] at hk
      unfold nameP
      rw [if_neg (by omega), if_neg (by omega), if_neg (by omega), if_neg (by omega)]
    rw [show rowP p.kind = [.int .i64 0, .string ⟨#[]⟩, .string ⟨#[]⟩] by unfold rowP; rw [hk]; rfl]
    have HN : Hid (nameP p.kind = ⟨#[]⟩) := hn
    clear hk hn
    go_wp2
    go_ret
    exact ⟨by rw [HN.out]; rfl, keptW HV.out (box_below V _)⟩
  | true =>
    rw [show rowP p.kind = [.int .i64 p.kind, .string (nameP p.kind), .string (letP p.kind)] by unfold rowP; rw [hk]; rfl]
    obtain ⟨nm, hnm⟩ : ∃ z, nameP p.kind = z := ⟨_, rfl⟩
    obtain ⟨s, hs⟩ : ∃ z, letP p.kind = z := ⟨_, rfl⟩
    have HN : Hid (nameP p.kind = nm) := hnm
    rw [hnm, hs]
    clear hk hnm hs
    go_wp2
    go_ret
    exact ⟨by rw [HN.out]; rfl, keptW HV.out (box_below V _)⟩
theorem rkindN_any (p : Pk) (w : World) : Calls Tryd.prog 12 #[pv p] w fun e w' => e = .returned (.string (nameP p.kind)) ∧ Below w.heap.size w w' := by
  have hB := box_below w (.cells #[.int .i64 p.kind, .int .i64 p.fr, .int .i64 p.dest, .int .u64 p.ep, .int .u16 p.num, .int .u64 p.mask, .int .i64 p.m.origin, .int .u64 p.m.seq, .int .i64 p.m.hop, .string p.m.ex, .string p.m.key, .string p.m.body] 29)
  have HB : Hid _ := hB
  clear hB
  by_cases k1 : p.kind = 1
  · have HN : Hid (nameP p.kind = ⟨#[104, 101, 108, 108, 111]⟩) := by show nameP p.kind = _; rw [k1]; rfl
    have q1 : (p.kind == 1) = true := by rw [k1]; rfl
    have q2 : (p.kind == 2) = false := by rw [beq_eq_false_iff_ne]; omega
    have q3 : (p.kind == 3) = false := by rw [beq_eq_false_iff_ne]; omega
    have q4 : (p.kind == 4) = false := by rw [beq_eq_false_iff_ne]; omega
    clear k1
    go_enter Tryd.func12, Tryd.ntmps12
    go_wp2
    go_ret
    exact ⟨by rw [HN.out]; rfl, HB.out⟩
  by_cases k2 : p.kind = 2
  · have HN : Hid (nameP p.kind = ⟨#[119, 101, 108, 99, 111, 109, 101]⟩) := by show nameP p.kind = _; rw [k2]; rfl
    have q1 : (p.kind == 1) = false := by rw [beq_eq_false_iff_ne]; omega
    have q2 : (p.kind == 2) = true := by rw [k2]; rfl
    have q3 : (p.kind == 3) = false := by rw [beq_eq_false_iff_ne]; omega
    have q4 : (p.kind == 4) = false := by rw [beq_eq_false_iff_ne]; omega
    clear k1 k2
    go_enter Tryd.func12, Tryd.ntmps12
    go_wp2
    go_ret
    exact ⟨by rw [HN.out]; rfl, HB.out⟩
  by_cases k3 : p.kind = 3
  · have HN : Hid (nameP p.kind = ⟨#[100, 97, 116, 97]⟩) := by show nameP p.kind = _; rw [k3]; rfl
    have q1 : (p.kind == 1) = false := by rw [beq_eq_false_iff_ne]; omega
    have q2 : (p.kind == 2) = false := by rw [beq_eq_false_iff_ne]; omega
    have q3 : (p.kind == 3) = true := by rw [k3]; rfl
    have q4 : (p.kind == 4) = false := by rw [beq_eq_false_iff_ne]; omega
    clear k1 k2 k3
    go_enter Tryd.func12, Tryd.ntmps12
    go_wp2
    go_ret
    exact ⟨by rw [HN.out]; rfl, HB.out⟩
  by_cases k4 : p.kind = 4
  · have HN : Hid (nameP p.kind = ⟨#[97, 99, 107]⟩) := by show nameP p.kind = _; rw [k4]; rfl
    have q1 : (p.kind == 1) = false := by rw [beq_eq_false_iff_ne]; omega
    have q2 : (p.kind == 2) = false := by rw [beq_eq_false_iff_ne]; omega
    have q3 : (p.kind == 3) = false := by rw [beq_eq_false_iff_ne]; omega
    have q4 : (p.kind == 4) = true := by rw [k4]; rfl
    clear k1 k2 k3 k4
    go_enter Tryd.func12, Tryd.ntmps12
    go_wp2
    go_ret
    exact ⟨by rw [HN.out]; rfl, HB.out⟩
  have q1 : (p.kind == 1) = false := by rw [beq_eq_false_iff_ne]; omega
  have q2 : (p.kind == 2) = false := by rw [beq_eq_false_iff_ne]; omega
  have q3 : (p.kind == 3) = false := by rw [beq_eq_false_iff_ne]; omega
  have q4 : (p.kind == 4) = false := by rw [beq_eq_false_iff_ne]; omega
  have HN : Hid (nameP p.kind = ⟨#[]⟩) := by show nameP p.kind = _; unfold nameP; rw [if_neg k1, if_neg k2, if_neg k3, if_neg k4]
  clear k1 k2 k3 k4
  go_enter Tryd.func12, Tryd.ntmps12
  go_wp2
  go_ret
  exact ⟨by rw [HN.out]; rfl, HB.out⟩
end Go.Proofs.YtopacoghnofliaaDoor
