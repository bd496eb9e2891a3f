/-
  TopoTriangles: the law's walk.
-/
import Derived.Test.YtcfagojkeholmaaLawTells
import Derived.Deep.RegionLaw
import Derived.Deep.CutRange
namespace Go.Proofs.Ytcfagojkeholmaa
open Go.RowKit Go.Sort Go.Shelf

theorem R_trans {E : List (Int × Int)} {a b c : Int} {m : Nat} (h : R E a m b = true) : ∀ (n : Nat) (c : Int), R E b n c = true → R E a (m + n) c = true
  | 0, c, hc => by simp only [R, beq_iff_eq] at hc; subst hc; exact h
  | n + 1, c, hc => by
    rcases R_succ.1 hc with hc | ⟨e, he, h1, rfl⟩
    · exact R_mono (by omega) (R_trans (c := c) h n c hc)
    · exact R_succ.2 (.inr ⟨e, he, R_trans (c := c) h n e.1 h1, rfl⟩)
theorem R_more {E E' : List (Int × Int)} (hs : ∀ e ∈ E, e ∈ E') {a : Int} : ∀ (n : Nat) (x : Int), R E a n x = true → R E' a n x = true
  | 0, _, h => h
  | n + 1, x, h => by
    rcases R_succ.1 h with h | ⟨e, he, h1, rfl⟩
    · exact R_succ.2 (.inl (R_more hs n x h))
    · exact R_succ.2 (.inr ⟨e, hs e he, R_more hs n e.1 h1, rfl⟩)
/-- No way is longer than one by a third site. -/
theorem farT_tri {S H a b c : Int} {l : List (Int × Int)} (h1 : 0 ≤ farT S l H a b) (h2 : 0 ≤ farT S l H b c) : 0 ≤ farT S l H a c ∧ farT S l H a c ≤ farT S l H a b + farT S l H b c := by
  unfold farT at h1 h2
  split at h1
  · rename_i g1
    split at h2
    · rename_i g2
      have e1 : farT S l H a b = far l a b := by rw [farT, if_pos g1]
      have e2 : farT S l H b c = far l b c := by rw [farT, if_pos g2]
      have e3 : farT S l H a c = far l a c := by rw [farT, if_pos ⟨g1.1, g1.2.1, g2.2.2⟩]
      rw [e1, e2, e3]
      have k1 := (far_le g1.1.1.2.1 g1.1.2.1 g1.2.1 (far l a b).toNat (x := b)).2 (by omega)
      have k2 := (far_le g2.1.1.2.1 g2.1.2.1 g2.2.1 (far l b c).toNat (x := c)).2 (by omega)
      have k3 := (far_le g1.1.1.2.1 g1.1.2.1 g1.2.1 _ (x := c)).1 (R_trans (c := c) k1 _ _ k2)
      omega
    · omega
  · omega
/-- An edge more makes no way longer. -/
theorem farT_more {S H a c : Int} {l : List (Int × Int)} {e : Int × Int} (hg : GoodT S (l ++ [e]) H) (h : 0 ≤ farT S l H a c) : 0 ≤ farT S (l ++ [e]) H a c ∧ farT S (l ++ [e]) H a c ≤ farT S l H a c := by
  unfold farT at h
  split at h
  · rename_i g1
    have e1 : farT S l H a c = far l a c := by rw [farT, if_pos g1]
    have e3 : farT S (l ++ [e]) H a c = far (l ++ [e]) a c := by rw [farT, if_pos ⟨hg, g1.2⟩]
    rw [e1, e3]
    have k1 := (far_le g1.1.1.2.1 g1.1.2.1 g1.2.1 (far l a c).toNat (x := c)).2 (by omega)
    have k3 := (far_le hg.1.2.1 hg.2.1 g1.2.1 _ (x := c)).1 (R_more (E' := l ++ [e]) (fun x hx => by simp [hx]) _ _ k1)
    omega
  · omega
theorem farT_edge {S H : Int} {l : List (Int × Int)} {e : Int × Int} (hg : GoodT S (l ++ [e]) H) : farT S (l ++ [e]) H e.1 e.2 = 1 := by
  have hok := hg.2.1 e (by simp)
  rw [farT, if_pos ⟨hg, hok.1, hok.2.1⟩]
  refine far_is hg.1.2.1 hg.2.1 hok.1 (n := 1) (R_succ.2 (.inr ⟨e, by simp, by simp [R], rfl⟩)) fun m hm => ?_
  obtain rfl : m = 0 := by omega
  simp only [R, beq_eq_false_iff_ne, ne_eq]
  exact fun h => hok.2.2 h.symm

theorem edInfo : ∃ i, Try.prog.info? 39 = some i ∧ i.zero = some (.agg #[.int .i64 0, .int .i64 0]) ∧ i.size = 2 ∧ i.bytes = 16 := by
  have hinfo : (Try.prog.info? 39).map (fun i => (i.zero, i.size, i.bytes)) = some (some (.agg #[.int .i64 0, .int .i64 0]), 2, 16) := by kernel_rfl
  exact info_parts hinfo
theorem cell_allocK {w : World} {a : Addr} {v : Value} (o : Obj) (h : w.cell? a = some v) : (w.alloc o).cell? a = some v := by
  have hb : Below w.heap.size w (w.alloc o) := (Below.refl _ _).alloc (Nat.le_refl _) _
  exact (hb.cell (World.block_lt_of_cell? _ _ h)).trans h

/-- Behind the store of the new edges. -/
theorem tri_end {V w2 : World} {gu ge : Nat} {S H e1 e2 : Int} {v' old : Value} {L : List (Int × Int)} (hB : Below V.heap.size V w2) (own : OwnOf ecells 2 39 w2 V.heap.size v' L)
    (c0 : V.cell? ⟨gu, 0, none⟩ = some (.int .i64 S)) (c1 : V.cell? ⟨gu, 1, none⟩ = some old) (c2 : V.cell? ⟨gu, 2, none⟩ = some (.int .i64 H)) (g0 : V.cell? ⟨ge, 0, none⟩ = some (.int .i64 e1)) (g1 : V.cell? ⟨ge, 1, none⟩ = some (.int .i64 e2)) (hne : ge ≠ gu) :
    (w2.setCell ⟨gu, 1, none⟩ v').cell? ⟨gu, 0, none⟩ = some (.int .i64 S) ∧ (w2.setCell ⟨gu, 1, none⟩ v').cell? ⟨gu, 1, none⟩ = some v' ∧ (w2.setCell ⟨gu, 1, none⟩ v').cell? ⟨gu, 2, none⟩ = some (.int .i64 H) ∧ (w2.setCell ⟨gu, 1, none⟩ v').cell? ⟨ge, 0, none⟩ = some (.int .i64 e1) ∧ (w2.setCell ⟨gu, 1, none⟩ v').cell? ⟨ge, 1, none⟩ = some (.int .i64 e2) ∧ RowOf ecells (w2.setCell ⟨gu, 1, none⟩ v') v' L := by
  have hgu := World.block_lt_of_cell? _ _ c0
  refine ⟨?_, ?_, ?_, ?_, ?_, ?_⟩
  · rw [World.cell?_setCell_other _ _ _ _ (by simp)]; exact cell_on hB c0
  · exact World.cell?_setCell_same _ _ _ (cell_on hB c1)
  · rw [World.cell?_setCell_other _ _ _ _ (by simp)]; exact cell_on hB c2
  · rw [World.cell?_setCell_other _ _ _ _ (by intro h; injection h with h; omega)]; exact cell_on hB g0
  · rw [World.cell?_setCell_other _ _ _ _ (by intro h; injection h with h; omega)]; exact cell_on hB g1
  · refine (own.same (w' := w2.setCell ⟨gu, 1, none⟩ v') fun g hg => ?_).rng
    have := (own.lt hg).1
    exact heap_setCell_other _ _ _ _ (by show g ≠ gu; have h : gu < V.heap.size := hgu; omega)

/-- The topology with an edge more, the edge beside it. -/
structure UAt (w wr : World) (gu : Nat) (S H e1 e2 : Int) (v' : Value) (L : List (Int × Int)) : Prop where
  c0 : wr.cell? ⟨gu, 0, none⟩ = some (.int .i64 S)
  c1 : wr.cell? ⟨gu, 1, none⟩ = some v'
  c2 : wr.cell? ⟨gu, 2, none⟩ = some (.int .i64 H)
  g0 : wr.cell? ⟨w.heap.size + 1, 0, none⟩ = some (.int .i64 e1)
  g1 : wr.cell? ⟨w.heap.size + 1, 1, none⟩ = some (.int .i64 e2)
  row : RowOf ecells wr v' L
  bel : Below w.heap.size w wr
theorem UAt.next {w wr wq : World} {gu : Nat} {S H e1 e2 : Int} {v' : Value} {L : List (Int × Int)} (h : UAt w wr gu S H e1 e2 v' L) (hb : Below wr.heap.size wr wq) : UAt w wq gu S H e1 e2 v' L :=
  ⟨cell_on hb h.c0, cell_on hb h.c1, cell_on hb h.c2, cell_on hb h.g0, cell_on hb h.g1, h.row.below hb (Nat.le_refl _), keptW h.bel hb⟩

set_option maxRecDepth 20000 in
set_option maxHeartbeats 4000000 in
theorem tri_law (S H c : Int) (v : Value) (l : List (Int × Int)) (e : Int × Int) (w : World) (hr : RowOf ecells w v l) :
    Calls Try.prog 6 #[tv S v H, ev e, .int .i64 c] w fun e w' => e = .returned (.bool true) ∧ Below w.heap.size w w' := by
  obtain ⟨ad, cap, rfl⟩ := hr.slice
  obtain ⟨e1, e2⟩ := e
  have hl : l.length ≤ 9223372036854775807 := by have := hr.eds.2.1; unfold maxLen at this; omega
  obtain ⟨W, fold⟩ : ∃ W, (w.alloc (.cells #[.int .i64 S, .slice ad l.length cap, .int .i64 H] 24)).alloc (.cells #[.int .i64 e1, .int .i64 e2] 39) = W := ⟨_, rfl⟩
  have hB0 : Boxed w W S (.slice ad l.length cap) H := by rw [← fold]; exact (boxed_new _ _ _ _).next ((Below.refl _ _).alloc (Nat.le_refl _) _) (by simp)
  have hE0 : BoxE w W S (.slice ad l.length cap) H (w.heap.size + 1) (e1, e2) := ⟨hB0, by rw [← fold, World.cell?_alloc_at _ _ _ _ (by simp)]; rfl, by rw [← fold, World.cell?_alloc_at _ _ _ _ (by simp)]; rfl⟩
  have HE0 : Hid (BoxE w W S (.slice ad l.length cap) H (w.heap.size + 1) (e1, e2)) := hE0
  have x0 := hB0.c0
  have x1 := hB0.c1
  have x2 := hB0.c2
  have HR : Hid (RowOf ecells w (.slice ad l.length cap) l) := hr
  clear hr hB0 hE0
  have hG0 := fun W hW => good_any S H (.slice ad l.length cap) l W hW
  have HL : Hid (∀ V, Calls Try.prog 8 #[] V fun e w' => e = .returned (.bool true) ∧ Below V.heap.size V w') := lives_any
  by_cases hg : GoodT S l H
  · have hfew := hg.few
    have h200 : ¬ (200 : Int) < (l.length : Int) := by omega
    rw [goodB_true hg] at hG0
    have HG : Hid (GoodT S l H) := hg
    clear hg
    have hF : Hid (∀ x y W, RowOf ecells W (.slice ad l.length cap) l → Calls Try.prog 14 #[tv S (.slice ad l.length cap) H, .int .i64 x, .int .i64 y] W fun e w' => e = .returned (.int .i64 (farT S l H x y)) ∧ Below W.heap.size W w') := fun x y W hW => far_any S H x y _ l W hW
    have htri : Hid (0 ≤ farT S l H e1 e2 → 0 ≤ farT S l H e2 c → 0 ≤ farT S l H e1 c ∧ farT S l H e1 c ≤ farT S l H e1 e2 + farT S l H e2 c) := farT_tri
    have hab := farT_range S l H e1 e2
    have hbc := farT_range S l H e2 c
    have hac := farT_range S l H e1 c
    go_enter Try.func6, Try.ntmps6
    go_wp2_with (go_at_call 9; refine (hG0 _ (HE0.out.bx.row HR.out)).mono ?_; rintro e w2 ⟨rfl, b2⟩; have hE1 : Hid (BoxE w w2 S (.slice ad l.length cap) H (w.heap.size + 1) (e1, e2)) := HE0.out.next b2; have p0 := hE1.out.bx.c0; have p1 := hE1.out.bx.c1; have p2 := hE1.out.bx.c2; have p3 := hE1.out.e0; have p4 := hE1.out.e1; clear b2)
    clear x0 x1 x2 hG0 fold
    have bW : Below w.heap.size w w2 := hE1.out.bx.bel
    have bD : Below w.heap.size w w2.drew := bW.drew
    have hmore : Hid (GoodT S (l ++ [(e1, e2)]) H → 0 ≤ farT S l H e1 c → 0 ≤ farT S (l ++ [(e1, e2)]) H e1 c ∧ farT S (l ++ [(e1, e2)]) H e1 c ≤ farT S l H e1 c) := farT_more
    go_cut [7, 8, 9] from 10 to 93 (fun u7 u8 u9 wx => u7 = .int .i64 (farT S l H e1 e2) ∧ u8 = .int .i64 (farT S l H e2 c) ∧ u9 = .int .i64 (farT S l H e1 c) ∧ Hid (wx.cell? ⟨w.heap.size, 0, none⟩ = some (.int .i64 S) ∧ wx.cell? ⟨w.heap.size, 1, none⟩ = some (.slice ad l.length cap) ∧ wx.cell? ⟨w.heap.size, 2, none⟩ = some (.int .i64 H) ∧ wx.cell? ⟨w.heap.size + 1, 0, none⟩ = some (.int .i64 e1) ∧ wx.cell? ⟨w.heap.size + 1, 1, none⟩ = some (.int .i64 e2) ∧ Below w.heap.size w wx))
    case first =>
      go_region_held3 (fun w' => w'.cell? ⟨w.heap.size, 0, none⟩ = some (.int .i64 S) ∧ w'.cell? ⟨w.heap.size, 1, none⟩ = some (.slice ad l.length cap) ∧ w'.cell? ⟨w.heap.size, 2, none⟩ = some (.int .i64 H) ∧ w'.cell? ⟨w.heap.size + 1, 0, none⟩ = some (.int .i64 e1) ∧ w'.cell? ⟨w.heap.size + 1, 1, none⟩ = some (.int .i64 e2) ∧ Below w.heap.size w w') (go_keep) (first
        | (go_at_call 14; refine (hF.out _ _ _ (HR.out.below (by assumption) (Nat.le_refl _))).mono ?_; rintro e wq ⟨rfl, bq⟩; have q0 := cell_on (b := w.heap.size) (j := 0) (v := .int .i64 S) bq (by assumption); have q1 := cell_on (b := w.heap.size) (j := 1) (v := .slice ad l.length cap) bq (by assumption); have q2 := cell_on (b := w.heap.size) (j := 2) (v := .int .i64 H) bq (by assumption); have q3 := cell_on (b := w.heap.size + 1) (j := 0) (v := .int .i64 e1) bq (by assumption); have q4 := cell_on (b := w.heap.size + 1) (j := 1) (v := .int .i64 e2) bq (by assumption); have q5 := keptW (w := w) (by assumption) bq))
      go_wp2
      go_meet
      exact ⟨rfl, rfl, rfl, q0, q1, q2, q3, q4, q5⟩
    case rest =>
      obtain ⟨rfl, rfl, rfl, hQ⟩ := hcut
      clear hE1 p0 p1 p2 p3 p4 bW bD hF HE0
      have HQ := hQ
      obtain ⟨q0, q1, q2, q3, q4, _⟩ := hQ.out
      generalize farT S l H e1 e2 = ab at *
      generalize farT S l H e2 c = bc at *
      generalize farT S l H e1 c = ac at *
      have hwr : IntKind.i64.wrap (ab + bc) = ab + bc := by rw [IntKind.wrap_i64]; omega
      have hnot : ¬ (0 ≤ ab ∧ 0 ≤ bc ∧ (ac < 0 ∨ ab + bc < ac)) := fun h => by have := htri.out h.1 h.2.1; omega
      have HNT : Hid (¬ (0 ≤ ab ∧ 0 ≤ bc ∧ (ac < 0 ∨ ab + bc < ac))) := hnot
      clear hnot
      go_upto_region 4 with fail
      go_cut [54] from 10 to 93 (fun u54 wx => u54 = .bool false ∧ wx = wc)
      case first =>
        go_wp2
        all_goals (have hnt := HNT.out; go_meet; refine ⟨?_, rfl⟩; first | rfl | (congr 1; simp; omega))
      case rest =>
        obtain ⟨rfl, rfl⟩ := hcut
        have hrW : RowOf ecells wc (.slice ad l.length cap) l := HR.out.below HQ.out.2.2.2.2.2 (Nat.le_refl _)
        obtain ⟨V, foldV⟩ : ∃ V, wc.alloc (.cells #[.int .i64 S, .slice ad l.length cap, .int .i64 H] 24) = V := ⟨_, rfl⟩
        have bV : Below wc.heap.size wc V := by rw [← foldV]; exact (Below.refl _ _).alloc (Nat.le_refl _) _
        have t0 := cell_on bV q0
        have t1 := cell_on bV q1
        have t2 := cell_on bV q2
        have v0 := cell_on bV q3
        have v1 := cell_on bV q4
        have u0 : V.cell? ⟨wc.heap.size, 0, none⟩ = some (.int .i64 S) := by rw [← foldV, World.cell?_alloc_at _ _ _ _ rfl]; rfl
        have u1 : V.cell? ⟨wc.heap.size, 1, none⟩ = some (.slice ad l.length cap) := by rw [← foldV, World.cell?_alloc_at _ _ _ _ rfl]; rfl
        have u2 : V.cell? ⟨wc.heap.size, 2, none⟩ = some (.int .i64 H) := by rw [← foldV, World.cell?_alloc_at _ _ _ _ rfl]; rfl
        have uf : V.frozen? ⟨wc.heap.size, 1, none⟩ = false := by rw [← foldV]; exact World.frozen?_alloc_at _ _ _ _ rfl
        have hrV : RowOf ecells V (.slice ad l.length cap) l := hrW.below bV (Nat.le_refl _)
        have HBV : Hid (Below w.heap.size w V) := HQ.out.2.2.2.2.2.trans (bV.mono HQ.out.2.2.2.2.2.size)
        have hlt1 : w.heap.size + 1 < wc.heap.size := World.block_lt_of_cell? _ _ q3
        go_upto_region 7 with fail
        clear foldV
        clear q0 q1 q2 q3 q4 hQ HQ hrW
        generalize wc.heap.size = gu at *
        obtain ⟨i0, hi0, hz0, hzs, hzb⟩ := edInfo
        obtain ⟨X, hX⟩ : ∃ X : Obj, X = .cells #[.int .i64 e1, .int .i64 e2] 39 := ⟨_, rfl⟩
        have belD : Below V.heap.size V V.drew := (Below.refl _ _).drew
        have belA : Below V.heap.size V (V.drew.alloc (.cells #[] 39)) := belD.alloc (Nat.le_refl _) _
        have belC : Below V.heap.size V ((V.drew.alloc (.cells #[] 39)).alloc X) := belA.alloc (by simp) _
        have belF : Below V.heap.size V ((V.drew.alloc X).alloc (.cells #[] 39)) := (belD.alloc (Nat.le_refl _) _).alloc (by simp) _
        have eA : OwnOf ecells 2 39 (V.drew.alloc (.cells #[] 39)) V.heap.size (.slice (some ⟨V.heap.size, 0, none⟩) 0 0) [] := ownOf_empty V.drew V.heap.size (Nat.le_refl _)
        have eC : OwnOf ecells 2 39 ((V.drew.alloc (.cells #[] 39)).alloc X) V.heap.size (.slice (some ⟨V.heap.size, 0, none⟩) 0 0) [] := eA.alloc X
        have eF : OwnOf ecells 2 39 ((V.drew.alloc X).alloc (.cells #[] 39)) V.heap.size (.slice (some ⟨V.heap.size + 1, 0, none⟩) 0 0) [] := by
          have := ownOf_empty (enc := ecells) (K := 2) (T := 39) (V.drew.alloc X) V.heap.size (by simp)
          rwa [World.size_alloc] at this
        have rA := hrV.below belA (Nat.le_refl _)
        have rC := hrV.below belC (Nat.le_refl _)
        have rF := hrV.below belF (Nat.le_refl _)
        have FA : Hid (∀ w1, (V.drew.alloc (.cells #[] 39)).grownBy w1 (some V.heap.size) → EdAt w1 (w.heap.size + 1) 0 (e1, e2) ∧ Below V.heap.size V w1) := fun w1 gr => by
          have hbb : Below V.heap.size V w1 := belA.grown gr (by simp) (fun k hk => by injection hk with hk; omega)
          exact ⟨(show EdAt V (w.heap.size + 1) 0 (e1, e2) from ⟨v0, v1⟩).below hbb (Nat.le_refl _), hbb⟩
        have FC : Hid (∀ w1, ((V.drew.alloc (.cells #[] 39)).alloc X).grownBy w1 (some V.heap.size) → RowOf ecells w1 (.slice (some ⟨V.heap.size + 1, 0, none⟩) 1 1) [(e1, e2)] ∧ Below V.heap.size V w1) := fun w1 gr => by
          have h1 : RowOf ecells ((V.drew.alloc (.cells #[] 39)).alloc X) (.slice (some ⟨V.heap.size + 1, 0, none⟩) 1 1) [(e1, e2)] := by rw [hX]; exact rowK_one _ (e1, e2) _ (by simp)
          refine ⟨h1.same fun g hg => ?_, belC.grown gr (by simp; omega) (fun k hk => by injection hk with hk; omega)⟩
          have hg' : g = V.heap.size + 1 := (Option.some.inj hg).symm
          subst hg'
          exact gr.block _ (by simp) (fun h => by injection h with h; omega)
        have FF : Hid (∀ w1, ((V.drew.alloc X).alloc (.cells #[] 39)).grownBy w1 (some (V.heap.size + 1)) → RowOf ecells w1 (.slice (some ⟨V.heap.size, 0, none⟩) 1 1) [(e1, e2)] ∧ Below V.heap.size V w1) := fun w1 gr => by
          have h0 : RowOf ecells (V.drew.alloc X) (.slice (some ⟨V.heap.size, 0, none⟩) 1 1) [(e1, e2)] := by rw [hX]; exact rowK_one V.drew (e1, e2) _ rfl
          have h1 : RowOf ecells ((V.drew.alloc X).alloc (.cells #[] 39)) (.slice (some ⟨V.heap.size, 0, none⟩) 1 1) [(e1, e2)] := h0.below ((Below.refl _ _).alloc (Nat.le_refl _) _) (Nat.le_refl _)
          refine ⟨h1.same fun g hg => ?_, belF.grown gr (by simp; omega) (fun k hk => by injection hk with hk; omega)⟩
          have hg' : g = V.heap.size := (Option.some.inj hg).symm
          subst hg'
          exact gr.block _ (by simp; omega) (fun h => by injection h with h; omega)
        have HU : Hid (∀ w2, Below V.heap.size V w2 → w2.cell? ⟨gu, 1, none⟩ = some (.slice ad l.length cap) ∧ w2.frozen? ⟨gu, 1, none⟩ = false) := fun w2 hb => ⟨cell_on hb u1, (hb.frozen (p := ⟨gu, 1, none⟩) (World.block_lt_of_cell? _ _ u1)).trans uf⟩
        have HEND : Hid (∀ w2 v', Below V.heap.size V w2 → OwnOf ecells 2 39 w2 V.heap.size v' (l ++ [(e1, e2)]) → _) := fun w2 v' hb own => tri_end hb own u0 u1 u2 v0 v1 (show w.heap.size + 1 ≠ gu by omega)
        have p0 := fun o => cell_allocK (w := V.drew) o v0
        have p1 := fun o => cell_allocK (w := V.drew) o v1
        have p3 := fun o => cell_allocK (w := V.drew) o t1
        have r0 := fun o => cell_allocK (w := V) o v0
        have r1 := fun o => cell_allocK (w := V) o v1
        have r3 := fun o => cell_allocK (w := V) o t1
        have pp0 := fun o o' => cell_allocK o' (cell_allocK (w := V.drew) o v0)
        have pp1 := fun o o' => cell_allocK o' (cell_allocK (w := V.drew) o v1)
        have pp3 := fun o o' => cell_allocK o' (cell_allocK (w := V.drew) o t1)
        have rr0 := fun o o' => cell_allocK o' (cell_allocK (w := V) o v0)
        have rr1 := fun o o' => cell_allocK o' (cell_allocK (w := V) o v1)
        have rr3 := fun o o' => cell_allocK o' (cell_allocK (w := V) o t1)
        have sb1 : ([] : List (Int × Int)).length + l.length ≤ maxLen := by unfold maxLen; simp; omega
        have sb2 : (([] : List (Int × Int)).length + l.length) * 16 ≤ 140737488355328 := by simp; omega
        subst hX
        go_cut [] from 56 to 93 (fun wx => Hid (∃ va vc, wx.cell? ⟨gu, 0, none⟩ = some (.int .i64 S) ∧ wx.cell? ⟨gu, 1, none⟩ = some (.slice va (l.length + 1) vc) ∧ wx.cell? ⟨gu, 2, none⟩ = some (.int .i64 H) ∧ wx.cell? ⟨w.heap.size + 1, 0, none⟩ = some (.int .i64 e1) ∧ wx.cell? ⟨w.heap.size + 1, 1, none⟩ = some (.int .i64 e2) ∧ RowOf ecells wx (.slice va (l.length + 1) vc) (l ++ [(e1, e2)]) ∧ Below w.heap.size w wx))
        case first =>
          go_region_law (first
            | (refine step_append_rows (enc := ecells) rfl (.tmp 56) (.tmp 58) 22 rfl Try.underlying22 i0 _ 16 hi0 hz0 hzs hzb rfl V.heap.size (.slice (some ⟨V.heap.size, 0, none⟩) 0 0) (.slice ad l.length cap) [] l (by simp [Act.eval]) (by simp [Act.eval]) eA rA sb1 sb2 (by simp) ?_; intro v1 w1 own1 gr1 nw1; obtain ⟨i1, b1⟩ := FA.out w1 gr1; obtain ⟨va1, vc1, hv1⟩ := own1.rng.slice; rw [List.nil_append] at hv1 own1; subst hv1; obtain ⟨g0, g1⟩ := i1; simp only [Nat.zero_add] at g0 g1; clear gr1 nw1)
            | (refine step_append_rows (enc := ecells) rfl (.tmp 56) (.tmp 58) 22 rfl Try.underlying22 i0 _ 16 hi0 hz0 hzs hzb rfl V.heap.size (.slice (some ⟨V.heap.size, 0, none⟩) 0 0) (.slice ad l.length cap) [] l (by simp [Act.eval]) (by simp [Act.eval]) eC rC sb1 sb2 (by simp; omega) ?_; intro v1 w1 own1 gr1 nw1; obtain ⟨rx, b1⟩ := FC.out w1 gr1; obtain ⟨va1, vc1, hv1⟩ := own1.rng.slice; rw [List.nil_append] at hv1 own1; subst hv1; clear gr1 nw1)
            | (refine step_append_rows (enc := ecells) rfl (.tmp 56) (.tmp 58) 22 rfl Try.underlying22 i0 _ 16 hi0 hz0 hzs hzb rfl V.heap.size (.slice (some ⟨V.heap.size + 1, 0, none⟩) 0 0) (.slice ad l.length cap) [] l (by simp [Act.eval]) (by simp [Act.eval]) eF rF sb1 sb2 (by simp; omega) ?_; intro v1 w1 own1 gr1 nw1; obtain ⟨rx, b1⟩ := FF.out w1 gr1; obtain ⟨va1, vc1, hv1⟩ := own1.rng.slice; rw [List.nil_append] at hv1 own1; subst hv1; clear gr1 nw1)
            | (refine step_append_rows (enc := ecells) rfl (.tmp 59) (.tmp 61) 22 rfl Try.underlying22 i0 _ 16 hi0 hz0 hzs hzb rfl V.heap.size (.slice va1 l.length vc1) _ l [(e1, e2)] (by simp [Act.eval]) rfl own1 rx (by unfold maxLen; simp; omega) (by simp; omega) b1.size ?_; intro v2 w2 own2 gr2 nw2; have HB : Hid (Below V.heap.size V w2) := own1.below gr2 b1 b1.size (Nat.le_refl _); obtain ⟨y1, y2⟩ := HU.out w2 HB.out; obtain ⟨va2, vc2, hv2⟩ := own2.rng.slice; rw [List.length_append, List.length_singleton] at hv2; subst hv2; clear gr2 nw2)
            | (refine step_append_rows (enc := ecells) rfl (.tmp 59) (.tmp 61) 22 rfl Try.underlying22 i0 _ 16 hi0 hz0 hzs hzb rfl V.heap.size (.slice va1 l.length vc1) _ l [(e1, e2)] (by simp [Act.eval]) rfl (own1.alloc _) (rowK_one _ (e1, e2) _ rfl) (by unfold maxLen; simp; omega) (by simp; omega) (by have := b1.size; simp; omega) ?_; intro v2 w2 own2 gr2 nw2; have HB : Hid (Below V.heap.size V w2) := (own1.alloc _).below gr2 (b1.alloc b1.size _) (by have := b1.size; simp; omega) (Nat.le_refl _); obtain ⟨y1, y2⟩ := HU.out w2 HB.out; obtain ⟨va2, vc2, hv2⟩ := own2.rng.slice; rw [List.length_append, List.length_singleton] at hv2; subst hv2; clear gr2 nw2))
          all_goals go_wp2
          all_goals go_meet
          all_goals (obtain ⟨z0, z1, z2, z3, z4, z5⟩ := HEND.out _ _ HB.out own2)
          all_goals exact ⟨va2, vc2, z0, z1, z2, z3, z4, z5, (HBV.out.trans (HB.out.mono HBV.out.size)).setCell (by show w.heap.size ≤ gu; omega) _⟩
        case rest =>
          obtain ⟨va, vc, z0, z1, z2, z3, z4, z5, z6⟩ := hcut.out
          have hU : Hid (UAt w wc gu S H e1 e2 (.slice va (l.length + 1) vc) (l ++ [(e1, e2)])) := ⟨z0, z1, z2, z3, z4, z5, z6⟩
          clear t0 t1 t2 v0 v1 u0 u1 u2 uf hrV HBV bV belD belA belC belF eA eC eF rA rC rF FA FC FF HU HEND p0 p1 p3 r0 r1 r3 pp0 pp1 pp3 rr0 rr1 rr3 sb1 sb2 hi0 hz0 hzs hzb hcut z5 z6 HNT
          have p0 := hU.out.c0
          have p1 := hU.out.c1
          have p2 := hU.out.c2
          have p3 := hU.out.g0
          have p4 := hU.out.g1
          clear z0 z1 z2 z3 z4
          have hGu := fun W hW => good_any S H (.slice va (l.length + 1) vc) (l ++ [(e1, e2)]) W hW
          by_cases hg' : GoodT S (l ++ [(e1, e2)]) H
          · rw [goodB_true hg'] at hGu
            have hF1 := fun W hW => far_any S H e1 e2 (.slice va (l.length + 1) vc) (l ++ [(e1, e2)]) W hW
            rw [farT_edge (e := (e1, e2)) hg'] at hF1
            have hF2 := fun W hW => far_any S H e1 c (.slice va (l.length + 1) vc) (l ++ [(e1, e2)]) W hW
            have hm := hmore.out hg'
            generalize farT S (l ++ [(e1, e2)]) H e1 c = now at *
            have HM : Hid (0 ≤ ac → 0 ≤ now ∧ now ≤ ac) := hm
            clear hm hmore htri hg' HG
            by_cases hac0 : ac < 0
            · clear hac
              go_wp2_with (first
                | (go_at_call 14; refine (hF2 _ hU2.out.row).mono ?_; rintro e w5 ⟨rfl, b5⟩; have hU3 : Hid (UAt w w5 gu S H e1 e2 (.slice va (l.length + 1) vc) (l ++ [(e1, e2)])) := hU2.out.next b5; clear p0 p1 p2 p3 p4; have p0 := hU3.out.c0; have p1 := hU3.out.c1; have p2 := hU3.out.c2; have p3 := hU3.out.g0; have p4 := hU3.out.g1)
                | (go_at_call 14; refine (hF1 _ hU1.out.row).mono ?_; rintro e w4 ⟨rfl, b4⟩; have hU2 : Hid (UAt w w4 gu S H e1 e2 (.slice va (l.length + 1) vc) (l ++ [(e1, e2)])) := hU1.out.next b4; clear p0 p1 p2 p3 p4; have p0 := hU2.out.c0; have p1 := hU2.out.c1; have p2 := hU2.out.c2; have p3 := hU2.out.g0; have p4 := hU2.out.g1)
                | (go_at_call 9; refine (hGu _ hU.out.row).mono ?_; rintro e w3 ⟨rfl, b3⟩; have hU1 : Hid (UAt w w3 gu S H e1 e2 (.slice va (l.length + 1) vc) (l ++ [(e1, e2)])) := hU.out.next b3; clear p0 p1 p2 p3 p4; have p0 := hU1.out.c0; have p1 := hU1.out.c1; have p2 := hU1.out.c2; have p3 := hU1.out.g0; have p4 := hU1.out.g1)
                | (go_at_call 8; refine (HL.out _).mono ?_; rintro e w9 ⟨rfl, b9⟩))
              go_ret
              exact ⟨rfl, hU3.out.bel.trans (b9.mono hU3.out.bel.size)⟩
            · have h0 : 0 ≤ ac := by omega
              obtain ⟨hn1, hn2⟩ := HM.out h0
              have d1 : decide (ac < 0) = false := decide_eq_false hac0
              clear hac0 h0 hac
              go_wp2_with (first
                | (go_at_call 14; refine (hF2 _ hU2.out.row).mono ?_; rintro e w5 ⟨rfl, b5⟩; have hU3 : Hid (UAt w w5 gu S H e1 e2 (.slice va (l.length + 1) vc) (l ++ [(e1, e2)])) := hU2.out.next b5; clear p0 p1 p2 p3 p4; have p0 := hU3.out.c0; have p1 := hU3.out.c1; have p2 := hU3.out.c2; have p3 := hU3.out.g0; have p4 := hU3.out.g1)
                | (go_at_call 14; refine (hF1 _ hU1.out.row).mono ?_; rintro e w4 ⟨rfl, b4⟩; have hU2 : Hid (UAt w w4 gu S H e1 e2 (.slice va (l.length + 1) vc) (l ++ [(e1, e2)])) := hU1.out.next b4; clear p0 p1 p2 p3 p4; have p0 := hU2.out.c0; have p1 := hU2.out.c1; have p2 := hU2.out.c2; have p3 := hU2.out.g0; have p4 := hU2.out.g1)
                | (go_at_call 9; refine (hGu _ hU.out.row).mono ?_; rintro e w3 ⟨rfl, b3⟩; have hU1 : Hid (UAt w w3 gu S H e1 e2 (.slice va (l.length + 1) vc) (l ++ [(e1, e2)])) := hU.out.next b3; clear p0 p1 p2 p3 p4; have p0 := hU1.out.c0; have p1 := hU1.out.c1; have p2 := hU1.out.c2; have p3 := hU1.out.g0; have p4 := hU1.out.g1)
                | (go_at_call 8; refine (HL.out _).mono ?_; rintro e w9 ⟨rfl, b9⟩))
              go_ret
              exact ⟨rfl, hU3.out.bel.trans (b9.mono hU3.out.bel.size)⟩
          · rw [goodB_false hg'] at hGu
            go_wp2_with (first
              | (go_at_call 9; refine (hGu _ hU.out.row).mono ?_; rintro e w3 ⟨rfl, b3⟩; have hU1 : Hid (UAt w w3 gu S H e1 e2 (.slice va (l.length + 1) vc) (l ++ [(e1, e2)])) := hU.out.next b3; clear p0 p1 p2 p3 p4; have p0 := hU1.out.c0; have p1 := hU1.out.c1; have p2 := hU1.out.c2; have p3 := hU1.out.g0; have p4 := hU1.out.g1)
              | (go_at_call 8; refine (HL.out _).mono ?_; rintro e w9 ⟨rfl, b9⟩))
            go_ret
            exact ⟨rfl, hU1.out.bel.trans (b9.mono hU1.out.bel.size)⟩
  · rw [goodB_false hg] at hG0
    go_enter Try.func6, Try.ntmps6
    go_wp2_with (first
      | (go_at_call 9; refine (hG0 _ (HE0.out.bx.row HR.out)).mono ?_; rintro e w2 ⟨rfl, b2⟩; have hE1 : Hid (BoxE w w2 S (.slice ad l.length cap) H (w.heap.size + 1) (e1, e2)) := HE0.out.next b2; clear b2)
      | (go_at_call 8; refine (HL.out _).mono ?_; rintro e w4 ⟨rfl, b4⟩))
    go_ret
    exact ⟨rfl, hE1.out.bx.bel.trans (b4.mono hE1.out.bx.bel.size)⟩
end Go.Proofs.Ytcfagojkeholmaa
