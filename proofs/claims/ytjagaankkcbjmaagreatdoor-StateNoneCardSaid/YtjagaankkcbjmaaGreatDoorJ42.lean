/-
  edge, lives, by their contracts: the document's examples.
-/
import Derived.Test.YtjagaankkcbjmaaGreatDoorJ39
import Derived.Test.YtjagaankkcbjmaaGreatDoorJ40
import Derived.Test.YtjagaankkcbjmaaGreatDoorJ41
namespace Go.Proofs.YtjagaankkcbjmaaGreatDoor
open Go.RowKit

theorem cells7 {w : World} {g : Nat} {a b c d e f x : Value} {t : TypeId} {fz : Nat × Nat} (h : w.heap[g]? = some (.cells #[a, b, c, d, e, f, x] t fz)) :
    w.cell? ⟨g, 0, none⟩ = some a ∧ w.cell? ⟨g, 1, none⟩ = some b ∧ w.cell? ⟨g, 2, none⟩ = some c ∧ w.cell? ⟨g, 3, none⟩ = some d ∧ w.cell? ⟨g, 4, none⟩ = some e ∧ w.cell? ⟨g, 5, none⟩ = some f ∧ w.cell? ⟨g, 6, none⟩ = some x := by
  refine ⟨?_, ?_, ?_, ?_, ?_, ?_, ?_⟩ <;> (simp only [World.cell?]; rw [h]; rfl)
theorem infoTp : (Tryz.prog.info? 24).map (·.size) = some 3 := by kernel_rfl
set_option maxRecDepth 20000 in
theorem edge14_any (w : World) : Calls Tryz.prog 32 #[] w fun e w' => ∃ v, e = .returned (O.tv 2 v 2) ∧ K.RowOf O.ecells w' v [(1, 2)] ∧ Below w.heap.size w w' := by
  obtain ⟨W, fold⟩ : ∃ W, w.alloc (.cells #[.int .i64 0, .slice none 0 0, .int .i64 0] 24) = W := ⟨_, rfl⟩
  have bW : Below w.heap.size w W := by rw [← fold]; exact box_below w _
  have kW : W.heap[w.heap.size]? = some (.cells #[.int .i64 0, .slice none 0 0, .int .i64 0] 24 (0, 0)) := by rw [← fold]; exact heap_alloc_new w _
  obtain ⟨X, foldX⟩ : ∃ X, W.alloc (.cells #[.int .i64 1, .int .i64 2] 110) = X := ⟨_, rfl⟩
  have bX : Below W.heap.size W X := by rw [← foldX]; exact box_below W _
  have kX : X.heap[w.heap.size]? = some (.cells #[.int .i64 0, .slice none 0 0, .int .i64 0] 24 (0, 0)) := (bX.block _ (Array.getElem?_eq_some_iff.1 kW).1).trans kW
  have rX : K.RowOf O.ecells X (.slice (some ⟨W.heap.size, 0, none⟩) 1 1) [(1, 2)] := by rw [← foldX]; exact K.rowK_one W ((1, 2) : Int × Int) _ rfl
  have hlt := (Array.getElem?_eq_some_iff.1 kW).1
  obtain ⟨y0, y1, y2⟩ := cells3 kX
  have f0 : X.frozen? ⟨w.heap.size, 0, none⟩ = false := frozen_of_row X w.heap.size 0 _ _ kX
  have f1 : X.frozen? ⟨w.heap.size, 1, none⟩ = false := frozen_of_row X w.heap.size 1 _ _ kX
  have f2 : X.frozen? ⟨w.heap.size, 2, none⟩ = false := frozen_of_row X w.heap.size 2 _ _ kX
  obtain ⟨Y, hY⟩ : ∃ Y, ((X.setCell ⟨w.heap.size, 0, none⟩ (.int .i64 2)).setCell ⟨w.heap.size, 1, none⟩ (.slice (some ⟨W.heap.size, 0, none⟩) 1 1)).setCell ⟨w.heap.size, 2, none⟩ (.int .i64 2) = Y := ⟨_, rfl⟩
  have kY : Y.heap[w.heap.size]? = some (.cells #[.int .i64 2, .slice (some ⟨W.heap.size, 0, none⟩) 1 1, .int .i64 2] 24 (0, 0)) := by
    rw [← hY]
    exact heap_setCell_same _ _ _ _ _ _ (heap_setCell_same _ _ _ _ _ _ (heap_setCell_same _ _ _ _ _ _ kX))
  have oY : ∀ k, k ≠ w.heap.size → Y.heap[k]? = X.heap[k]? := fun k hk => by
    rw [← hY]
    exact (heap_setCell_other _ _ _ _ hk).trans ((heap_setCell_other _ _ _ _ hk).trans (heap_setCell_other _ _ _ _ hk))
  have bY : Below w.heap.size w Y := by
    rw [← hY]
    exact (((keptW bW bX).setCell (p := ⟨w.heap.size, 0, none⟩) (Nat.le_refl _) _).setCell (p := ⟨w.heap.size, 1, none⟩) (Nat.le_refl _) _).setCell (p := ⟨w.heap.size, 2, none⟩) (Nat.le_refl _) _
  have H0 : Hid (Y.heap[w.heap.size]? = some (.cells #[.int .i64 2, .slice (some ⟨W.heap.size, 0, none⟩) 1 1, .int .i64 2] 24 (0, 0)) ∧ Below w.heap.size w Y ∧ K.RowOf O.ecells Y (.slice (some ⟨W.heap.size, 0, none⟩) 1 1) [(1, 2)]) := ⟨kY, bY, rX.same fun g hg => oY g (by simp only [Value.ownBlock, Option.some.injEq] at hg; omega)⟩
  clear bW kW bX kX rX hlt kY oY bY
  go_enter Tryz.func32, Tryz.ntmps32
  go_wp2
  try rw [fold]
  try rw [foldX]
  try rw [hY]
  refine bodyPost_ret (results_cell_row rfl _ _ w.heap.size 24 #[.int .i64 2, .slice (some ⟨W.heap.size, 0, none⟩) 1 1, .int .i64 2] (0, 0) _ rfl H0.out.1 Tryz.underlying24 rfl infoTp) rfl ?_
  exact ⟨_, rfl, H0.out.2.2, H0.out.2.1⟩
/-- The example's exchange, message and states. -/
def xE : B.Ex := ⟨⟨#[120]⟩, 2, true⟩
def mE : Ms := ⟨1, 1, 0, ⟨#[120]⟩, ⟨#[]⟩, ⟨#[]⟩⟩
def a1E : Ax := ⟨3, ⟨#[]⟩, 0, 0, 0, ⟨#[120]⟩, 2, true, ⟨#[]⟩, ⟨#[]⟩, ⟨#[]⟩, zM⟩
def a2E : Ax := ⟨7, ⟨#[]⟩, 0, 0, 0, ⟨#[]⟩, 0, false, ⟨#[]⟩, ⟨#[]⟩, ⟨#[]⟩, mE⟩
def s0E : Sm := newSm 1 2 [(1, 2)] 2
def s1E : Sm := { s0E with tb := ⟨[xE], []⟩ }
def s2E : Sm := { s1E with bk := S.addF (fun _ => []) 1 1, seq := 1, lk := [(2, [hopM mE])] }
theorem declE : s0E.tb.declare xE = (0, ⟨[xE], []⟩) := by
  have h : B.goodX xE = true := by kernel_rfl
  unfold B.Tb.declare
  rw [h]
  rfl
theorem waysE : O.onwardT 2 [(1, 2)] 2 1 1 = [2] := by decide
theorem intoE : intoM s1E mE = [] := by
  unfold intoM
  rw [show B.queuesT s1E.tb mE.ex mE.key = [] by kernel_rfl]
  rfl
theorem admE : admitM s1E mE = ([2], 0) := by
  unfold admitM ownM
  rw [if_pos (show mE.origin = s1E.site from rfl), if_neg (show ¬ s1E.seq = 18446744073709551615 by decide), if_neg (show ¬ mE.seq ≠ (s1E.seq : Int) + 1 by decide), if_neg (show ¬ mE.hop ≠ 0 by decide)]
  rw [show B.findX s1E.tb.xs mE.ex = some xE by kernel_rfl]
  show (O.onwardT 2 [(1, 2)] 2 1 1, (0 : Int)) = _
  rw [waysE]
theorem takenE : takenM s1E mE [2] = s2E := by
  unfold takenM
  rw [intoE]
  rfl
theorem enterE : enterM s1E mE = (0, s2E) := by
  unfold enterM
  rw [admE, intoE]
  simp only [List.any_nil]
  rw [show [(2 : Int)].any (fullT s1E) = false by kernel_rfl, takenE]
  rfl
theorem tbE : s1E.tb.Ok := by
  have h := (B.newT_ok).declare xE
  rw [show B.newT.declare xE = s0E.tb.declare xE from rfl, declE] at h
  exact h
theorem r1E : s1E.Ready where
  fit := ⟨List.nodup_nil, fun x hx => (by cases hx), List.nodup_nil, fun x hx => (by cases hx), fun x hx => (by cases hx)⟩
  tb := tbE
  bk := ⟨S.fineF_nil, fun _ _ => Nat.zero_le _⟩
  seq := by decide
  qok := fun x hx => by cases hx
  up := List.Pairwise.nil
  few := fun x hx => by cases hx
  nlk := by decide
theorem r2E : s2E.Ready where
  fit := ⟨List.nodup_nil, fun x hx => (by cases hx), by simp [s2E], fun x hx => by simp [s2E] at hx; subst hx; unfold I64; simp, fun x hx => by simp [s2E] at hx; subst hx; simp⟩
  tb := tbE
  bk := ⟨S.fineF_nil.add 1 (by decide), fun i hi => by
    show (S.addF (fun _ => []) 1 1 i).length ≤ 100000
    rw [show S.addF (fun _ => []) 1 1 = S.putF (fun _ => []) 0 (S.addS [] 1) from S.addF_in (by decide) rfl]
    unfold S.putF
    rw [show S.addS [] 1 = [(1, 1)] by kernel_rfl]
    split <;> simp⟩
  seq := by decide
  qok := fun x hx => by cases hx
  up := List.pairwise_singleton _ _
  few := fun x hx => by simp [s2E] at hx; subst hx; simp
  nlk := by decide
theorem inE : mE.In := ⟨by unfold maxLen; decide, by unfold maxLen; decide, by decide, by decide⟩
theorem fitE1 : a1E.Fits := by
  refine ⟨by decide, by unfold maxLen; decide, by decide, by decide, by decide, by unfold maxLen; decide, by decide, by unfold maxLen; decide, by unfold maxLen; decide, by unfold maxLen; decide, ⟨by decide, by decide, by decide, by unfold maxLen; decide, by unfold maxLen; decide, by unfold maxLen; decide⟩⟩
theorem fitE2 : a2E.Fits := by
  refine ⟨by decide, by unfold maxLen; decide, by decide, by decide, by decide, by unfold maxLen; decide, by decide, by unfold maxLen; decide, by unfold maxLen; decide, by unfold maxLen; decide, ⟨by decide, by decide, by decide, by unfold maxLen; decide, by unfold maxLen; decide, by unfold maxLen; decide⟩⟩
theorem goodE1 : goodA a1E = true := by kernel_rfl
theorem goodE2 : goodA a2E = true := by kernel_rfl
set_option maxRecDepth 20000 in
set_option maxHeartbeats 4000000 in
theorem lives14_any (w : World) (hK : Kinds w) : Calls Tryz.prog 10 #[] w fun e w' => e = .returned (.bool true) ∧ Below w.heap.size w w' := by
  have hE := edge14_any w
  have HK : Hid (Kinds w) := hK
  clear hK
  go_enter Tryz.func10, Tryz.ntmps10
  go_wp2_with fail
  refine hE.mono ?_
  rintro e w1 ⟨v, rfl, r1, b1⟩
  have hN := new14_any 1 2 2 v [(1, 2)] w1 r1 (by decide) (by decide) (by decide) (by decide)
  obtain ⟨va, vc, hv⟩ := r1.slice
  subst hv
  clear hE r1
  have HB1 : Hid (Below w.heap.size w w1) := b1
  clear b1
  go_wp2_with fail
  refine hN.mono ?_
  rintro e w2 ⟨p, rfl, G, h2, hG, b2⟩
  have B2 := keptW HB1.out b2
  have hA := apply3_any p G s0E a1E w2 h2 (HK.out.below B2) fitE1 goodE1 rfl 0 s1E fun V b => by
    have := makeEx_any p G s0E a1E V (h2.kept b) (B.newT_ok) (by unfold maxLen; decide)
    rw [show s0E.tb.declare ⟨a1E.xn, a1E.xk, a1E.xf⟩ = (0, ⟨[xE], []⟩) from declE] at this
    exact this
  have H2 : Hid (Below w.heap.size w w2 ∧ ∀ k, G k → w.heap.size ≤ k) := ⟨B2, fun k hk => Nat.le_trans HB1.out.size (hG k hk)⟩
  clear hN h2 hG b2 B2
  go_wp2_with fail
  refine hA.mono ?_
  rintro e w3 ⟨v3, rfl, row3, G3, h3, m3⟩
  have B3 : Below w.heap.size w w3 := m3.below H2.out.2 H2.out.1 H2.out.1.size
  have hG3 := m3.from H2.out.2 H2.out.1.size
  have hA2 := apply7_any p G3 s1E a2E w3 h3 (HK.out.below B3) fitE2 goodE2 rfl 0 s2E r2E.fit r2E.tb inE fun V b => by
    have := enter_any p G3 s1E a2E V (h3.kept b) r1E inE (fun ways hw => by
      rw [show admitM s1E a2E.m = ([2], 0) from admE] at hw
      injection hw with hw _
      subst hw
      exact ⟨fun t ht => by simp at ht; subst ht; decide, by decide⟩)
    rw [show enterM s1E a2E.m = (0, s2E) from enterE] at this
    exact this
  obtain ⟨va3, vc3, hv3⟩ := row3.slice
  subst hv3
  have H3 : Hid (Below w.heap.size w w3 ∧ ∀ k, G3 k → w.heap.size ≤ k) := ⟨B3, hG3⟩
  clear hA h3 m3 B3 hG3 row3
  go_wp2_with fail
  refine hA2.mono ?_
  rintro e w4 ⟨v4, rfl, row4, G4, h4, m4⟩
  have B4 : Below w.heap.size w w4 := m4.below H3.out.2 H3.out.1 H3.out.1.size
  have hL := link_any p G4 s2E 2 w4 h4 r2E.fit (by unfold I64; decide)
  obtain ⟨va4, vc4, hv4⟩ := row4.slice
  subst hv4
  have H4 : Hid (Below w.heap.size w w4 ∧ SS w4 p G4 s2E) := ⟨B4, h4⟩
  clear hA2 h4 m4 B4 row4
  go_wp2_with fail
  refine hL.mono ?_
  rintro e w5 ⟨v5, rfl, o5, b5⟩
  obtain ⟨bb, off, cap, hv5, hc1, hc2, hcs⟩ := o5.rng.at (by decide)
  have c5 : w5.cell? ⟨bb, off + 2, none⟩ = some (.int .i64 1) := hcs 2 _ rfl
  rw [show (linkOf s2E.lk 2).length = 1 from rfl] at hv5
  subst hv5
  have hH := has14_any p G4 s2E 1 1 w5 (H4.out.2.kept b5) r2E.bk (by decide)
  rw [show hasM s2E 1 1 = true by kernel_rfl] at hH
  have H5 : Hid (Below w.heap.size w w5 ∧ SS w5 p G4 s2E) := ⟨keptW H4.out.1 b5, H4.out.2.kept b5⟩
  clear hL o5 b5 hcs hc1 hc2
  go_wp2_with fail
  refine hH.mono ?_
  rintro e w6 ⟨rfl, b6⟩
  have hP := parts14_any p G4 s2E w6 (H5.out.2.kept b6) r2E List.Pairwise.nil (by decide)
  have H6 : Hid (Below w.heap.size w w6) := keptW H5.out.1 b6
  clear hH b6 c5
  go_wp2_with fail
  refine hP.mono ?_
  rintro e w7 ⟨P, rfl, hIs, b7⟩
  have hq : P.seq = 1 := hIs.seq
  obtain ⟨sq, bt, ⟨xa, xn, xc⟩, ⟨ba, bn, bc⟩, ⟨qa, qn, qc⟩, ⟨sa, sn, sc⟩, ⟨la, ln, lc⟩⟩ := P
  obtain rfl : sq = 1 := hq
  have H7 : Hid (Below w.heap.size w w7) := keptW H6.out b7
  clear hP hIs b7
  have hfd : ∀ V : World, (Instr.field 57 (.agg #[.int .u64 1, .int .u64 bt, .slice xa xn xc, .slice ba bn bc, .slice qa qn qc, .slice sa sn sc, .slice la ln lc]) 0).run Tryz.prog V = .ok (.int .u64 1) V := fun V => by first | rfl | kernel_rfl | simp [Instr.field, Tryz.underlying57]
  simp only [ptv, slv]
  go_wp2
  go_ret
  exact ⟨rfl, H7.out⟩
end Go.Proofs.YtjagaankkcbjmaaGreatDoor
