/-
  The document's Read of a packet, by its contract.
-/
import Derived.Test.YtopacoghnofliaaDoorJBytes19
import Derived.Test.YtopacoghnofliaaDoorJRGood19
import Derived.Test.YtopacoghnofliaaDoorJRRdr
import Derived.Test.YtopacoghnofliaaDoorROpen
import Derived.Test.YtopacoghnofliaaDoorJLives19
namespace Go.Proofs.YtopacoghnofliaaDoor
open Go.RowKit

/-- The document's reader beside the box of a packet. -/
structure Rf (w0 U : World) (p g : Nat) (z : Pk) (s : Option (List UInt8)) : Prop where
  rd : Rd 66 U p s
  hg : U.heap[g]? = some (.cells (pcells z).toArray 29 (0, 0))
  bel : Below w0.heap.size w0 U
  np : w0.heap.size ≤ p
  ng : w0.heap.size ≤ g
  gp : g ≠ p
theorem Rf.go {w0 U V : World} {p g : Nat} {z : Pk} {s s' : Option (List UInt8)} (h : Rf w0 U p g z s) (hr : Rd 66 V p s') (hb : Bar p U V) : Rf w0 V p g z s' :=
  ⟨hr, hb.box h.hg h.gp, hb.below h.bel h.np h.bel.size, h.np, h.ng, h.gp⟩
theorem Rf.set {w0 U : World} {p g : Nat} {z z' : Pk} {s : Option (List UInt8)} (h : Rf w0 U p g z s) (j : Nat) (v : Value) (hz : (pcells z).set j v = pcells z') : Rf w0 (U.setCell ⟨g, j, none⟩ v) p g z' s :=
  ⟨h.rd.set h.hg (noBytes_pk z) (Ne.symm h.gp) j v, by rw [← hz]; exact set_list h.hg v, h.bel.setCell (p := ⟨g, j, none⟩) h.ng v, h.np, h.ng, h.gp⟩
theorem Rf.msg {w0 U : World} {p g : Nat} {z : Pk} {s : Option (List UInt8)} (h : Rf w0 U p g z s) (m : Ms) : Rf w0 ((((((U.setCell ⟨g, 6, none⟩ (.int .i64 m.origin)).setCell ⟨g, 7, none⟩ (.int .u64 m.seq)).setCell ⟨g, 8, none⟩ (.int .i64 m.hop)).setCell ⟨g, 9, none⟩ (.string m.ex)).setCell ⟨g, 10, none⟩ (.string m.key)).setCell ⟨g, 11, none⟩ (.string m.body)) p g { z with m := m } s :=
  (((((h.set (z' := { z with m := { z.m with origin := m.origin } }) 6 (.int .i64 m.origin) rfl).set (z' := { z with m := { z.m with origin := m.origin, seq := m.seq } }) 7 (.int .u64 m.seq) rfl).set (z' := { z with m := { z.m with origin := m.origin, seq := m.seq, hop := m.hop } }) 8 (.int .i64 m.hop) rfl).set (z' := { z with m := { z.m with origin := m.origin, seq := m.seq, hop := m.hop, ex := m.ex } }) 9 (.string m.ex) rfl).set (z' := { z with m := { z.m with origin := m.origin, seq := m.seq, hop := m.hop, ex := m.ex, key := m.key } }) 10 (.string m.key) rfl).set (z' := { z with m := m }) 11 (.string m.body) rfl
theorem Rf.kept {w0 U V : World} {p g : Nat} {z : Pk} {s : Option (List UInt8)} (h : Rf w0 U p g z s) (hb : Below U.heap.size U V) : Rf w0 V p g z s :=
  ⟨h.rd.kept hb, (hb.block g (Array.getElem?_eq_some_iff.1 h.hg).1).trans h.hg, h.bel.trans (hb.mono h.bel.size), h.np, h.ng, h.gp⟩
def kP (k : Nat) : Pk := { nilP with kind := (k : Int) }
set_option maxRecDepth 20000 in
set_option maxHeartbeats 8000000 in
theorem rreadP_any (v : Value) (bs : List UInt8) (w : World) (hv : Holds w v bs) (hl : bs.length ≤ 100000) :
    Calls Tryd.prog 17 #[v] w (RdPost w bs) := by
  obtain ⟨a0, c0, rfl⟩ := hv.slice
  obtain ⟨W1, f1⟩ : ∃ X, w.alloc (.cells #[.int .i64 0, .int .i64 0, .int .i64 0, .int .u64 0, .int .u16 0, .int .u64 0, .int .i64 0, .int .u64 0, .int .i64 0, .string ⟨#[]⟩, .string ⟨#[]⟩, .string ⟨#[]⟩] 29) = X := ⟨_, rfl⟩
  have b1 : Below w.heap.size w W1 := by rw [← f1]; exact box_below w _
  have hR : W1.heap[w.heap.size]? = some (.cells (pcells nilP).toArray 29 (0, 0)) := by rw [← f1]; exact heap_alloc_new w _
  have hO := ropen_any (.slice a0 bs.length c0) bs W1 (hv.below b1 (Nat.le_refl _))
  have H1 : Hid (Below w.heap.size w W1 ∧ W1.heap[w.heap.size]? = some (.cells (pcells nilP).toArray 29 (0, 0))) := ⟨b1, hR⟩
  clear hv b1 hR
  go_enter Tryd.func17, Tryd.ntmps17
  go_wp2_with fail
  try rw [f1]
  refine hO.mono ?_
  rintro e W2 ⟨v2, rfl, o2, b2⟩
  clear hO
  have H2 : Hid (Below w.heap.size w W2 ∧ W2.heap[w.heap.size]? = some (.cells (pcells nilP).toArray 29 (0, 0)) ∧ Holds W2 v2 (contO bs)) := ⟨keptW H1.out.1 b2, (b2.block _ (Array.getElem?_eq_some_iff.1 H1.out.2).1).trans H1.out.2, o2.holds⟩
  obtain ⟨a2, c2, hv2⟩ := o2.holds.slice
  clear o2 b2
  obtain ⟨lc, hlc⟩ : ∃ z, (contO bs).length = z := ⟨_, rfl⟩
  rw [hlc] at hv2
  subst hv2
  have HLc : Hid ((contO bs).length = lc) := hlc
  obtain ⟨er, her⟩ : ∃ z, errO bs = z := ⟨_, rfl⟩
  obtain ⟨sz, hsz⟩ : ∃ z, sizeO bs = z := ⟨_, rfl⟩
  have HE : Hid (errO bs = er ∧ sizeO bs = sz) := ⟨her, hsz⟩
  rw [her, hsz]
  clear hlc her hsz
  by_cases h1 : er = 0
  rotate_left
  · have e1 : ((er : Int) == 0) = false := by rw [beq_eq_false_iff_ne]; omega
    have HN : Hid (readP bs = none) := readP_err (by rw [HE.out.1]; exact h1)
    clear h1
    go_wp2_with (refine wpList_store_row rfl 29 _ _ rfl w.heap.size (pcells nilP).toArray rfl rfl 29 (pcells nilP).toArray H2.out.2.1 info12 rfl (one12 nilP) ?_)
    refine bodyPost_ret (results_pk_tmp rfl _ _ w.heap.size nilP rfl (setRow_heap _ _ _ _ _ _ H2.out.2.1)) rfl ⟨?_, below_setRow H2.out.1 (Nat.le_refl _) _⟩
    rw [HN.out]
    rfl
  subst h1
  by_cases h2 : sz = bs.length
  rotate_left
  · have e2 : ((sz : Int) == (bs.length : Int)) = false := by rw [beq_eq_false_iff_ne]; omega
    have HN : Hid (readP bs = none) := readP_size (by rw [HE.out.2]; exact h2)
    clear h2
    go_wp2_with (refine wpList_store_row rfl 29 _ _ rfl w.heap.size (pcells nilP).toArray rfl rfl 29 (pcells nilP).toArray H2.out.2.1 info12 rfl (one12 nilP) ?_)
    refine bodyPost_ret (results_pk_tmp rfl _ _ w.heap.size nilP rfl (setRow_heap _ _ _ _ _ _ H2.out.2.1)) rfl ⟨?_, below_setRow H2.out.1 (Nat.le_refl _) _⟩
    rw [HN.out]
    rfl
  have e2 : ((sz : Int) == (bs.length : Int)) = true := by rw [h2]; simp
  have HC : Hid (readP bs = readC (contO bs)) := readP_cont HE.out.1 (by rw [HE.out.2]; exact h2)
  have hcl : (contO bs).length ≤ 100000 := by have := contO_len bs; omega
  obtain ⟨W3, f3⟩ : ∃ X, W2.alloc (.cells #[.slice a2 lc c2, .bool false] 66) = X := ⟨_, rfl⟩
  have b3 : Below W2.heap.size W2 W3 := by rw [← f3]; exact box_below W2 _
  have r3 := rd_new 66 W2 (.slice a2 lc c2) (contO bs) H2.out.2.2 hcl
  rw [f3] at r3
  have hN := rnum1_any W2.heap.size _ W3 r3
  have B3 : Hid (Below W2.heap.size W2 W3) := b3
  clear h2 hcl b3 r3
  go_wp2_with fail
  try rw [f3]
  refine hN.mono ?_
  rintro e W4 ⟨n1, s1, rfl, l1, q1, r1, b4⟩
  clear hN
  have wr1 := wrap_num l1 (by decide)
  have Q1 : Hid (Aft (some (contO bs)) (numP 1) n1 s1 ∧ n1 < 256 ^ 1) := ⟨q1, l1⟩
  have B4 : Below W2.heap.size W2 W4 := b4.below B3.out (Nat.le_refl _) B3.out.size
  obtain ⟨V5, f5z⟩ : ∃ X, W4.alloc (.cells #[.int .i64 0, .int .i64 0, .int .i64 0, .int .u64 0, .int .u16 0, .int .u64 0, .int .i64 0, .int .u64 0, .int .i64 0, .string ⟨#[]⟩, .string ⟨#[]⟩, .string ⟨#[]⟩] 29) = X := ⟨_, rfl⟩
  have b5z : Below W4.heap.size W4 V5 := by rw [← f5z]; exact box_below W4 _
  have g5z : V5.heap[W4.heap.size]? = some (.cells (pcells nilP).toArray 29 (0, 0)) := by rw [← f5z]; exact heap_alloc_new W4 _
  obtain ⟨W5, f5⟩ : ∃ X, V5.setRow W4.heap.size (pcells (kP n1)).toArray = X := ⟨_, rfl⟩
  have b5 : Below W4.heap.size W4 W5 := by rw [← f5]; exact below_setRow b5z (Nat.le_refl _) _
  have g5 : W5.heap[W4.heap.size]? = some (.cells (pcells (kP n1)).toArray 29 (0, 0)) := by rw [← f5]; exact setRow_heap _ _ _ _ _ _ g5z
  have HZ5 : Hid (V5.heap[W4.heap.size]? = some (.cells (pcells nilP).toArray 29 (0, 0))) := g5z
  have M5 : Hid (Rf W2 W5 W2.heap.size W4.heap.size (kP n1) s1) := ⟨r1.kept b5, g5, B4.trans (b5.mono B4.size), Nat.le_refl _, B4.size, by have := r1.lt; omega⟩
  clear l1 q1 r1 b4 B4 b5 g5 b5z g5z
  have hN := rnum1_any W2.heap.size s1 W5 M5.out.rd
  go_wp2_with (refine wpList_store_row rfl 29 _ _ rfl W4.heap.size (pcells (kP n1)).toArray rfl rfl 29 (pcells nilP).toArray HZ5.out info12 rfl (one12 _) ?_)
  try rw [f5]
  refine hN.mono ?_
  rintro e W6 ⟨n2, s2, rfl, l2, q2, r2, b2⟩
  clear hN
  have wr2 := wrap_num l2 (by decide)
  have Q2 : Hid (Aft s1 (numP 1) n2 s2 ∧ n2 < 256 ^ 1) := ⟨q2, l2⟩
  have M6 : Hid (Rf W2 W6 W2.heap.size W4.heap.size (kP n1) s2) := M5.out.go r2 b2
  clear l2 q2 r2 b2
  have y1 : W6.cell? ⟨W4.heap.size, 1, none⟩ = some (.int .i64 0) := box_at M6.out.hg rfl
  have g1 := box_free M6.out.hg 1
  obtain ⟨W7, f7⟩ : ∃ X, W6.setCell ⟨W4.heap.size, 1, none⟩ (.int .i64 (n2 : Int)) = X := ⟨_, rfl⟩
  have M7 : Hid (Rf W2 W7 W2.heap.size W4.heap.size { kP n1 with fr := (n2 : Int) } s2) := by
    have h := M6.out.set (z' := { kP n1 with fr := (n2 : Int) }) 1 (.int .i64 (n2 : Int)) rfl
    rw [f7] at h
    exact h
  have hN := rnum1_any W2.heap.size s2 W7 M7.out.rd
  go_wp2_with fail
  try rw [f7]
  refine hN.mono ?_
  rintro e W8 ⟨n3, s3, rfl, l3, q3, r3, b3⟩
  clear hN
  have wr3 := wrap_num l3 (by decide)
  have Q3 : Hid (Aft s2 (numP 1) n3 s3 ∧ n3 < 256 ^ 1) := ⟨q3, l3⟩
  have M8 : Hid (Rf W2 W8 W2.heap.size W4.heap.size { kP n1 with fr := (n2 : Int) } s3) := M7.out.go r3 b3
  clear l3 q3 r3 b3
  have y2 : W8.cell? ⟨W4.heap.size, 2, none⟩ = some (.int .i64 0) := box_at M8.out.hg rfl
  have g2 := box_free M8.out.hg 2
  obtain ⟨W9, f9⟩ : ∃ X, W8.setCell ⟨W4.heap.size, 2, none⟩ (.int .i64 (n3 : Int)) = X := ⟨_, rfl⟩
  have M9 : Hid (Rf W2 W9 W2.heap.size W4.heap.size { kP n1 with fr := (n2 : Int), dest := (n3 : Int) } s3) := by
    have h := M8.out.set (z' := { kP n1 with fr := (n2 : Int), dest := (n3 : Int) }) 2 (.int .i64 (n3 : Int)) rfl
    rw [f9] at h
    exact h
  have hN := rnum8_any W2.heap.size s3 W9 M9.out.rd
  go_wp2_with fail
  try rw [f9]
  refine hN.mono ?_
  rintro e W10 ⟨n4, s4, rfl, l4, q4, r4, b4⟩
  clear hN
  have Q4 : Hid (Aft s3 (numP 8) n4 s4 ∧ n4 < 256 ^ 8) := ⟨q4, l4⟩
  have M10 : Hid (Rf W2 W10 W2.heap.size W4.heap.size { kP n1 with fr := (n2 : Int), dest := (n3 : Int) } s4) := M9.out.go r4 b4
  clear l4 q4 r4 b4
  have y3 : W10.cell? ⟨W4.heap.size, 3, none⟩ = some (.int .u64 0) := box_at M10.out.hg rfl
  have g3 := box_free M10.out.hg 3
  obtain ⟨W11, f11⟩ : ∃ X, W10.setCell ⟨W4.heap.size, 3, none⟩ (.int .u64 (n4 : Int)) = X := ⟨_, rfl⟩
  have M11 : Hid (Rf W2 W11 W2.heap.size W4.heap.size (zP n1 n2 n3 n4) s4) := by
    have h := M10.out.set (z' := (zP n1 n2 n3 n4)) 3 (.int .u64 (n4 : Int)) rfl
    rw [f11] at h
    exact h
  have HF : Hid (zP n1 n2 n3 n4).Fits := zP_fits (Nat.lt_of_lt_of_le Q1.out.2 (by decide)) (Nat.lt_of_lt_of_le Q2.out.2 (by decide)) (Nat.lt_of_lt_of_le Q3.out.2 (by decide)) (Nat.lt_of_lt_of_le Q4.out.2 (by decide))
  have HO : Hid (readC (contO bs) = outP s4 (restP n1 n2 n3 n4)) := by
    show _ = _
    rw [readC_out]
    unfold pakP
    rw [outP_bind Q1.out.1, outP_bind Q2.out.1, outP_bind Q3.out.1, outP_bind Q4.out.1]
  have y0 : W11.cell? ⟨W4.heap.size, 0, none⟩ = some (.int .i64 (n1 : Int)) := box_at M11.out.hg rfl
  clear y1 y2 g1 g2
  by_cases h3 : n1 = 3
  · have q3 : ((n1 : Int) == 3) = true := by rw [h3]; rfl
    have HR : Hid (restP n1 n2 n3 n4 = bindP (numP 2) fun n => bindP msgP fun m => pureP ⟨n1, n2, n3, n4, n, 0, m⟩) := by show _ = _; unfold restP; rw [if_pos h3]
    clear h3
    have hN := rnum2_any W2.heap.size s4 W11 M11.out.rd
    go_wp2_with fail
    try rw [f11]
    refine hN.mono ?_
    rintro e W12 ⟨n5, s5, rfl, l5, q5, r5, b5⟩
    clear hN
    have wr5 := wrap16 (n := n5) (Nat.lt_of_lt_of_le l5 (by decide))
    have Q5 : Hid (Aft s4 (numP 2) n5 s5 ∧ n5 < 256 ^ 2) := ⟨q5, l5⟩
    have M12 : Hid (Rf W2 W12 W2.heap.size W4.heap.size (zP n1 n2 n3 n4) s5) := M11.out.go r5 b5
    clear l5 q5 r5 b5
    have y4 : W12.cell? ⟨W4.heap.size, 4, none⟩ = some (.int .u16 0) := box_at M12.out.hg rfl
    have g4 := box_free M12.out.hg 4
    obtain ⟨W13, f13⟩ : ∃ X, W12.setCell ⟨W4.heap.size, 4, none⟩ (.int .u16 (n5 : Int)) = X := ⟨_, rfl⟩
    have M13 : Hid (Rf W2 W13 W2.heap.size W4.heap.size { zP n1 n2 n3 n4 with num := (n5 : Int) } s5) := by
      have h := M12.out.set (z' := { zP n1 n2 n3 n4 with num := (n5 : Int) }) 4 (.int .u16 (n5 : Int)) rfl
      rw [f13] at h
      exact h
    have hN := rmsgR_any W2.heap.size s5 W13 M13.out.rd
    go_wp2_with fail
    try rw [f13]
    refine hN.mono ?_
    rintro e W14 ⟨mm, s6, rfl, fm, q6, r6, b6⟩
    clear hN y0 y3 g3 y4 g4
    have Q6 : Hid (Aft s5 msgP mm s6 ∧ mm.Fits) := ⟨q6, fm⟩
    have M14 : Hid (Rf W2 W14 W2.heap.size W4.heap.size { zP n1 n2 n3 n4 with num := (n5 : Int) } s6) := M13.out.go r6 b6
    clear fm q6 r6 b6
    obtain ⟨d0, d1, d2, d3, d4, d5, d6, d7, d8, d9, d10, d11⟩ := cells12 M14.out.hg
    have fP := fun j => box_free M14.out.hg j
    obtain ⟨W15, f15⟩ : ∃ X, (((((W14.setCell ⟨W4.heap.size, 6, none⟩ (.int .i64 mm.origin)).setCell ⟨W4.heap.size, 7, none⟩ (.int .u64 mm.seq)).setCell ⟨W4.heap.size, 8, none⟩ (.int .i64 mm.hop)).setCell ⟨W4.heap.size, 9, none⟩ (.string mm.ex)).setCell ⟨W4.heap.size, 10, none⟩ (.string mm.key)).setCell ⟨W4.heap.size, 11, none⟩ (.string mm.body) = X := ⟨_, rfl⟩
    have M15 : Hid (Rf W2 W15 W2.heap.size W4.heap.size { zP n1 n2 n3 n4 with num := (n5 : Int), m := mm } s6) := by
      have h := M14.out.msg mm
      rw [f15] at h
      exact h
    have HP : Hid (readC (contO bs) = outP s6 (pureP { zP n1 n2 n3 n4 with num := (n5 : Int), m := mm })) := by
      show _ = _
      rw [HO.out, HR.out, outP_bind Q5.out.1, outP_bind Q6.out.1]
      rfl
    have HZ : Hid (readP bs = if (decide (s6 = some []) && goodP { zP n1 n2 n3 n4 with num := (n5 : Int), m := mm }) = true then some { zP n1 n2 n3 n4 with num := (n5 : Int), m := mm } else none) := by
      show _ = _
      rw [HC.out, HP.out, outP_pure]
    have HW : Hid (Below w.heap.size w W15 ∧ W15.heap[w.heap.size]? = some (.cells (pcells nilP).toArray 29 (0, 0)) ∧ W15.heap[W4.heap.size]? = some (.cells (pcells { zP n1 n2 n3 n4 with num := (n5 : Int), m := mm }).toArray 29 (0, 0)) ∧ ({ zP n1 n2 n3 n4 with num := (n5 : Int), m := mm } : Pk).Fits) := ⟨keptW H2.out.1 M15.out.bel, (M15.out.bel.block _ (Array.getElem?_eq_some_iff.1 H2.out.2.1).1).trans H2.out.2.1, M15.out.hg, { HF.out with n := ⟨by show (0 : Int) ≤ (n5 : Int); omega, by have := Q5.out.2; show (n5 : Int) < _; omega⟩, m := Q6.out.2 }⟩
    obtain ⟨ra, rn, rc, tn, l, blk, hh, _, hs, _⟩ := M15.out.rd
    have hrn : rn = l.length := by obtain ⟨_, _, hv⟩ := hh.slice; injection hv
    rw [hrn] at blk
    have HS : Hid (s6 = left tn l) := hs
    have c0 : W15.cell? ⟨W2.heap.size, 0, none⟩ = some (.slice ra l.length rc) := by simp only [World.cell?]; rw [blk]; rfl
    have c1 : W15.cell? ⟨W2.heap.size, 1, none⟩ = some (.bool tn) := by simp only [World.cell?]; rw [blk]; rfl
    clear blk hh hs hrn
    cases tn
    rotate_left
    · have HN : Hid (readP bs = none) := by show readP bs = none; rw [HZ.out, HS.out]; rfl
      go_wp2_with (refine wpList_store_row rfl 29 _ _ rfl w.heap.size (pcells nilP).toArray rfl rfl 29 (pcells nilP).toArray HW.out.2.1 info12 rfl (one12 _) ?_)
      refine bodyPost_ret (results_pk_tmp rfl _ _ w.heap.size nilP rfl (setRow_heap _ _ _ _ _ _ HW.out.2.1)) rfl ⟨?_, below_setRow HW.out.1 (Nat.le_refl _) _⟩
      rw [HN.out]
      rfl
    cases l with
    | cons x l =>
      have HN : Hid (readP bs = none) := by show readP bs = none; rw [HZ.out, HS.out]; rfl
      have hp : (0 : Int) < (((x :: l).length : Nat) : Int) := by simp
      obtain ⟨ln, hln⟩ : ∃ z, (x :: l).length = z := ⟨_, rfl⟩
      rw [hln] at c0 hp
      clear hln
      go_wp2_with (refine wpList_store_row rfl 29 _ _ rfl w.heap.size (pcells nilP).toArray rfl rfl 29 (pcells nilP).toArray HW.out.2.1 info12 rfl (one12 _) ?_)
      refine bodyPost_ret (results_pk_tmp rfl _ _ w.heap.size nilP rfl (setRow_heap _ _ _ _ _ _ HW.out.2.1)) rfl ⟨?_, below_setRow HW.out.1 (Nat.le_refl _) _⟩
      rw [HN.out]
      rfl
    | nil =>
      have HN : Hid (readP bs = if goodP { zP n1 n2 n3 n4 with num := (n5 : Int), m := mm } = true then some { zP n1 n2 n3 n4 with num := (n5 : Int), m := mm } else none) := by show _ = _; rw [HZ.out, HS.out]; rfl
      have c0' : W15.cell? ⟨W2.heap.size, 0, none⟩ = some (.slice ra 0 rc) := c0
      clear c0
      have hG := rgoodP_any { zP n1 n2 n3 n4 with num := (n5 : Int), m := mm } W15 HW.out.2.2.2.m
      go_wp2_with (refine wpList_load_rowG (by first | rfl | (simp [Region.wanted]; done)) 29 _ rfl W4.heap.size rfl 29 (pcells { zP n1 n2 n3 n4 with num := (n5 : Int), m := mm }).toArray (0, 0) _ HW.out.2.2.1 Tryd.underlying29 rfl info12 ?_)
      refine hG.mono ?_
      rintro e Y ⟨rfl, bY⟩
      clear hG c0' c1
      have HY : Hid (Below w.heap.size w Y ∧ Y.heap[w.heap.size]? = some (.cells (pcells nilP).toArray 29 (0, 0)) ∧ Y.heap[W4.heap.size]? = some (.cells (pcells { zP n1 n2 n3 n4 with num := (n5 : Int), m := mm }).toArray 29 (0, 0))) := ⟨keptW HW.out.1 bY, (bY.block _ (Array.getElem?_eq_some_iff.1 HW.out.2.1).1).trans HW.out.2.1, (bY.block _ (Array.getElem?_eq_some_iff.1 HW.out.2.2.1).1).trans HW.out.2.2.1⟩
      clear bY
      cases hg : goodP { zP n1 n2 n3 n4 with num := (n5 : Int), m := mm }
      · have HN2 : Hid (readP bs = none) := by show readP bs = none; rw [HN.out, hg]; rfl
        clear hg
        go_wp2_with (refine wpList_store_row rfl 29 _ _ rfl w.heap.size (pcells nilP).toArray rfl rfl 29 (pcells nilP).toArray HY.out.2.1 info12 rfl (one12 _) ?_)
        refine bodyPost_ret (results_pk_tmp rfl _ _ w.heap.size nilP rfl (setRow_heap _ _ _ _ _ _ HY.out.2.1)) rfl ⟨?_, below_setRow HY.out.1 (Nat.le_refl _) _⟩
        rw [HN2.out]
        rfl
      · have HN2 : Hid (readP bs = some { zP n1 n2 n3 n4 with num := (n5 : Int), m := mm }) := by show readP bs = _; rw [HN.out, hg]; rfl
        clear hg
        go_wp2_with (first | refine wpList_load_row rfl 29 _ rfl W4.heap.size rfl 29 (pcells { zP n1 n2 n3 n4 with num := (n5 : Int), m := mm }).toArray (0, 0) _ HY.out.2.2 Tryd.underlying29 rfl info12 ?_ | refine wpList_store_row rfl 29 _ _ rfl w.heap.size (pcells { zP n1 n2 n3 n4 with num := (n5 : Int), m := mm }).toArray rfl rfl 29 (pcells nilP).toArray HY.out.2.1 info12 rfl (one12 _) ?_)
        refine bodyPost_ret (results_pk_tmp rfl _ _ w.heap.size { zP n1 n2 n3 n4 with num := (n5 : Int), m := mm } rfl (setRow_heap _ _ _ _ _ _ HY.out.2.1)) rfl ⟨?_, below_setRow HY.out.1 (Nat.le_refl _) _⟩
        rw [HN2.out]
        rfl
  by_cases h4 : n1 = 4
  · have q3 : ((n1 : Int) == 3) = false := by rw [h4]; rfl
    have q4 : ((n1 : Int) == 4) = true := by rw [h4]; rfl
    have HR : Hid (restP n1 n2 n3 n4 = bindP (numP 2) fun n => bindP (numP 8) fun x => pureP ⟨n1, n2, n3, n4, n, x, zM⟩) := by show _ = _; unfold restP; rw [if_neg h3, if_pos h4]
    clear h3 h4
    have hN := rnum2_any W2.heap.size s4 W11 M11.out.rd
    go_wp2_with fail
    try rw [f11]
    refine hN.mono ?_
    rintro e W12 ⟨n5, s5, rfl, l5, q5, r5, b5⟩
    clear hN
    have wr5 := wrap16 (n := n5) (Nat.lt_of_lt_of_le l5 (by decide))
    have Q5 : Hid (Aft s4 (numP 2) n5 s5 ∧ n5 < 256 ^ 2) := ⟨q5, l5⟩
    have M12 : Hid (Rf W2 W12 W2.heap.size W4.heap.size (zP n1 n2 n3 n4) s5) := M11.out.go r5 b5
    clear l5 q5 r5 b5
    have y4 : W12.cell? ⟨W4.heap.size, 4, none⟩ = some (.int .u16 0) := box_at M12.out.hg rfl
    have g4 := box_free M12.out.hg 4
    obtain ⟨W13, f13⟩ : ∃ X, W12.setCell ⟨W4.heap.size, 4, none⟩ (.int .u16 (n5 : Int)) = X := ⟨_, rfl⟩
    have M13 : Hid (Rf W2 W13 W2.heap.size W4.heap.size { zP n1 n2 n3 n4 with num := (n5 : Int) } s5) := by
      have h := M12.out.set (z' := { zP n1 n2 n3 n4 with num := (n5 : Int) }) 4 (.int .u16 (n5 : Int)) rfl
      rw [f13] at h
      exact h
    have hN := rnum8_any W2.heap.size s5 W13 M13.out.rd
    go_wp2_with fail
    try rw [f13]
    refine hN.mono ?_
    rintro e W14 ⟨n6, s6, rfl, l6, q6, r6, b6⟩
    clear hN
    have Q6 : Hid (Aft s5 (numP 8) n6 s6 ∧ n6 < 256 ^ 8) := ⟨q6, l6⟩
    have M14 : Hid (Rf W2 W14 W2.heap.size W4.heap.size { zP n1 n2 n3 n4 with num := (n5 : Int) } s6) := M13.out.go r6 b6
    clear l6 q6 r6 b6
    have y5 : W14.cell? ⟨W4.heap.size, 5, none⟩ = some (.int .u64 0) := box_at M14.out.hg rfl
    have g5 := box_free M14.out.hg 5
    obtain ⟨W15, f15⟩ : ∃ X, W14.setCell ⟨W4.heap.size, 5, none⟩ (.int .u64 (n6 : Int)) = X := ⟨_, rfl⟩
    have M15 : Hid (Rf W2 W15 W2.heap.size W4.heap.size { zP n1 n2 n3 n4 with num := (n5 : Int), mask := (n6 : Int) } s6) := by
      have h := M14.out.set (z' := { zP n1 n2 n3 n4 with num := (n5 : Int), mask := (n6 : Int) }) 5 (.int .u64 (n6 : Int)) rfl
      rw [f15] at h
      exact h
    clear y0 y3 g3 y4 g4
    have HP : Hid (readC (contO bs) = outP s6 (pureP { zP n1 n2 n3 n4 with num := (n5 : Int), mask := (n6 : Int) })) := by
      show _ = _
      rw [HO.out, HR.out, outP_bind Q5.out.1, outP_bind Q6.out.1]
      rfl
    have HZ : Hid (readP bs = if (decide (s6 = some []) && goodP { zP n1 n2 n3 n4 with num := (n5 : Int), mask := (n6 : Int) }) = true then some { zP n1 n2 n3 n4 with num := (n5 : Int), mask := (n6 : Int) } else none) := by
      show _ = _
      rw [HC.out, HP.out, outP_pure]
    have HW : Hid (Below w.heap.size w W15 ∧ W15.heap[w.heap.size]? = some (.cells (pcells nilP).toArray 29 (0, 0)) ∧ W15.heap[W4.heap.size]? = some (.cells (pcells { zP n1 n2 n3 n4 with num := (n5 : Int), mask := (n6 : Int) }).toArray 29 (0, 0)) ∧ ({ zP n1 n2 n3 n4 with num := (n5 : Int), mask := (n6 : Int) } : Pk).Fits) := ⟨keptW H2.out.1 M15.out.bel, (M15.out.bel.block _ (Array.getElem?_eq_some_iff.1 H2.out.2.1).1).trans H2.out.2.1, M15.out.hg, { HF.out with n := ⟨by show (0 : Int) ≤ (n5 : Int); omega, by have := Q5.out.2; show (n5 : Int) < _; omega⟩, x := ⟨by show (0 : Int) ≤ (n6 : Int); omega, by have := Q6.out.2; show (n6 : Int) < _; omega⟩ }⟩
    obtain ⟨ra, rn, rc, tn, l, blk, hh, _, hs, _⟩ := M15.out.rd
    have hrn : rn = l.length := by obtain ⟨_, _, hv⟩ := hh.slice; injection hv
    rw [hrn] at blk
    have HS : Hid (s6 = left tn l) := hs
    have c0 : W15.cell? ⟨W2.heap.size, 0, none⟩ = some (.slice ra l.length rc) := by simp only [World.cell?]; rw [blk]; rfl
    have c1 : W15.cell? ⟨W2.heap.size, 1, none⟩ = some (.bool tn) := by simp only [World.cell?]; rw [blk]; rfl
    clear blk hh hs hrn
    cases tn
    rotate_left
    · have HN : Hid (readP bs = none) := by show readP bs = none; rw [HZ.out, HS.out]; rfl
      go_wp2_with (refine wpList_store_row rfl 29 _ _ rfl w.heap.size (pcells nilP).toArray rfl rfl 29 (pcells nilP).toArray HW.out.2.1 info12 rfl (one12 _) ?_)
      refine bodyPost_ret (results_pk_tmp rfl _ _ w.heap.size nilP rfl (setRow_heap _ _ _ _ _ _ HW.out.2.1)) rfl ⟨?_, below_setRow HW.out.1 (Nat.le_refl _) _⟩
      rw [HN.out]
      rfl
    cases l with
    | cons x l =>
      have HN : Hid (readP bs = none) := by show readP bs = none; rw [HZ.out, HS.out]; rfl
      have hp : (0 : Int) < (((x :: l).length : Nat) : Int) := by simp
      obtain ⟨ln, hln⟩ : ∃ z, (x :: l).length = z := ⟨_, rfl⟩
      rw [hln] at c0 hp
      clear hln
      go_wp2_with (refine wpList_store_row rfl 29 _ _ rfl w.heap.size (pcells nilP).toArray rfl rfl 29 (pcells nilP).toArray HW.out.2.1 info12 rfl (one12 _) ?_)
      refine bodyPost_ret (results_pk_tmp rfl _ _ w.heap.size nilP rfl (setRow_heap _ _ _ _ _ _ HW.out.2.1)) rfl ⟨?_, below_setRow HW.out.1 (Nat.le_refl _) _⟩
      rw [HN.out]
      rfl
    | nil =>
      have HN : Hid (readP bs = if goodP { zP n1 n2 n3 n4 with num := (n5 : Int), mask := (n6 : Int) } = true then some { zP n1 n2 n3 n4 with num := (n5 : Int), mask := (n6 : Int) } else none) := by show _ = _; rw [HZ.out, HS.out]; rfl
      have c0' : W15.cell? ⟨W2.heap.size, 0, none⟩ = some (.slice ra 0 rc) := c0
      clear c0
      have hG := rgoodP_any { zP n1 n2 n3 n4 with num := (n5 : Int), mask := (n6 : Int) } W15 HW.out.2.2.2.m
      go_wp2_with (refine wpList_load_rowG (by first | rfl | (simp [Region.wanted]; done)) 29 _ rfl W4.heap.size rfl 29 (pcells { zP n1 n2 n3 n4 with num := (n5 : Int), mask := (n6 : Int) }).toArray (0, 0) _ HW.out.2.2.1 Tryd.underlying29 rfl info12 ?_)
      refine hG.mono ?_
      rintro e Y ⟨rfl, bY⟩
      clear hG c0' c1
      have HY : Hid (Below w.heap.size w Y ∧ Y.heap[w.heap.size]? = some (.cells (pcells nilP).toArray 29 (0, 0)) ∧ Y.heap[W4.heap.size]? = some (.cells (pcells { zP n1 n2 n3 n4 with num := (n5 : Int), mask := (n6 : Int) }).toArray 29 (0, 0))) := ⟨keptW HW.out.1 bY, (bY.block _ (Array.getElem?_eq_some_iff.1 HW.out.2.1).1).trans HW.out.2.1, (bY.block _ (Array.getElem?_eq_some_iff.1 HW.out.2.2.1).1).trans HW.out.2.2.1⟩
      clear bY
      cases hg : goodP { zP n1 n2 n3 n4 with num := (n5 : Int), mask := (n6 : Int) }
      · have HN2 : Hid (readP bs = none) := by show readP bs = none; rw [HN.out, hg]; rfl
        clear hg
        go_wp2_with (refine wpList_store_row rfl 29 _ _ rfl w.heap.size (pcells nilP).toArray rfl rfl 29 (pcells nilP).toArray HY.out.2.1 info12 rfl (one12 _) ?_)
        refine bodyPost_ret (results_pk_tmp rfl _ _ w.heap.size nilP rfl (setRow_heap _ _ _ _ _ _ HY.out.2.1)) rfl ⟨?_, below_setRow HY.out.1 (Nat.le_refl _) _⟩
        rw [HN2.out]
        rfl
      · have HN2 : Hid (readP bs = some { zP n1 n2 n3 n4 with num := (n5 : Int), mask := (n6 : Int) }) := by show readP bs = _; rw [HN.out, hg]; rfl
        clear hg
        go_wp2_with (first | refine wpList_load_row rfl 29 _ rfl W4.heap.size rfl 29 (pcells { zP n1 n2 n3 n4 with num := (n5 : Int), mask := (n6 : Int) }).toArray (0, 0) _ HY.out.2.2 Tryd.underlying29 rfl info12 ?_ | refine wpList_store_row rfl 29 _ _ rfl w.heap.size (pcells { zP n1 n2 n3 n4 with num := (n5 : Int), mask := (n6 : Int) }).toArray rfl rfl 29 (pcells nilP).toArray HY.out.2.1 info12 rfl (one12 _) ?_)
        refine bodyPost_ret (results_pk_tmp rfl _ _ w.heap.size { zP n1 n2 n3 n4 with num := (n5 : Int), mask := (n6 : Int) } rfl (setRow_heap _ _ _ _ _ _ HY.out.2.1)) rfl ⟨?_, below_setRow HY.out.1 (Nat.le_refl _) _⟩
        rw [HN2.out]
        rfl
  · have q3 : ((n1 : Int) == 3) = false := by rw [beq_eq_false_iff_ne]; omega
    have q4 : ((n1 : Int) == 4) = false := by rw [beq_eq_false_iff_ne]; omega
    have HP : Hid (readC (contO bs) = outP s4 (pureP (zP n1 n2 n3 n4))) := by show _ = _; rw [HO.out]; unfold restP; rw [if_neg h3, if_neg h4]
    clear h3 h4
    have HZ : Hid (readP bs = if (decide (s4 = some []) && goodP (zP n1 n2 n3 n4)) = true then some (zP n1 n2 n3 n4) else none) := by
      show _ = _
      rw [HC.out, HP.out, outP_pure]
    have HW : Hid (Below w.heap.size w W11 ∧ W11.heap[w.heap.size]? = some (.cells (pcells nilP).toArray 29 (0, 0)) ∧ W11.heap[W4.heap.size]? = some (.cells (pcells (zP n1 n2 n3 n4)).toArray 29 (0, 0)) ∧ ((zP n1 n2 n3 n4) : Pk).Fits) := ⟨keptW H2.out.1 M11.out.bel, (M11.out.bel.block _ (Array.getElem?_eq_some_iff.1 H2.out.2.1).1).trans H2.out.2.1, M11.out.hg, HF.out⟩
    obtain ⟨ra, rn, rc, tn, l, blk, hh, _, hs, _⟩ := M11.out.rd
    have hrn : rn = l.length := by obtain ⟨_, _, hv⟩ := hh.slice; injection hv
    rw [hrn] at blk
    have HS : Hid (s4 = left tn l) := hs
    have c0 : W11.cell? ⟨W2.heap.size, 0, none⟩ = some (.slice ra l.length rc) := by simp only [World.cell?]; rw [blk]; rfl
    have c1 : W11.cell? ⟨W2.heap.size, 1, none⟩ = some (.bool tn) := by simp only [World.cell?]; rw [blk]; rfl
    clear blk hh hs hrn
    cases tn
    rotate_left
    · have HN : Hid (readP bs = none) := by show readP bs = none; rw [HZ.out, HS.out]; rfl
      go_wp2_with (refine wpList_store_row rfl 29 _ _ rfl w.heap.size (pcells nilP).toArray rfl rfl 29 (pcells nilP).toArray HW.out.2.1 info12 rfl (one12 _) ?_)
      refine bodyPost_ret (results_pk_tmp rfl _ _ w.heap.size nilP rfl (setRow_heap _ _ _ _ _ _ HW.out.2.1)) rfl ⟨?_, below_setRow HW.out.1 (Nat.le_refl _) _⟩
      rw [HN.out]
      rfl
    cases l with
    | cons x l =>
      have HN : Hid (readP bs = none) := by show readP bs = none; rw [HZ.out, HS.out]; rfl
      have hp : (0 : Int) < (((x :: l).length : Nat) : Int) := by simp
      obtain ⟨ln, hln⟩ : ∃ z, (x :: l).length = z := ⟨_, rfl⟩
      rw [hln] at c0 hp
      clear hln
      go_wp2_with (refine wpList_store_row rfl 29 _ _ rfl w.heap.size (pcells nilP).toArray rfl rfl 29 (pcells nilP).toArray HW.out.2.1 info12 rfl (one12 _) ?_)
      refine bodyPost_ret (results_pk_tmp rfl _ _ w.heap.size nilP rfl (setRow_heap _ _ _ _ _ _ HW.out.2.1)) rfl ⟨?_, below_setRow HW.out.1 (Nat.le_refl _) _⟩
      rw [HN.out]
      rfl
    | nil =>
      have HN : Hid (readP bs = if goodP (zP n1 n2 n3 n4) = true then some (zP n1 n2 n3 n4) else none) := by show _ = _; rw [HZ.out, HS.out]; rfl
      have c0' : W11.cell? ⟨W2.heap.size, 0, none⟩ = some (.slice ra 0 rc) := c0
      clear c0
      have hG := rgoodP_any (zP n1 n2 n3 n4) W11 HW.out.2.2.2.m
      go_wp2_with (refine wpList_load_rowG (by first | rfl | (simp [Region.wanted]; done)) 29 _ rfl W4.heap.size rfl 29 (pcells (zP n1 n2 n3 n4)).toArray (0, 0) _ HW.out.2.2.1 Tryd.underlying29 rfl info12 ?_)
      refine hG.mono ?_
      rintro e Y ⟨rfl, bY⟩
      clear hG c0' c1
      have HY : Hid (Below w.heap.size w Y ∧ Y.heap[w.heap.size]? = some (.cells (pcells nilP).toArray 29 (0, 0)) ∧ Y.heap[W4.heap.size]? = some (.cells (pcells (zP n1 n2 n3 n4)).toArray 29 (0, 0))) := ⟨keptW HW.out.1 bY, (bY.block _ (Array.getElem?_eq_some_iff.1 HW.out.2.1).1).trans HW.out.2.1, (bY.block _ (Array.getElem?_eq_some_iff.1 HW.out.2.2.1).1).trans HW.out.2.2.1⟩
      clear bY
      cases hg : goodP (zP n1 n2 n3 n4)
      · have HN2 : Hid (readP bs = none) := by show readP bs = none; rw [HN.out, hg]; rfl
        clear hg
        go_wp2_with (refine wpList_store_row rfl 29 _ _ rfl w.heap.size (pcells nilP).toArray rfl rfl 29 (pcells nilP).toArray HY.out.2.1 info12 rfl (one12 _) ?_)
        refine bodyPost_ret (results_pk_tmp rfl _ _ w.heap.size nilP rfl (setRow_heap _ _ _ _ _ _ HY.out.2.1)) rfl ⟨?_, below_setRow HY.out.1 (Nat.le_refl _) _⟩
        rw [HN2.out]
        rfl
      · have HN2 : Hid (readP bs = some (zP n1 n2 n3 n4)) := by show readP bs = _; rw [HN.out, hg]; rfl
        clear hg
        go_wp2_with (first | refine wpList_load_row rfl 29 _ rfl W4.heap.size rfl 29 (pcells (zP n1 n2 n3 n4)).toArray (0, 0) _ HY.out.2.2 Tryd.underlying29 rfl info12 ?_ | refine wpList_store_row rfl 29 _ _ rfl w.heap.size (pcells (zP n1 n2 n3 n4)).toArray rfl rfl 29 (pcells nilP).toArray HY.out.2.1 info12 rfl (one12 _) ?_)
        refine bodyPost_ret (results_pk_tmp rfl _ _ w.heap.size (zP n1 n2 n3 n4) rfl (setRow_heap _ _ _ _ _ _ HY.out.2.1)) rfl ⟨?_, below_setRow HY.out.1 (Nat.le_refl _) _⟩
        rw [HN2.out]
        rfl
end Go.Proofs.YtopacoghnofliaaDoor

/-
  PacketReads' law.
-/
namespace Go.Proofs.YtopacoghnofliaaDoor
open Go.RowKit

set_option maxRecDepth 20000 in
set_option maxHeartbeats 8000000 in
theorem reads_law (v : Value) (bs : List UInt8) (w : World) (ht : Tab w) (hK : PKinds w) (hv : Holds w v bs) :
    Calls Tryd.prog 4 #[v] w fun e w' => e = .returned (.bool true) ∧ Below w.heap.size w w' := by
  obtain ⟨a, c, rfl⟩ := hv.slice
  have HW : Hid (Tab w ∧ PKinds w ∧ Holds w (.slice a bs.length c) bs) := ⟨ht, hK, hv⟩
  clear ht hK hv
  by_cases hl : 5000 < bs.length
  · have hL := livesP_any w HW.out.1 HW.out.2.1
    go_enter Tryd.func4, Tryd.ntmps4
    go_wp2_with fail
    refine hL.mono ?_
    rintro e V ⟨rfl, b⟩
    go_wp2
    go_ret
    exact ⟨rfl, b⟩
  have hR := readP_any (.slice a bs.length c) bs w HW.out.1 HW.out.2.1 HW.out.2.2 (by omega)
  unfold RdPost at hR
  obtain ⟨P0, hP0⟩ : ∃ z, pkOf (readP bs) = z := ⟨_, rfl⟩
  obtain ⟨er, her⟩ : ∃ z, errOf (readP bs) = z := ⟨_, rfl⟩
  rw [hP0, her] at hR
  have HP : Hid (pkOf (readP bs) = P0 ∧ errOf (readP bs) = er ∧ bs.length ≤ 100000) := ⟨hP0, her, by omega⟩
  clear hP0 her
  go_enter Tryd.func4, Tryd.ntmps4
  go_wp2_with fail
  refine hR.mono ?_
  rintro e w1 ⟨rfl, b1⟩
  clear hR
  obtain ⟨w2, f2⟩ : ∃ X, w1.alloc (.cells #[.int .i64 P0.kind, .int .i64 P0.fr, .int .i64 P0.dest, .int .u64 P0.ep, .int .u16 P0.num, .int .u64 P0.mask, .int .i64 P0.m.origin, .int .u64 P0.m.seq, .int .i64 P0.m.hop, .string P0.m.ex, .string P0.m.key, .string P0.m.body] 29) = X := ⟨_, rfl⟩
  have b2 : Below w1.heap.size w1 w2 := by rw [← f2]; exact box_below w1 _
  have x2 : w2.heap[w1.heap.size]? = some (.cells (pcells P0).toArray 29 (0, 0)) := by rw [← f2]; exact heap_alloc_new w1 _
  have H2 : Hid (Below w.heap.size w w2 ∧ w2.heap[w1.heap.size]? = some (.cells (pcells P0).toArray 29 (0, 0))) := ⟨keptW b1 b2, x2⟩
  have hR := rreadP_any (.slice a bs.length c) bs w2 (HW.out.2.2.below H2.out.1 (Nat.le_refl _)) HP.out.2.2
  unfold RdPost at hR
  rw [HP.out.1, HP.out.2.1] at hR
  clear b1 b2 x2
  go_wp2_with fail
  try rw [f2]
  refine hR.mono ?_
  rintro e w3 ⟨rfl, b3⟩
  clear hR
  obtain ⟨w4, f4⟩ : ∃ X, w3.alloc (.cells #[.int .i64 P0.kind, .int .i64 P0.fr, .int .i64 P0.dest, .int .u64 P0.ep, .int .u16 P0.num, .int .u64 P0.mask, .int .i64 P0.m.origin, .int .u64 P0.m.seq, .int .i64 P0.m.hop, .string P0.m.ex, .string P0.m.key, .string P0.m.body] 29) = X := ⟨_, rfl⟩
  have b4 : Below w3.heap.size w3 w4 := by rw [← f4]; exact box_below w3 _
  have x4 : w4.heap[w3.heap.size]? = some (.cells (pcells P0).toArray 29 (0, 0)) := by rw [← f4]; exact heap_alloc_new w3 _
  have b24 := keptW b3 b4
  have H4 : Hid (Below w.heap.size w w4 ∧ w4.heap[w1.heap.size]? = some (.cells (pcells P0).toArray 29 (0, 0)) ∧ w4.heap[w3.heap.size]? = some (.cells (pcells P0).toArray 29 (0, 0))) := ⟨keptW H2.out.1 b24, (b24.block _ (Array.getElem?_eq_some_iff.1 H2.out.2).1).trans H2.out.2, x4⟩
  have heq : ∀ X : World, (binOp .eql 29 (.agg (pcells P0).toArray) (.agg (pcells P0).toArray)).run Tryd.prog X = .ok (.bool true) X := fun X => by
    have h := run_eqP P0 P0 X
    rw [decide_eq_true rfl] at h
    exact h
  have hgA := eqGuardP
  have hL := livesP_any w4 (HW.out.1.below H4.out.1 HW.out.1.pos) (HW.out.2.1.below H4.out.1)
  clear b3 b4 b24 x4
  go_wp2_with (first | refine wpList_load_row rfl 29 _ rfl w1.heap.size rfl 29 (pcells P0).toArray (0, 0) _ H4.out.2.1 Tryd.underlying29 rfl info12 ?_ | refine wpList_load_row rfl 29 _ rfl w3.heap.size rfl 29 (pcells P0).toArray (0, 0) _ H4.out.2.2 Tryd.underlying29 rfl info12 ?_)
  try rw [f4]
  refine hL.mono ?_
  rintro e w5 ⟨rfl, b5⟩
  go_wp2
  go_ret
  exact ⟨rfl, keptW H4.out.1 b5⟩
end Go.Proofs.YtopacoghnofliaaDoor
