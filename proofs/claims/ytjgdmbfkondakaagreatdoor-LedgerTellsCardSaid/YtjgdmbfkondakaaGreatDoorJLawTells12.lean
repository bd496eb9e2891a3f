/-
  THE LAW LedgerTells.
-/
import Derived.Test.YtjgdmbfkondakaaGreatDoorJLives12
namespace Go.Proofs.YtjgdmbfkondakaaGreatDoor
open Go.RowKit

/-- What the law's loop keeps. -/
def LpT (w wr : World) (q p : Nat) (n : Int) (cv sv tv : Value) (chk : List UInt8) (sure waits : List (List UInt8)) (W : Nat) : Prop :=
  Holds w cv chk ∧ sure.length + waits.length ≤ W ∧ ∃ G l m first fr bk, Lv w wr q p G l m ∧ Tk false n chk sure waits 1048576 (16 + 130 * W) (2 + 20 * W) l m first fr bk ∧ Rz w wr G sv tv sure waits
set_option maxRecDepth 20000 in
set_option maxHeartbeats 8000000 in
theorem tellsL_law (va : Option Addr) (vc : Nat) (l : List Ac) (part : Int) (hp : 0 ≤ part ∧ part < 18446744073709551616) (w : World) (he : Env w) (hr : K.RowOf acells w (.slice va l.length vc) l) (hf : ∀ a ∈ l, a.Fits w) :
    Calls Tryz.prog 7 #[.slice va l.length vc, .int .u64 part] w fun e w' => e = .returned (.bool true) ∧ Below w.heap.size w w' := by
  have HL : Hid (∀ V, Below w.heap.size w V → Calls Tryz.prog 9 #[] V fun e w' => e = .returned (.bool true) ∧ Below V.heap.size V w') := fun V b => livesL_any V (he.below b)
  have hLi := lightL_any (.slice va l.length vc) l w hr hf
  obtain ⟨_, hlm, hat⟩ := acs_at hr
  have l63 : l.length ≤ 9223372036854775807 := by unfold maxLen at hlm; omega
  have HA : Hid _ := hat
  have HF : Hid (Env w ∧ ∀ a ∈ l, a.Fits w) := ⟨he, hf⟩
  clear hr hf hat he hlm
  have hpm : 0 ≤ part % 500 ∧ part % 500 < 500 := by omega
  go_enter Tryz.func7, Tryz.ntmps7
  go_wp2_with fail
  refine hLi.mono ?_
  rintro e w1 ⟨g, rfl, hg, b1⟩
  clear hLi
  cases g with
  | false =>
    have c := HL.out w1 b1
    clear hg
    go_wp2_with (go_at_call 9; refine c.mono ?_; rintro e w2 ⟨rfl, b2⟩)
    go_ret
    exact ⟨rfl, keptW b1 b2⟩
  | true =>
    have hW := hg rfl
    clear hg
    have hN := new_any 1048576 w1 (by decide) (by decide)
    go_wp2_with fail
    refine hN.mono ?_
    rintro e w2 ⟨p, rfl, F0, s0, f0, b0⟩
    have H0 : Sv w w2 p F0 (M.new 1048576) := ⟨s0, fun k hk => by have := f0 k hk; have := b1.size; omega, keptW b1 b0⟩
    obtain ⟨n, hn⟩ : ∃ n, 1 + part % 500 = n := ⟨_, rfl⟩
    have hn1 : 1 ≤ n ∧ n ≤ 1048576 := by omega
    have hO := H0.new HF.out.1 (by decide) (by decide) n hn1
    clear hN s0 f0 b0 H0 b1
    go_wp2_with fail
    try rw [hn]
    refine hO.mono ?_
    rintro e w3 ⟨q, cv, rv, rfl, G1, l1, m1, H1, -, T1⟩
    have HS : Hid (LpT w w3 q p n (.slice none 0 0) (.slice none 0 0) (.slice none 0 0) [] [] [] 0) := ⟨.inl ⟨rfl, rfl⟩, Nat.le_refl _, G1, l1, m1, _, _, _, H1, T1, rz_nil _ _ _⟩
    have HW : Hid (wts l l.length ≤ 200) := hW
    clear hO H1 T1 hn hpm hp hW
    go_wp2
    go_loopg [11, 12, 13, 41] l.length (fun g u11 u12 u13 u41 wr => ∃ (k : Nat) (chk : List UInt8) (sure waits : List (List UInt8)), u41 = .int .i64 k ∧ k ≤ l.length ∧ g = l.length - k ∧ Hid (LpT w wr q p n u11 u12 u13 chk sure waits (wts l k)))
    case atStart => exact ⟨0, [], [], [], rfl, Nat.zero_le _, rfl, HS⟩
    case round =>
      obtain ⟨k, chk, sure, waits, rfl, hk, rfl, HK⟩ := hrel
      clear HS
      by_cases hlt : k < l.length
      · have hlt' : (k : Int) < (l.length : Int) := by omega
        obtain ⟨b, off, rfl, g0', g1', g2', g3', g4'⟩ := HA.out k hlt
        obtain ⟨bl, hbl, _⟩ := (HF.out.2 _ (List.getElem_mem hlt)).d
        have hws := wts_succ l k hlt
        have hwl := wts_le l (k + 1) (by omega)
        have hW200 := HW.out
        obtain ⟨x, hx⟩ : ∃ x, l[k] = x := ⟨_, rfl⟩
        rw [hx] at g0' g1' g2' g3' g4' hbl hws
        obtain ⟨X, hX⟩ : ∃ X, wr.alloc (.cells #[.int .i64 x.kind, .slice x.da x.dl x.dc, .string x.name, .int .i64 x.n, .int .i64 x.m] 38) = X := ⟨_, rfl⟩
        obtain ⟨x0, x1⟩ := ac_box wr x hX
        have bX : Below wr.heap.size wr X := by rw [← hX]; exact (Below.refl _ _).alloc (Nat.le_refl _) _
        obtain ⟨hcv, hwt, G, lg, m, first, fr, bk, H, T, Z⟩ := HK.out
        have hbel := H.bel
        have g0 := cell_on hbel g0'
        have g1 := cell_on hbel g1'
        have g2 := cell_on hbel g2'
        have g3 := cell_on hbel g3'
        have g4 := cell_on hbel g4'
        have nX : ¬ G wr.heap.size := fun hk => by have := H.lts _ hk; omega
        have HX := H.go bX
        have ZX := Z.go bX
        have hdl : x.dl = bl.length := by
          obtain ⟨_, _, e⟩ := hbl.slice
          injection e
        have hb50 : bl.length + 8 + 64 ≤ 130 * x.wt := by unfold Ac.wt; omega
        have hbsm : bl.length ≤ 10000 := by unfold Ac.wt at hws; omega
        have HI : Hid (Holds w (.slice x.da x.dl x.dc) bl ∧ bl.length + 8 + 64 ≤ 130 * x.wt ∧ bl.length ≤ 10000 ∧ wts l (k + 1) = wts l k + x.wt ∧ 1 ≤ x.wt ∧ wts l (k + 1) ≤ 200) := ⟨hbl, hb50, hbsm, hws, by unfold Ac.wt; omega, by omega⟩
        have HT : Hid (Tk false n chk sure waits 1048576 (16 + 130 * wts l k) (2 + 20 * wts l k) lg m first fr bk) := T
        have HZ : Hid (Rz w X G u12 u13 sure waits) := ZX
        have HV : Hid (Lv w X q p G lg m) := HX
        have HC : Hid (Holds w u11 chk ∧ sure.length + waits.length ≤ wts l k) := ⟨hcv, hwt⟩
        have HnX : Hid (¬ G wr.heap.size) := nX
        clear g0' g1' g2' g3' g4' hbel hbl hws hwl hx hcv hwt H T Z ZX HX HK nX bX hb50 hbsm hdl hW200
        obtain ⟨kd, hkd⟩ : ∃ z, x.kind = z := ⟨_, rfl⟩
        rw [hkd] at x0 g0 hX
        clear hkd
        obtain ⟨xa, hxa⟩ : ∃ z, x.da = z := ⟨_, rfl⟩
        obtain ⟨xl, hxl⟩ : ∃ z, x.dl = z := ⟨_, rfl⟩
        obtain ⟨xc, hxc⟩ : ∃ z, x.dc = z := ⟨_, rfl⟩
        rw [hxa, hxl, hxc] at x1 g1 hX HI
        clear hxa hxl hxc
        by_cases hk0 : kd = 0
        · subst hk0
          have hA := HV.out.add0 HT.out HF.out.1 (.slice xa xl xc) bl (HV.out.hold HI.out.1) (by have := HI.out; omega) (by have := HI.out; omega) (by have := HI.out; have := HC.out; omega)
          go_wp2_with fail
          try rw [hX]
          refine hA.mono ?_
          rintro e Y ⟨rfl, G1, l1, H1, mv1, T1⟩
          have y1 := cell_moved x1 mv1 HnX.out
          have Z1 := HZ.out.move mv1
          obtain ⟨ta, tc, rfl⟩ := Z1.t.slice
          obtain ⟨B, own, hBl, hBh⟩ := Z1.t
          have HG : Hid (Rz w Y G1 u12 (.slice ta waits.length tc) sure waits ∧ Lv w Y q p G1 l1 m) := ⟨Z1, H1⟩
          have HT1 : Hid (Tk false n chk sure (waits ++ [bl]) 1048576 (16 + 130 * wts l k + bl.length + 8) (2 + 20 * wts l k) l1 m first fr bk) := T1
          have HO : Hid (K.OwnOf bvc 1 31 Y w.heap.size (.slice ta waits.length tc) B ∧ B.length = waits.length ∧ ∀ (j : Nat) (u : Bv) (x : List UInt8), B[j]? = some u → waits[j]? = some x → Holds w u.v x) := ⟨own, hBl, hBh⟩
          have HBw : Hid (B.length ≤ 1000) := by have h1 := HC.out; have h2 := HI.out; show B.length ≤ 1000; omega
          have HYb : Hid (w.heap.size ≤ Y.heap.size) := H1.bel.size
          clear hA H1 mv1 T1 Z1 own hBl hBh x0 x1 g0 g1 g2 g3 g4
          obtain ⟨ii, hii, hiz, his, hib⟩ := bytesInfo
          go_wp2_with (at_builtin; refine K.wpList_append_rows (enc := bvc) rfl (.tmp 54) (.tmp 57) 32 rfl Tryz.underlying32 ii _ 24 hii hiz his hib rfl w.heap.size (.slice ta waits.length tc) (.slice (some ⟨Y.heap.size, 0, none⟩) 1 1) B [⟨xa, xl, xc⟩] rfl rfl (HO.out.1.alloc _) (bv_one Y xa xl xc) (by have := HBw.out; unfold maxLen; simp; omega) (by have := HBw.out; simp; omega) (by have := HYb.out; simp; omega) ?_; intro v' w5 own5 gr5 nw5)
          have hG5 := HG.out.2.go ((Below.refl _ _).alloc (Nat.le_refl _) (.cells #[.slice xa xl xc] 31))
          have HVe : Hid (Lv w w5 q p G1 l1 m) := hG5.grew (HO.out.1.alloc _) gr5 HG.out.1.nt
          have HZe : Hid (Rz w w5 G1 u12 v' sure (waits ++ [bl])) := (HG.out.1.go ((Below.refl _ _).alloc (Nat.le_refl _) (.cells #[.slice xa xl xc] 31))).grewT (dat_more own5 HO.out.2.1 HO.out.2.2 rfl (fun j u y hu hy => by
            cases j with
            | zero =>
              simp at hu hy
              rw [← hu, ← hy]
              exact HI.out.1
            | succ j => simp at hu)) gr5 nw5 hG5.lts
          have HTe := HT1
          clear HG HT1 HO HBw HYb hG5 own5 gr5 nw5 y1 HV HT HZ
          have hP := HVe.out.pending HTe.out
          obtain ⟨ta, tc, rfl⟩ := HZe.out.t.slice
          go_wp2_with fail
          refine hP.mono ?_
          rintro e V1 ⟨rfl, rfl⟩
          clear hP
          have hO := HVe.out.open HTe.out HF.out.1 (by have := HI.out; omega) (by have := HI.out; omega) n hn1
          go_wp2_with fail
          refine hO.mono ?_
          rintro e V2 ⟨q2, cv2, rv2, base2, rfl, ⟨G2, m2, H2, mv2, T2⟩, hc2, -, hr2, -⟩
          clear hO
          have HZ2 : Hid (Rz w V2 G2 u12 (.slice ta (waits ++ [bl]).length tc) sure (waits ++ [bl])) := HZe.out.move mv2
          have HV2 : Hid (Lv w V2 q p G2 l1 m2) := H2
          have HT2 : Hid (Tk false n chk sure (waits ++ [bl]) 1048576 _ _ l1 m2 _ _ _) := T2
          have hSm := same_any cv2 u11 chk chk V2 hc2 (HC.out.1.below H2.bel (Nat.le_refl _))
          have hbb : (chk == chk) = true := by simp
          rw [hbb] at hSm
          have hSl := sameL_any rv2 u12 sure sure V2 hr2.rw (HZ2.out.s.rw H2.bel)
          have hbl : (sure == sure) = true := by simp
          rw [hbl] at hSl
          clear hbb hbl H2 T2 hc2 hr2 mv2 HVe HTe HZe
          go_wp2_with fail
          refine hSm.mono ?_
          rintro e V3 ⟨rfl, rfl⟩
          go_wp2_with fail
          refine hSl.mono ?_
          rintro e V4 ⟨rfl, b4⟩
          clear hSm hSl
          go_wp2
          go_roundg (l.length - (k + 1))
          case measure => omega
          case rel => exact ⟨k + 1, chk, sure, (waits ++ [bl]), by go_num, by omega, rfl, HC.out.1, by have := HC.out; have := HI.out; simp; omega, G2, _, m2, _, _, _, HV2.out.go b4, HT2.out.mono (by have := HI.out; omega) (by have := HI.out; omega), (by rw [show waits.length + 1 = (waits ++ [bl]).length by simp]; exact HZ2.out.go b4)⟩
        by_cases hk1 : kd = 1
        · subst hk1
          have hA := HV.out.flush0 HT.out HF.out.1 (by have := HI.out; omega) (by have := HI.out; omega)
          go_wp2_with fail
          try rw [hX]
          refine hA.mono ?_
          rintro e Y ⟨rfl, G1, l1, m1, fr1, bk1, H1, mv1, T1⟩
          have Z1 := HZ.out.move mv1
          obtain ⟨sa, sc, rfl⟩ := Z1.s.slice
          obtain ⟨ta, tc, rfl⟩ := Z1.t.slice
          obtain ⟨B, own, hBl, hBh⟩ := Z1.s
          obtain ⟨D, ownD, hDl, hDh⟩ := Z1.t
          have HG : Hid (Rz w Y G1 (.slice sa sure.length sc) (.slice ta waits.length tc) sure waits ∧ Lv w Y q p G1 l1 m1) := ⟨Z1, H1⟩
          have HTe : Hid (Tk false n chk (sure ++ waits) [] 1048576 (16 + 130 * wts l k + 16) (2 + 20 * wts l k + 5) l1 m1 first fr1 bk1) := T1
          have HO : Hid (K.OwnOf bvc 1 31 Y w.heap.size (.slice sa sure.length sc) B ∧ B.length = sure.length ∧ ∀ (j : Nat) (u : Bv) (x : List UInt8), B[j]? = some u → sure[j]? = some x → Holds w u.v x) := ⟨own, hBl, hBh⟩
          have HD : Hid (K.RowOf bvc Y (.slice ta waits.length tc) D ∧ D.length = waits.length ∧ ∀ (j : Nat) (u : Bv) (x : List UInt8), D[j]? = some u → waits[j]? = some x → Holds w u.v x) := ⟨ownD.rng, hDl, hDh⟩
          have HBw : Hid (B.length ≤ 1000 ∧ D.length ≤ 1000) := by have h1 := HC.out; have h2 := HI.out; show B.length ≤ 1000 ∧ D.length ≤ 1000; omega
          have HYb : Hid (w.heap.size ≤ Y.heap.size) := H1.bel.size
          clear hA H1 mv1 T1 Z1 own ownD hBl hBh hDl hDh x0 x1 g0 g1 g2 g3 g4
          obtain ⟨ii, hii, hiz, his, hib⟩ := bytesInfo
          go_wp2_with (at_builtin; refine K.wpList_append_rows (enc := bvc) rfl (.tmp 64) (.tmp 65) 32 rfl Tryz.underlying32 ii _ 24 hii hiz his hib rfl w.heap.size (.slice sa sure.length sc) (.slice ta waits.length tc) B D rfl rfl HO.out.1 HD.out.1 (by have := HBw.out; unfold maxLen; omega) (by have := HBw.out; omega) HYb.out ?_; intro v' w5 own5 gr5 nw5)
          have HVe : Hid (Lv w w5 q p G1 l1 m1) := HG.out.2.grew HO.out.1 gr5 HG.out.1.ns
          have HZe : Hid (Rz w w5 G1 v' (.slice none 0 0) (sure ++ waits) []) := HG.out.1.grewS (dat_more own5 HO.out.2.1 HO.out.2.2 HD.out.2.1 HD.out.2.2) nw5 HG.out.2.lts
          clear HG HO HD HBw HYb own5 gr5 nw5 HV HT HZ
          have hP := HVe.out.pending HTe.out
          go_wp2_with fail
          refine hP.mono ?_
          rintro e V1 ⟨rfl, rfl⟩
          clear hP
          have hO := HVe.out.open HTe.out HF.out.1 (by have := HI.out; omega) (by have := HI.out; omega) n hn1
          go_wp2_with fail
          refine hO.mono ?_
          rintro e V2 ⟨q2, cv2, rv2, base2, rfl, ⟨G2, m2, H2, mv2, T2⟩, hc2, -, hr2, -⟩
          clear hO
          have HZ2 : Hid (Rz w V2 G2 v' (.slice none 0 0) (sure ++ waits) ([] : List (List UInt8))) := HZe.out.move mv2
          have HV2 : Hid (Lv w V2 q p G2 l1 m2) := H2
          have HT2 : Hid (Tk false n chk (sure ++ waits) ([] : List (List UInt8)) 1048576 _ _ l1 m2 _ _ _) := T2
          have hSm := same_any cv2 u11 chk chk V2 hc2 (HC.out.1.below H2.bel (Nat.le_refl _))
          have hbb : (chk == chk) = true := by simp
          rw [hbb] at hSm
          have hSl := sameL_any rv2 v' (sure ++ waits) (sure ++ waits) V2 hr2.rw (HZ2.out.s.rw H2.bel)
          have hbl : ((sure ++ waits) == (sure ++ waits)) = true := by simp
          rw [hbl] at hSl
          clear hbb hbl H2 T2 hc2 hr2 mv2 HVe HTe HZe
          go_wp2_with fail
          refine hSm.mono ?_
          rintro e V3 ⟨rfl, rfl⟩
          go_wp2_with fail
          refine hSl.mono ?_
          rintro e V4 ⟨rfl, b4⟩
          clear hSm hSl
          go_wp2
          go_roundg (l.length - (k + 1))
          case measure => omega
          case rel => exact ⟨k + 1, chk, (sure ++ waits), ([] : List (List UInt8)), by go_num, by omega, rfl, HC.out.1, by have := HC.out; have := HI.out; simp; omega, G2, _, m2, _, _, _, HV2.out.go b4, HT2.out.mono (by have := HI.out; omega) (by have := HI.out; omega), HZ2.out.go b4⟩
        by_cases hk2 : kd = 2
        · subst hk2
          have hA := HV.out.mark0 HT.out HF.out.1 (.slice xa xl xc) bl (HV.out.hold HI.out.1) (by have := HI.out; omega) (by have := HI.out; omega) (by have := HI.out; omega) (by have := HI.out; have := HC.out; omega)
          go_wp2_with fail
          try rw [hX]
          refine hA.mono ?_
          rintro e Y ⟨rfl, G1, l1, m1, n1, H1, mv1, T1⟩
          have y1 := cell_moved x1 mv1 HnX.out
          have hP := H1.parts T1 HF.out.1 (by have := HI.out; omega)
          have HTe : Hid (Tk false n bl [] [] 1048576 (16 + 130 * wts l k + bl.length + 64) (2 + 20 * wts l k + 14) l1 m1 n1 [] []) := T1
          have HV1 : Hid (Lv w Y q p G1 l1 m1) := H1
          clear hA H1 mv1 T1 x0 x1 g0 g1 g2 g3 g4 HV HT HZ
          go_wp2_with fail
          refine hP.mono ?_
          rintro e Y2 ⟨pa, pc, rfl, b2⟩
          have z1 := cell_on b2 y1
          have HVe : Hid (Lv w Y2 q p G1 l1 m1) := HV1.out.go b2
          have HZe : Hid (Rz w Y2 G1 (.slice none 0 0) (.slice none 0 0) [] []) := rz_nil _ _ _
          clear hP HV1 b2 y1
          have hP := HVe.out.pending HTe.out
          go_wp2_with fail
          refine hP.mono ?_
          rintro e V1 ⟨rfl, rfl⟩
          clear hP
          have hO := HVe.out.open HTe.out HF.out.1 (by have := HI.out; omega) (by have := HI.out; omega) n hn1
          go_wp2_with fail
          refine hO.mono ?_
          rintro e V2 ⟨q2, cv2, rv2, base2, rfl, ⟨G2, m2, H2, mv2, T2⟩, hc2, -, hr2, -⟩
          clear hO
          have HZ2 : Hid (Rz w V2 G2 (.slice none 0 0) (.slice none 0 0) ([] : List (List UInt8)) ([] : List (List UInt8))) := HZe.out.move mv2
          have HV2 : Hid (Lv w V2 q p G2 l1 m2) := H2
          have HT2 : Hid (Tk false n bl ([] : List (List UInt8)) ([] : List (List UInt8)) 1048576 _ _ l1 m2 _ _ _) := T2
          have hSm := same_any cv2 (.slice xa xl xc) bl bl V2 hc2 (HI.out.1.below H2.bel (Nat.le_refl _))
          have hbb : (bl == bl) = true := by simp
          rw [hbb] at hSm
          have hSl := sameL_any rv2 (.slice none 0 0) ([] : List (List UInt8)) ([] : List (List UInt8)) V2 hr2.rw (HZ2.out.s.rw H2.bel)
          have hbl : (([] : List (List UInt8)) == ([] : List (List UInt8))) = true := by simp
          rw [hbl] at hSl
          clear hbb hbl H2 T2 hc2 hr2 mv2 HVe HTe HZe
          go_wp2_with fail
          refine hSm.mono ?_
          rintro e V3 ⟨rfl, rfl⟩
          go_wp2_with fail
          refine hSl.mono ?_
          rintro e V4 ⟨rfl, b4⟩
          clear hSm hSl
          go_wp2
          go_roundg (l.length - (k + 1))
          case measure => omega
          case rel => exact ⟨k + 1, bl, ([] : List (List UInt8)), ([] : List (List UInt8)), by go_num, by omega, rfl, HI.out.1, by have := HC.out; have := HI.out; simp, G2, _, m2, _, _, _, HV2.out.go b4, HT2.out.mono (by have := HI.out; omega) (by have := HI.out; omega), HZ2.out.go b4⟩
        have HVe := HV
        have HTe := HT
        have HZe := HZ
        have hP := HVe.out.pending HTe.out
        obtain ⟨ta, tc, rfl⟩ := HZe.out.t.slice
        go_wp2_with fail
        try rw [hX]
        refine hP.mono ?_
        rintro e V1 ⟨rfl, rfl⟩
        clear hP
        have hO := HVe.out.open HTe.out HF.out.1 (by have := HI.out; omega) (by have := HI.out; omega) n hn1
        go_wp2_with fail
        refine hO.mono ?_
        rintro e V2 ⟨q2, cv2, rv2, base2, rfl, ⟨G2, m2, H2, mv2, T2⟩, hc2, -, hr2, -⟩
        clear hO
        have HZ2 : Hid (Rz w V2 G2 u12 (.slice ta waits.length tc) sure waits) := HZe.out.move mv2
        have HV2 : Hid (Lv w V2 q p G2 lg m2) := H2
        have HT2 : Hid (Tk false n chk sure waits 1048576 _ _ lg m2 _ _ _) := T2
        have hSm := same_any cv2 u11 chk chk V2 hc2 (HC.out.1.below H2.bel (Nat.le_refl _))
        have hbb : (chk == chk) = true := by simp
        rw [hbb] at hSm
        have hSl := sameL_any rv2 u12 sure sure V2 hr2.rw (HZ2.out.s.rw H2.bel)
        have hbl : (sure == sure) = true := by simp
        rw [hbl] at hSl
        clear hbb hbl H2 T2 hc2 hr2 mv2 HVe HTe HZe
        go_wp2_with fail
        refine hSm.mono ?_
        rintro e V3 ⟨rfl, rfl⟩
        go_wp2_with fail
        refine hSl.mono ?_
        rintro e V4 ⟨rfl, b4⟩
        clear hSm hSl
        go_wp2
        go_roundg (l.length - (k + 1))
        case measure => omega
        case rel => exact ⟨k + 1, chk, sure, waits, by go_num, by omega, rfl, HC.out.1, by have := HC.out; have := HI.out; omega, G2, _, m2, _, _, _, HV2.out.go b4, HT2.out.mono (by have := HI.out; omega) (by have := HI.out; omega), HZ2.out.go b4⟩
      · have hlt' : ¬ (k : Int) < (l.length : Int) := by omega
        obtain ⟨_, _, G, lg, m, first, fr, bk, H, T, Z⟩ := HK.out
        have c := HL.out wr H.bel
        have HB : Hid (Below w.heap.size w wr) := H.bel
        clear H T Z HK
        go_wp2_with (go_at_call 9; refine c.mono ?_; rintro e w2 ⟨rfl, b2⟩)
        go_ret
        exact ⟨rfl, keptW HB.out b2⟩
end Go.Proofs.YtjgdmbfkondakaaGreatDoor
