/-
  THE LAW LedgerKeeps.
-/
import Derived.Test.YtjgdmbfkondakaaGreatDoorJKeeps12
namespace Go.Proofs.YtjgdmbfkondakaaGreatDoor
open Go.RowKit

/-- What the law's loop keeps. -/
def LpK (w wr : World) (q p : Nat) (cv sv tv : Value) (chk : List UInt8) (sure waits : List (List UInt8)) (W : Nat) : Prop :=
  Holds w cv chk ∧ sure.length + waits.length ≤ W ∧ ∃ G l m first fr bk, Lv w wr q p G l m ∧ Tk true 80 chk sure waits 1048576 (16 + 130 * W) (2 + 20 * W) l m first fr bk ∧ Rz w wr G sv tv sure waits
set_option maxRecDepth 20000 in
set_option maxHeartbeats 8000000 in
theorem keepsL_law (va : Option Addr) (vc : Nat) (l : List Ac) (cn ck an ak : Int) (hcn : 0 ≤ cn ∧ cn < 18446744073709551616) (hck : -9223372036854775808 ≤ ck ∧ ck < 9223372036854775808) (han : 0 ≤ an ∧ an < 18446744073709551616) (hak : -9223372036854775808 ≤ ak ∧ ak < 9223372036854775808) (w : World) (he : Env w) (hr : K.RowOf acells w (.slice va l.length vc) l) (hf : ∀ a ∈ l, a.Fits w) :
    Calls Tryz.prog 3 #[.slice va l.length vc, .agg #[.int .u64 cn, .int .i64 ck], .agg #[.int .u64 an, .int .i64 ak]] w fun e w' => e = .returned (.bool true) ∧ Below w.heap.size w w' := by
  obtain ⟨w0, fold⟩ : ∃ w0, (w.alloc (.cells #[.int .u64 cn, .int .i64 ck] 25)).alloc (.cells #[.int .u64 an, .int .i64 ak] 25) = w0 := ⟨_, rfl⟩
  have b0 : Below w.heap.size w w0 := by rw [← fold]; exact ((Below.refl _ _).alloc (Nat.le_refl _) _).alloc (by simp) _
  have hbx : w0.heap[w.heap.size]? = some (.cells #[.int .u64 cn, .int .i64 ck] 25) := by rw [← fold]; exact (Below.heap_alloc _ _ _ (by simp)).trans (heap_alloc_new w _)
  have hby : w0.heap[w.heap.size + 1]? = some (.cells #[.int .u64 an, .int .i64 ak] 25) := by
    rw [← fold]
    have := heap_alloc_new (w.alloc (.cells #[.int .u64 cn, .int .i64 ck] 25)) (.cells #[.int .u64 an, .int .i64 ak] 25)
    rwa [World.size_alloc] at this
  have HBX : Hid (∀ V, Below w0.heap.size w0 V → V.cell? ⟨w.heap.size, 0, none⟩ = some (.int .u64 cn) ∧ V.cell? ⟨w.heap.size, 1, none⟩ = some (.int .i64 ck) ∧ V.cell? ⟨w.heap.size + 1, 0, none⟩ = some (.int .u64 an) ∧ V.cell? ⟨w.heap.size + 1, 1, none⟩ = some (.int .i64 ak)) := fun V b =>
    ⟨cell_on b (by simp only [World.cell?]; rw [hbx]; rfl), cell_on b (by simp only [World.cell?]; rw [hbx]; rfl), cell_on b (by simp only [World.cell?]; rw [hby]; rfl), cell_on b (by simp only [World.cell?]; rw [hby]; rfl)⟩
  replace he := he.below b0
  replace hr := hr.below b0 (Nat.le_refl _)
  replace hf : ∀ a ∈ l, a.Fits w0 := fun a ha => (hf a ha).below b0
  have HL : Hid (∀ V, Below w0.heap.size w0 V → Calls Tryz.prog 9 #[] V fun e w' => e = .returned (.bool true) ∧ Below V.heap.size V w') := fun V b => livesL_any V (he.below b)
  have hLi := lightL_any (.slice va l.length vc) l w0 hr hf
  obtain ⟨_, hlm, hat⟩ := acs_at hr
  have l63 : l.length ≤ 9223372036854775807 := by unfold maxLen at hlm; omega
  have HA : Hid _ := hat
  have HF : Hid (Env w0 ∧ (∀ a ∈ l, a.Fits w0) ∧ Below w.heap.size w w0) := ⟨he, hf, b0⟩
  have HNk : Hid ((-9223372036854775808 ≤ ck ∧ ck < 9223372036854775808) ∧ (-9223372036854775808 ≤ ak ∧ ak < 9223372036854775808)) := ⟨hck, hak⟩
  clear hr hf hat he hlm b0 hbx hby hck hak
  have hpm : 0 ≤ cn % 60 ∧ cn % 60 < 60 := by omega
  have hpn : 0 ≤ an % 6 ∧ an % 6 < 6 := by omega
  go_enter Tryz.func3, Tryz.ntmps3
  go_wp2_with fail
  try rw [fold]
  refine hLi.mono ?_
  rintro e w1 ⟨g, rfl, hg, b1⟩
  clear hLi fold
  cases g with
  | false =>
    have c := HL.out w1 b1
    clear hg
    go_wp2_with (go_at_call 9; refine c.mono ?_; rintro e w2 ⟨rfl, b2⟩)
    go_ret
    exact ⟨rfl, keptW HF.out.2.2 (keptW b1 b2)⟩
  | true =>
    have hW := hg rfl
    clear hg
    have hN := new_any 1048576 w1 (by decide) (by decide)
    go_wp2_with fail
    refine hN.mono ?_
    rintro e w2 ⟨p, rfl, F0, s0, f0, b0⟩
    have H0 : Sv w0 w2 p F0 (M.new 1048576) := ⟨s0, fun k hk => by have := f0 k hk; have := b1.size; omega, keptW b1 b0⟩
    have hO := H0.new HF.out.1 (by decide) (by decide) 80 (by decide)
    clear hN s0 f0 b0 H0 b1
    go_wp2_with fail
    refine hO.mono ?_
    rintro e w3 ⟨q, cv, rv, rfl, G1, l1, m1, H1, -, T1⟩
    obtain ⟨pn, hpnn⟩ : ∃ z, 1 + cn % 60 = z := ⟨_, rfl⟩
    obtain ⟨F1, S1, _, hgo1⟩ := H1.store
    have hPl := plan_any p F1 m1 pn ck w3 S1.st
    obtain ⟨e1, T1'⟩ := T1.planned pn ck (by omega) HNk.out.1
    rw [e1] at hPl
    obtain ⟨y0, y1, y2, y3⟩ := HBX.out w3 H1.bel
    clear hO T1 e1
    go_wp2_with fail
    try rw [hpnn]
    refine hPl.mono ?_
    rintro e w4 ⟨rfl, F2, s2, mv2⟩
    obtain ⟨G2, H2, _, _⟩ := hgo1 w4 F2 _ s2 mv2
    have HS : Hid (LpK w0 w4 q p (.slice none 0 0) (.slice none 0 0) (.slice none 0 0) [] [] [] 0) := ⟨.inl ⟨rfl, rfl⟩, Nat.le_refl _, G2, l1, _, _, _, _, H2, T1', rz_nil _ _ _⟩
    have HW : Hid (wts l l.length ≤ 200) := hW
    clear hPl H1 H2 T1' S1 hgo1 s2 mv2 hW y0 y1 y2 y3 hpnn hcn hpm
    go_wp2
    go_loopg [12, 13, 14, 15, 16, 57] l.length (fun g u12 u13 u14 u15 u16 u57 wr => ∃ (k : Nat) (chk : List UInt8) (sure waits : List (List UInt8)), u57 = .int .i64 k ∧ u15 = .slice none 0 0 ∧ u16 = .bool false ∧ k ≤ l.length ∧ g = l.length - k ∧ Hid (LpK w0 wr q p u12 u13 u14 chk sure waits (wts l k)))
    case atStart => exact ⟨0, [], [], [], rfl, rfl, rfl, Nat.zero_le _, rfl, HS⟩
    case round =>
      obtain ⟨k, chk, sure, waits, rfl, rfl, rfl, hk, rfl, HK⟩ := hrel
      clear HS
      by_cases hlt : k < l.length
      · have hlt' : (k : Int) < (l.length : Int) := by omega
        obtain ⟨b, off, rfl, g0', g1', g2', g3', g4'⟩ := HA.out k hlt
        obtain ⟨bl, hbl, _⟩ := (HF.out.2.1 _ (List.getElem_mem hlt)).d
        have hws := wts_succ l k hlt
        have hwl := wts_le l (k + 1) (by omega)
        have hW200 := HW.out
        obtain ⟨x, hx⟩ : ∃ x, l[k] = x := ⟨_, rfl⟩
        rw [hx] at g0' g1' g2' g3' g4' hbl hws
        obtain ⟨X, hX⟩ : ∃ X, wr.alloc (.cells #[.int .i64 x.kind, .slice x.da x.dl x.dc, .string x.name, .int .i64 x.n, .int .i64 x.m] 38) = X := ⟨_, rfl⟩
        obtain ⟨x0, x1⟩ := ac_box wr x hX
        have bX : Below wr.heap.size wr X := by rw [← hX]; exact (Below.refl _ _).alloc (Nat.le_refl _) _
        obtain ⟨hcv, hwt, G, lg, m, first, fr, bk, H, T, Z⟩ := HK.out
        have hbel := H.bel
        have g0 := cell_on hbel g0'
        have g1 := cell_on hbel g1'
        have g2 := cell_on hbel g2'
        have g3 := cell_on hbel g3'
        have g4 := cell_on hbel g4'
        have nX : ¬ G wr.heap.size := fun hk => by have := H.lts _ hk; omega
        have HX := H.go bX
        have ZX := Z.go bX
        obtain ⟨sa, sc, rfl⟩ := ZX.s.slice
        obtain ⟨ta, tc, rfl⟩ := ZX.t.slice
        obtain ⟨ca, cc, rfl⟩ := hcv.slice
        have hdl : x.dl = bl.length := by
          obtain ⟨_, _, e⟩ := hbl.slice
          injection e
        have hb50 : bl.length + 8 + 64 ≤ 130 * x.wt := by unfold Ac.wt; omega
        have hbsm : bl.length ≤ 10000 := by unfold Ac.wt at hws; omega
        have HI : Hid (Holds w0 (.slice x.da x.dl x.dc) bl ∧ bl.length + 8 + 64 ≤ 130 * x.wt ∧ bl.length ≤ 10000 ∧ wts l (k + 1) = wts l k + x.wt ∧ 1 ≤ x.wt ∧ wts l (k + 1) ≤ 200) := ⟨hbl, hb50, hbsm, hws, by unfold Ac.wt; omega, by omega⟩
        have HT : Hid (Tk true 80 chk sure waits 1048576 (16 + 130 * wts l k) (2 + 20 * wts l k) lg m first fr bk) := T
        have HZ : Hid (Rz w0 X G (.slice sa sure.length sc) (.slice ta waits.length tc) sure waits) := ZX
        have HV : Hid (Lv w0 X q p G lg m) := HX
        have HC : Hid (Holds w0 (.slice ca chk.length cc) chk ∧ sure.length + waits.length ≤ wts l k) := ⟨hcv, hwt⟩
        have HnX : Hid (¬ G wr.heap.size) := nX
        clear g0' g1' g2' g3' g4' hbel hbl hws hwl hx hcv hwt H T Z ZX HX HK nX bX hb50 hbsm hdl hW200
        obtain ⟨kd, hkd⟩ : ∃ z, x.kind = z := ⟨_, rfl⟩
        rw [hkd] at x0 g0 hX
        clear hkd
        obtain ⟨xa, hxa⟩ : ∃ z, x.da = z := ⟨_, rfl⟩
        obtain ⟨xl, hxl⟩ : ∃ z, x.dl = z := ⟨_, rfl⟩
        obtain ⟨xc, hxc⟩ : ∃ z, x.dc = z := ⟨_, rfl⟩
        rw [hxa, hxl, hxc] at x1 g1 hX HI
        clear hxa hxl hxc
        by_cases hk0 : kd = 0
        · subst hk0
          have hA := HV.out.add HT.out HF.out.1 (.slice xa xl xc) bl (HV.out.hold HI.out.1) (by have := HI.out; omega)
          go_wp2_with fail
          try rw [hX]
          refine hA.mono ?_
          rintro e Y ⟨r, rfl, G1, l1, H1, mv1, hcase⟩
          obtain ⟨rfl, _, _, T1⟩ : r = 0 ∧ bl.length ≤ 1048512 ∧ waits.length < 1000 ∧ Tk true 80 chk sure (waits ++ [bl]) 1048576 (16 + 130 * wts l k + bl.length + 8) (2 + 20 * wts l k) l1 m first fr bk := by
            rcases hcase with h | ⟨_, h, _⟩
            · exact h
            · have h1 := HI.out; have h2 := HC.out; omega
          have y1 := cell_moved x1 mv1 HnX.out
          have Z1 := HZ.out.move mv1
          obtain ⟨B, own, hBl, hBh⟩ := Z1.t
          have HG : Hid (Rz w0 Y G1 (.slice sa sure.length sc) (.slice ta waits.length tc) sure waits ∧ Lv w0 Y q p G1 l1 m) := ⟨Z1, H1⟩
          have HT1 : Hid (Tk true 80 chk sure (waits ++ [bl]) 1048576 (16 + 130 * wts l k + bl.length + 8) (2 + 20 * wts l k) l1 m first fr bk) := T1
          have HO : Hid (K.OwnOf bvc 1 31 Y w0.heap.size (.slice ta waits.length tc) B ∧ B.length = waits.length ∧ ∀ (j : Nat) (u : Bv) (x : List UInt8), B[j]? = some u → waits[j]? = some x → Holds w0 u.v x) := ⟨own, hBl, hBh⟩
          have HBw : Hid (B.length ≤ 1000) := by have h1 := HC.out; have h2 := HI.out; show B.length ≤ 1000; omega
          have HYb : Hid (w0.heap.size ≤ Y.heap.size) := H1.bel.size
          clear hA H1 mv1 T1 Z1 own hBl hBh x0 x1 g0 g1 g2 g3 g4 hcase
          obtain ⟨ii, hii, hiz, his, hib⟩ := bytesInfo
          go_wp2_with (at_builtin; refine K.wpList_append_rows (enc := bvc) rfl (.tmp 71) (.tmp 74) 32 rfl Tryz.underlying32 ii _ 24 hii hiz his hib rfl w0.heap.size (.slice ta waits.length tc) (.slice (some ⟨Y.heap.size, 0, none⟩) 1 1) B [⟨xa, xl, xc⟩] rfl rfl (HO.out.1.alloc _) (bv_one Y xa xl xc) (by have := HBw.out; unfold maxLen; simp; omega) (by have := HBw.out; simp; omega) (by have := HYb.out; simp; omega) ?_; intro v' w5 own5 gr5 nw5)
          have hG5 := HG.out.2.go ((Below.refl _ _).alloc (Nat.le_refl _) (.cells #[.slice xa xl xc] 31))
          have HVe : Hid (Lv w0 w5 q p G1 l1 m) := hG5.grew (HO.out.1.alloc _) gr5 HG.out.1.nt
          have HZe : Hid (Rz w0 w5 G1 (.slice sa sure.length sc) v' sure (waits ++ [bl])) := (HG.out.1.go ((Below.refl _ _).alloc (Nat.le_refl _) (.cells #[.slice xa xl xc] 31))).grewT (dat_more own5 HO.out.2.1 HO.out.2.2 rfl (fun j u y hu hy => by
            cases j with
            | zero =>
              simp at hu hy
              rw [← hu, ← hy]
              exact HI.out.1
            | succ j => simp at hu)) gr5 nw5 hG5.lts
          clear HG HO HBw HYb hG5 own5 gr5 nw5 y1 HV HT HZ
          go_roundg (l.length - (k + 1))
          case measure => omega
          case rel => exact ⟨k + 1, chk, sure, waits ++ [bl], by go_num, rfl, rfl, by omega, rfl, HC.out.1, by have := HC.out; have := HI.out; simp; omega, G1, _, m, _, _, _, HVe.out, HT1.out.mono (by have := HI.out; omega) (by have := HI.out; omega), HZe.out⟩
        by_cases hk1 : kd = 1
        · subst hk1
          have hA := HV.out.flush HT.out HF.out.1 (by have := HI.out; omega) (by have := HI.out; omega)
          go_wp2_with fail
          try rw [hX]
          refine hA.mono ?_
          rintro e Y ⟨r, rfl, G1, l1, m1, H1, mv1, ⟨rfl, fr1, bk1, T1⟩ | ⟨_, rfl, hD, oD, _⟩⟩
          · have Z1 := HZ.out.move mv1
            obtain ⟨B, own, hBl, hBh⟩ := Z1.s
            obtain ⟨D, ownD, hDl, hDh⟩ := Z1.t
            have HG : Hid (Rz w0 Y G1 (.slice sa sure.length sc) (.slice ta waits.length tc) sure waits ∧ Lv w0 Y q p G1 l1 m1) := ⟨Z1, H1⟩
            have HTe : Hid (Tk true 80 chk (sure ++ waits) [] 1048576 (16 + 130 * wts l k + 16) (2 + 20 * wts l k + 5) l1 m1 first fr1 bk1) := T1
            have HO : Hid (K.OwnOf bvc 1 31 Y w0.heap.size (.slice sa sure.length sc) B ∧ B.length = sure.length ∧ ∀ (j : Nat) (u : Bv) (x : List UInt8), B[j]? = some u → sure[j]? = some x → Holds w0 u.v x) := ⟨own, hBl, hBh⟩
            have HD : Hid (K.RowOf bvc Y (.slice ta waits.length tc) D ∧ D.length = waits.length ∧ ∀ (j : Nat) (u : Bv) (x : List UInt8), D[j]? = some u → waits[j]? = some x → Holds w0 u.v x) := ⟨ownD.rng, hDl, hDh⟩
            have HBw : Hid (B.length ≤ 1000 ∧ D.length ≤ 1000) := by have h1 := HC.out; have h2 := HI.out; show B.length ≤ 1000 ∧ D.length ≤ 1000; omega
            have HYb : Hid (w0.heap.size ≤ Y.heap.size) := H1.bel.size
            clear hA H1 mv1 T1 Z1 own ownD hBl hBh hDl hDh x0 x1 g0 g1 g2 g3 g4
            obtain ⟨ii, hii, hiz, his, hib⟩ := bytesInfo
            go_wp2_with (at_builtin; refine K.wpList_append_rows (enc := bvc) rfl (.tmp 82) (.tmp 83) 32 rfl Tryz.underlying32 ii _ 24 hii hiz his hib rfl w0.heap.size (.slice sa sure.length sc) (.slice ta waits.length tc) B D rfl rfl HO.out.1 HD.out.1 (by have := HBw.out; unfold maxLen; omega) (by have := HBw.out; omega) HYb.out ?_; intro v' w5 own5 gr5 nw5)
            have HVe : Hid (Lv w0 w5 q p G1 l1 m1) := HG.out.2.grew HO.out.1 gr5 HG.out.1.ns
            have HZe : Hid (Rz w0 w5 G1 v' (.slice none 0 0) (sure ++ waits) []) := HG.out.1.grewS (dat_more own5 HO.out.2.1 HO.out.2.2 HD.out.2.1 HD.out.2.2) nw5 HG.out.2.lts
            clear HG HO HD HBw HYb own5 gr5 nw5 HV HT HZ
            go_roundg (l.length - (k + 1))
            case measure => omega
            case rel => exact ⟨k + 1, chk, sure ++ waits, [], by go_num, rfl, rfl, by omega, rfl, HC.out.1, by have := HC.out; have := HI.out; simp; omega, G1, _, m1, _, _, _, HVe.out, HTe.out.mono (by have := HI.out; omega) (by have := HI.out; omega), HZe.out⟩
          · obtain ⟨F3, S3, hsub, _⟩ := H1.store
            have HS3 : Hid (Sv w0 Y p F3 m1) := S3
            have HZ3 : Hid (Rz w0 Y F3 (.slice sa sure.length sc) (.slice ta waits.length tc) sure waits) := (HZ.out.move mv1).sub hsub
            have HD3 : Hid (Dk chk sure waits none 27000 5000 m1) := ⟨hD.dark, hD.lg, hD.cap.mono (by have := HI.out; omega), by have := hD.cnt; have := HI.out; omega⟩
            have HLn : Hid (sure.length + waits.length ≤ 200) := by have h1 := HC.out; have h2 := HI.out; show sure.length + waits.length ≤ 200; omega
            have HCt : Hid (Holds w0 (.slice ca chk.length cc) chk) := HC.out.1
            have hOn := on_any p F3 m1 Y S3.st
            rw [show m1.dark = true from hD.dark] at hOn
            clear hA H1 mv1 hD S3 hsub x0 x1 g0 g1 g2 g3 g4 HV HT HZ
            have hPw := power_any p F3 m1 Y HS3.out.st
            go_wp2_with (go_at_call 16; refine hOn.mono ?_; rintro e Y9 ⟨rfl, rfl⟩)
            clear hOn
            refine hPw.mono ?_
            rintro e V3 ⟨rfl, F4, s4, mv4⟩
            have HS4 : Hid (Sv w0 V3 p F4 m1.power) := HS3.out.to s4 mv4
            have HZ4 : Hid (Rz w0 V3 F4 (.slice sa sure.length sc) (.slice ta waits.length tc) sure waits) := HZ3.out.move mv4
            have HD4 : Hid (Told chk sure waits none 27000 5000 m1.power ∧ m1.power.left = 0) := HD3.out.power
            clear hPw s4 mv4 HS3 HZ3 HD3
            obtain ⟨m4, hm4⟩ : ∃ z, m1.power = z := ⟨_, rfl⟩
            rw [hm4] at HS4 HD4
            clear hm4
            obtain ⟨y0, y1, y2, y3⟩ := HBX.out V3 HS4.out.bel
            obtain ⟨qn, hqn⟩ : ∃ z, an % 6 = z := ⟨_, rfl⟩
            have hPl := plan_any p F4 m4 qn ak V3 HS4.out.st
            obtain ⟨e5, T5⟩ := HD4.out.1.planned qn ak (by omega) HNk.out.2
            rw [e5] at hPl
            obtain ⟨m5, hm5⟩ : ∃ z, ({ m4 with left := qn, keep := ak } : M) = z := ⟨_, rfl⟩
            rw [hm5] at hPl T5
            have HD5 : Hid (Told chk sure waits none 27000 5000 m5) := T5
            clear e5 T5 hm5
            go_wp2_with fail
            try rw [hqn]
            refine hPl.mono ?_
            rintro e V4 ⟨rfl, F5, s5, mv5⟩
            have HS5 : Hid (Sv w0 V4 p F5 m5) := HS4.out.to s5 mv5
            have HZ5 : Hid (Rz w0 V4 F5 (.slice sa sure.length sc) (.slice ta waits.length tc) sure waits) := HZ4.out.move mv5
            clear hPl s5 mv5 HS4 HZ4 HD4 y0 y1 y2 y3 hqn
            have hO := HS5.out.open HD5.out HF.out.1 (by decide) (by decide) 80 (by decide)
            go_wp2_with fail
            refine hO.mono ?_
            rintro e V5 ⟨qv, cv5, rv5, r5, rfl, hr5, F6, m6, S6, mv6, T6, o6⟩
            have HS6 : Hid (Sv w0 V5 p F6 m6) := S6
            have HZ6 : Hid (Rz w0 V5 F6 (.slice sa sure.length sc) (.slice ta waits.length tc) sure waits) := HZ5.out.move mv6
            have HD6 : Hid (Told chk sure waits none 27000 (5000 + 2) m6.power) := T6
            clear hO S6 mv6 T6 o6 HS5 HZ5 HD5
            have hPw := power_any p F6 m6 V5 HS6.out.st
            rcases hr5 with rfl | rfl
            · go_wp2_with fail
              refine hPw.mono ?_
              rintro e V6 ⟨rfl, F7, s7, mv7⟩
              have HS7 : Hid (Sv w0 V6 p F7 m6.power) := HS6.out.to s7 mv7
              have HZ7 : Hid (Rz w0 V6 F7 (.slice sa sure.length sc) (.slice ta waits.length tc) sure waits) := HZ6.out.move mv7
              clear hPw s7 mv7 HS6 HZ6
              have hO := HS7.out.open0 HD6.out rfl HF.out.1 (by decide) (by decide) 80 (by decide)
              go_wp2_with fail
              refine hO.mono ?_
              rintro e V7 ⟨q7, cv7, rv7, base7, d, rs, rfl, hbh, hc7, hr7, F8, mv8, bel8⟩
              have HZ8 : Hid (Rz w0 V7 F8 (.slice sa sure.length sc) (.slice ta waits.length tc) sure waits) := HZ7.out.move mv8
              have HB8 : Hid (Below w0.heap.size w0 V7) := bel8
              have HBh : Hid (Behd chk sure waits none d rs) := hbh
              have HR7 : Hid (Recs V7 base7 rv7 rs ∧ Holds V7 cv7 d) := ⟨hr7, hc7⟩
              obtain ⟨ra, rc, rfl⟩ := hr7.slice
              clear hO mv8 bel8 hbh hc7 hr7 HS7 HZ7 HD6
              obtain ⟨hdc, pp, hrs0⟩ : d = chk ∧ ∃ pp, rs = sure ++ waits.take pp := by
                rcases HBh.out with h1 | ⟨h1, _⟩
                · exact h1
                · cases h1
              clear HBh
              rw [hdc] at HR7
              clear hdc
              have hrs : sure ++ waits.take pp = rs := hrs0.symm
              clear hrs0
              have hlen1 : sure.length ≤ rs.length := by rw [← hrs]; simp
              have hlen2 : rs.length ≤ sure.length + waits.length := by rw [← hrs]; simp; omega
              have htake : (sure ++ waits).take rs.length = rs := by
                rw [← hrs, List.length_append, List.take_append, List.take_of_length_le (by omega), Nat.add_sub_cancel_left, List.length_take, ← List.take_eq_take_min]
              clear hrs
              obtain ⟨B, own, hBl, hBh⟩ := HZ8.out.s
              obtain ⟨D, ownD, hDl, hDh⟩ := HZ8.out.t
              have HO : Hid (K.RowOf bvc V7 (.slice sa sure.length sc) B ∧ B.length = sure.length ∧ ∀ (j : Nat) (u : Bv) (x : List UInt8), B[j]? = some u → sure[j]? = some x → Holds w0 u.v x) := ⟨own.rng, hBl, hBh⟩
              have HD : Hid (K.RowOf bvc V7 (.slice ta waits.length tc) D ∧ D.length = waits.length ∧ ∀ (j : Nat) (u : Bv) (x : List UInt8), D[j]? = some u → waits[j]? = some x → Holds w0 u.v x) := ⟨ownD.rng, hDl, hDh⟩
              have HBw : Hid (B.length ≤ 1000 ∧ D.length ≤ 1000) := by have h1 := HLn.out; show B.length ≤ 1000 ∧ D.length ≤ 1000; omega
              clear own ownD hBl hBh hDl hDh HZ8
              have HTk : Hid ((sure ++ waits).take rs.length = rs ∧ rs.length ≤ sure.length + waits.length) := ⟨htake, hlen2⟩
              clear htake
              obtain ⟨ii, hii, hiz, his, hib⟩ := bytesInfo
              obtain ⟨tot, htot⟩ : ∃ z, (B ++ D).length = z := ⟨_, rfl⟩
              go_wp2_with (first
                | (at_builtin; refine K.wpList_append_rows (enc := bvc) rfl (.tmp 152) (.tmp 153) 32 rfl Tryz.underlying32 ii _ 24 hii hiz his hib rfl w0.heap.size (.slice (some ⟨V7.heap.size, 0, none⟩) 0 0) (.slice sa sure.length sc) [] B rfl rfl (K.ownOf_empty V7 w0.heap.size HB8.out.size) (HO.out.1.below ((Below.refl _ _).alloc (Nat.le_refl _) _) (Nat.le_refl _)) (by have := HBw.out; unfold maxLen; simp; omega) (by have := HBw.out; simp; omega) (by have := HB8.out.size; simp; omega) ?_; intro v8 V8 own8 gr8 nw8; replace own8 : K.OwnOf bvc 1 31 V8 w0.heap.size v8 B := own8; obtain ⟨a8, c8, rfl⟩ := own8.rng.slice)
                | (at_builtin; refine K.wpList_append_rows (enc := bvc) rfl (.tmp 154) (.tmp 155) 32 rfl Tryz.underlying32 ii _ 24 hii hiz his hib rfl w0.heap.size (.slice a8 B.length c8) (.slice ta waits.length tc) B D rfl rfl own8 (HD.out.1.below (empty_grown gr8) (Nat.le_refl _)) (by have := HBw.out; unfold maxLen; omega) (by have := HBw.out; omega) (Nat.le_trans HB8.out.size (empty_grown gr8).size) ?_; intro v9 V9 own9 gr9 nw9; obtain ⟨a9, c9, e9⟩ := own9.rng.slice; rw [htot] at e9; subst e9))
              have hb78 := empty_grown gr8
              have hN8 : ∀ g, (Value.slice a8 B.length c8).ownBlock = some g → V7.heap.size ≤ g := fun g hg => by
                rcases nw8 with e | ⟨g', e, h1⟩
                · rw [e] at hg
                  injection hg with hg
                  simp at hg
                  omega
                · rw [e] at hg
                  injection hg with hg
                  rw [World.size_alloc] at h1
                  omega
              have hDat : Dat w0 V9 (.slice a9 tot c9) (sure ++ waits) := dat_more own9 HO.out.2.1 HO.out.2.2 HD.out.2.1 HD.out.2.2
              have hb9 : Below w0.heap.size w0 V9 := own8.below gr9 (keptW HB8.out hb78) (Nat.le_trans HB8.out.size hb78.size) (Nat.le_refl _)
              have hb79 : Below V7.heap.size V7 V9 := hb78.grown gr9 hb78.size fun k hk => hN8 k hk
              have htt : tot = sure.length + waits.length := by rw [← htot, List.length_append, HO.out.2.1, HD.out.2.1]
              have hcap : rs.length ≤ c9 ∧ c9 ≤ maxLen := by
                have h2 := HTk.out.2
                obtain ⟨B9, o9, h1, _⟩ := hDat
                rcases o9.split with ⟨e, h3⟩ | ⟨g, c, R, e, _, _, h4, h5, _⟩
                · injection e with e1 e2 e3
                  unfold maxLen
                  omega
                · injection e with e1 e2 e3
                  omega
              have hRw := (hDat.rw hb9).take rs.length (by simpa using HTk.out.2)
              rw [HTk.out.1] at hRw
              have hSm := same_any cv7 (.slice ca chk.length cc) chk chk V9 (HR7.out.2.below hb79 (Nat.le_refl _)) (HCt.out.below hb9 (Nat.le_refl _))
              have hbb : (chk == chk) = true := by simp
              rw [hbb] at hSm
              have hSl := sameL_any (.slice ra rs.length rc) (.slice a9 rs.length c9) rs rs V9 (HR7.out.1.rw.kept hb79) hRw
              have hrr : (rs == rs) = true := by simp
              rw [hrr] at hSl
              have HB9 : Hid (Below w0.heap.size w0 V9) := hb9
              have hl1 : (sure.length : Int) ≤ (rs.length : Int) := by omega
              have hl2 : (rs.length : Int) ≤ (tot : Int) := by omega
              have hc9 : (rs.length : Int) ≤ (c9 : Int) := by omega
              have hc9b : rs.length ≤ c9 := hcap.1
              have hc9m : c9 ≤ 9223372036854775807 := by have := hcap.2; unfold maxLen at this; omega
              clear hbb hrr hDat hb9 hb79 hRw HO HD HBw own8 gr8 nw8 own9 gr9 nw9 HR7 HTk hcap hb78 hN8 htot htt
              go_wp2_with (go_at_call 19; refine hSm.mono ?_; rintro e V10 ⟨rfl, rfl⟩)
              refine hSl.mono ?_
              rintro e V10 ⟨rfl, b10⟩
              have c := HL.out V10 (keptW HB9.out b10)
              go_wp2_with (go_at_call 9; refine c.mono ?_; rintro e w2 ⟨rfl, b2⟩)
              go_ret
              exact ⟨rfl, keptW HF.out.2.2 (keptW (keptW HB9.out b10) b2)⟩
            · go_wp2_with fail
              refine hPw.mono ?_
              rintro e V6 ⟨rfl, F7, s7, mv7⟩
              have HS7 : Hid (Sv w0 V6 p F7 m6.power) := HS6.out.to s7 mv7
              have HZ7 : Hid (Rz w0 V6 F7 (.slice sa sure.length sc) (.slice ta waits.length tc) sure waits) := HZ6.out.move mv7
              clear hPw s7 mv7 HS6 HZ6
              have hO := HS7.out.open0 HD6.out rfl HF.out.1 (by decide) (by decide) 80 (by decide)
              go_wp2_with fail
              refine hO.mono ?_
              rintro e V7 ⟨q7, cv7, rv7, base7, d, rs, rfl, hbh, hc7, hr7, F8, mv8, bel8⟩
              have HZ8 : Hid (Rz w0 V7 F8 (.slice sa sure.length sc) (.slice ta waits.length tc) sure waits) := HZ7.out.move mv8
              have HB8 : Hid (Below w0.heap.size w0 V7) := bel8
              have HBh : Hid (Behd chk sure waits none d rs) := hbh
              have HR7 : Hid (Recs V7 base7 rv7 rs ∧ Holds V7 cv7 d) := ⟨hr7, hc7⟩
              obtain ⟨ra, rc, rfl⟩ := hr7.slice
              clear hO mv8 bel8 hbh hc7 hr7 HS7 HZ7 HD6
              obtain ⟨hdc, pp, hrs0⟩ : d = chk ∧ ∃ pp, rs = sure ++ waits.take pp := by
                rcases HBh.out with h1 | ⟨h1, _⟩
                · exact h1
                · cases h1
              clear HBh
              rw [hdc] at HR7
              clear hdc
              have hrs : sure ++ waits.take pp = rs := hrs0.symm
              clear hrs0
              have hlen1 : sure.length ≤ rs.length := by rw [← hrs]; simp
              have hlen2 : rs.length ≤ sure.length + waits.length := by rw [← hrs]; simp; omega
              have htake : (sure ++ waits).take rs.length = rs := by
                rw [← hrs, List.length_append, List.take_append, List.take_of_length_le (by omega), Nat.add_sub_cancel_left, List.length_take, ← List.take_eq_take_min]
              clear hrs
              obtain ⟨B, own, hBl, hBh⟩ := HZ8.out.s
              obtain ⟨D, ownD, hDl, hDh⟩ := HZ8.out.t
              have HO : Hid (K.RowOf bvc V7 (.slice sa sure.length sc) B ∧ B.length = sure.length ∧ ∀ (j : Nat) (u : Bv) (x : List UInt8), B[j]? = some u → sure[j]? = some x → Holds w0 u.v x) := ⟨own.rng, hBl, hBh⟩
              have HD : Hid (K.RowOf bvc V7 (.slice ta waits.length tc) D ∧ D.length = waits.length ∧ ∀ (j : Nat) (u : Bv) (x : List UInt8), D[j]? = some u → waits[j]? = some x → Holds w0 u.v x) := ⟨ownD.rng, hDl, hDh⟩
              have HBw : Hid (B.length ≤ 1000 ∧ D.length ≤ 1000) := by have h1 := HLn.out; show B.length ≤ 1000 ∧ D.length ≤ 1000; omega
              clear own ownD hBl hBh hDl hDh HZ8
              have HTk : Hid ((sure ++ waits).take rs.length = rs ∧ rs.length ≤ sure.length + waits.length) := ⟨htake, hlen2⟩
              clear htake
              obtain ⟨ii, hii, hiz, his, hib⟩ := bytesInfo
              obtain ⟨tot, htot⟩ : ∃ z, (B ++ D).length = z := ⟨_, rfl⟩
              go_wp2_with (first
                | (at_builtin; refine K.wpList_append_rows (enc := bvc) rfl (.tmp 152) (.tmp 153) 32 rfl Tryz.underlying32 ii _ 24 hii hiz his hib rfl w0.heap.size (.slice (some ⟨V7.heap.size, 0, none⟩) 0 0) (.slice sa sure.length sc) [] B rfl rfl (K.ownOf_empty V7 w0.heap.size HB8.out.size) (HO.out.1.below ((Below.refl _ _).alloc (Nat.le_refl _) _) (Nat.le_refl _)) (by have := HBw.out; unfold maxLen; simp; omega) (by have := HBw.out; simp; omega) (by have := HB8.out.size; simp; omega) ?_; intro v8 V8 own8 gr8 nw8; replace own8 : K.OwnOf bvc 1 31 V8 w0.heap.size v8 B := own8; obtain ⟨a8, c8, rfl⟩ := own8.rng.slice)
                | (at_builtin; refine K.wpList_append_rows (enc := bvc) rfl (.tmp 154) (.tmp 155) 32 rfl Tryz.underlying32 ii _ 24 hii hiz his hib rfl w0.heap.size (.slice a8 B.length c8) (.slice ta waits.length tc) B D rfl rfl own8 (HD.out.1.below (empty_grown gr8) (Nat.le_refl _)) (by have := HBw.out; unfold maxLen; omega) (by have := HBw.out; omega) (Nat.le_trans HB8.out.size (empty_grown gr8).size) ?_; intro v9 V9 own9 gr9 nw9; obtain ⟨a9, c9, e9⟩ := own9.rng.slice; rw [htot] at e9; subst e9))
              have hb78 := empty_grown gr8
              have hN8 : ∀ g, (Value.slice a8 B.length c8).ownBlock = some g → V7.heap.size ≤ g := fun g hg => by
                rcases nw8 with e | ⟨g', e, h1⟩
                · rw [e] at hg
                  injection hg with hg
                  simp at hg
                  omega
                · rw [e] at hg
                  injection hg with hg
                  rw [World.size_alloc] at h1
                  omega
              have hDat : Dat w0 V9 (.slice a9 tot c9) (sure ++ waits) := dat_more own9 HO.out.2.1 HO.out.2.2 HD.out.2.1 HD.out.2.2
              have hb9 : Below w0.heap.size w0 V9 := own8.below gr9 (keptW HB8.out hb78) (Nat.le_trans HB8.out.size hb78.size) (Nat.le_refl _)
              have hb79 : Below V7.heap.size V7 V9 := hb78.grown gr9 hb78.size fun k hk => hN8 k hk
              have htt : tot = sure.length + waits.length := by rw [← htot, List.length_append, HO.out.2.1, HD.out.2.1]
              have hcap : rs.length ≤ c9 ∧ c9 ≤ maxLen := by
                have h2 := HTk.out.2
                obtain ⟨B9, o9, h1, _⟩ := hDat
                rcases o9.split with ⟨e, h3⟩ | ⟨g, c, R, e, _, _, h4, h5, _⟩
                · injection e with e1 e2 e3
                  unfold maxLen
                  omega
                · injection e with e1 e2 e3
                  omega
              have hRw := (hDat.rw hb9).take rs.length (by simpa using HTk.out.2)
              rw [HTk.out.1] at hRw
              have hSm := same_any cv7 (.slice ca chk.length cc) chk chk V9 (HR7.out.2.below hb79 (Nat.le_refl _)) (HCt.out.below hb9 (Nat.le_refl _))
              have hbb : (chk == chk) = true := by simp
              rw [hbb] at hSm
              have hSl := sameL_any (.slice ra rs.length rc) (.slice a9 rs.length c9) rs rs V9 (HR7.out.1.rw.kept hb79) hRw
              have hrr : (rs == rs) = true := by simp
              rw [hrr] at hSl
              have HB9 : Hid (Below w0.heap.size w0 V9) := hb9
              have hl1 : (sure.length : Int) ≤ (rs.length : Int) := by omega
              have hl2 : (rs.length : Int) ≤ (tot : Int) := by omega
              have hc9 : (rs.length : Int) ≤ (c9 : Int) := by omega
              have hc9b : rs.length ≤ c9 := hcap.1
              have hc9m : c9 ≤ 9223372036854775807 := by have := hcap.2; unfold maxLen at this; omega
              clear hbb hrr hDat hb9 hb79 hRw HO HD HBw own8 gr8 nw8 own9 gr9 nw9 HR7 HTk hcap hb78 hN8 htot htt
              go_wp2_with (go_at_call 19; refine hSm.mono ?_; rintro e V10 ⟨rfl, rfl⟩)
              refine hSl.mono ?_
              rintro e V10 ⟨rfl, b10⟩
              have c := HL.out V10 (keptW HB9.out b10)
              go_wp2_with (go_at_call 9; refine c.mono ?_; rintro e w2 ⟨rfl, b2⟩)
              go_ret
              exact ⟨rfl, keptW HF.out.2.2 (keptW (keptW HB9.out b10) b2)⟩
        by_cases hk2 : kd = 2
        · subst hk2
          have hA := HV.out.mark HT.out HF.out.1 (.slice xa xl xc) bl (HV.out.hold HI.out.1) (by have := HI.out; omega) (by have := HI.out; omega)
          go_wp2_with fail
          try rw [hX]
          refine hA.mono ?_
          rintro e Y ⟨r, rfl, G1, l1, m1, H1, mv1, ⟨rfl, _, _, n1, T1⟩ | ⟨_, rfl, hD, oD, _⟩ | ⟨_, h5, _⟩⟩
          · have y1 := cell_moved x1 mv1 HnX.out
            have HTe : Hid (Tk true 80 bl [] [] 1048576 (16 + 130 * wts l k + bl.length + 64) (2 + 20 * wts l k + 14) l1 m1 n1 [] []) := T1
            have HVe : Hid (Lv w0 Y q p G1 l1 m1) := H1
            clear hA H1 mv1 T1 x0 x1 g0 g1 g2 g3 g4 HV HT HZ
            go_wp2
            go_roundg (l.length - (k + 1))
            case measure => omega
            case rel => exact ⟨k + 1, bl, [], [], by go_num, rfl, rfl, by omega, rfl, HI.out.1, by simp, G1, _, m1, _, _, _, HVe.out, HTe.out.mono (by have := HI.out; omega) (by have := HI.out; omega), rz_nil _ _ _⟩
          · have y1 := cell_moved x1 mv1 HnX.out
            obtain ⟨F3, S3, hsub, _⟩ := H1.store
            have HS3 : Hid (Sv w0 Y p F3 m1) := S3
            have HZ3 : Hid (Rz w0 Y F3 (.slice sa sure.length sc) (.slice ta waits.length tc) sure waits) := (HZ.out.move mv1).sub hsub
            have HD3 : Hid (Dk chk sure waits (some bl) 27000 5000 m1) := ⟨hD.dark, hD.lg, hD.cap.mono (by have := HI.out; omega), by have := hD.cnt; have := HI.out; omega⟩
            have HLn : Hid (sure.length + waits.length ≤ 200) := by have h1 := HC.out; have h2 := HI.out; show sure.length + waits.length ≤ 200; omega
            have HCt : Hid (Holds w0 (.slice ca chk.length cc) chk) := HC.out.1
            have hOn := on_any p F3 m1 Y S3.st
            rw [show m1.dark = true from hD.dark] at hOn
            clear hA H1 mv1 hD S3 hsub x0 x1 g0 g1 g2 g3 g4 HV HT HZ
            have hPw := power_any p F3 m1 Y HS3.out.st
            go_wp2_with (go_at_call 16; refine hOn.mono ?_; rintro e Y9 ⟨rfl, rfl⟩)
            clear hOn
            refine hPw.mono ?_
            rintro e V3 ⟨rfl, F4, s4, mv4⟩
            have HS4 : Hid (Sv w0 V3 p F4 m1.power) := HS3.out.to s4 mv4
            have HZ4 : Hid (Rz w0 V3 F4 (.slice sa sure.length sc) (.slice ta waits.length tc) sure waits) := HZ3.out.move mv4
            have HD4 : Hid (Told chk sure waits (some bl) 27000 5000 m1.power ∧ m1.power.left = 0) := HD3.out.power
            clear hPw s4 mv4 HS3 HZ3 HD3
            obtain ⟨m4, hm4⟩ : ∃ z, m1.power = z := ⟨_, rfl⟩
            rw [hm4] at HS4 HD4
            clear hm4
            obtain ⟨y0, y1, y2, y3⟩ := HBX.out V3 HS4.out.bel
            obtain ⟨qn, hqn⟩ : ∃ z, an % 6 = z := ⟨_, rfl⟩
            have hPl := plan_any p F4 m4 qn ak V3 HS4.out.st
            obtain ⟨e5, T5⟩ := HD4.out.1.planned qn ak (by omega) HNk.out.2
            rw [e5] at hPl
            obtain ⟨m5, hm5⟩ : ∃ z, ({ m4 with left := qn, keep := ak } : M) = z := ⟨_, rfl⟩
            rw [hm5] at hPl T5
            have HD5 : Hid (Told chk sure waits (some bl) 27000 5000 m5) := T5
            clear e5 T5 hm5
            go_wp2_with fail
            try rw [hqn]
            refine hPl.mono ?_
            rintro e V4 ⟨rfl, F5, s5, mv5⟩
            have HS5 : Hid (Sv w0 V4 p F5 m5) := HS4.out.to s5 mv5
            have HZ5 : Hid (Rz w0 V4 F5 (.slice sa sure.length sc) (.slice ta waits.length tc) sure waits) := HZ4.out.move mv5
            clear hPl s5 mv5 HS4 HZ4 HD4 y0 y1 y2 y3 hqn
            have hO := HS5.out.open HD5.out HF.out.1 (by decide) (by decide) 80 (by decide)
            go_wp2_with fail
            refine hO.mono ?_
            rintro e V5 ⟨qv, cv5, rv5, r5, rfl, hr5, F6, m6, S6, mv6, T6, o6⟩
            have HS6 : Hid (Sv w0 V5 p F6 m6) := S6
            have HZ6 : Hid (Rz w0 V5 F6 (.slice sa sure.length sc) (.slice ta waits.length tc) sure waits) := HZ5.out.move mv6
            have HD6 : Hid (Told chk sure waits (some bl) 27000 (5000 + 2) m6.power) := T6
            clear hO S6 mv6 T6 o6 HS5 HZ5 HD5
            have hPw := power_any p F6 m6 V5 HS6.out.st
            rcases hr5 with rfl | rfl
            · go_wp2_with fail
              refine hPw.mono ?_
              rintro e V6 ⟨rfl, F7, s7, mv7⟩
              have HS7 : Hid (Sv w0 V6 p F7 m6.power) := HS6.out.to s7 mv7
              have HZ7 : Hid (Rz w0 V6 F7 (.slice sa sure.length sc) (.slice ta waits.length tc) sure waits) := HZ6.out.move mv7
              clear hPw s7 mv7 HS6 HZ6
              have hO := HS7.out.open0 HD6.out rfl HF.out.1 (by decide) (by decide) 80 (by decide)
              go_wp2_with fail
              refine hO.mono ?_
              rintro e V7 ⟨q7, cv7, rv7, base7, d, rs, rfl, hbh, hc7, hr7, F8, mv8, bel8⟩
              have HZ8 : Hid (Rz w0 V7 F8 (.slice sa sure.length sc) (.slice ta waits.length tc) sure waits) := HZ7.out.move mv8
              have HB8 : Hid (Below w0.heap.size w0 V7) := bel8
              have HBh : Hid (Behd chk sure waits (some bl) d rs) := hbh
              have HR7 : Hid (Recs V7 base7 rv7 rs ∧ Holds V7 cv7 d) := ⟨hr7, hc7⟩
              obtain ⟨ra, rc, rfl⟩ := hr7.slice
              clear hO mv8 bel8 hbh hc7 hr7 HS7 HZ7 HD6
              have hSx := same_any cv7 (.slice xa xl xc) d bl V7 HR7.out.2 (HI.out.1.below HB8.out (Nat.le_refl _))
              have HBh2 : Hid ((d = chk ∧ ∃ pp, rs = sure ++ waits.take pp) ∨ (d = bl ∧ rs = [])) := by
                rcases HBh.out with h1 | ⟨h1, h2⟩
                · exact .inl h1
                · injection h1 with h1
                  exact .inr ⟨h1.symm, h2⟩
              by_cases hdb : d = bl
              · have hbb : (d == bl) = true := by simpa using hdb
                rw [hbb] at hSx
                clear hbb
                by_cases hz : rs.length = 0
                · have hz' : ((rs.length : Int) == 0) = true := by rw [hz]; rfl
                  have hz2 : (rs.length : Int) = 0 := by omega
                  have HR0 := HR7
                  clear HR7 HBh HBh2 HZ8
                  have c := HL.out V7 HB8.out
                  go_wp2_with (first
                    | (go_at_call 19; refine hSx.mono ?_; rintro e V8 ⟨rfl, rfl⟩)
                    | (go_at_call 9; refine c.mono ?_; rintro e w2 ⟨rfl, b2⟩))
                  go_ret
                  exact ⟨rfl, keptW HF.out.2.2 (keptW HB8.out b2)⟩
                · have hz' : ((rs.length : Int) == 0) = false := by rw [beq_eq_false_iff_ne]; omega
                  obtain ⟨hdc, pp, hrs0⟩ : d = chk ∧ ∃ pp, rs = sure ++ waits.take pp := by
                    rcases HBh2.out with h1 | ⟨_, h2⟩
                    · exact h1
                    · exact absurd (by rw [h2]; rfl) hz
                  clear HBh2 hdb
                  clear HBh
                  rw [hdc] at HR7
                  clear hdc
                  have hrs : sure ++ waits.take pp = rs := hrs0.symm
                  clear hrs0
                  have hlen1 : sure.length ≤ rs.length := by rw [← hrs]; simp
                  have hlen2 : rs.length ≤ sure.length + waits.length := by rw [← hrs]; simp; omega
                  have htake : (sure ++ waits).take rs.length = rs := by
                    rw [← hrs, List.length_append, List.take_append, List.take_of_length_le (by omega), Nat.add_sub_cancel_left, List.length_take, ← List.take_eq_take_min]
                  clear hrs
                  obtain ⟨B, own, hBl, hBh⟩ := HZ8.out.s
                  obtain ⟨D, ownD, hDl, hDh⟩ := HZ8.out.t
                  have HO : Hid (K.RowOf bvc V7 (.slice sa sure.length sc) B ∧ B.length = sure.length ∧ ∀ (j : Nat) (u : Bv) (x : List UInt8), B[j]? = some u → sure[j]? = some x → Holds w0 u.v x) := ⟨own.rng, hBl, hBh⟩
                  have HD : Hid (K.RowOf bvc V7 (.slice ta waits.length tc) D ∧ D.length = waits.length ∧ ∀ (j : Nat) (u : Bv) (x : List UInt8), D[j]? = some u → waits[j]? = some x → Holds w0 u.v x) := ⟨ownD.rng, hDl, hDh⟩
                  have HBw : Hid (B.length ≤ 1000 ∧ D.length ≤ 1000) := by have h1 := HLn.out; show B.length ≤ 1000 ∧ D.length ≤ 1000; omega
                  clear own ownD hBl hBh hDl hDh HZ8
                  have HTk : Hid ((sure ++ waits).take rs.length = rs ∧ rs.length ≤ sure.length + waits.length) := ⟨htake, hlen2⟩
                  clear htake
                  obtain ⟨ii, hii, hiz, his, hib⟩ := bytesInfo
                  obtain ⟨tot, htot⟩ : ∃ z, (B ++ D).length = z := ⟨_, rfl⟩
                  go_wp2_with fail
                  refine hSx.mono ?_
                  rintro e V7 ⟨rfl, rfl⟩
                  clear hSx
                  go_wp2_with (first
                    | (at_builtin; refine K.wpList_append_rows (enc := bvc) rfl (.tmp 152) (.tmp 153) 32 rfl Tryz.underlying32 ii _ 24 hii hiz his hib rfl w0.heap.size (.slice (some ⟨V7.heap.size, 0, none⟩) 0 0) (.slice sa sure.length sc) [] B rfl rfl (K.ownOf_empty V7 w0.heap.size HB8.out.size) (HO.out.1.below ((Below.refl _ _).alloc (Nat.le_refl _) _) (Nat.le_refl _)) (by have := HBw.out; unfold maxLen; simp; omega) (by have := HBw.out; simp; omega) (by have := HB8.out.size; simp; omega) ?_; intro v8 V8 own8 gr8 nw8; replace own8 : K.OwnOf bvc 1 31 V8 w0.heap.size v8 B := own8; obtain ⟨a8, c8, rfl⟩ := own8.rng.slice)
                    | (at_builtin; refine K.wpList_append_rows (enc := bvc) rfl (.tmp 154) (.tmp 155) 32 rfl Tryz.underlying32 ii _ 24 hii hiz his hib rfl w0.heap.size (.slice a8 B.length c8) (.slice ta waits.length tc) B D rfl rfl own8 (HD.out.1.below (empty_grown gr8) (Nat.le_refl _)) (by have := HBw.out; unfold maxLen; omega) (by have := HBw.out; omega) (Nat.le_trans HB8.out.size (empty_grown gr8).size) ?_; intro v9 V9 own9 gr9 nw9; obtain ⟨a9, c9, e9⟩ := own9.rng.slice; rw [htot] at e9; subst e9))
                  have hb78 := empty_grown gr8
                  have hN8 : ∀ g, (Value.slice a8 B.length c8).ownBlock = some g → V7.heap.size ≤ g := fun g hg => by
                    rcases nw8 with e | ⟨g', e, h1⟩
                    · rw [e] at hg
                      injection hg with hg
                      simp at hg
                      omega
                    · rw [e] at hg
                      injection hg with hg
                      rw [World.size_alloc] at h1
                      omega
                  have hDat : Dat w0 V9 (.slice a9 tot c9) (sure ++ waits) := dat_more own9 HO.out.2.1 HO.out.2.2 HD.out.2.1 HD.out.2.2
                  have hb9 : Below w0.heap.size w0 V9 := own8.below gr9 (keptW HB8.out hb78) (Nat.le_trans HB8.out.size hb78.size) (Nat.le_refl _)
                  have hb79 : Below V7.heap.size V7 V9 := hb78.grown gr9 hb78.size fun k hk => hN8 k hk
                  have htt : tot = sure.length + waits.length := by rw [← htot, List.length_append, HO.out.2.1, HD.out.2.1]
                  have hcap : rs.length ≤ c9 ∧ c9 ≤ maxLen := by
                    have h2 := HTk.out.2
                    obtain ⟨B9, o9, h1, _⟩ := hDat
                    rcases o9.split with ⟨e, h3⟩ | ⟨g, c, R, e, _, _, h4, h5, _⟩
                    · injection e with e1 e2 e3
                      unfold maxLen
                      omega
                    · injection e with e1 e2 e3
                      omega
                  have hRw := (hDat.rw hb9).take rs.length (by simpa using HTk.out.2)
                  rw [HTk.out.1] at hRw
                  have hSm := same_any cv7 (.slice ca chk.length cc) chk chk V9 (HR7.out.2.below hb79 (Nat.le_refl _)) (HCt.out.below hb9 (Nat.le_refl _))
                  have hbb : (chk == chk) = true := by simp
                  rw [hbb] at hSm
                  have hSl := sameL_any (.slice ra rs.length rc) (.slice a9 rs.length c9) rs rs V9 (HR7.out.1.rw.kept hb79) hRw
                  have hrr : (rs == rs) = true := by simp
                  rw [hrr] at hSl
                  have HB9 : Hid (Below w0.heap.size w0 V9) := hb9
                  have hl1 : (sure.length : Int) ≤ (rs.length : Int) := by omega
                  have hl2 : (rs.length : Int) ≤ (tot : Int) := by omega
                  have hc9 : (rs.length : Int) ≤ (c9 : Int) := by omega
                  have hc9b : rs.length ≤ c9 := hcap.1
                  have hc9m : c9 ≤ 9223372036854775807 := by have := hcap.2; unfold maxLen at this; omega
                  clear hbb hrr hDat hb9 hb79 hRw HO HD HBw own8 gr8 nw8 own9 gr9 nw9 HR7 HTk hcap hb78 hN8 htot htt
                  go_wp2_with (go_at_call 19; refine hSm.mono ?_; rintro e V10 ⟨rfl, rfl⟩)
                  refine hSl.mono ?_
                  rintro e V10 ⟨rfl, b10⟩
                  have c := HL.out V10 (keptW HB9.out b10)
                  go_wp2_with (go_at_call 9; refine c.mono ?_; rintro e w2 ⟨rfl, b2⟩)
                  go_ret
                  exact ⟨rfl, keptW HF.out.2.2 (keptW (keptW HB9.out b10) b2)⟩
              · have hbb : (d == bl) = false := by simpa using hdb
                rw [hbb] at hSx
                clear hbb
                obtain ⟨hdc, pp, hrs0⟩ : d = chk ∧ ∃ pp, rs = sure ++ waits.take pp := by
                  rcases HBh2.out with h1 | ⟨h2, _⟩
                  · exact h1
                  · exact absurd h2 hdb
                clear HBh2 hdb
                clear HBh
                rw [hdc] at HR7
                clear hdc
                have hrs : sure ++ waits.take pp = rs := hrs0.symm
                clear hrs0
                have hlen1 : sure.length ≤ rs.length := by rw [← hrs]; simp
                have hlen2 : rs.length ≤ sure.length + waits.length := by rw [← hrs]; simp; omega
                have htake : (sure ++ waits).take rs.length = rs := by
                  rw [← hrs, List.length_append, List.take_append, List.take_of_length_le (by omega), Nat.add_sub_cancel_left, List.length_take, ← List.take_eq_take_min]
                clear hrs
                obtain ⟨B, own, hBl, hBh⟩ := HZ8.out.s
                obtain ⟨D, ownD, hDl, hDh⟩ := HZ8.out.t
                have HO : Hid (K.RowOf bvc V7 (.slice sa sure.length sc) B ∧ B.length = sure.length ∧ ∀ (j : Nat) (u : Bv) (x : List UInt8), B[j]? = some u → sure[j]? = some x → Holds w0 u.v x) := ⟨own.rng, hBl, hBh⟩
                have HD : Hid (K.RowOf bvc V7 (.slice ta waits.length tc) D ∧ D.length = waits.length ∧ ∀ (j : Nat) (u : Bv) (x : List UInt8), D[j]? = some u → waits[j]? = some x → Holds w0 u.v x) := ⟨ownD.rng, hDl, hDh⟩
                have HBw : Hid (B.length ≤ 1000 ∧ D.length ≤ 1000) := by have h1 := HLn.out; show B.length ≤ 1000 ∧ D.length ≤ 1000; omega
                clear own ownD hBl hBh hDl hDh HZ8
                have HTk : Hid ((sure ++ waits).take rs.length = rs ∧ rs.length ≤ sure.length + waits.length) := ⟨htake, hlen2⟩
                clear htake
                obtain ⟨ii, hii, hiz, his, hib⟩ := bytesInfo
                obtain ⟨tot, htot⟩ : ∃ z, (B ++ D).length = z := ⟨_, rfl⟩
                go_wp2_with fail
                refine hSx.mono ?_
                rintro e V7 ⟨rfl, rfl⟩
                clear hSx
                go_wp2_with (first
                  | (at_builtin; refine K.wpList_append_rows (enc := bvc) rfl (.tmp 152) (.tmp 153) 32 rfl Tryz.underlying32 ii _ 24 hii hiz his hib rfl w0.heap.size (.slice (some ⟨V7.heap.size, 0, none⟩) 0 0) (.slice sa sure.length sc) [] B rfl rfl (K.ownOf_empty V7 w0.heap.size HB8.out.size) (HO.out.1.below ((Below.refl _ _).alloc (Nat.le_refl _) _) (Nat.le_refl _)) (by have := HBw.out; unfold maxLen; simp; omega) (by have := HBw.out; simp; omega) (by have := HB8.out.size; simp; omega) ?_; intro v8 V8 own8 gr8 nw8; replace own8 : K.OwnOf bvc 1 31 V8 w0.heap.size v8 B := own8; obtain ⟨a8, c8, rfl⟩ := own8.rng.slice)
                  | (at_builtin; refine K.wpList_append_rows (enc := bvc) rfl (.tmp 154) (.tmp 155) 32 rfl Tryz.underlying32 ii _ 24 hii hiz his hib rfl w0.heap.size (.slice a8 B.length c8) (.slice ta waits.length tc) B D rfl rfl own8 (HD.out.1.below (empty_grown gr8) (Nat.le_refl _)) (by have := HBw.out; unfold maxLen; omega) (by have := HBw.out; omega) (Nat.le_trans HB8.out.size (empty_grown gr8).size) ?_; intro v9 V9 own9 gr9 nw9; obtain ⟨a9, c9, e9⟩ := own9.rng.slice; rw [htot] at e9; subst e9))
                have hb78 := empty_grown gr8
                have hN8 : ∀ g, (Value.slice a8 B.length c8).ownBlock = some g → V7.heap.size ≤ g := fun g hg => by
                  rcases nw8 with e | ⟨g', e, h1⟩
                  · rw [e] at hg
                    injection hg with hg
                    simp at hg
                    omega
                  · rw [e] at hg
                    injection hg with hg
                    rw [World.size_alloc] at h1
                    omega
                have hDat : Dat w0 V9 (.slice a9 tot c9) (sure ++ waits) := dat_more own9 HO.out.2.1 HO.out.2.2 HD.out.2.1 HD.out.2.2
                have hb9 : Below w0.heap.size w0 V9 := own8.below gr9 (keptW HB8.out hb78) (Nat.le_trans HB8.out.size hb78.size) (Nat.le_refl _)
                have hb79 : Below V7.heap.size V7 V9 := hb78.grown gr9 hb78.size fun k hk => hN8 k hk
                have htt : tot = sure.length + waits.length := by rw [← htot, List.length_append, HO.out.2.1, HD.out.2.1]
                have hcap : rs.length ≤ c9 ∧ c9 ≤ maxLen := by
                  have h2 := HTk.out.2
                  obtain ⟨B9, o9, h1, _⟩ := hDat
                  rcases o9.split with ⟨e, h3⟩ | ⟨g, c, R, e, _, _, h4, h5, _⟩
                  · injection e with e1 e2 e3
                    unfold maxLen
                    omega
                  · injection e with e1 e2 e3
                    omega
                have hRw := (hDat.rw hb9).take rs.length (by simpa using HTk.out.2)
                rw [HTk.out.1] at hRw
                have hSm := same_any cv7 (.slice ca chk.length cc) chk chk V9 (HR7.out.2.below hb79 (Nat.le_refl _)) (HCt.out.below hb9 (Nat.le_refl _))
                have hbb : (chk == chk) = true := by simp
                rw [hbb] at hSm
                have hSl := sameL_any (.slice ra rs.length rc) (.slice a9 rs.length c9) rs rs V9 (HR7.out.1.rw.kept hb79) hRw
                have hrr : (rs == rs) = true := by simp
                rw [hrr] at hSl
                have HB9 : Hid (Below w0.heap.size w0 V9) := hb9
                have hl1 : (sure.length : Int) ≤ (rs.length : Int) := by omega
                have hl2 : (rs.length : Int) ≤ (tot : Int) := by omega
                have hc9 : (rs.length : Int) ≤ (c9 : Int) := by omega
                have hc9b : rs.length ≤ c9 := hcap.1
                have hc9m : c9 ≤ 9223372036854775807 := by have := hcap.2; unfold maxLen at this; omega
                clear hbb hrr hDat hb9 hb79 hRw HO HD HBw own8 gr8 nw8 own9 gr9 nw9 HR7 HTk hcap hb78 hN8 htot htt
                go_wp2_with (go_at_call 19; refine hSm.mono ?_; rintro e V10 ⟨rfl, rfl⟩)
                refine hSl.mono ?_
                rintro e V10 ⟨rfl, b10⟩
                have c := HL.out V10 (keptW HB9.out b10)
                go_wp2_with (go_at_call 9; refine c.mono ?_; rintro e w2 ⟨rfl, b2⟩)
                go_ret
                exact ⟨rfl, keptW HF.out.2.2 (keptW (keptW HB9.out b10) b2)⟩
            · go_wp2_with fail
              refine hPw.mono ?_
              rintro e V6 ⟨rfl, F7, s7, mv7⟩
              have HS7 : Hid (Sv w0 V6 p F7 m6.power) := HS6.out.to s7 mv7
              have HZ7 : Hid (Rz w0 V6 F7 (.slice sa sure.length sc) (.slice ta waits.length tc) sure waits) := HZ6.out.move mv7
              clear hPw s7 mv7 HS6 HZ6
              have hO := HS7.out.open0 HD6.out rfl HF.out.1 (by decide) (by decide) 80 (by decide)
              go_wp2_with fail
              refine hO.mono ?_
              rintro e V7 ⟨q7, cv7, rv7, base7, d, rs, rfl, hbh, hc7, hr7, F8, mv8, bel8⟩
              have HZ8 : Hid (Rz w0 V7 F8 (.slice sa sure.length sc) (.slice ta waits.length tc) sure waits) := HZ7.out.move mv8
              have HB8 : Hid (Below w0.heap.size w0 V7) := bel8
              have HBh : Hid (Behd chk sure waits (some bl) d rs) := hbh
              have HR7 : Hid (Recs V7 base7 rv7 rs ∧ Holds V7 cv7 d) := ⟨hr7, hc7⟩
              obtain ⟨ra, rc, rfl⟩ := hr7.slice
              clear hO mv8 bel8 hbh hc7 hr7 HS7 HZ7 HD6
              have hSx := same_any cv7 (.slice xa xl xc) d bl V7 HR7.out.2 (HI.out.1.below HB8.out (Nat.le_refl _))
              have HBh2 : Hid ((d = chk ∧ ∃ pp, rs = sure ++ waits.take pp) ∨ (d = bl ∧ rs = [])) := by
                rcases HBh.out with h1 | ⟨h1, h2⟩
                · exact .inl h1
                · injection h1 with h1
                  exact .inr ⟨h1.symm, h2⟩
              by_cases hdb : d = bl
              · have hbb : (d == bl) = true := by simpa using hdb
                rw [hbb] at hSx
                clear hbb
                by_cases hz : rs.length = 0
                · have hz' : ((rs.length : Int) == 0) = true := by rw [hz]; rfl
                  have hz2 : (rs.length : Int) = 0 := by omega
                  have HR0 := HR7
                  clear HR7 HBh HBh2 HZ8
                  have c := HL.out V7 HB8.out
                  go_wp2_with (first
                    | (go_at_call 19; refine hSx.mono ?_; rintro e V8 ⟨rfl, rfl⟩)
                    | (go_at_call 9; refine c.mono ?_; rintro e w2 ⟨rfl, b2⟩))
                  go_ret
                  exact ⟨rfl, keptW HF.out.2.2 (keptW HB8.out b2)⟩
                · have hz' : ((rs.length : Int) == 0) = false := by rw [beq_eq_false_iff_ne]; omega
                  obtain ⟨hdc, pp, hrs0⟩ : d = chk ∧ ∃ pp, rs = sure ++ waits.take pp := by
                    rcases HBh2.out with h1 | ⟨_, h2⟩
                    · exact h1
                    · exact absurd (by rw [h2]; rfl) hz
                  clear HBh2 hdb
                  clear HBh
                  rw [hdc] at HR7
                  clear hdc
                  have hrs : sure ++ waits.take pp = rs := hrs0.symm
                  clear hrs0
                  have hlen1 : sure.length ≤ rs.length := by rw [← hrs]; simp
                  have hlen2 : rs.length ≤ sure.length + waits.length := by rw [← hrs]; simp; omega
                  have htake : (sure ++ waits).take rs.length = rs := by
                    rw [← hrs, List.length_append, List.take_append, List.take_of_length_le (by omega), Nat.add_sub_cancel_left, List.length_take, ← List.take_eq_take_min]
                  clear hrs
                  obtain ⟨B, own, hBl, hBh⟩ := HZ8.out.s
                  obtain ⟨D, ownD, hDl, hDh⟩ := HZ8.out.t
                  have HO : Hid (K.RowOf bvc V7 (.slice sa sure.length sc) B ∧ B.length = sure.length ∧ ∀ (j : Nat) (u : Bv) (x : List UInt8), B[j]? = some u → sure[j]? = some x → Holds w0 u.v x) := ⟨own.rng, hBl, hBh⟩
                  have HD : Hid (K.RowOf bvc V7 (.slice ta waits.length tc) D ∧ D.length = waits.length ∧ ∀ (j : Nat) (u : Bv) (x : List UInt8), D[j]? = some u → waits[j]? = some x → Holds w0 u.v x) := ⟨ownD.rng, hDl, hDh⟩
                  have HBw : Hid (B.length ≤ 1000 ∧ D.length ≤ 1000) := by have h1 := HLn.out; show B.length ≤ 1000 ∧ D.length ≤ 1000; omega
                  clear own ownD hBl hBh hDl hDh HZ8
                  have HTk : Hid ((sure ++ waits).take rs.length = rs ∧ rs.length ≤ sure.length + waits.length) := ⟨htake, hlen2⟩
                  clear htake
                  obtain ⟨ii, hii, hiz, his, hib⟩ := bytesInfo
                  obtain ⟨tot, htot⟩ : ∃ z, (B ++ D).length = z := ⟨_, rfl⟩
                  go_wp2_with fail
                  refine hSx.mono ?_
                  rintro e V7 ⟨rfl, rfl⟩
                  clear hSx
                  go_wp2_with (first
                    | (at_builtin; refine K.wpList_append_rows (enc := bvc) rfl (.tmp 152) (.tmp 153) 32 rfl Tryz.underlying32 ii _ 24 hii hiz his hib rfl w0.heap.size (.slice (some ⟨V7.heap.size, 0, none⟩) 0 0) (.slice sa sure.length sc) [] B rfl rfl (K.ownOf_empty V7 w0.heap.size HB8.out.size) (HO.out.1.below ((Below.refl _ _).alloc (Nat.le_refl _) _) (Nat.le_refl _)) (by have := HBw.out; unfold maxLen; simp; omega) (by have := HBw.out; simp; omega) (by have := HB8.out.size; simp; omega) ?_; intro v8 V8 own8 gr8 nw8; replace own8 : K.OwnOf bvc 1 31 V8 w0.heap.size v8 B := own8; obtain ⟨a8, c8, rfl⟩ := own8.rng.slice)
                    | (at_builtin; refine K.wpList_append_rows (enc := bvc) rfl (.tmp 154) (.tmp 155) 32 rfl Tryz.underlying32 ii _ 24 hii hiz his hib rfl w0.heap.size (.slice a8 B.length c8) (.slice ta waits.length tc) B D rfl rfl own8 (HD.out.1.below (empty_grown gr8) (Nat.le_refl _)) (by have := HBw.out; unfold maxLen; omega) (by have := HBw.out; omega) (Nat.le_trans HB8.out.size (empty_grown gr8).size) ?_; intro v9 V9 own9 gr9 nw9; obtain ⟨a9, c9, e9⟩ := own9.rng.slice; rw [htot] at e9; subst e9))
                  have hb78 := empty_grown gr8
                  have hN8 : ∀ g, (Value.slice a8 B.length c8).ownBlock = some g → V7.heap.size ≤ g := fun g hg => by
                    rcases nw8 with e | ⟨g', e, h1⟩
                    · rw [e] at hg
                      injection hg with hg
                      simp at hg
                      omega
                    · rw [e] at hg
                      injection hg with hg
                      rw [World.size_alloc] at h1
                      omega
                  have hDat : Dat w0 V9 (.slice a9 tot c9) (sure ++ waits) := dat_more own9 HO.out.2.1 HO.out.2.2 HD.out.2.1 HD.out.2.2
                  have hb9 : Below w0.heap.size w0 V9 := own8.below gr9 (keptW HB8.out hb78) (Nat.le_trans HB8.out.size hb78.size) (Nat.le_refl _)
                  have hb79 : Below V7.heap.size V7 V9 := hb78.grown gr9 hb78.size fun k hk => hN8 k hk
                  have htt : tot = sure.length + waits.length := by rw [← htot, List.length_append, HO.out.2.1, HD.out.2.1]
                  have hcap : rs.length ≤ c9 ∧ c9 ≤ maxLen := by
                    have h2 := HTk.out.2
                    obtain ⟨B9, o9, h1, _⟩ := hDat
                    rcases o9.split with ⟨e, h3⟩ | ⟨g, c, R, e, _, _, h4, h5, _⟩
                    · injection e with e1 e2 e3
                      unfold maxLen
                      omega
                    · injection e with e1 e2 e3
                      omega
                  have hRw := (hDat.rw hb9).take rs.length (by simpa using HTk.out.2)
                  rw [HTk.out.1] at hRw
                  have hSm := same_any cv7 (.slice ca chk.length cc) chk chk V9 (HR7.out.2.below hb79 (Nat.le_refl _)) (HCt.out.below hb9 (Nat.le_refl _))
                  have hbb : (chk == chk) = true := by simp
                  rw [hbb] at hSm
                  have hSl := sameL_any (.slice ra rs.length rc) (.slice a9 rs.length c9) rs rs V9 (HR7.out.1.rw.kept hb79) hRw
                  have hrr : (rs == rs) = true := by simp
                  rw [hrr] at hSl
                  have HB9 : Hid (Below w0.heap.size w0 V9) := hb9
                  have hl1 : (sure.length : Int) ≤ (rs.length : Int) := by omega
                  have hl2 : (rs.length : Int) ≤ (tot : Int) := by omega
                  have hc9 : (rs.length : Int) ≤ (c9 : Int) := by omega
                  have hc9b : rs.length ≤ c9 := hcap.1
                  have hc9m : c9 ≤ 9223372036854775807 := by have := hcap.2; unfold maxLen at this; omega
                  clear hbb hrr hDat hb9 hb79 hRw HO HD HBw own8 gr8 nw8 own9 gr9 nw9 HR7 HTk hcap hb78 hN8 htot htt
                  go_wp2_with (go_at_call 19; refine hSm.mono ?_; rintro e V10 ⟨rfl, rfl⟩)
                  refine hSl.mono ?_
                  rintro e V10 ⟨rfl, b10⟩
                  have c := HL.out V10 (keptW HB9.out b10)
                  go_wp2_with (go_at_call 9; refine c.mono ?_; rintro e w2 ⟨rfl, b2⟩)
                  go_ret
                  exact ⟨rfl, keptW HF.out.2.2 (keptW (keptW HB9.out b10) b2)⟩
              · have hbb : (d == bl) = false := by simpa using hdb
                rw [hbb] at hSx
                clear hbb
                obtain ⟨hdc, pp, hrs0⟩ : d = chk ∧ ∃ pp, rs = sure ++ waits.take pp := by
                  rcases HBh2.out with h1 | ⟨h2, _⟩
                  · exact h1
                  · exact absurd h2 hdb
                clear HBh2 hdb
                clear HBh
                rw [hdc] at HR7
                clear hdc
                have hrs : sure ++ waits.take pp = rs := hrs0.symm
                clear hrs0
                have hlen1 : sure.length ≤ rs.length := by rw [← hrs]; simp
                have hlen2 : rs.length ≤ sure.length + waits.length := by rw [← hrs]; simp; omega
                have htake : (sure ++ waits).take rs.length = rs := by
                  rw [← hrs, List.length_append, List.take_append, List.take_of_length_le (by omega), Nat.add_sub_cancel_left, List.length_take, ← List.take_eq_take_min]
                clear hrs
                obtain ⟨B, own, hBl, hBh⟩ := HZ8.out.s
                obtain ⟨D, ownD, hDl, hDh⟩ := HZ8.out.t
                have HO : Hid (K.RowOf bvc V7 (.slice sa sure.length sc) B ∧ B.length = sure.length ∧ ∀ (j : Nat) (u : Bv) (x : List UInt8), B[j]? = some u → sure[j]? = some x → Holds w0 u.v x) := ⟨own.rng, hBl, hBh⟩
                have HD : Hid (K.RowOf bvc V7 (.slice ta waits.length tc) D ∧ D.length = waits.length ∧ ∀ (j : Nat) (u : Bv) (x : List UInt8), D[j]? = some u → waits[j]? = some x → Holds w0 u.v x) := ⟨ownD.rng, hDl, hDh⟩
                have HBw : Hid (B.length ≤ 1000 ∧ D.length ≤ 1000) := by have h1 := HLn.out; show B.length ≤ 1000 ∧ D.length ≤ 1000; omega
                clear own ownD hBl hBh hDl hDh HZ8
                have HTk : Hid ((sure ++ waits).take rs.length = rs ∧ rs.length ≤ sure.length + waits.length) := ⟨htake, hlen2⟩
                clear htake
                obtain ⟨ii, hii, hiz, his, hib⟩ := bytesInfo
                obtain ⟨tot, htot⟩ : ∃ z, (B ++ D).length = z := ⟨_, rfl⟩
                go_wp2_with fail
                refine hSx.mono ?_
                rintro e V7 ⟨rfl, rfl⟩
                clear hSx
                go_wp2_with (first
                  | (at_builtin; refine K.wpList_append_rows (enc := bvc) rfl (.tmp 152) (.tmp 153) 32 rfl Tryz.underlying32 ii _ 24 hii hiz his hib rfl w0.heap.size (.slice (some ⟨V7.heap.size, 0, none⟩) 0 0) (.slice sa sure.length sc) [] B rfl rfl (K.ownOf_empty V7 w0.heap.size HB8.out.size) (HO.out.1.below ((Below.refl _ _).alloc (Nat.le_refl _) _) (Nat.le_refl _)) (by have := HBw.out; unfold maxLen; simp; omega) (by have := HBw.out; simp; omega) (by have := HB8.out.size; simp; omega) ?_; intro v8 V8 own8 gr8 nw8; replace own8 : K.OwnOf bvc 1 31 V8 w0.heap.size v8 B := own8; obtain ⟨a8, c8, rfl⟩ := own8.rng.slice)
                  | (at_builtin; refine K.wpList_append_rows (enc := bvc) rfl (.tmp 154) (.tmp 155) 32 rfl Tryz.underlying32 ii _ 24 hii hiz his hib rfl w0.heap.size (.slice a8 B.length c8) (.slice ta waits.length tc) B D rfl rfl own8 (HD.out.1.below (empty_grown gr8) (Nat.le_refl _)) (by have := HBw.out; unfold maxLen; omega) (by have := HBw.out; omega) (Nat.le_trans HB8.out.size (empty_grown gr8).size) ?_; intro v9 V9 own9 gr9 nw9; obtain ⟨a9, c9, e9⟩ := own9.rng.slice; rw [htot] at e9; subst e9))
                have hb78 := empty_grown gr8
                have hN8 : ∀ g, (Value.slice a8 B.length c8).ownBlock = some g → V7.heap.size ≤ g := fun g hg => by
                  rcases nw8 with e | ⟨g', e, h1⟩
                  · rw [e] at hg
                    injection hg with hg
                    simp at hg
                    omega
                  · rw [e] at hg
                    injection hg with hg
                    rw [World.size_alloc] at h1
                    omega
                have hDat : Dat w0 V9 (.slice a9 tot c9) (sure ++ waits) := dat_more own9 HO.out.2.1 HO.out.2.2 HD.out.2.1 HD.out.2.2
                have hb9 : Below w0.heap.size w0 V9 := own8.below gr9 (keptW HB8.out hb78) (Nat.le_trans HB8.out.size hb78.size) (Nat.le_refl _)
                have hb79 : Below V7.heap.size V7 V9 := hb78.grown gr9 hb78.size fun k hk => hN8 k hk
                have htt : tot = sure.length + waits.length := by rw [← htot, List.length_append, HO.out.2.1, HD.out.2.1]
                have hcap : rs.length ≤ c9 ∧ c9 ≤ maxLen := by
                  have h2 := HTk.out.2
                  obtain ⟨B9, o9, h1, _⟩ := hDat
                  rcases o9.split with ⟨e, h3⟩ | ⟨g, c, R, e, _, _, h4, h5, _⟩
                  · injection e with e1 e2 e3
                    unfold maxLen
                    omega
                  · injection e with e1 e2 e3
                    omega
                have hRw := (hDat.rw hb9).take rs.length (by simpa using HTk.out.2)
                rw [HTk.out.1] at hRw
                have hSm := same_any cv7 (.slice ca chk.length cc) chk chk V9 (HR7.out.2.below hb79 (Nat.le_refl _)) (HCt.out.below hb9 (Nat.le_refl _))
                have hbb : (chk == chk) = true := by simp
                rw [hbb] at hSm
                have hSl := sameL_any (.slice ra rs.length rc) (.slice a9 rs.length c9) rs rs V9 (HR7.out.1.rw.kept hb79) hRw
                have hrr : (rs == rs) = true := by simp
                rw [hrr] at hSl
                have HB9 : Hid (Below w0.heap.size w0 V9) := hb9
                have hl1 : (sure.length : Int) ≤ (rs.length : Int) := by omega
                have hl2 : (rs.length : Int) ≤ (tot : Int) := by omega
                have hc9 : (rs.length : Int) ≤ (c9 : Int) := by omega
                have hc9b : rs.length ≤ c9 := hcap.1
                have hc9m : c9 ≤ 9223372036854775807 := by have := hcap.2; unfold maxLen at this; omega
                clear hbb hrr hDat hb9 hb79 hRw HO HD HBw own8 gr8 nw8 own9 gr9 nw9 HR7 HTk hcap hb78 hN8 htot htt
                go_wp2_with (go_at_call 19; refine hSm.mono ?_; rintro e V10 ⟨rfl, rfl⟩)
                refine hSl.mono ?_
                rintro e V10 ⟨rfl, b10⟩
                have c := HL.out V10 (keptW HB9.out b10)
                go_wp2_with (go_at_call 9; refine c.mono ?_; rintro e w2 ⟨rfl, b2⟩)
                go_ret
                exact ⟨rfl, keptW HF.out.2.2 (keptW (keptW HB9.out b10) b2)⟩
          · exact absurd h5 (by have h1 := HI.out; have h2 := HC.out; omega)
        go_wp2
        go_roundg (l.length - (k + 1))
        case measure => omega
        case rel => exact ⟨k + 1, chk, sure, waits, by go_num, rfl, rfl, by omega, rfl, HC.out.1, by have := HC.out; have := HI.out; omega, G, lg, m, _, _, _, (by first | exact HV.out | (rw [hX]; exact HV.out)), HT.out.mono (by have := HI.out; omega) (by have := HI.out; omega), (by first | exact HZ.out | (rw [hX]; exact HZ.out))⟩
      · have hlt' : ¬ (k : Int) < (l.length : Int) := by omega
        obtain ⟨hcv, hwt, G, lg, m, first, fr, bk, H, T, Z⟩ := HK.out
        have hwl := wts_le l k (by omega)
        have hW200 := HW.out
        obtain ⟨sa, sc, rfl⟩ := Z.s.slice
        obtain ⟨ta, tc, rfl⟩ := Z.t.slice
        obtain ⟨ca, cc, rfl⟩ := hcv.slice
        obtain ⟨Ft, Sx, hsub, _⟩ := H.store
        have HLn : Hid (sure.length + waits.length ≤ 200) := by show sure.length + waits.length ≤ 200; omega
        have HCt : Hid (Holds w0 (.slice ca chk.length cc) chk) := hcv
        have hOn := on_any p Ft m wr Sx.st
        rw [show m.dark = false from T.lit] at hOn
        have hcm : m.count ≤ 1000000 := by have := T.cnt; omega
        have hFa := fail_any p Ft m ck wr Sx.st T.lg.p.ok hcm HNk.out.1
        obtain ⟨y0, y1, y2, y3⟩ := HBX.out wr Sx.bel
        have HX3 : Hid (∀ V2 F3, St V2 p F3 (m.fail ck) → Moved wr V2 Ft F3 → Sv w0 V2 p F3 (m.fail ck) ∧ Rz w0 V2 F3 (.slice sa sure.length sc) (.slice ta waits.length tc) sure waits) := fun V2 F3 s3 mv3 => ⟨Sx.to s3 mv3, (Z.sub hsub).move mv3⟩
        have hD := T.fail ck none
        have HD3 : Hid (Dk chk sure waits none 27000 5000 (m.fail ck)) := ⟨hD.dark, hD.lg, hD.cap.mono (by omega), by have := hD.cnt; omega⟩
        clear H T Z Sx hsub hcm hD HK hcv hwt hwl hW200
        go_wp2_with (go_at_call 16; refine hOn.mono ?_; rintro e V9 ⟨rfl, rfl⟩)
        refine hFa.mono ?_
        rintro e V2 ⟨rfl, F3, s3, mv3⟩
        have HS3 : Hid (Sv w0 V2 p F3 (m.fail ck)) := (HX3.out V2 F3 s3 mv3).1
        have HZ3 : Hid (Rz w0 V2 F3 (.slice sa sure.length sc) (.slice ta waits.length tc) sure waits) := (HX3.out V2 F3 s3 mv3).2
        clear hFa hOn s3 mv3 HX3 y0 y1 y2 y3
        obtain ⟨m3, hm3⟩ : ∃ z, m.fail ck = z := ⟨_, rfl⟩
        rw [hm3] at HS3 HD3
        clear hm3
        have hPw := power_any p F3 m3 V2 HS3.out.st
        go_wp2_with fail
        refine hPw.mono ?_
        rintro e V3 ⟨rfl, F4, s4, mv4⟩
        have HS4 : Hid (Sv w0 V3 p F4 m3.power) := HS3.out.to s4 mv4
        have HZ4 : Hid (Rz w0 V3 F4 (.slice sa sure.length sc) (.slice ta waits.length tc) sure waits) := HZ3.out.move mv4
        have HD4 : Hid (Told chk sure waits none 27000 5000 m3.power ∧ m3.power.left = 0) := HD3.out.power
        clear hPw s4 mv4 HS3 HZ3 HD3
        obtain ⟨m4, hm4⟩ : ∃ z, m3.power = z := ⟨_, rfl⟩
        rw [hm4] at HS4 HD4
        clear hm4
        obtain ⟨y0, y1, y2, y3⟩ := HBX.out V3 HS4.out.bel
        obtain ⟨qn, hqn⟩ : ∃ z, an % 6 = z := ⟨_, rfl⟩
        have hPl := plan_any p F4 m4 qn ak V3 HS4.out.st
        obtain ⟨e5, T5⟩ := HD4.out.1.planned qn ak (by omega) HNk.out.2
        rw [e5] at hPl
        obtain ⟨m5, hm5⟩ : ∃ z, ({ m4 with left := qn, keep := ak } : M) = z := ⟨_, rfl⟩
        rw [hm5] at hPl T5
        have HD5 : Hid (Told chk sure waits none 27000 5000 m5) := T5
        clear e5 T5 hm5
        go_wp2_with fail
        try rw [hqn]
        refine hPl.mono ?_
        rintro e V4 ⟨rfl, F5, s5, mv5⟩
        have HS5 : Hid (Sv w0 V4 p F5 m5) := HS4.out.to s5 mv5
        have HZ5 : Hid (Rz w0 V4 F5 (.slice sa sure.length sc) (.slice ta waits.length tc) sure waits) := HZ4.out.move mv5
        clear hPl s5 mv5 HS4 HZ4 HD4 y0 y1 y2 y3 hqn
        have hO := HS5.out.open HD5.out HF.out.1 (by decide) (by decide) 80 (by decide)
        go_wp2_with fail
        refine hO.mono ?_
        rintro e V5 ⟨qv, cv5, rv5, r5, rfl, hr5, F6, m6, S6, mv6, T6, o6⟩
        have HS6 : Hid (Sv w0 V5 p F6 m6) := S6
        have HZ6 : Hid (Rz w0 V5 F6 (.slice sa sure.length sc) (.slice ta waits.length tc) sure waits) := HZ5.out.move mv6
        have HD6 : Hid (Told chk sure waits none 27000 (5000 + 2) m6.power) := T6
        clear hO S6 mv6 T6 o6 HS5 HZ5 HD5
        have hPw := power_any p F6 m6 V5 HS6.out.st
        rcases hr5 with rfl | rfl
        · go_wp2_with fail
          refine hPw.mono ?_
          rintro e V6 ⟨rfl, F7, s7, mv7⟩
          have HS7 : Hid (Sv w0 V6 p F7 m6.power) := HS6.out.to s7 mv7
          have HZ7 : Hid (Rz w0 V6 F7 (.slice sa sure.length sc) (.slice ta waits.length tc) sure waits) := HZ6.out.move mv7
          clear hPw s7 mv7 HS6 HZ6
          have hO := HS7.out.open0 HD6.out rfl HF.out.1 (by decide) (by decide) 80 (by decide)
          go_wp2_with fail
          refine hO.mono ?_
          rintro e V7 ⟨q7, cv7, rv7, base7, d, rs, rfl, hbh, hc7, hr7, F8, mv8, bel8⟩
          have HZ8 : Hid (Rz w0 V7 F8 (.slice sa sure.length sc) (.slice ta waits.length tc) sure waits) := HZ7.out.move mv8
          have HB8 : Hid (Below w0.heap.size w0 V7) := bel8
          have HBh : Hid (Behd chk sure waits none d rs) := hbh
          have HR7 : Hid (Recs V7 base7 rv7 rs ∧ Holds V7 cv7 d) := ⟨hr7, hc7⟩
          obtain ⟨ra, rc, rfl⟩ := hr7.slice
          clear hO mv8 bel8 hbh hc7 hr7 HS7 HZ7 HD6
          obtain ⟨hdc, pp, hrs0⟩ : d = chk ∧ ∃ pp, rs = sure ++ waits.take pp := by
            rcases HBh.out with h1 | ⟨h1, _⟩
            · exact h1
            · cases h1
          clear HBh
          rw [hdc] at HR7
          clear hdc
          have hrs : sure ++ waits.take pp = rs := hrs0.symm
          clear hrs0
          have hlen1 : sure.length ≤ rs.length := by rw [← hrs]; simp
          have hlen2 : rs.length ≤ sure.length + waits.length := by rw [← hrs]; simp; omega
          have htake : (sure ++ waits).take rs.length = rs := by
            rw [← hrs, List.length_append, List.take_append, List.take_of_length_le (by omega), Nat.add_sub_cancel_left, List.length_take, ← List.take_eq_take_min]
          clear hrs
          obtain ⟨B, own, hBl, hBh⟩ := HZ8.out.s
          obtain ⟨D, ownD, hDl, hDh⟩ := HZ8.out.t
          have HO : Hid (K.RowOf bvc V7 (.slice sa sure.length sc) B ∧ B.length = sure.length ∧ ∀ (j : Nat) (u : Bv) (x : List UInt8), B[j]? = some u → sure[j]? = some x → Holds w0 u.v x) := ⟨own.rng, hBl, hBh⟩
          have HD : Hid (K.RowOf bvc V7 (.slice ta waits.length tc) D ∧ D.length = waits.length ∧ ∀ (j : Nat) (u : Bv) (x : List UInt8), D[j]? = some u → waits[j]? = some x → Holds w0 u.v x) := ⟨ownD.rng, hDl, hDh⟩
          have HBw : Hid (B.length ≤ 1000 ∧ D.length ≤ 1000) := by have h1 := HLn.out; show B.length ≤ 1000 ∧ D.length ≤ 1000; omega
          clear own ownD hBl hBh hDl hDh HZ8
          have HTk : Hid ((sure ++ waits).take rs.length = rs ∧ rs.length ≤ sure.length + waits.length) := ⟨htake, hlen2⟩
          clear htake
          obtain ⟨ii, hii, hiz, his, hib⟩ := bytesInfo
          obtain ⟨tot, htot⟩ : ∃ z, (B ++ D).length = z := ⟨_, rfl⟩
          go_wp2_with (first
            | (at_builtin; refine K.wpList_append_rows (enc := bvc) rfl (.tmp 152) (.tmp 153) 32 rfl Tryz.underlying32 ii _ 24 hii hiz his hib rfl w0.heap.size (.slice (some ⟨V7.heap.size, 0, none⟩) 0 0) (.slice sa sure.length sc) [] B rfl rfl (K.ownOf_empty V7 w0.heap.size HB8.out.size) (HO.out.1.below ((Below.refl _ _).alloc (Nat.le_refl _) _) (Nat.le_refl _)) (by have := HBw.out; unfold maxLen; simp; omega) (by have := HBw.out; simp; omega) (by have := HB8.out.size; simp; omega) ?_; intro v8 V8 own8 gr8 nw8; replace own8 : K.OwnOf bvc 1 31 V8 w0.heap.size v8 B := own8; obtain ⟨a8, c8, rfl⟩ := own8.rng.slice)
            | (at_builtin; refine K.wpList_append_rows (enc := bvc) rfl (.tmp 154) (.tmp 155) 32 rfl Tryz.underlying32 ii _ 24 hii hiz his hib rfl w0.heap.size (.slice a8 B.length c8) (.slice ta waits.length tc) B D rfl rfl own8 (HD.out.1.below (empty_grown gr8) (Nat.le_refl _)) (by have := HBw.out; unfold maxLen; omega) (by have := HBw.out; omega) (Nat.le_trans HB8.out.size (empty_grown gr8).size) ?_; intro v9 V9 own9 gr9 nw9; obtain ⟨a9, c9, e9⟩ := own9.rng.slice; rw [htot] at e9; subst e9))
          have hb78 := empty_grown gr8
          have hN8 : ∀ g, (Value.slice a8 B.length c8).ownBlock = some g → V7.heap.size ≤ g := fun g hg => by
            rcases nw8 with e | ⟨g', e, h1⟩
            · rw [e] at hg
              injection hg with hg
              simp at hg
              omega
            · rw [e] at hg
              injection hg with hg
              rw [World.size_alloc] at h1
              omega
          have hDat : Dat w0 V9 (.slice a9 tot c9) (sure ++ waits) := dat_more own9 HO.out.2.1 HO.out.2.2 HD.out.2.1 HD.out.2.2
          have hb9 : Below w0.heap.size w0 V9 := own8.below gr9 (keptW HB8.out hb78) (Nat.le_trans HB8.out.size hb78.size) (Nat.le_refl _)
          have hb79 : Below V7.heap.size V7 V9 := hb78.grown gr9 hb78.size fun k hk => hN8 k hk
          have htt : tot = sure.length + waits.length := by rw [← htot, List.length_append, HO.out.2.1, HD.out.2.1]
          have hcap : rs.length ≤ c9 ∧ c9 ≤ maxLen := by
            have h2 := HTk.out.2
            obtain ⟨B9, o9, h1, _⟩ := hDat
            rcases o9.split with ⟨e, h3⟩ | ⟨g, c, R, e, _, _, h4, h5, _⟩
            · injection e with e1 e2 e3
              unfold maxLen
              omega
            · injection e with e1 e2 e3
              omega
          have hRw := (hDat.rw hb9).take rs.length (by simpa using HTk.out.2)
          rw [HTk.out.1] at hRw
          have hSm := same_any cv7 (.slice ca chk.length cc) chk chk V9 (HR7.out.2.below hb79 (Nat.le_refl _)) (HCt.out.below hb9 (Nat.le_refl _))
          have hbb : (chk == chk) = true := by simp
          rw [hbb] at hSm
          have hSl := sameL_any (.slice ra rs.length rc) (.slice a9 rs.length c9) rs rs V9 (HR7.out.1.rw.kept hb79) hRw
          have hrr : (rs == rs) = true := by simp
          rw [hrr] at hSl
          have HB9 : Hid (Below w0.heap.size w0 V9) := hb9
          have hl1 : (sure.length : Int) ≤ (rs.length : Int) := by omega
          have hl2 : (rs.length : Int) ≤ (tot : Int) := by omega
          have hc9 : (rs.length : Int) ≤ (c9 : Int) := by omega
          have hc9b : rs.length ≤ c9 := hcap.1
          have hc9m : c9 ≤ 9223372036854775807 := by have := hcap.2; unfold maxLen at this; omega
          clear hbb hrr hDat hb9 hb79 hRw HO HD HBw own8 gr8 nw8 own9 gr9 nw9 HR7 HTk hcap hb78 hN8 htot htt
          go_wp2_with (go_at_call 19; refine hSm.mono ?_; rintro e V10 ⟨rfl, rfl⟩)
          refine hSl.mono ?_
          rintro e V10 ⟨rfl, b10⟩
          have c := HL.out V10 (keptW HB9.out b10)
          go_wp2_with (go_at_call 9; refine c.mono ?_; rintro e w2 ⟨rfl, b2⟩)
          go_ret
          exact ⟨rfl, keptW HF.out.2.2 (keptW (keptW HB9.out b10) b2)⟩
        · go_wp2_with fail
          refine hPw.mono ?_
          rintro e V6 ⟨rfl, F7, s7, mv7⟩
          have HS7 : Hid (Sv w0 V6 p F7 m6.power) := HS6.out.to s7 mv7
          have HZ7 : Hid (Rz w0 V6 F7 (.slice sa sure.length sc) (.slice ta waits.length tc) sure waits) := HZ6.out.move mv7
          clear hPw s7 mv7 HS6 HZ6
          have hO := HS7.out.open0 HD6.out rfl HF.out.1 (by decide) (by decide) 80 (by decide)
          go_wp2_with fail
          refine hO.mono ?_
          rintro e V7 ⟨q7, cv7, rv7, base7, d, rs, rfl, hbh, hc7, hr7, F8, mv8, bel8⟩
          have HZ8 : Hid (Rz w0 V7 F8 (.slice sa sure.length sc) (.slice ta waits.length tc) sure waits) := HZ7.out.move mv8
          have HB8 : Hid (Below w0.heap.size w0 V7) := bel8
          have HBh : Hid (Behd chk sure waits none d rs) := hbh
          have HR7 : Hid (Recs V7 base7 rv7 rs ∧ Holds V7 cv7 d) := ⟨hr7, hc7⟩
          obtain ⟨ra, rc, rfl⟩ := hr7.slice
          clear hO mv8 bel8 hbh hc7 hr7 HS7 HZ7 HD6
          obtain ⟨hdc, pp, hrs0⟩ : d = chk ∧ ∃ pp, rs = sure ++ waits.take pp := by
            rcases HBh.out with h1 | ⟨h1, _⟩
            · exact h1
            · cases h1
          clear HBh
          rw [hdc] at HR7
          clear hdc
          have hrs : sure ++ waits.take pp = rs := hrs0.symm
          clear hrs0
          have hlen1 : sure.length ≤ rs.length := by rw [← hrs]; simp
          have hlen2 : rs.length ≤ sure.length + waits.length := by rw [← hrs]; simp; omega
          have htake : (sure ++ waits).take rs.length = rs := by
            rw [← hrs, List.length_append, List.take_append, List.take_of_length_le (by omega), Nat.add_sub_cancel_left, List.length_take, ← List.take_eq_take_min]
          clear hrs
          obtain ⟨B, own, hBl, hBh⟩ := HZ8.out.s
          obtain ⟨D, ownD, hDl, hDh⟩ := HZ8.out.t
          have HO : Hid (K.RowOf bvc V7 (.slice sa sure.length sc) B ∧ B.length = sure.length ∧ ∀ (j : Nat) (u : Bv) (x : List UInt8), B[j]? = some u → sure[j]? = some x → Holds w0 u.v x) := ⟨own.rng, hBl, hBh⟩
          have HD : Hid (K.RowOf bvc V7 (.slice ta waits.length tc) D ∧ D.length = waits.length ∧ ∀ (j : Nat) (u : Bv) (x : List UInt8), D[j]? = some u → waits[j]? = some x → Holds w0 u.v x) := ⟨ownD.rng, hDl, hDh⟩
          have HBw : Hid (B.length ≤ 1000 ∧ D.length ≤ 1000) := by have h1 := HLn.out; show B.length ≤ 1000 ∧ D.length ≤ 1000; omega
          clear own ownD hBl hBh hDl hDh HZ8
          have HTk : Hid ((sure ++ waits).take rs.length = rs ∧ rs.length ≤ sure.length + waits.length) := ⟨htake, hlen2⟩
          clear htake
          obtain ⟨ii, hii, hiz, his, hib⟩ := bytesInfo
          obtain ⟨tot, htot⟩ : ∃ z, (B ++ D).length = z := ⟨_, rfl⟩
          go_wp2_with (first
            | (at_builtin; refine K.wpList_append_rows (enc := bvc) rfl (.tmp 152) (.tmp 153) 32 rfl Tryz.underlying32 ii _ 24 hii hiz his hib rfl w0.heap.size (.slice (some ⟨V7.heap.size, 0, none⟩) 0 0) (.slice sa sure.length sc) [] B rfl rfl (K.ownOf_empty V7 w0.heap.size HB8.out.size) (HO.out.1.below ((Below.refl _ _).alloc (Nat.le_refl _) _) (Nat.le_refl _)) (by have := HBw.out; unfold maxLen; simp; omega) (by have := HBw.out; simp; omega) (by have := HB8.out.size; simp; omega) ?_; intro v8 V8 own8 gr8 nw8; replace own8 : K.OwnOf bvc 1 31 V8 w0.heap.size v8 B := own8; obtain ⟨a8, c8, rfl⟩ := own8.rng.slice)
            | (at_builtin; refine K.wpList_append_rows (enc := bvc) rfl (.tmp 154) (.tmp 155) 32 rfl Tryz.underlying32 ii _ 24 hii hiz his hib rfl w0.heap.size (.slice a8 B.length c8) (.slice ta waits.length tc) B D rfl rfl own8 (HD.out.1.below (empty_grown gr8) (Nat.le_refl _)) (by have := HBw.out; unfold maxLen; omega) (by have := HBw.out; omega) (Nat.le_trans HB8.out.size (empty_grown gr8).size) ?_; intro v9 V9 own9 gr9 nw9; obtain ⟨a9, c9, e9⟩ := own9.rng.slice; rw [htot] at e9; subst e9))
          have hb78 := empty_grown gr8
          have hN8 : ∀ g, (Value.slice a8 B.length c8).ownBlock = some g → V7.heap.size ≤ g := fun g hg => by
            rcases nw8 with e | ⟨g', e, h1⟩
            · rw [e] at hg
              injection hg with hg
              simp at hg
              omega
            · rw [e] at hg
              injection hg with hg
              rw [World.size_alloc] at h1
              omega
          have hDat : Dat w0 V9 (.slice a9 tot c9) (sure ++ waits) := dat_more own9 HO.out.2.1 HO.out.2.2 HD.out.2.1 HD.out.2.2
          have hb9 : Below w0.heap.size w0 V9 := own8.below gr9 (keptW HB8.out hb78) (Nat.le_trans HB8.out.size hb78.size) (Nat.le_refl _)
          have hb79 : Below V7.heap.size V7 V9 := hb78.grown gr9 hb78.size fun k hk => hN8 k hk
          have htt : tot = sure.length + waits.length := by rw [← htot, List.length_append, HO.out.2.1, HD.out.2.1]
          have hcap : rs.length ≤ c9 ∧ c9 ≤ maxLen := by
            have h2 := HTk.out.2
            obtain ⟨B9, o9, h1, _⟩ := hDat
            rcases o9.split with ⟨e, h3⟩ | ⟨g, c, R, e, _, _, h4, h5, _⟩
            · injection e with e1 e2 e3
              unfold maxLen
              omega
            · injection e with e1 e2 e3
              omega
          have hRw := (hDat.rw hb9).take rs.length (by simpa using HTk.out.2)
          rw [HTk.out.1] at hRw
          have hSm := same_any cv7 (.slice ca chk.length cc) chk chk V9 (HR7.out.2.below hb79 (Nat.le_refl _)) (HCt.out.below hb9 (Nat.le_refl _))
          have hbb : (chk == chk) = true := by simp
          rw [hbb] at hSm
          have hSl := sameL_any (.slice ra rs.length rc) (.slice a9 rs.length c9) rs rs V9 (HR7.out.1.rw.kept hb79) hRw
          have hrr : (rs == rs) = true := by simp
          rw [hrr] at hSl
          have HB9 : Hid (Below w0.heap.size w0 V9) := hb9
          have hl1 : (sure.length : Int) ≤ (rs.length : Int) := by omega
          have hl2 : (rs.length : Int) ≤ (tot : Int) := by omega
          have hc9 : (rs.length : Int) ≤ (c9 : Int) := by omega
          have hc9b : rs.length ≤ c9 := hcap.1
          have hc9m : c9 ≤ 9223372036854775807 := by have := hcap.2; unfold maxLen at this; omega
          clear hbb hrr hDat hb9 hb79 hRw HO HD HBw own8 gr8 nw8 own9 gr9 nw9 HR7 HTk hcap hb78 hN8 htot htt
          go_wp2_with (go_at_call 19; refine hSm.mono ?_; rintro e V10 ⟨rfl, rfl⟩)
          refine hSl.mono ?_
          rintro e V10 ⟨rfl, b10⟩
          have c := HL.out V10 (keptW HB9.out b10)
          go_wp2_with (go_at_call 9; refine c.mono ?_; rintro e w2 ⟨rfl, b2⟩)
          go_ret
          exact ⟨rfl, keptW HF.out.2.2 (keptW (keptW HB9.out b10) b2)⟩
end Go.Proofs.YtjgdmbfkondakaaGreatDoor
