/-
  bytes.Clone and Flip, by their contracts.
-/
import Derived.Test.YtdbgojmjjkidbaaGreatDoorJMend22
import Derived.Test.YtdbgojmjjkidbaaGreatDoorJWalks
import Derived.Test.YtdbgojmjjkidbaaGreatDoorJPred22
namespace Go.Proofs.YtdbgojmjjkidbaaGreatDoor
open Go.RowKit Go.Maps Go.Sort K
set_option maxRecDepth 20000

/-- A byte of a row of the call's own is written. -/
theorem Owns.set {w : World} {base g len cap : Nat} {e : TypeId} {bs : List UInt8} (h : Owns w base e (.slice (some ⟨g, 0, none⟩) len cap) bs) (i : Nat) (x : UInt8) :
    Owns (w.setCell ⟨g, i, none⟩ (.int .u8 (x.toNat : Int))) base e (.slice (some ⟨g, 0, none⟩) len cap) (bs.set i x) := by
  rcases h.2 with ⟨h0, _⟩ | ⟨g', cap', cur, hv, hb, hg, h1, h2, h3, h4⟩
  · cases h0
  · injection hv with hv1 hv2 hv3
    injection hv1 with hv1
    injection hv1 with hv1 _ _
    subst hv1 hv2 hv3
    have hc : (cur.setIfInBounds i (.int .u8 (x.toNat : Int))).toList = cur.toList.set i (.int .u8 (x.toNat : Int)) := by simp
    refine ⟨by simp [bcells], .inr ⟨g, cap, _, by rw [List.length_set], hb, heap_setCell_same w g i cur e _ hg, by rw [List.length_set]; exact h1, h2, by simpa using h3, ?_⟩⟩
    rw [hc, List.length_set, List.take_set, h4]
    simp [bcells, List.map_set]

theorem flip_byte (x : UInt8) (m : Nat) (h : m < 8) : bits .xor .u8 (x.toNat : Int) (128 / 2 ^ m) = ((UInt8.ofNat (x.toNat ^^^ 2 ^ (7 - m))).toNat : Int) := by
  have hx := x.toNat_lt
  rw [flipAt_byte x (7 - m) (by omega)]
  obtain rfl | rfl | rfl | rfl | rfl | rfl | rfl | rfl : m = 0 ∨ m = 1 ∨ m = 2 ∨ m = 3 ∨ m = 4 ∨ m = 5 ∨ m = 6 ∨ m = 7 := by omega
  · exact u8_xor_nat x.toNat 128 (by omega) (by decide)
  · exact u8_xor_nat x.toNat 64 (by omega) (by decide)
  · exact u8_xor_nat x.toNat 32 (by omega) (by decide)
  · exact u8_xor_nat x.toNat 16 (by omega) (by decide)
  · exact u8_xor_nat x.toNat 8 (by omega) (by decide)
  · exact u8_xor_nat x.toNat 4 (by omega) (by decide)
  · exact u8_xor_nat x.toNat 2 (by omega) (by decide)
  · exact u8_xor_nat x.toNat 1 (by omega) (by decide)
/-- The byte that is to be changed. -/
theorem Owns.byteAt {w : World} {base g len cap : Nat} {e : TypeId} {bs : List UInt8} (h : Owns w base e (.slice (some ⟨g, 0, none⟩) len cap) bs) (i : Nat) (hi : i < bs.length) :
    w.cell? ⟨g, i, none⟩ = some (.int .u8 ((bs[i]?.getD 0).toNat : Int)) ∧ w.frozen? ⟨g, i, none⟩ = false ∧ base ≤ g := by
  rcases h.2 with ⟨h0, _⟩ | ⟨g', cap', cur, hv, hb, hg, _⟩
  · cases h0
  · injection hv with hv1 _ _
    injection hv1 with hv1
    injection hv1 with hv1 _ _
    subst hv1
    refine ⟨?_, frozen_of_row w g i cur e hg, hb⟩
    have := World.ownsRow.cells h (g := g) rfl i (.int .u8 (bs[i].toNat : Int)) (by simp [bcells, hi])
    rw [Go.WideShapes.add_plain, Nat.zero_add] at this
    rw [this, List.getElem?_eq_getElem hi]
    rfl


theorem flip_bit (x : UInt8) (j : Nat) (h : j < 8) : bits .xor .u8 (x.toNat : Int) (2 ^ j) = ((UInt8.ofNat (x.toNat ^^^ 2 ^ j)).toNat : Int) := by
  have e := flip_byte x (7 - j) (by omega)
  rw [show 7 - (7 - j) = j by omega] at e
  rw [← e]
  obtain rfl | rfl | rfl | rfl | rfl | rfl | rfl | rfl : j = 0 ∨ j = 1 ∨ j = 2 ∨ j = 3 ∨ j = 4 ∨ j = 5 ∨ j = 6 ∨ j = 7 := by omega
  all_goals rfl
theorem flipB_set (b : List UInt8) (k j : Nat) (h : j ≤ 7) : flipB b k j = b.set k (UInt8.ofNat ((b[k]?.getD 0).toNat ^^^ 2 ^ j)) := by
  unfold flipB flipAt
  rw [show (8 * k + (7 - j)) / 8 = k by omega, show 7 - (8 * k + (7 - j)) % 8 = j by omega]
theorem run_eql_slice_nilW {P : Program} (w : World) (t e : TypeId) (a : Option Addr) (n c n' c' : Nat) (h : P.underlying t = some (.slice e)) :
    (binOp .eql t (.slice a n c) (.slice none n' c')).run P w = .ok (.bool a.isNone) w := by
  have h9 : ∀ d : Nat, (Op.equalIn (d + 1) t (.slice a n c) (.slice none n' c')).run P w = .ok a.isNone w := fun d => by
    cases a <;> simp [Op.equalIn, run_underlying h]
  simp only [binOp]
  simp [Op.equal, Op.maxDepth, h9 9999]
theorem clone_any (v : Value) (bs : List UInt8) (w : World) (hb : Holds w v bs) (hp : 0 < bs.length) (hl : bs.length ≤ 100000) :
    Calls Tryz.prog 45 #[v] w fun e w' => ∃ v', e = .returned v' ∧ Owns w' w.heap.size 5 v' bs ∧ Below w.heap.size w w' := by
  rcases hb with ⟨_, h⟩ | ⟨a, c, rfl, h1, h2, h3⟩
  · rw [h] at hp; simp at hp
  · have hb : Holds w (.slice (some a) bs.length c) bs := .inr ⟨a, c, rfl, h1, h2, h3⟩
    have HB : Hid (Holds (w.alloc (.cells #[] 5)) (.slice (some a) bs.length c) bs ∧ bs.length ≤ 100000) := ⟨hb.below (box_belowW w _) (Nat.le_refl _), hl⟩
    have hnl : ∀ W : World, (binOp .eql 78 (.slice (some a) bs.length c) (.slice none 0 0)).run Tryz.prog W = .ok (.bool false) W := fun W => by
      exact run_eql_slice_nilW W 78 5 (some a) bs.length c 0 0 Tryz.underlying78
    clear h1 h2 h3 hb hp hl
    go_enter Tryz.func45, Tryz.ntmps45
    go_wp2_with (refine wpList_append_bytes rfl (.tmp 5) (.tmp 6) 78 5 isU8W rfl w.heap.size (.slice (some ⟨w.heap.size, 0, none⟩) 0 0) (.slice (some a) bs.length c) [] bs rfl rfl (owns_new w _ _ [] (Nat.le_refl _) (by simp [maxLen])) HB.out.1 (by have := HB.out.2; simp; omega) (by simp) ?_; intro v' w' o' b' _)
    go_ret
    exact ⟨_, rfl, by simpa using o', ((box_belowW w _).mono (Nat.le_refl _)).trans b'⟩
section
variable {w U w4 : World} {p b : Nat} {v v' : Value} {L L' : List Px} {s : Wr} {l : List Pc} {F F' : Nat → Prop}
theorem flipW_no {i k j : Int} (h : s.may i = false) : flipW s i k j = (3, s) := by unfold flipW; rw [if_neg (by rw [h]; simp)]
theorem flipW_bad {i k j : Int} (h : s.may i = true) (h2 : ¬ (0 ≤ k ∧ k < ((s.at i).1.length : Int) ∧ 0 ≤ j ∧ j ≤ 7)) : flipW s i k j = (2, s) := by unfold flipW; rw [if_pos h, if_neg h2]
theorem flipW_old {i k j : Int} (h : s.may i = true) (h2 : 0 ≤ k ∧ k < ((s.at i).1.length : Int) ∧ 0 ≤ j ∧ j ≤ 7) (h3 : (s.at i).2 = true) : flipW s i k j = (4, s) := by unfold flipW; rw [if_pos h, if_pos h2, if_pos h3]
theorem flipW_new {i k j : Int} (h : s.may i = true) (h2 : 0 ≤ k ∧ k < ((s.at i).1.length : Int) ∧ 0 ≤ j ∧ j ≤ 7) (h3 : (s.at i).2 = false) : flipW s i k j = (0, { s with l := s.l.set i.toNat (flipB (s.at i).1 k.toNat j.toNat, true) }) := by unfold flipW; rw [if_pos h, if_pos h2, if_neg (by rw [h3]; simp)]
def zPx : Px := ⟨none, 0, 0, false, []⟩
theorem onePx (x : Px) : (pxcells x).toArray.all (·.oneCell') = true := by simp [pxcells, Value.oneCell']
/-- Behind a box for a packet on its way. -/
structure Bx (w U : World) (x : Px) : Prop where
  c0 : U.cell? ⟨w.heap.size, 0, none⟩ = some (.slice x.a x.n x.c)
  c1 : U.cell? ⟨w.heap.size, 1, none⟩ = some (.bool x.t)
  bel : Below w.heap.size w U
set_option maxHeartbeats 4000000 in
theorem flip_any {i k j : Int} (h : Wt w p F s) (ok : s.Ok) : Calls Tryz.prog 22 #[.pointer (some ⟨p, 0, none⟩), .int .i64 i, .int .i64 k, .int .i64 j] w (EndP w p F (flipW s i k j)) := by
  obtain ⟨v, b, L, hq, hF⟩ := h
  have hC := check_at hq ok i
  obtain ⟨R, hR⟩ : ∃ R, flipW s i k j = R := ⟨_, rfl⟩
  rw [hR]
  have HQ : Hid (Wt w p F s) := ⟨_, _, _, hq, hF⟩
  cases hm : s.may i
  · rw [hm, if_neg (by simp)] at hC
    have HE : Hid (R = (3, s)) := by
      show _ = _
      rw [← hR, flipW_no hm]
    clear hq hF hm hR ok
    go_enter Tryz.func22, Tryz.ntmps22
    go_wp2_with (go_at_call 40; refine hC.mono ?_; rintro e w2 ⟨rfl, rfl⟩)
    go_ret
    rw [HE.out]
    exact EndP.same HQ.out (Below.refl _ _)
  · rw [hm, if_pos rfl] at hC
    obtain ⟨m1, m2⟩ := may_yes hm
    obtain ⟨q, rfl⟩ : ∃ q : Nat, i = (q : Int) := ⟨i.toNat, by omega⟩
    have hk : q < L.length := by rw [hq.len]; omega
    obtain ⟨c0, c1, c2⟩ := hq.cells
    obtain ⟨g, c, rfl⟩ : ∃ g c, v = .slice (some ⟨g, 0, none⟩) s.l.length c := by
      obtain ⟨g, off, c, hv, _⟩ := hq.px hk
      rcases OwnOf.split hq.rows with ⟨h0, _⟩ | ⟨g', c', T, hv', _⟩
      · rw [h0] at hv; cases hv
      · exact ⟨g', c', by rw [← hq.len]; exact hv'⟩
    obtain ⟨d0, d1, _⟩ := hq.rows.soft q hk
    have hkl : q < s.l.length := by omega
    have hkl2 : (q : Int) < (s.l.length : Int) := by omega
    obtain ⟨W, fold⟩ : ∃ W, w.alloc (.cells #[.slice none 0 0, .bool false] 81) = W := ⟨_, rfl⟩
    have xW : W.heap[w.heap.size]? = some (.cells (pxcells zPx).toArray 81 (0, 0)) := by rw [← fold]; exact heap_alloc_new w _
    have bW : Below w.heap.size w W := by rw [← fold]; exact box_belowW _ _
    obtain ⟨V, fV⟩ : ∃ V, W.setRow w.heap.size (pxcells L[q]).toArray = V := ⟨_, rfl⟩
    have bV : Below w.heap.size w V := by rw [← fV]; exact below_setRow bW (Nat.le_refl _) _
    have xV : V.heap[w.heap.size]? = some (.cells (pxcells L[q]).toArray 81 (0, 0)) := by rw [← fV]; exact setRow_heap _ _ _ _ _ _ xW
    have HX : Hid (W.heap[w.heap.size]? = some (.cells (pxcells zPx).toArray 81 (0, 0)) ∧ Below w.heap.size w V ∧ V.heap[w.heap.size]? = some (.cells (pxcells L[q]).toArray 81 (0, 0))) := ⟨xW, bV, xV⟩
    have y0 : V.cell? ⟨w.heap.size, 0, none⟩ = some (.slice L[q].a L[q].n L[q].c) := cell_of_list (C := pxcells L[q]) xV 0
    have y1 : V.cell? ⟨w.heap.size, 1, none⟩ = some (.bool L[q].t) := cell_of_list (C := pxcells L[q]) xV 1
    have hat := hq.at hk
    have hb := hq.all L[q] (List.getElem_mem hk)
    have hn : L[q].n = L[q].b.length := by
      obtain ⟨_, _, hv⟩ := hb.holds.slice
      injection hv
    by_cases hbad : ¬ (0 ≤ k ∧ k < (L[q].n : Int) ∧ 0 ≤ j ∧ j ≤ 7)
    · have HE : Hid (R = (2, s)) := by
        show _ = _
        rw [← hR, flipW_bad hm (by rw [hat]; show ¬ (0 ≤ k ∧ k < (L[q].b.length : Int) ∧ _); rw [← hn]; exact hbad)]
      generalize L[q] = x at *
      generalize s.l.length = n at *
      have hcs : k < 0 ∨ (¬ k < 0 ∧ (x.n : Int) ≤ k) ∨ (¬ k < 0 ∧ ¬ (x.n : Int) ≤ k ∧ j < 0) ∨ (¬ k < 0 ∧ ¬ (x.n : Int) ≤ k ∧ ¬ j < 0 ∧ 7 < j) := by omega
      clear hq hF hm hR ok hk hat hb hn hbad xW xV bW
      rcases hcs with h1 | ⟨h1, h2⟩ | ⟨h1, h2, h3⟩ | ⟨h1, h2, h3, h4⟩
      all_goals go_enter Tryz.func22, Tryz.ntmps22
      all_goals go_wp2_with (first
        | (go_at_call 40; refine hC.mono ?_; rintro e w ⟨rfl, rfl⟩)
        | (refine wpList_store_row rfl 81 _ _ rfl w.heap.size (pxcells x).toArray rfl rfl 81 (pxcells zPx).toArray HX.out.1 pxInfo2 rfl (onePx x) ?_; rw [fV]))
      all_goals go_ret
      all_goals rw [HE.out]
      all_goals exact EndP.same HQ.out HX.out.2.1
    · have hok := Classical.not_not.1 hbad
      obtain ⟨h1, h2, h3, h4⟩ := hok
      obtain ⟨k, rfl⟩ : ∃ z : Nat, k = (z : Int) := ⟨k.toNat, by omega⟩
      obtain ⟨j, rfl⟩ : ∃ z : Nat, j = (z : Int) := ⟨j.toNat, by omega⟩
      have hkb : k < L[q].b.length := by omega
      have hok2 : 0 ≤ (k : Int) ∧ (k : Int) < ((s.at (q : Int)).1.length : Int) ∧ 0 ≤ (j : Int) ∧ (j : Int) ≤ 7 := by
        rw [hat]
        show 0 ≤ (k : Int) ∧ (k : Int) < (L[q].b.length : Int) ∧ _
        omega
      have hj : j ≤ 7 := by omega
      have g1 : ¬ ((L[q].n : Int) ≤ (k : Int)) := by omega
      have g2 : ¬ ((7 : Int) < (j : Int)) := by omega
      cases ht : L[q].t
      rotate_left
      · have HE : Hid (R = (4, s)) := by
          show _ = _
          rw [← hR, flipW_old hm hok2 (by rw [hat]; exact ht)]
        generalize L[q] = x at *
        obtain ⟨xa, xn, xc, xt, xb⟩ := x
        dsimp only at ht hn h2 g1 hkb d0 d1 y0 y1
        subst ht hn
        generalize s.l.length = n at *
        clear hq hF hm hR ok hk hat hb hbad xW xV bW hok2
        go_enter Tryz.func22, Tryz.ntmps22
        go_wp2_with (first
        | (go_at_call 40; refine hC.mono ?_; rintro e w ⟨rfl, rfl⟩)
        | (refine wpList_store_row rfl 81 _ _ rfl w.heap.size (pxcells ⟨xa, xb.length, xc, true, xb⟩).toArray rfl rfl 81 (pxcells zPx).toArray HX.out.1 pxInfo2 rfl (onePx _) ?_; rw [fV]))
        go_ret
        rw [HE.out]
        exact EndP.same HQ.out HX.out.2.1
      · have hlen : L[q].b.length ≤ 1000 := ok.short L[q].pc (by rw [← hq.eq]; exact List.mem_map.2 ⟨_, List.getElem_mem hk, rfl⟩)
        have hbV : Holds V (.slice L[q].a L[q].n L[q].c) L[q].b := hb.holds.below bV (Nat.le_refl _)
        have hCl := clone_any _ _ V hbV (by omega) (by omega)
        have HE : Hid (R = (0, { s with l := s.l.set q (flipB L[q].b k j, true) })) := by
          show _ = _
          rw [← hR, flipW_new hm hok2 (by rw [hat]; exact ht), hat, Int.toNat_natCast, Int.toNat_natCast, Int.toNat_natCast]
          rfl
        have HQ2 : Hid (WAt w p (.slice (some ⟨g, 0, none⟩) s.l.length c) b L s ∧ (∀ k, F k ↔ foot p (.slice (some ⟨g, 0, none⟩) s.l.length c) b L k) ∧ q < L.length) := ⟨hq, hF, hk⟩
        have HV : Hid (Below w.heap.size w V) := bV
        generalize L[q] = x at *
        obtain ⟨xa, xn, xc, xt, xb⟩ := x
        dsimp only at ht hn h2 g1 hkb d0 d1 y0 y1 hbV hCl HE hlen
        subst ht hn
        generalize s.l.length = n at *
        clear hq hF hm hR ok hk hat hb hbad xW xV bW hok2
        go_enter Tryz.func22, Tryz.ntmps22
        go_wp2_with (first
        | (go_at_call 40; refine hC.mono ?_; rintro e w ⟨rfl, rfl⟩)
        | (refine wpList_store_row rfl 81 _ _ rfl w.heap.size (pxcells ⟨xa, xb.length, xc, false, xb⟩).toArray rfl rfl 81 (pxcells zPx).toArray HX.out.1 pxInfo2 rfl (onePx _) ?_; rw [fV]))
        refine hCl.mono ?_
        rintro e w3 ⟨v3, rfl, o3, b3⟩
        obtain ⟨g3, cp3, hv3⟩ : ∃ g3 c3, v3 = .slice (some ⟨g3, 0, none⟩) xb.length c3 := by
          rcases o3.2 with ⟨rfl, h0⟩ | ⟨g3, c3, cur, rfl, _⟩
          · omega
          · exact ⟨g3, c3, rfl⟩
        subst hv3
        obtain ⟨z0, z1, z2⟩ := o3.byteAt k hkb
        have H3 : Hid (Owns w3 V.heap.size 5 (.slice (some ⟨g3, 0, none⟩) xb.length cp3) xb ∧ Below w.heap.size w w3) := ⟨o3, keptW HV.out b3⟩
        obtain ⟨X, hX⟩ : ∃ X, (xb[k]?.getD 0) = X := ⟨_, rfl⟩
        rw [hX] at z0
        have HX2 : Hid ((xb[k]?.getD 0) = X) := hX
        clear o3 b3 hX hCl hbV
        have hfx : bits BinOp.xor IntKind.u8 (X.toNat : Int) (2 ^ j % 256) = ((UInt8.ofNat (X.toNat ^^^ 2 ^ j)).toNat : Int) := by
          rw [← flip_bit X j (by omega)]
          congr 1
          obtain rfl | rfl | rfl | rfl | rfl | rfl | rfl | rfl : j = 0 ∨ j = 1 ∨ j = 2 ∨ j = 3 ∨ j = 4 ∨ j = 5 ∨ j = 6 ∨ j = 7 := by omega
          all_goals rfl
        obtain ⟨Y, hY⟩ : ∃ Y, UInt8.ofNat (X.toNat ^^^ 2 ^ j) = Y := ⟨_, rfl⟩
        rw [hY] at hfx
        have HB : Hid (flipB xb k j = xb.set k Y) := by
          show _ = _
          rw [flipB_set xb k j hj, HX2.out, hY]
        obtain ⟨X4, hX4⟩ : ∃ X4, w3.setCell ⟨g3, k, none⟩ (.int .u8 (Y.toNat : Int)) = X4 := ⟨_, rfl⟩
        have g3w : w.heap.size ≤ g3 := Nat.le_trans HV.out.size z2
        have b4 : Below w.heap.size w X4.drew := by
          have : Below w.heap.size w3 X4 := by rw [← hX4]; exact ⟨rfl, rfl, rfl, by rw [World.size_setCell]; exact Nat.le_refl _, fun z hz => heap_setCell_other _ _ _ _ (show z ≠ g3 by omega)⟩
          exact (H3.out.2.trans this).drew
        have o4 : Owns X4.drew V.heap.size 5 (.slice (some ⟨g3, 0, none⟩) xb.length cp3) (xb.set k Y) := by
          have h := H3.out.1.set k Y
          rw [hX4] at h
          exact h
        have hq4 := HQ2.out.1.same fun z hz => b4.block z (HQ2.out.1.lts z hz)
        obtain ⟨e0, e1, e2, e3, _⟩ := hq4.rows.soft q HQ2.out.2.2
        obtain ⟨_, k1, _⟩ := hq4.cells
        have e4 : ∀ u, (X4.setCell ⟨g, q * 2, none⟩ u).drew.cell? ⟨g, q * 2 + 1, none⟩ = some (.bool L[q].t) := fun u => by
          show (X4.setCell ⟨g, q * 2, none⟩ u).cell? ⟨g, q * 2 + 1, none⟩ = _
          rw [World.cell?_setCell_other _ _ _ _ (by intro h; injection h with _ h; omega)]
          exact e1
        have e5 : ∀ u, (X4.setCell ⟨g, q * 2, none⟩ u).drew.frozen? ⟨g, q * 2 + 1, none⟩ = false := fun u => by
          show (X4.setCell ⟨g, q * 2, none⟩ u).frozen? ⟨g, q * 2 + 1, none⟩ = _
          rw [World.frozen?_setCell]
          exact e3
        have HE4 := elem_set HQ2.out.1 b4 HQ2.out.2.2 ⟨some ⟨g3, 0, none⟩, xb.length, cp3, true, xb.set k Y⟩ (by
          obtain ⟨a, c, _, ho, _⟩ := owns_px o4
          exact ho) (fun z hz => by injection hz with hz; rw [← hz]; exact g3w)
        have HE5 : Hid (EndP w p F R (.returned (.int .i64 0)) (put2 X4.drew g (q * 2) ⟨some ⟨g3, 0, none⟩, xb.length, cp3, true, xb.set k Y⟩)) := by
          show EndP _ _ _ _ _ _
          rw [HE.out, HB.out]
          exact ⟨rfl, _, ⟨_, _, _, HE4.1, fun _ => Iff.rfl⟩, HE4.2.toF HQ2.out.2.1⟩
        clear HE4 hq4 o4 b4 hY
        go_wp2
        go_region
        go_wp2
        go_ret
        exact HE5.out
end
end Go.Proofs.YtdbgojmjjkidbaaGreatDoor

/-
  A WIRE OF THE CALL's OWN, through a row of calls.
-/
namespace Go.Proofs.YtdbgojmjjkidbaaGreatDoor
open Go.RowKit Go.Maps Go.Sort K
set_option maxRecDepth 20000

/-- The tables that the calls read. -/
def Tbs (w : World) : Prop := Tab w ∧ PKinds w
structure Lw (w0 U : World) (p : Nat) (F : Nat → Prop) (s : Wr) : Prop where
  wt : Wt U p F s
  ok : s.Ok
  fr : ∀ k, F k → w0.heap.size ≤ k
  bel : Below w0.heap.size w0 U
section
variable {w0 U V : World} {p : Nat} {F F' : Nat → Prop} {s s' : Wr}
theorem Tbs.at (h : Tbs w0) (b : Below w0.heap.size w0 U) : Tbs U := ⟨h.1.below b h.1.pos, h.2.below b⟩
theorem Lw.go (h : Lw w0 U p F s) (b : Below U.heap.size U V) : Lw w0 V p F s := ⟨h.wt.kept b, h.ok, h.fr, keptW h.bel b⟩
theorem Lw.step (h : Lw w0 U p F s) (m : Moved U V F F') (wt : Wt V p F' s') (ok : s'.Ok) : Lw w0 V p F' s' := ⟨wt, ok, m.from h.fr h.bel.size, m.below h.fr h.bel h.bel.size⟩
/-- .. while something else of the call's own changes. -/
theorem Lw.beside {G G' : Nat → Prop} (h : Lw w0 U p F s) (m : Moved U V G G') (hG : ∀ k, G k → w0.heap.size ≤ k) (ha : ∀ k, G k → ¬ F k) : Lw w0 V p F s := ⟨h.wt.beside m ha, h.ok, h.fr, m.below hG h.bel h.bel.size⟩
theorem Lw.safe (h : Lw w0 U p F s) (ht : Tbs w0) : Safe U F := fun _ _ m => ht.at (m.below h.fr h.bel h.bel.size)
def LwP (w0 U : World) (p : Nat) (F : Nat → Prop) (r : Int × Wr) (e : Ending) (V : World) : Prop := e = .returned (.int .i64 r.1) ∧ ∃ F', Lw w0 V p F' r.2 ∧ Moved U V F F'
theorem Lw.of (h : Lw w0 U p F s) {r : Int × Wr} {e : Ending} (ok : r.2.Ok) (he : EndP U p F r e V) : LwP w0 U p F r e V := by
  obtain ⟨h1, F', h2, h3⟩ := he
  exact ⟨h1, F', h.step h3 h2 ok, h3⟩
theorem Lw.send (h : Lw w0 U p F s) (ht : Tbs w0) (pk : Pk) (hp : pk.Fits) : Calls Tryz.prog 12 #[.pointer (some ⟨p, 0, none⟩), pv pk] U (LwP w0 U p F (sendW s pk)) :=
  (send_any h.wt h.ok (ht.at h.bel).1 (ht.at h.bel).2 pk hp).mono fun _ _ he => h.of (sendW_ok h.ok pk) he
theorem Lw.twice (h : Lw w0 U p F s) (i : Int) : Calls Tryz.prog 20 #[.pointer (some ⟨p, 0, none⟩), .int .i64 i] U (LwP w0 U p F (twiceW s i)) :=
  (twice_any h.wt h.ok).mono fun _ _ he => h.of (twiceW_ok h.ok i) he
theorem Lw.drop (h : Lw w0 U p F s) (i : Int) : Calls Tryz.prog 18 #[.pointer (some ⟨p, 0, none⟩), .int .i64 i] U (LwP w0 U p F (dropW s i)) :=
  (drop_any h.wt h.ok).mono fun _ _ he => h.of (dropW_ok h.ok i) he
theorem Lw.flip (h : Lw w0 U p F s) (i k j : Int) : Calls Tryz.prog 22 #[.pointer (some ⟨p, 0, none⟩), .int .i64 i, .int .i64 k, .int .i64 j] U (LwP w0 U p F (flipW s i k j)) :=
  (flip_any h.wt h.ok).mono fun _ _ he => h.of (flipW_ok h.ok i k j) he
theorem Lw.sever (h : Lw w0 U p F s) (ht : Tbs w0) (x : Ed) (hx : EFit x) : Calls Tryz.prog 24 #[.pointer (some ⟨p, 0, none⟩), ev x] U (LwP w0 U p F (severW s x)) :=
  (sever_any h.wt h.ok (h.safe ht) hx).mono fun _ _ he => h.of (severW_ok h.ok x) he
theorem Lw.mend (h : Lw w0 U p F s) (x : Ed) (hx : EFit x) : Calls Tryz.prog 26 #[.pointer (some ⟨p, 0, none⟩), ev x] U (LwP w0 U p F (mendW s x)) :=
  (mend_any h.wt h.ok hx).mono fun _ _ he => h.of (mendW_ok h.ok x) he
def LookE (s : Wr) (i : Int) (e : Ending) : Prop := e = .returned (.tuple #[pv (pkOf (lookW s i).1), .int .i64 (lookW s i).2])
theorem Lw.look (h : Lw w0 U p F s) (ht : Tbs w0) (i : Int) : Calls Tryz.prog 16 #[.pointer (some ⟨p, 0, none⟩), .int .i64 i] U fun e V => LookE s i e ∧ Below U.heap.size U V := by
  obtain ⟨v, b, L, hq, _⟩ := h.wt
  exact (look_at hq h.ok (ht.at h.bel).1 (ht.at h.bel).2 i).mono fun _ _ he => he
theorem Lw.take (h : Lw w0 U p F s) (ht : Tbs w0) (i : Int) : Calls Tryz.prog 14 #[.pointer (some ⟨p, 0, none⟩), .int .i64 i] U fun e V => LookE s i e ∧ ∃ F', Lw w0 V p F' (dropW s i).2 ∧ Moved U V F F' :=
  (take_any h.wt h.ok (ht.at h.bel).1 (ht.at h.bel).2).mono fun _ _ ⟨he, F', h2, h3⟩ => ⟨he, F', h.step h3 h2 (dropW_ok h.ok i), h3⟩
theorem Lw.len (h : Lw w0 U p F s) : Calls Tryz.prog 29 #[.pointer (some ⟨p, 0, none⟩)] U fun e V => e = .returned (.int .i64 (s.l.length : Nat)) ∧ V = U := by
  obtain ⟨v, b, L, hq, _⟩ := h.wt
  exact len_at hq h.ok
theorem Lw.severed (h : Lw w0 U p F s) : Calls Tryz.prog 28 #[.pointer (some ⟨p, 0, none⟩)] U fun e V => ∃ v', e = .returned v' ∧ OwnE V U.heap.size v' s.ways ∧ Below U.heap.size U V := by
  obtain ⟨v, b, L, hq, _⟩ := h.wt
  exact severed_at hq h.ok
theorem new_lw (w0 U : World) (b : Below w0.heap.size w0 U) (n : Nat) (h1 : 1 ≤ n) (h2 : n ≤ 2000) : Calls Tryz.prog 8 #[.int .i64 (n : Int)] U fun e V => ∃ p, e = .returned (.pointer (some ⟨p, 0, none⟩)) ∧ ∃ F, Lw w0 V p F (newW n) ∧ (∀ k, F k → U.heap.size ≤ k) ∧ Below U.heap.size U V :=
  (wnew_good n U h1 h2).mono fun _ _ ⟨p, he, F, hw, hF, hb⟩ => ⟨p, he, F, ⟨hw, newW_ok h1 h2, fun k hk => Nat.le_trans b.size (hF k hk), keptW b hb⟩, hF, hb⟩
end

def Ms.Sum (m : Ms) : Prop := m.ex.size + m.key.size + m.body.size ≤ 9223372036854775807
def greatP (p : Pk) : Bool := decide (2000 < p.m.ex.size + p.m.key.size + p.m.body.size)
theorem greatP_any (p : Pk) (w : World) (hs : p.m.Sum) : Calls Tryz.prog 11 #[pv p] w fun e w' => e = .returned (.bool (greatP p)) ∧ Below w.heap.size w w' := by
  obtain ⟨W, fold⟩ : ∃ W, w.alloc (.cells #[.int .i64 p.kind, .int .i64 p.fr, .int .i64 p.dest, .int .u64 p.ep, .int .u16 p.num, .int .u64 p.mask, .int .i64 p.m.origin, .int .u64 p.m.seq, .int .i64 p.m.hop, .string p.m.ex, .string p.m.key, .string p.m.body] 35) = W := ⟨_, rfl⟩
  have b0 : Below w.heap.size w W := by rw [← fold]; exact box_below w _
  have x0 : W.heap[w.heap.size]? = some (.cells (pcells p).toArray 35 (0, 0)) := by rw [← fold]; exact heap_alloc_new w _
  obtain ⟨y0, y1, y2, y3, y4, y5, y6, y7, y8, y9, y10, y11⟩ := cells12 x0
  unfold Ms.Sum at hs
  have HG : Hid (greatP p = decide ((2000 : Int) < (p.m.ex.size : Int) + p.m.key.size + p.m.body.size)) := by
    show _ = _
    unfold greatP
    rw [decide_eq_decide]
    omega
  have HB : Hid (Below w.heap.size w W) := b0
  have w1 : IntKind.i64.wrap ((p.m.ex.size : Int) + p.m.key.size) = (p.m.ex.size : Int) + p.m.key.size := by rw [IntKind.wrap_i64]; omega
  have w2 : IntKind.i64.wrap ((p.m.ex.size : Int) + p.m.key.size + p.m.body.size) = (p.m.ex.size : Int) + p.m.key.size + p.m.body.size := by rw [IntKind.wrap_i64]; omega
  clear hs b0 x0
  go_enter Tryz.func11, Tryz.ntmps11
  go_wp2
  go_ret
  exact ⟨by rw [HG.out]; rfl, HB.out⟩
/-- The packet of the document's example. -/
def helP : Pk := ⟨1, 1, 2, 5, 0, 0, zM⟩
theorem helP_good : goodP helP = true := by decide
theorem helP_fits : helP.Fits := ⟨⟨by decide, by decide⟩, ⟨by decide, by decide⟩, ⟨by decide, by decide⟩, ⟨by decide, by decide⟩, ⟨by decide, by decide⟩, ⟨by decide, by decide⟩, zM_fits19⟩
theorem results_pk {fn : Func} {q : Tmp} (h : fn.results = #[.cell q 35]) (tmps : Array Value) (w : World) (g : Nat) (p : Pk) (hp : tmps.getD q undef = .pointer (some ⟨g, 0, none⟩)) (hg : w.heap[g]? = some (.cells (pcells p).toArray 35 (0, 0))) :
    (results fn tmps).run Tryz.prog w = .ok (pv p) w := results_cell_row h tmps w g 35 (pcells p).toArray (0, 0) _ hp hg Tryz.underlying35 rfl info12
theorem hello_any (w : World) : Calls Tryz.prog 31 #[] w fun e w' => e = .returned (pv helP) ∧ Below w.heap.size w w' := by
  obtain ⟨W, fold⟩ : ∃ W, w.alloc (.cells #[.int .i64 0, .int .i64 0, .int .i64 0, .int .u64 0, .int .u16 0, .int .u64 0, .int .i64 0, .int .u64 0, .int .i64 0, .string ⟨#[]⟩, .string ⟨#[]⟩, .string ⟨#[]⟩] 35) = W := ⟨_, rfl⟩
  have b0 : Below w.heap.size w W := by rw [← fold]; exact box_below w _
  have x0 : W.heap[w.heap.size]? = some (.cells (pcells nilP).toArray 35 (0, 0)) := by rw [← fold]; exact heap_alloc_new w _
  have H0 : Hid (Below w.heap.size w W ∧ W.heap[w.heap.size]? = some (.cells (pcells nilP).toArray 35 (0, 0))) := ⟨b0, x0⟩
  clear b0 x0
  go_enter Tryz.func31, Tryz.ntmps31
  go_wp2_with (refine wpList_store_row rfl 35 _ _ rfl w.heap.size (pcells helP).toArray rfl rfl 35 (pcells nilP).toArray H0.out.2 info12 rfl (one12 helP) ?_)
  refine bodyPost_ret (results_pk rfl _ _ w.heap.size helP rfl (setRow_heap _ _ _ _ _ _ H0.out.2)) rfl ⟨rfl, below_setRow H0.out.1 (Nat.le_refl _) _⟩
end Go.Proofs.YtdbgojmjjkidbaaGreatDoor
