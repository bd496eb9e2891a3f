/-
  PacketBack's law.
-/
import Derived.Test.YtopacoghnofliaaDoorJLives19
namespace Go.Proofs.YtopacoghnofliaaDoor
open Go.RowKit

/-- A byte of a row of the call's own is written. -/
theorem Owns.set {w : World} {base g len cap : Nat} {e : TypeId} {bs : List UInt8} (h : Owns w base e (.slice (some ⟨g, 0, none⟩) len cap) bs) (i : Nat) (x : UInt8) :
    Owns (w.setCell ⟨g, i, none⟩ (.int .u8 (x.toNat : Int))) base e (.slice (some ⟨g, 0, none⟩) len cap) (bs.set i x) := by
  rcases h.2 with ⟨h0, _⟩ | ⟨g', cap', cur, hv, hb, hg, h1, h2, h3, h4⟩
  · cases h0
  · injection hv with hv1 hv2 hv3
    injection hv1 with hv1
    injection hv1 with hv1 _ _
    subst hv1 hv2 hv3
    have hc : (cur.setIfInBounds i (.int .u8 (x.toNat : Int))).toList = cur.toList.set i (.int .u8 (x.toNat : Int)) := by simp
    refine ⟨by simp [bcells], .inr ⟨g, cap, _, by rw [List.length_set], hb, heap_setCell_same w g i cur e _ hg, by rw [List.length_set]; exact h1, h2, by simpa using h3, ?_⟩⟩
    rw [hc, List.length_set, List.take_set, h4]
    simp [bcells, List.map_set]
theorem test_bit (U n : Nat) (hU : U < 4294967296) : (bits .and .u32 ((U : Int) / 2 ^ n) 1 == 1) = U.testBit n := by
  have e0 : ((U : Int) / 2 ^ n) = ((U / 2 ^ n : Nat) : Int) := by rw [Int.natCast_ediv, Int.natCast_pow]; rfl
  have hq : U / 2 ^ n < 4294967296 := Nat.lt_of_le_of_lt (Nat.div_le_self _ _) hU
  have h1 := u32_and_nat (U / 2 ^ n) 1 hq (by decide)
  rw [e0, show (1 : Int) = ((1 : Nat) : Int) from rfl, h1, Nat.and_one_is_mod, Nat.testBit_eq_decide_div_mod_eq, Bool.eq_iff_iff]
  generalize U / 2 ^ n = q
  simp
  omega
theorem flip_byte (x : UInt8) (m : Nat) (h : m < 8) : bits .xor .u8 (x.toNat : Int) (128 / 2 ^ m) = ((UInt8.ofNat (x.toNat ^^^ 2 ^ (7 - m))).toNat : Int) := by
  have hx := x.toNat_lt
  rw [flipAt_byte x (7 - m) (by omega)]
  obtain rfl | rfl | rfl | rfl | rfl | rfl | rfl | rfl : m = 0 ∨ m = 1 ∨ m = 2 ∨ m = 3 ∨ m = 4 ∨ m = 5 ∨ m = 6 ∨ m = 7 := by omega
  · exact u8_xor_nat x.toNat 128 (by omega) (by decide)
  · exact u8_xor_nat x.toNat 64 (by omega) (by decide)
  · exact u8_xor_nat x.toNat 32 (by omega) (by decide)
  · exact u8_xor_nat x.toNat 16 (by omega) (by decide)
  · exact u8_xor_nat x.toNat 8 (by omega) (by decide)
  · exact u8_xor_nat x.toNat 4 (by omega) (by decide)
  · exact u8_xor_nat x.toNat 2 (by omega) (by decide)
  · exact u8_xor_nat x.toNat 1 (by omega) (by decide)
/-- The byte that is to be changed. -/
theorem Owns.byteAt {w : World} {base g len cap : Nat} {e : TypeId} {bs : List UInt8} (h : Owns w base e (.slice (some ⟨g, 0, none⟩) len cap) bs) (i : Nat) (hi : i < bs.length) :
    w.cell? ⟨g, i, none⟩ = some (.int .u8 ((bs[i]?.getD 0).toNat : Int)) ∧ w.frozen? ⟨g, i, none⟩ = false ∧ base ≤ g := by
  rcases h.2 with ⟨h0, _⟩ | ⟨g', cap', cur, hv, hb, hg, _⟩
  · cases h0
  · injection hv with hv1 _ _
    injection hv1 with hv1
    injection hv1 with hv1 _ _
    subst hv1
    refine ⟨?_, frozen_of_row w g i cur e hg, hb⟩
    have := World.ownsRow.cells h (g := g) rfl i (.int .u8 (bs[i].toNat : Int)) (by simp [bcells, hi])
    rw [Go.WideShapes.add_plain, Nat.zero_add] at this
    rw [this, List.getElem?_eq_getElem hi]
    rfl
/-- A packet's box, its bytes, and the box of what was read of them. -/
structure Bk (w U : World) (p : Pk) (g c L x8 : Nat) (bs : List UInt8) : Prop where
  old : Tab w ∧ PKinds w
  lv : Lv w U w.heap.size p
  own : Owns U w.heap.size 5 (.slice (some ⟨g, 0, none⟩) L c) bs
  h8 : U.heap[x8]? = some (.cells (pcells p).toArray 29 (0, 0))
theorem Bk.go {w U V : World} {p : Pk} {g c L x8 : Nat} {bs : List UInt8} (h : Bk w U p g c L x8 bs) (b : Below U.heap.size U V) : Bk w V p g c L x8 bs :=
  ⟨h.old, h.lv.go b, h.own.kept b (Nat.le_refl _), (b.block _ (Array.getElem?_eq_some_iff.1 h.h8).1).trans h.h8⟩
theorem Bk.ne {w U : World} {p q : Pk} {g c L x8 y : Nat} {bs : List UInt8} (h : Bk w U p g c L x8 bs) (hb : 0 < bs.length) (hy : U.heap[y]? = some (.cells (pcells q).toArray 29 (0, 0))) : y ≠ g := by
  intro e
  subst e
  have h1 := (h.own.byteAt 0 hb).1
  rw [(cells12 hy).1] at h1
  cases h1
/-- A byte is changed. -/
theorem Bk.set {w U : World} {p : Pk} {g c L x8 : Nat} {bs : List UInt8} (h : Bk w U p g c L x8 bs) (hb : 0 < bs.length) (i : Nat) (x : UInt8) : Bk w (U.setCell ⟨g, i, none⟩ (.int .u8 (x.toNat : Int))) p g c L x8 (bs.set i x) := by
  have hg := (h.own.byteAt 0 hb).2.2
  have n1 := h.ne hb h.lv.hg
  have n2 := h.ne hb h.h8
  have hB : Below w.heap.size w (U.setCell ⟨g, i, none⟩ (.int .u8 (x.toNat : Int))) := h.lv.bel.setCell (p := ⟨g, i, none⟩) hg _
  exact ⟨h.old, ⟨h.old.1.below hB h.old.1.pos, h.old.2.below hB, (Below.heap_setCell _ _ _ _ n1).trans h.lv.hg, hB⟩, h.own.set i x, (Below.heap_setCell _ _ _ _ n2).trans h.h8⟩
set_option maxRecDepth 20000 in
set_option maxHeartbeats 8000000 in
theorem back_law (p : Pk) (at' burst : Int) (w : World) (ht : Tab w) (hK : PKinds w) (hp : p.Fits) (hs : p.m.Sum) (hat : 0 ≤ at' ∧ at' < 18446744073709551616) (hbu : 0 ≤ burst ∧ burst < 4294967296) :
    Calls Tryd.prog 5 #[pv p, .int .u64 at', .int .u32 burst] w fun e w' => e = .returned (.bool true) ∧ Below w.heap.size w w' := by
  obtain ⟨an, rfl⟩ : ∃ n : Nat, at' = n := ⟨at'.toNat, by omega⟩
  obtain ⟨bn, rfl⟩ : ∃ n : Nat, burst = n := ⟨burst.toNat, by omega⟩
  obtain ⟨W, fold⟩ : ∃ W, w.alloc (.cells #[.int .i64 p.kind, .int .i64 p.fr, .int .i64 p.dest, .int .u64 p.ep, .int .u16 p.num, .int .u64 p.mask, .int .i64 p.m.origin, .int .u64 p.m.seq, .int .i64 p.m.hop, .string p.m.ex, .string p.m.key, .string p.m.body] 29) = W := ⟨_, rfl⟩
  have b0 : Below w.heap.size w W := by rw [← fold]; exact box_below w _
  have x0 : W.heap[w.heap.size]? = some (.cells (pcells p).toArray 29 (0, 0)) := by rw [← fold]; exact heap_alloc_new w _
  have H0 : Hid (Lv w W w.heap.size p) := ⟨ht.below b0 ht.pos, hK.below b0, x0, b0⟩
  have hG := greatP_any p W hs
  have HF : Hid (p.Fits ∧ Tab w ∧ PKinds w ∧ an < 18446744073709551616 ∧ bn < 4294967296) := ⟨hp, ht, hK, by omega, by omega⟩
  clear ht hK hp hs b0 x0 hat hbu
  go_enter Tryd.func5, Tryd.ntmps5
  go_wp2_with (refine wpList_load_row rfl 29 _ rfl w.heap.size rfl 29 (pcells p).toArray (0, 0) _ H0.out.hg Tryd.underlying29 rfl info12 ?_)
  try rw [fold]
  refine hG.mono ?_
  rintro e V ⟨rfl, bV⟩
  clear hG
  have HV : Hid (Lv w V w.heap.size p) := H0.out.go bV
  clear bV
  cases hg : greatP p
  rotate_left
  · have hL := livesP_any V HV.out.tab HV.out.kinds
    go_wp2_with fail
    refine hL.mono ?_
    rintro e V2 ⟨rfl, b2⟩
    go_wp2
    go_ret
    exact ⟨rfl, keptW HV.out.bel b2⟩
  clear hg
  have hB := bytesP_any p V HV.out.tab HV.out.kinds HF.out.1
  go_wp2_with (refine wpList_load_row rfl 29 _ rfl w.heap.size rfl 29 (pcells p).toArray (0, 0) _ HV.out.hg Tryd.underlying29 rfl info12 ?_)
  refine hB.mono ?_
  rintro e w1 ⟨v1, rfl, o1, b1⟩
  clear hB
  have H1 : Hid (Lv w w1 w.heap.size p) := HV.out.go b1
  have hG := goodP_any p w1 H1.out.kinds HF.out.1.m
  have O1 : Hid (Owns w1 w.heap.size 5 v1 (bytesP p)) := o1.mono HV.out.bel.size
  clear o1 b1
  go_wp2_with (refine wpList_load_row rfl 29 _ rfl w.heap.size rfl 29 (pcells p).toArray (0, 0) _ H1.out.hg Tryd.underlying29 rfl info12 ?_)
  refine hG.mono ?_
  rintro e w2 ⟨rfl, b2⟩
  clear hG
  have H2 : Hid (Lv w w2 w.heap.size p ∧ Owns w2 w.heap.size 5 v1 (bytesP p)) := ⟨H1.out.go b2, O1.out.kept b2 (Nat.le_refl _)⟩
  clear b2
  cases hgp : goodP p
  · obtain ⟨a1, c1, hv1⟩ := H2.out.2.holds.slice
    rw [bytesP_none hgp] at hv1
    subst hv1
    have hL := livesP_any w2 H2.out.1.tab H2.out.1.kinds
    clear hgp
    simp only [List.length_nil]
    go_wp2_with fail
    refine hL.mono ?_
    rintro e V2 ⟨rfl, b2⟩
    go_wp2
    go_ret
    exact ⟨rfl, keptW H2.out.1.bel b2⟩
  have hlen := bytesP_length hgp
  have hraw := rawP_len hgp
  obtain ⟨M, hM⟩ : ∃ z, (rawP p).length + 4 = z := ⟨_, rfl⟩
  obtain ⟨L, hL⟩ : ∃ z, (bytesP p).length = z := ⟨_, rfl⟩
  have HL : Hid (goodP p = true ∧ (bytesP p).length = L ∧ L = M + 4 ∧ (rawP p).length + 4 = M) := ⟨hgp, hL, by omega, hM⟩
  have l1 : 19 ≤ L := by omega
  have l2 : L ≤ 408 := by omega
  obtain ⟨g, c1, hv1, hc1, hm1⟩ : ∃ g c1, v1 = .slice (some ⟨g, 0, none⟩) L c1 ∧ L ≤ c1 ∧ c1 ≤ maxLen := by
    rcases H2.out.2.2 with ⟨_, h⟩ | ⟨g, c1, _, hv, _, _, h1, h2, _⟩
    · omega
    · exact ⟨g, c1, by rw [hv, hL], by omega, h2⟩
  subst hv1
  have hR : Calls Tryd.prog 16 #[.slice (some ⟨g, 0, none⟩) L c1] w2 fun e w' => e = .returned (.tuple #[pv p, .int .i64 0]) ∧ Below w2.heap.size w2 w' := by
    have h := readP_any _ (bytesP p) w2 H2.out.1.tab H2.out.1.kinds H2.out.2.holds (by omega)
    unfold RdPost at h
    rw [readP_back p hgp HF.out.1] at h
    exact h
  clear hlen hraw hM hL hgp
  go_wp2_with fail
  refine hR.mono ?_
  rintro e w3 ⟨rfl, b3⟩
  clear hR
  obtain ⟨w4, f4⟩ : ∃ X, w3.alloc (.cells #[.int .i64 p.kind, .int .i64 p.fr, .int .i64 p.dest, .int .u64 p.ep, .int .u16 p.num, .int .u64 p.mask, .int .i64 p.m.origin, .int .u64 p.m.seq, .int .i64 p.m.hop, .string p.m.ex, .string p.m.key, .string p.m.body] 29) = X := ⟨_, rfl⟩
  have bx : Below w3.heap.size w3 w4 := by rw [← f4]; exact box_below w3 _
  have x4 : w4.heap[w3.heap.size]? = some (.cells (pcells p).toArray 29 (0, 0)) := by rw [← f4]; exact heap_alloc_new w3 _
  have b24 := keptW b3 bx
  obtain ⟨x8, hx8⟩ : ∃ z, w3.heap.size = z := ⟨_, rfl⟩
  have B4 : Hid (Bk w w4 p g c1 L x8 (bytesP p)) := ⟨⟨HF.out.2.1, HF.out.2.2.1⟩, H2.out.1.go b24, H2.out.2.kept b24 (Nat.le_refl _), by rw [← hx8]; exact x4⟩
  have HX8 : Hid (w3.heap.size = x8) := hx8
  clear b3 bx x4 b24 hx8
  -- cut
  obtain ⟨cc, hcc⟩ : ∃ z, an % L = z := ⟨_, rfl⟩
  have hci : ((an : Int) % (L : Int)) = (cc : Int) := by rw [← hcc]; exact (Int.natCast_emod an L).symm
  have hcl : cc < L := by rw [← hcc]; exact Nat.mod_lt _ (by omega)
  have hL0 : ((L : Int) == 0) = false := by rw [beq_eq_false_iff_ne]; omega
  have hL1 : ¬ (L : Int) = 0 := by omega
  obtain ⟨sa, sc, hs1, hsh, _⟩ := holds_to B4.out.own.holds cc (by have := HL.out.2.1; omega) (cc : Int) rfl
  obtain ⟨P1, hP1⟩ : ∃ z : Pk, pkOf none = z := ⟨_, rfl⟩
  have hR : Calls Tryd.prog 16 #[.slice sa cc sc] w4 fun e w' => e = .returned (.tuple #[pv P1, .int .i64 7]) ∧ Below w4.heap.size w4 w' := by
    have hl : ((bytesP p).take cc).length = cc := by rw [List.length_take]; have := HL.out.2.1; omega
    have h := readP_any (.slice sa cc sc) ((bytesP p).take cc) w4 B4.out.lv.tab B4.out.lv.kinds hsh (by omega)
    unfold RdPost at h
    rw [readP_cut p HL.out.1 cc (by have := HL.out.2.1; omega), hP1] at h
    exact h
  have hLc : (bytesP p).length = L := HL.out.2.1
  clear hcc hsh hP1
  go_wp2_with fail
  try rw [f4]
  try rw [HX8.out]
  refine hR.mono ?_
  rintro e w5 ⟨rfl, b5⟩
  clear hR hs1
  obtain ⟨w6, f6⟩ : ∃ X, w5.alloc (.cells #[.int .i64 P1.kind, .int .i64 P1.fr, .int .i64 P1.dest, .int .u64 P1.ep, .int .u16 P1.num, .int .u64 P1.mask, .int .i64 P1.m.origin, .int .u64 P1.m.seq, .int .i64 P1.m.hop, .string P1.m.ex, .string P1.m.key, .string P1.m.body] 29) = X := ⟨_, rfl⟩
  have bx : Below w5.heap.size w5 w6 := by rw [← f6]; exact box_below w5 _
  have B6 : Hid (Bk w w6 p g c1 L x8 (bytesP p)) := B4.out.go (keptW b5 bx)
  clear b5 bx
  -- one byte more
  obtain ⟨w7, f7⟩ : ∃ X, w6.alloc (.cells #[] 5) = X := ⟨_, rfl⟩
  have b7 : Below w6.heap.size w6 w7 := by rw [← f7]; exact box_below w6 _
  have o7 : Owns w7 w6.heap.size 5 (.slice (some ⟨w6.heap.size, 0, none⟩) 0 0) [] := by rw [← f7]; exact owns_new w6 w6.heap.size 5 [] (Nat.le_refl _) (by simp)
  have B7 : Hid (Bk w w7 p g c1 L x8 (bytesP p) ∧ Owns w7 w6.heap.size 5 (.slice (some ⟨w6.heap.size, 0, none⟩) 0 0) [] ∧ w6.heap.size ≤ w7.heap.size) := ⟨B6.out.go b7, o7, b7.size⟩
  clear b7 o7
  go_wp2_with (first
    | (at_builtin; (try rw [f7]); refine wpList_append_bytes rfl (.tmp 54) (.tmp 55) 34 5 isU8W rfl w6.heap.size _ _ [] (bytesP p) rfl rfl B7.out.2.1 B7.out.1.own.holds (by simp; omega) B7.out.2.2 ?_; intro v8 w8 o8 b8 z8)
    | (at_builtin; refine wpList_append_bytes rfl (.tmp 56) (.tmp 57) 34 5 isU8W rfl w6.heap.size _ _ ([] ++ bytesP p) [0] rfl rfl (World.ownsRow.alloc o8 _) (owns_new _ w8.heap.size _ [0] (Nat.le_refl _) (by simp [maxLen])).holds (by simp; omega) (by simp; omega) ?_; intro v9 w9 o9 b9 z9))
  have b69 : Below w6.heap.size w6 w9 := ((by rw [← f7]; exact box_below w6 _ : Below w6.heap.size w6 w7).trans b8).trans ((box_below w8 (.cells #[.int .u8 0] 5)).mono z8 |>.trans b9)
  have B9 : Hid (Bk w w9 p g c1 L x8 (bytesP p)) := B6.out.go b69
  rw [List.nil_append] at o9
  obtain ⟨P2, hP2⟩ : ∃ z : Pk, pkOf none = z := ⟨_, rfl⟩
  have hR : Calls Tryd.prog 16 #[v9] w9 fun e w' => e = .returned (.tuple #[pv P2, .int .i64 7]) ∧ Below w9.heap.size w9 w' := by
    have h := readP_any v9 (bytesP p ++ [0]) w9 B9.out.lv.tab B9.out.lv.kinds o9.holds (by rw [List.length_append]; simp; omega)
    unfold RdPost at h
    rw [readP_more p HL.out.1 0, hP2] at h
    exact h
  clear hP2 o8 b8 o9 b9 b69
  refine hR.mono ?_
  rintro e w10 ⟨rfl, b10⟩
  clear hR
  obtain ⟨w11, f11⟩ : ∃ X, w10.alloc (.cells #[.int .i64 P2.kind, .int .i64 P2.fr, .int .i64 P2.dest, .int .u64 P2.ep, .int .u16 P2.num, .int .u64 P2.mask, .int .i64 P2.m.origin, .int .u64 P2.m.seq, .int .i64 P2.m.hop, .string P2.m.ex, .string P2.m.key, .string P2.m.body] 29) = X := ⟨_, rfl⟩
  have bx : Below w10.heap.size w10 w11 := by rw [← f11]; exact box_below w10 _
  have B11 : Hid (Bk w w11 p g c1 L x8 (bytesP p)) := B9.out.go (keptW b10 bx)
  clear b10 bx
  -- a burst
  have hLM : L = M + 4 := HL.out.2.2.1
  obtain ⟨K, hK⟩ : ∃ K, an % (8 * M) = K := ⟨_, rfl⟩
  have hKi : ((an : Int) % (8 * (M : Int))) = (K : Int) := by rw [← hK, Int.natCast_emod, Int.natCast_mul]; rfl
  have hKlt : K < 8 * M := by rw [← hK]; exact Nat.mod_lt _ (by omega)
  have hsub : (L : Int) - 4 = (M : Int) := by omega
  have hM0 : ¬ 8 * (M : Int) = 0 := by omega
  have hM1 : ((8 * (M : Int)) == 0) = false := by rw [beq_eq_false_iff_ne]; omega
  clear hK
  obtain ⟨U, hU⟩ : ∃ U, U = bn ||| 1 := ⟨_, rfl⟩
  have hUi : bits .or .u32 (bn : Int) 1 = (U : Int) := by rw [hU]; exact u32_or_nat bn 1 HF.out.2.2.2.2 (by decide)
  have HU : Hid (U.testBit 0 = true ∧ U < 4294967296) := ⟨by rw [hU]; simp, by rw [hU]; exact Nat.or_lt_two_pow (n := 32) HF.out.2.2.2.2 (by decide)⟩
  clear hU hci
  have lM1 : 15 ≤ M := by omega
  have lM2 : M ≤ 404 := by omega
  have HLc : Hid ((bytesP p).length = L ∧ L = M + 4) := ⟨hLc, hLM⟩
  clear hLc hLM
  go_wp2_with fail
  try rw [f11]
  rw [hKi]
  clear hKi
  go_loopg [16] 32 (fun gh u16 wr => ∃ n : Nat, u16 = .int .i64 n ∧ n ≤ 32 ∧ K + n ≤ 8 * M ∧ gh = 32 - n ∧ Hid (Bk w wr p g c1 L x8 (burstB (bytesP p) (32 + K) U n)))
  case atStart => exact ⟨0, rfl, by omega, by omega, rfl, B11.out⟩
  case round =>
    obtain ⟨n, rfl, hn1, hn2, rfl, HB⟩ := hrel
    by_cases hstop : n < 32 ∧ K + n < 8 * M
    · obtain ⟨hs1, hs2⟩ := hstop
      have hblen : (burstB (bytesP p) (32 + K) U n).length = L := by rw [burstB_length]; exact HLc.out.1
      have hLM := HLc.out.2
      obtain ⟨hc, hf, hgb⟩ := HB.out.own.byteAt (4 + (K + n) / 8) (by rw [hblen]; omega)
      have htest := test_bit U n HU.out.2
      have hb0 : 0 < (burstB (bytesP p) (32 + K) U n).length := by omega
      have HB0 : Hid (0 < (burstB (bytesP p) (32 + K) U n).length ∧ L = M + 4) := ⟨hb0, hLM⟩
      have hidx : 4 + (K + n) / 8 < L := by omega
      clear hblen hb0 hLM hsub
      cases hbit : U.testBit n
      · rw [hbit] at htest
        have hnext : burstB (bytesP p) (32 + K) U (n + 1) = burstB (bytesP p) (32 + K) U n := by show (if U.testBit n then _ else _) = _; rw [hbit]; rfl
        have HN : Hid _ := hnext
        clear hnext
        go_wp2
        go_roundg (32 - (n + 1))
        case measure => omega
        case rel => exact ⟨n + 1, by go_num, by omega, by omega, rfl, by rw [HN.out]; exact HB⟩
      · rw [hbit] at htest
        go_wp2
        go_roundg (32 - (n + 1))
        case measure => omega
        case rel =>
          refine ⟨n + 1, by go_num, by omega, by omega, rfl, ?_⟩
          have hnext : burstB (bytesP p) (32 + K) U (n + 1) = flipAt (burstB (bytesP p) (32 + K) U n) (32 + K + n) := by show (if U.testBit n then _ else _) = _; rw [hbit]; rfl
          rw [hnext, flip_byte _ _ (Nat.mod_lt _ (by decide))]
          have h2 := HB.out.set HB0.out.1 (4 + (K + n) / 8) (UInt8.ofNat (((burstB (bytesP p) (32 + K) U n)[4 + (K + n) / 8]?.getD 0).toNat ^^^ 2 ^ (7 - (K + n) % 8)))
          unfold flipAt
          rw [show (32 + K + n) / 8 = 4 + (K + n) / 8 by omega, show (32 + K + n) % 8 = (K + n) % 8 by omega]
          exact h2
    · have hn0 : 1 ≤ n := by omega
      have herr := readP_burst p HL.out.1 K U n HU.out.1 hn0 hn1 (by have := HL.out.2.2.2; omega)
      have hback := decide_eq_false hstop
      have hx : n = 32 ∨ (n < 32 ∧ K + n = 8 * M) := by omega
      obtain ⟨P3, hP3⟩ : ∃ z : Pk, pkOf none = z := ⟨_, rfl⟩
      have hR : Calls Tryd.prog 16 #[.slice (some ⟨g, 0, none⟩) L c1] wr fun e w' => e = .returned (.tuple #[pv P3, .int .i64 7]) ∧ Below wr.heap.size wr w' := by
        have hbl : (burstB (bytesP p) (32 + K) U n).length = L := by rw [burstB_length]; exact HLc.out.1
        have h := readP_any (.slice (some ⟨g, 0, none⟩) L c1) (burstB (bytesP p) (32 + K) U n) wr HB.out.lv.tab HB.out.lv.kinds HB.out.own.holds (by omega)
        unfold RdPost at h
        rw [herr, hP3] at h
        exact h
      clear hback hstop herr hP3
      have heq : ∀ X : World, (binOp .eql 29 (.agg (pcells p).toArray) (.agg (pcells p).toArray)).run Tryd.prog X = .ok (.bool true) X := fun X => by
        have h := run_eqP p p X
        rw [decide_eq_true rfl] at h
        exact h
      have hgA := eqGuardP
      rcases hx with rfl | ⟨hx1, hx2⟩
      all_goals go_wp2_with fail
      all_goals refine hR.mono ?_
      all_goals rintro e y1 ⟨rfl, b1⟩
      all_goals obtain ⟨y2, f2⟩ : ∃ X, y1.alloc (.cells #[.int .i64 P3.kind, .int .i64 P3.fr, .int .i64 P3.dest, .int .u64 P3.ep, .int .u16 P3.num, .int .u64 P3.mask, .int .i64 P3.m.origin, .int .u64 P3.m.seq, .int .i64 P3.m.hop, .string P3.m.ex, .string P3.m.key, .string P3.m.body] 29) = X := ⟨_, rfl⟩
      all_goals have bx : Below y1.heap.size y1 y2 := by rw [← f2]; exact box_below y1 _
      all_goals have B2 : Hid (Bk w y2 p g c1 L x8 _) := HB.out.go (keptW b1 bx)
      all_goals have hL := livesP_any y2 B2.out.lv.tab B2.out.lv.kinds
      all_goals clear b1 bx hR
      all_goals go_wp2_with (first | refine wpList_load_rowG (by first | rfl | (simp [Region.wanted]; done)) 29 _ rfl x8 rfl 29 (pcells p).toArray (0, 0) _ B2.out.h8 Tryd.underlying29 rfl info12 ?_ | refine wpList_load_rowG (by first | rfl | (simp [Region.wanted]; done)) 29 _ rfl w.heap.size rfl 29 (pcells p).toArray (0, 0) _ B2.out.lv.hg Tryd.underlying29 rfl info12 ?_)
      all_goals refine hL.mono ?_
      all_goals rintro e y3 ⟨rfl, b3⟩
      all_goals go_wp2
      all_goals go_ret
      all_goals exact ⟨rfl, keptW B2.out.lv.bel b3⟩
end Go.Proofs.YtopacoghnofliaaDoor
