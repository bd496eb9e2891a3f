/-
  ActBack's law.
-/
import Derived.Test.YticbhpnpopmodaaDoorLawTells13
import Derived.Test.YticbhpnpopmodaaDoorRdReadM
import Derived.Deep.CutRange
import Derived.Deep.CutBlock
namespace Go.Proofs.YticbhpnpopmodaaDoor
open Go.RowKit

theorem msgOf_some (m : Ms) (k : Nat) : msgOf (some (m, k)) = m ∧ sizeOf' (some (m, k)) = k := ⟨rfl, rfl⟩
theorem msgOf_none : msgOf none = zM ∧ sizeOf' none = 0 := ⟨rfl, rfl⟩
theorem actOf_some (a : Ax) : actOf (some a) = a ∧ errOf (some a) = 0 := ⟨rfl, rfl⟩
theorem actOf_none : actOf none = zA 0 ∧ errOf (none : Option Ax) = 7 := ⟨rfl, rfl⟩
theorem owns_empty (w : World) : Owns (w.alloc (.cells #[] 5)) w.heap.size 5 (.slice (some ⟨w.heap.size, 0, none⟩) 0 0) [] := owns_new w w.heap.size 5 [] (Nat.le_refl _) (by unfold maxLen; simp)
theorem holds_two (w : World) (x y : UInt8) : Holds (w.alloc (.cells #[.int .u8 (x.toNat : Int), .int .u8 (y.toNat : Int)] 5)) (.slice (some ⟨w.heap.size, 0, none⟩) 2 2) [x, y] := (owns_new w w.heap.size 5 [x, y] (Nat.le_refl _) (by unfold maxLen; simp)).holds
theorem holds_sole (w : World) (x : UInt8) : Holds (w.alloc (.cells #[.int .u8 (x.toNat : Int)] 5)) (.slice (some ⟨w.heap.size, 0, none⟩) 1 1) [x] := (owns_new w w.heap.size 5 [x] (Nat.le_refl _) (by unfold maxLen; simp)).holds
set_option maxRecDepth 20000 in
set_option maxHeartbeats 8000000 in
theorem back_law (a : Ax) (m : Ms) (cut : Int) (w0 : World) (ht : Tab w0) (hK : Kinds w0) (ha : a.Fits) (hm : m.Fits) (has : a.Sum) (hms : m.Sum) (hcut : 0 ≤ cut ∧ cut < 18446744073709551616) :
    Calls Tryd.prog 6 #[av a, mv m, .int .u64 cut] w0 fun e w' => e = .returned (.bool true) ∧ Below w0.heap.size w0 w' := by
  have hN := boxT_new w0 a m ht hK
  obtain ⟨W, fold⟩ : ∃ W, (w0.alloc (.cells #[.int .i64 a.kind, .string a.name, .int .i64 a.n, .int .u64 a.tag, .int .i64 a.to, .string a.xn, .int .i64 a.xk, .bool a.xf, .string a.be, .string a.bq, .string a.bp, .int .i64 a.m.origin, .int .u64 a.m.seq, .int .i64 a.m.hop, .string a.m.ex, .string a.m.key, .string a.m.body] 32)).alloc (.cells #[.int .i64 m.origin, .int .u64 m.seq, .int .i64 m.hop, .string m.ex, .string m.key, .string m.body] 30) = W := ⟨_, rfl⟩
  have hN : BoxT w0 W a m := by rw [← fold]; exact hN
  have HB0 : Hid (BoxT w0 W a m) := hN
  have hG := great_any a W has
  have HA : Hid (a.Fits ∧ m.Fits) := ⟨ha, hm⟩
  have HM : Hid m.Sum := hms
  have HCut : Hid (0 ≤ cut ∧ cut < 18446744073709551616) := hcut
  clear ht hK ha hm has hms hN hcut
  go_enter Tryd.func6, Tryd.ntmps6
  go_wp2_with (first | refine wpList_load_row rfl 32 _ rfl w0.heap.size rfl 32 (xcells a).toArray (0, 0) _ HB0.out.hA Tryd.underlying32 rfl info17 ?_ | refine wpList_load_row rfl 32 _ rfl w0.heap.size rfl 32 (xcells a).toArray (0, 0) _ (show ((w0.alloc (.cells #[.int .i64 a.kind, .string a.name, .int .i64 a.n, .int .u64 a.tag, .int .i64 a.to, .string a.xn, .int .i64 a.xk, .bool a.xf, .string a.be, .string a.bq, .string a.bp, .int .i64 a.m.origin, .int .u64 a.m.seq, .int .i64 a.m.hop, .string a.m.ex, .string a.m.key, .string a.m.body] 32)).alloc (.cells #[.int .i64 m.origin, .int .u64 m.seq, .int .i64 m.hop, .string m.ex, .string m.key, .string m.body] 30)).heap[w0.heap.size]? = _ from by rw [fold]; exact HB0.out.hA) Tryd.underlying32 rfl info17 ?_)
  try rw [fold]
  refine hG.mono ?_
  rintro e V ⟨rfl, b1⟩
  clear hG
  have HB : Hid (BoxT w0 V a m) := HB0.out.go b1
  have hL := lives_any V HB.out.tab HB.out.kinds
  clear b1 HB0
  cases hg : greatB a
  rotate_left
  · clear hg
    go_wp2_with fail
    refine hL.mono ?_
    rintro e V2 ⟨rfl, b2⟩
    have HE : Hid (Below w0.heap.size w0 V2) := keptW HB.out.bel b2
    clear hL b2
    go_wp2
    go_ret
    exact ⟨rfl, HE.out⟩
  obtain ⟨c0, c1, c2, c3, c4, c5⟩ := cells6 HB.out.hB
  have HG : Hid (greatB a = false) := hg
  clear hg
  have w1 : IntKind.i64.wrap ((m.ex.size : Int) + m.key.size) = (m.ex.size : Int) + m.key.size := by have h := HM.out; unfold Ms.Sum at h; rw [IntKind.wrap_i64]; omega
  have w2 : IntKind.i64.wrap ((m.ex.size : Int) + m.key.size + m.body.size) = (m.ex.size : Int) + m.key.size + m.body.size := by have h := HM.out; unfold Ms.Sum at h; rw [IntKind.wrap_i64]; omega
  by_cases hbig : (3000 : Int) < (m.ex.size : Int) + m.key.size + m.body.size
  · go_wp2_with fail
    refine hL.mono ?_
    rintro e V2 ⟨rfl, b2⟩
    have HE : Hid (Below w0.heap.size w0 V2) := keptW HB.out.bel b2
    clear hL b2
    go_wp2
    go_ret
    exact ⟨rfl, HE.out⟩
  · have HH : Hid (a.Fits ∧ m.Fits ∧ m.Short) := ⟨HA.out.1, HA.out.2, by unfold Ms.Short; omega⟩
    clear hL
    have hG := goodM_any m V HH.out.2.1
    go_wp2_with (refine wpList_load_row rfl 30 _ rfl (w0.heap.size + 1) rfl 30 (mcells m).toArray (0, 0) _ HB.out.hB Tryd.underlying30 rfl info6 ?_)
    refine hG.mono ?_
    rintro e U1 ⟨rfl, b1⟩
    have H1 : Hid (BoxT w0 U1 a m) := HB.out.go b1
    clear hG b1 c0 c1 c2 c3 c4 c5 w1 w2 hbig
    go_upto_if 37 with fail
    go_cut [] from 36 to 73 (fun wx => BoxT w0 wx a m)
    case first =>
      cases gm : goodM m
      · clear gm
        go_wp2
        go_meet
        exact H1.out
      · have HGM : Hid (goodM m = true) := gm
        clear gm
        have hC := msgBytes_any m U1 H1.out.tab HH.out.2.1 HH.out.2.2
        go_wp2_with (refine wpList_load_row rfl 30 _ rfl (w0.heap.size + 1) rfl 30 (mcells m).toArray (0, 0) _ H1.out.hB Tryd.underlying30 rfl info6 ?_)
        refine hC.mono ?_
        rintro e U2 ⟨v2, rfl, o2, b2⟩
        clear hC
        have H2 : Hid (BoxT w0 U2 a m) := H1.out.go b2
        obtain ⟨a2, k2, hv2⟩ := o2.holds.slice
        obtain ⟨BM, hBM⟩ : ∃ z, bytesM m = z := ⟨_, rfl⟩
        have hlen := bytesM_len HGM.out
        have hback := readM_back m HGM.out HH.out.2.1.s.2 [7, 7]
        rw [hBM] at hv2 o2 hlen hback
        obtain ⟨N, hN⟩ : ∃ z, BM.length = z := ⟨_, rfl⟩
        rw [hN] at hv2 hlen hback
        subst hv2
        have O2 : Hid (Holds U2 (.slice a2 N k2) BM ∧ BM.length = N ∧ 16 ≤ N ∧ N ≤ 296 ∧ bytesM m = BM ∧ readM (BM ++ [7, 7]) = some (m, N)) := ⟨o2.holds, hN, hlen.1, hlen.2, hBM, hback⟩
        clear o2 b2 hBM hlen hback hN
        obtain ⟨W1, fold1⟩ : ∃ X, U2.alloc (.cells #[] 5) = X := ⟨_, rfl⟩
        have ow1 : Owns W1 U2.heap.size 5 (.slice (some ⟨U2.heap.size, 0, none⟩) 0 0) [] := by rw [← fold1]; exact owns_empty U2
        have bw1 : Below U2.heap.size U2 W1 := by rw [← fold1]; exact box_below U2 _
        have P1 : Hid (Owns W1 U2.heap.size 5 (.slice (some ⟨U2.heap.size, 0, none⟩) 0 0) [] ∧ Holds W1 (.slice a2 N k2) BM ∧ Below U2.heap.size U2 W1) := ⟨ow1, O2.out.1.below bw1 (Nat.le_refl _), bw1⟩
        clear ow1 bw1
        go_wp2_with (first | (at_builtin; refine wpList_append_bytes rfl (.tmp 43) (.tmp 44) 37 5 bigU8 rfl U2.heap.size _ _ BM [7, 7] rfl rfl (P2.out.1.kept (box_below wp _) (Nat.le_refl _)) (holds_two wp 7 7) (by have := O2.out.2; show BM.length + 2 ≤ _; omega) (Nat.le_trans P2.out.2.size (box_below wp _).size) ?_; intro vq wq oq bq zq; have P4 : Hid (Holds wq vq (BM ++ [7, 7]) ∧ Below U2.heap.size U2 wq) := ⟨oq.holds, (P2.out.2.trans ((box_below wp _).mono P2.out.2.size)).trans bq⟩; clear oq bq zq; obtain ⟨aq, kq, hvq⟩ := P4.out.1.slice; obtain ⟨nq, hnq⟩ : ∃ z, (BM ++ [7, 7]).length = z := ⟨_, rfl⟩; rw [hnq] at hvq; subst hvq; clear hnq) | (at_builtin; refine wpList_append_bytes rfl (.tmp 41) (.tmp 42) 37 5 bigU8 rfl U2.heap.size _ _ [] BM rfl rfl (by first | exact P1.out.1 | (rw [fold1]; exact P1.out.1)) (by first | exact P1.out.2.1 | (rw [fold1]; exact P1.out.2.1)) (by have := O2.out.2; rw [List.length_nil]; omega) (by first | exact P1.out.2.2.size | (rw [fold1]; exact P1.out.2.2.size)) ?_; intro vp wp op bp zp; have P2 : Hid (Owns wp U2.heap.size 5 vp BM ∧ Below U2.heap.size U2 wp) := ⟨by rw [List.nil_append] at op; exact op, P1.out.2.2.trans (by first | exact bp | (rw [fold1] at bp; exact bp))⟩; clear op bp zp; obtain ⟨ap, kp, hvp⟩ := P2.out.1.holds.slice; subst hvp))
        have B4 : Hid (BoxT w0 wq a m ∧ Holds wq (.slice a2 N k2) BM) := ⟨H2.out.go P4.out.2, O2.out.1.below P4.out.2 (Nat.le_refl _)⟩
        have hC := readM_any (.slice aq nq kq) (BM ++ [7, 7]) wq B4.out.1.tab P4.out.1 (by have := O2.out.2; rw [List.length_append]; show BM.length + 2 ≤ _; omega)
        rw [O2.out.2.2.2.2.2, (msgOf_some m N).1, (msgOf_some m N).2] at hC
        refine hC.mono ?_
        rintro e U3 ⟨rfl, b3⟩
        clear hC
        have B5 : Hid (BoxT w0 U3 a m ∧ Holds U3 (.slice a2 N k2) BM) := ⟨B4.out.1.go b3, B4.out.2.below b3 (Nat.le_refl _)⟩
        clear b3
        obtain ⟨XA0, foldXA⟩ : ∃ X, U3.alloc (.cells #[.int .i64 0, .int .u64 0, .int .i64 0, .string ⟨#[]⟩, .string ⟨#[]⟩, .string ⟨#[]⟩] 30) = X := ⟨_, rfl⟩
        have zXA : XA0.heap[U3.heap.size]? = some (.cells (mcells zM).toArray 30 (0, 0)) := by rw [← foldXA]; exact heap_alloc_new U3 _
        have bXA0 : Below U3.heap.size U3 XA0 := by rw [← foldXA]; exact box_below U3 _
        obtain ⟨XA, foldXXA⟩ : ∃ X, XA0.setRow U3.heap.size (mcells m).toArray = X := ⟨_, rfl⟩
        have bXA : Below U3.heap.size U3 XA := by rw [← foldXXA]; exact below_setRow bXA0 (Nat.le_refl _) _
        have xXA : XA.heap[U3.heap.size]? = some (.cells (mcells m).toArray 30 (0, 0)) := by rw [← foldXXA]; exact setRow_heap _ _ _ _ _ _ zXA
        have ZXA : Hid (XA0.heap[U3.heap.size]? = some (.cells (mcells zM).toArray 30 (0, 0))) := zXA
        clear zXA bXA0
        have hN0 : 0 < N := by have := O2.out.2.2; omega
        obtain ⟨kc, hkc⟩ : ∃ K : Nat, cut % (N : Int) = (K : Int) := ⟨(cut % (N : Int)).toNat, by have := Int.emod_nonneg cut (show (N : Int) ≠ 0 by omega); omega⟩
        have hkN : kc < N := by have := Int.emod_lt_of_pos cut (show (0 : Int) < (N : Int) by omega); omega
        have cu : IntKind.u64.wrap (N : Int) = (N : Int) := by have := O2.out.2.2; rw [IntKind.wrap_u64]; omega
        have ci0 : IntKind.i64.wrap (kc : Int) = (kc : Int) := by have := O2.out.2.2; rw [IntKind.wrap_i64]; omega
        have ci : wrap64 (kc : Int) = (kc : Int) := by have h2 := hkN; have h3 := O2.out.2.2; unfold wrap64; omega
        have hkt : cut.tmod (N : Int) = (kc : Int) := by rw [Int.tmod_eq_emod_of_nonneg HCut.out.1]; exact hkc
        clear hkc ci0
        have nz1 : ¬ (N : Int) = 0 := by omega
        have nz2 : ((N : Int) == 0) = false := by rw [beq_eq_false_iff_ne]; exact nz1
        have nz3 : ¬ N = 0 := by omega
        obtain ⟨ac, cc, hs1, hh1⟩ := holds_to (B5.out.2.below bXA (Nat.le_refl _)) kc (by rw [O2.out.2.1]; omega) (kc : Int) rfl
        have B6 : Hid (BoxT w0 XA a m ∧ XA.heap[U3.heap.size]? = some (.cells (mcells m).toArray 30 (0, 0)) ∧ (XA0.setRow U3.heap.size (mcells m).toArray = XA)) := ⟨B5.out.1.go bXA, xXA, foldXXA⟩
        have hC := readM_any (.slice ac kc cc) (BM.take kc) XA B6.out.1.tab hh1 (by have := O2.out.2; rw [List.length_take]; omega)
        have hno := readM_cut m HGM.out HH.out.2.1.s.2 kc (by rw [O2.out.2.2.2.2.1, O2.out.2.1]; exact hkN)
        rw [O2.out.2.2.2.2.1] at hno
        rw [hno, msgOf_none.1, msgOf_none.2] at hC
        clear bXA xXA hh1 hno hkN hN0
        go_wp2_with (refine wpList_store_row rfl 30 _ _ rfl U3.heap.size (mcells m).toArray rfl rfl 30 (mcells zM).toArray ZXA.out info6 rfl (one6 m) ?_)
        refine hC.mono ?_
        rintro e U4 ⟨rfl, b4⟩
        clear hC hs1 cu ci nz1 nz2 nz3 hkt
        have B7 : Hid (BoxT w0 U4 a m ∧ U4.heap[U3.heap.size]? = some (.cells (mcells m).toArray 30 (0, 0))) := ⟨B6.out.1.go b4, (b4.block _ (Array.getElem?_eq_some_iff.1 B6.out.2.1).1).trans B6.out.2.1⟩
        clear b4
        obtain ⟨XB0, foldXB⟩ : ∃ X, U4.alloc (.cells #[.int .i64 0, .int .u64 0, .int .i64 0, .string ⟨#[]⟩, .string ⟨#[]⟩, .string ⟨#[]⟩] 30) = X := ⟨_, rfl⟩
        have zXB : XB0.heap[U4.heap.size]? = some (.cells (mcells zM).toArray 30 (0, 0)) := by rw [← foldXB]; exact heap_alloc_new U4 _
        have bXB0 : Below U4.heap.size U4 XB0 := by rw [← foldXB]; exact box_below U4 _
        obtain ⟨XB, foldXXB⟩ : ∃ X, XB0.setRow U4.heap.size (mcells zM).toArray = X := ⟨_, rfl⟩
        have bXB : Below U4.heap.size U4 XB := by rw [← foldXXB]; exact below_setRow bXB0 (Nat.le_refl _) _
        have xXB : XB.heap[U4.heap.size]? = some (.cells (mcells zM).toArray 30 (0, 0)) := by rw [← foldXXB]; exact setRow_heap _ _ _ _ _ _ zXB
        have ZXB : Hid (XB0.heap[U4.heap.size]? = some (.cells (mcells zM).toArray 30 (0, 0))) := zXB
        clear zXB bXB0
        have B8 : Hid (BoxT w0 XB a m ∧ XB.heap[U3.heap.size]? = some (.cells (mcells m).toArray 30 (0, 0)) ∧ (XB0.setRow U4.heap.size (mcells zM).toArray = XB)) := ⟨B7.out.1.go bXB, (bXB.block _ (Array.getElem?_eq_some_iff.1 B7.out.2).1).trans B7.out.2, foldXXB⟩
        clear bXB xXB
        have heqM := fun X => run_neM m m X
        rw [show decide (m = m) = true from decide_eq_true rfl] at heqM
        have hgM := eqGuardM
        go_wp2_with (first | refine wpList_store_row rfl 30 _ _ rfl U4.heap.size (mcells zM).toArray rfl rfl 30 (mcells zM).toArray ZXB.out info6 rfl (one6 zM) ?_ | refine wpList_load_row rfl 30 _ rfl U3.heap.size rfl 30 #[.int .i64 m.origin, .int .u64 m.seq, .int .i64 m.hop, .string m.ex, .string m.key, .string m.body] (0, 0) _ (by first | exact B8.out.2.1 | (rw [B8.out.2.2]; exact B8.out.2.1)) Tryd.underlying30 rfl info6 ?_ | refine wpList_load_row rfl 30 _ rfl (w0.heap.size + 1) rfl 30 #[.int .i64 m.origin, .int .u64 m.seq, .int .i64 m.hop, .string m.ex, .string m.key, .string m.body] (0, 0) _ (by first | exact B8.out.1.hB | (rw [B8.out.2.2]; exact B8.out.1.hB)) Tryd.underlying30 rfl info6 ?_)
        go_meet
        exact B8.out.1
    case rest =>
      have HR : Hid (BoxT w0 wc a m) := hcut
      clear hcut
      have hC := bytesA_any a wc HR.out.tab HR.out.kinds HH.out.1
      go_wp2_with (refine wpList_load_row rfl 32 _ rfl w0.heap.size rfl 32 (xcells a).toArray (0, 0) _ HR.out.hA Tryd.underlying32 rfl info17 ?_)
      refine hC.mono ?_
      rintro e U1 ⟨v1, rfl, o1, g1, z1⟩
      clear hC
      obtain ⟨a1, k1, hv1⟩ := o1.holds.slice
      obtain ⟨BA, hBA⟩ : ∃ z, bytesA a = z := ⟨_, rfl⟩
      rw [hBA] at hv1 o1
      obtain ⟨N, hN⟩ : ∃ z, BA.length = z := ⟨_, rfl⟩
      rw [hN] at hv1
      subst hv1
      have H1 : Hid (BoxT w0 U1 a m) := HR.out.go (below_of_grown g1)
      have O1 : Hid (Holds U1 (.slice a1 N k1) BA ∧ BA.length = N ∧ bytesA a = BA) := ⟨o1.holds, hN, hBA⟩
      clear o1 g1 z1 hBA hN
      have hC := goodA_any a U1 H1.out.kinds HH.out.1
      go_wp2_with (refine wpList_load_row rfl 32 _ rfl w0.heap.size rfl 32 (xcells a).toArray (0, 0) _ H1.out.hA Tryd.underlying32 rfl info17 ?_)
      refine hC.mono ?_
      rintro e U2 ⟨rfl, b2⟩
      clear hC
      have H2 : Hid (BoxT w0 U2 a m ∧ Holds U2 (.slice a1 N k1) BA) := ⟨H1.out.go b2, O1.out.1.below b2 (Nat.le_refl _)⟩
      clear b2
      cases ga : goodA a
      · have hN0 : N = 0 := by rw [← O1.out.2.1, ← O1.out.2.2, bytesA_none ga]; rfl
        subst hN0
        clear ga
        have hL := lives_any U2 H2.out.1.tab H2.out.1.kinds
        go_wp2_with fail
        refine hL.mono ?_
        rintro e V2 ⟨rfl, b2⟩
        have HE : Hid (Below w0.heap.size w0 V2) := keptW H2.out.1.bel b2
        clear hL b2
        go_wp2
        go_ret
        exact ⟨rfl, HE.out⟩
      · have hlen := bytesA_len ga
        rw [O1.out.2.2, O1.out.2.1] at hlen
        have hbk := readA_back a ga HH.out.1.t HH.out.1.m.s.2
        have hmo := readA_more a ga HH.out.1.t HH.out.1.m.s.2 0 []
        have hct := readA_cut a ga HH.out.1.t HH.out.1.m.s.2
        rw [O1.out.2.2] at hbk hmo hct
        rw [O1.out.2.1] at hct
        have O2 : Hid ((BA.length = N ∧ 1 ≤ N ∧ N ≤ 600) ∧ readA BA = some a ∧ readA (BA ++ [0]) = none ∧ ∀ k, k < N → readA (BA.take k) = none) := ⟨⟨O1.out.2.1, hlen.1, hlen.2⟩, hbk, hmo, hct⟩
        clear ga hlen hbk hmo hct
        have nz4 : ((N : Int) == 0) = false := by rw [beq_eq_false_iff_ne]; have := O2.out.1; omega
        have hC := read_any (.slice a1 N k1) BA U2 H2.out.1.tab H2.out.1.kinds H2.out.2 (by have := O2.out.1; omega)
        rw [O2.out.2.1, (actOf_some a).1, (actOf_some a).2] at hC
        have nzn : ¬ N = 0 := by have := O2.out.1; omega
        go_wp2_with fail
        refine hC.mono ?_
        rintro e U3 ⟨rfl, b3⟩
        clear hC nz4 nzn
        have B3 : Hid (BoxT w0 U3 a m ∧ Holds U3 (.slice a1 N k1) BA) := ⟨H2.out.1.go b3, H2.out.2.below b3 (Nat.le_refl _)⟩
        clear b3
        obtain ⟨XA0, foldXA⟩ : ∃ X, U3.alloc (.cells #[.int .i64 0, .string ⟨#[]⟩, .int .i64 0, .int .u64 0, .int .i64 0, .string ⟨#[]⟩, .int .i64 0, .bool false, .string ⟨#[]⟩, .string ⟨#[]⟩, .string ⟨#[]⟩, .int .i64 0, .int .u64 0, .int .i64 0, .string ⟨#[]⟩, .string ⟨#[]⟩, .string ⟨#[]⟩] 32) = X := ⟨_, rfl⟩
        have zXA : XA0.heap[U3.heap.size]? = some (.cells (xcells (zA 0)).toArray 32 (0, 0)) := by rw [← foldXA]; exact heap_alloc_new U3 _
        have bXA0 : Below U3.heap.size U3 XA0 := by rw [← foldXA]; exact box_below U3 _
        obtain ⟨XA, foldXXA⟩ : ∃ X, XA0.setRow U3.heap.size (xcells a).toArray = X := ⟨_, rfl⟩
        have bXA : Below U3.heap.size U3 XA := by rw [← foldXXA]; exact below_setRow bXA0 (Nat.le_refl _) _
        have xXA : XA.heap[U3.heap.size]? = some (.cells (xcells a).toArray 32 (0, 0)) := by rw [← foldXXA]; exact setRow_heap _ _ _ _ _ _ zXA
        have ZXA : Hid (XA0.heap[U3.heap.size]? = some (.cells (xcells (zA 0)).toArray 32 (0, 0))) := zXA
        clear zXA bXA0
        have hN0 : 0 < N := by have := O2.out.1; omega
        obtain ⟨kc, hkc⟩ : ∃ K : Nat, cut % (N : Int) = (K : Int) := ⟨(cut % (N : Int)).toNat, by have := Int.emod_nonneg cut (show (N : Int) ≠ 0 by omega); omega⟩
        have hkN : kc < N := by have := Int.emod_lt_of_pos cut (show (0 : Int) < (N : Int) by omega); omega
        have cu : IntKind.u64.wrap (N : Int) = (N : Int) := by have := O2.out.1; rw [IntKind.wrap_u64]; omega
        have ci0 : IntKind.i64.wrap (kc : Int) = (kc : Int) := by have := O2.out.1; rw [IntKind.wrap_i64]; omega
        have ci : wrap64 (kc : Int) = (kc : Int) := by have h2 := hkN; have h3 := O2.out.1; unfold wrap64; omega
        have hkt : cut.tmod (N : Int) = (kc : Int) := by rw [Int.tmod_eq_emod_of_nonneg HCut.out.1]; exact hkc
        clear hkc ci0
        have nz1 : ¬ (N : Int) = 0 := by omega
        have nz2 : ((N : Int) == 0) = false := by rw [beq_eq_false_iff_ne]; exact nz1
        have nz3 : ¬ N = 0 := by omega
        obtain ⟨ac, cc, hs1, hh1⟩ := holds_to (B3.out.2.below bXA (Nat.le_refl _)) kc (by rw [O2.out.1.1]; omega) (kc : Int) rfl
        have B6 : Hid (BoxT w0 XA a m ∧ XA.heap[U3.heap.size]? = some (.cells (xcells a).toArray 32 (0, 0)) ∧ Holds XA (.slice a1 N k1) BA) := ⟨B3.out.1.go bXA, xXA, B3.out.2.below bXA (Nat.le_refl _)⟩
        have hC := read_any (.slice ac kc cc) (BA.take kc) XA B6.out.1.tab B6.out.1.kinds hh1 (by have := O2.out.1; rw [List.length_take]; omega)
        rw [O2.out.2.2.2 kc hkN, actOf_none.1, actOf_none.2] at hC
        clear bXA xXA hh1 hkN hN0
        go_wp2_with (refine wpList_store_row rfl 32 _ _ rfl U3.heap.size (xcells a).toArray rfl rfl 32 (xcells (zA 0)).toArray ZXA.out info17 rfl (one17 a) ?_)
        refine hC.mono ?_
        rintro e U4 ⟨rfl, b4⟩
        clear hC hs1 cu ci nz1 nz2 nz3 hkt
        have B7 : Hid (BoxT w0 U4 a m ∧ U4.heap[U3.heap.size]? = some (.cells (xcells a).toArray 32 (0, 0)) ∧ Holds U4 (.slice a1 N k1) BA) := ⟨B6.out.1.go b4, (b4.block _ (Array.getElem?_eq_some_iff.1 B6.out.2.1).1).trans B6.out.2.1, B6.out.2.2.below b4 (Nat.le_refl _)⟩
        clear b4
        obtain ⟨XB0, foldXB⟩ : ∃ X, U4.alloc (.cells #[.int .i64 0, .string ⟨#[]⟩, .int .i64 0, .int .u64 0, .int .i64 0, .string ⟨#[]⟩, .int .i64 0, .bool false, .string ⟨#[]⟩, .string ⟨#[]⟩, .string ⟨#[]⟩, .int .i64 0, .int .u64 0, .int .i64 0, .string ⟨#[]⟩, .string ⟨#[]⟩, .string ⟨#[]⟩] 32) = X := ⟨_, rfl⟩
        have zXB : XB0.heap[U4.heap.size]? = some (.cells (xcells (zA 0)).toArray 32 (0, 0)) := by rw [← foldXB]; exact heap_alloc_new U4 _
        have bXB0 : Below U4.heap.size U4 XB0 := by rw [← foldXB]; exact box_below U4 _
        obtain ⟨XB, foldXXB⟩ : ∃ X, XB0.setRow U4.heap.size (xcells (zA 0)).toArray = X := ⟨_, rfl⟩
        have bXB : Below U4.heap.size U4 XB := by rw [← foldXXB]; exact below_setRow bXB0 (Nat.le_refl _) _
        have xXB : XB.heap[U4.heap.size]? = some (.cells (xcells (zA 0)).toArray 32 (0, 0)) := by rw [← foldXXB]; exact setRow_heap _ _ _ _ _ _ zXB
        have ZXB : Hid (XB0.heap[U4.heap.size]? = some (.cells (xcells (zA 0)).toArray 32 (0, 0))) := zXB
        clear zXB bXB0
        have B8 : Hid (BoxT w0 XB a m ∧ XB.heap[U3.heap.size]? = some (.cells (xcells a).toArray 32 (0, 0)) ∧ Holds XB (.slice a1 N k1) BA ∧ (XB0.setRow U4.heap.size (xcells (zA 0)).toArray = XB)) := ⟨B7.out.1.go bXB, (bXB.block _ (Array.getElem?_eq_some_iff.1 B7.out.2.1).1).trans B7.out.2.1, B7.out.2.2.below bXB (Nat.le_refl _), foldXXB⟩
        clear bXB xXB
        obtain ⟨W1, fold1⟩ : ∃ X, XB.alloc (.cells #[] 5) = X := ⟨_, rfl⟩
        have ow1 : Owns W1 XB.heap.size 5 (.slice (some ⟨XB.heap.size, 0, none⟩) 0 0) [] := by rw [← fold1]; exact owns_empty XB
        have bw1 : Below XB.heap.size XB W1 := by rw [← fold1]; exact box_below XB _
        have P1 : Hid (Owns W1 XB.heap.size 5 (.slice (some ⟨XB.heap.size, 0, none⟩) 0 0) [] ∧ Holds W1 (.slice a1 N k1) BA ∧ Below XB.heap.size XB W1) := ⟨ow1, B8.out.2.2.1.below bw1 (Nat.le_refl _), bw1⟩
        clear ow1 bw1
        go_wp2_with (first | refine wpList_store_row rfl 32 _ _ rfl U4.heap.size (xcells (zA 0)).toArray rfl rfl 32 (xcells (zA 0)).toArray ZXB.out info17 rfl (one17 _) ?_ | (at_builtin; refine wpList_append_bytes rfl (.tmp 108) (.tmp 109) 37 5 bigU8 rfl XB.heap.size _ _ BA [0] rfl rfl (P2.out.1.kept (box_below wp _) (Nat.le_refl _)) (holds_sole wp 0) (by have := O2.out.1; show BA.length + 1 ≤ _; omega) (Nat.le_trans P2.out.2.size (box_below wp _).size) ?_; intro vq wq oq bq zq; have P4 : Hid (Holds wq vq (BA ++ [0]) ∧ Below XB.heap.size XB wq) := ⟨oq.holds, (P2.out.2.trans ((box_below wp _).mono P2.out.2.size)).trans bq⟩; clear oq bq zq; obtain ⟨aq, kq, hvq⟩ := P4.out.1.slice; obtain ⟨nq, hnq⟩ : ∃ z, (BA ++ [0]).length = z := ⟨_, rfl⟩; rw [hnq] at hvq; subst hvq; clear hnq) | (at_builtin; refine wpList_append_bytes rfl (.tmp 106) (.tmp 107) 37 5 bigU8 rfl XB.heap.size _ _ [] BA rfl rfl (by first | exact P1.out.1 | (rw [fold1]; exact P1.out.1)) (by first | exact P1.out.2.1 | (rw [fold1]; exact P1.out.2.1)) (by have := O2.out.1; rw [List.length_nil]; omega) (by first | exact P1.out.2.2.size | (rw [fold1]; exact P1.out.2.2.size)) ?_; intro vp wp op bp zp; have P2 : Hid (Owns wp XB.heap.size 5 vp BA ∧ Below XB.heap.size XB wp) := ⟨by rw [List.nil_append] at op; exact op, P1.out.2.2.trans (by first | exact bp | (rw [fold1] at bp; exact bp))⟩; clear op bp zp; obtain ⟨ap, kp, hvp⟩ := P2.out.1.holds.slice; subst hvp))
        have C4 : Hid (BoxT w0 wq a m ∧ wq.heap[U3.heap.size]? = some (.cells (xcells a).toArray 32 (0, 0))) := ⟨B8.out.1.go P4.out.2, (P4.out.2.block _ (Array.getElem?_eq_some_iff.1 B8.out.2.1).1).trans B8.out.2.1⟩
        have hC := read_any (.slice aq nq kq) (BA ++ [0]) wq C4.out.1.tab C4.out.1.kinds P4.out.1 (by have := O2.out.1; rw [List.length_append]; show BA.length + 1 ≤ _; omega)
        rw [O2.out.2.2.1, actOf_none.1, actOf_none.2] at hC
        refine hC.mono ?_
        rintro e U5 ⟨rfl, b5⟩
        clear hC
        have C5 : Hid (BoxT w0 U5 a m ∧ U5.heap[U3.heap.size]? = some (.cells (xcells a).toArray 32 (0, 0))) := ⟨C4.out.1.go b5, (b5.block _ (Array.getElem?_eq_some_iff.1 C4.out.2).1).trans C4.out.2⟩
        clear b5
        obtain ⟨XC0, foldXC⟩ : ∃ X, U5.alloc (.cells #[.int .i64 0, .string ⟨#[]⟩, .int .i64 0, .int .u64 0, .int .i64 0, .string ⟨#[]⟩, .int .i64 0, .bool false, .string ⟨#[]⟩, .string ⟨#[]⟩, .string ⟨#[]⟩, .int .i64 0, .int .u64 0, .int .i64 0, .string ⟨#[]⟩, .string ⟨#[]⟩, .string ⟨#[]⟩] 32) = X := ⟨_, rfl⟩
        have zXC : XC0.heap[U5.heap.size]? = some (.cells (xcells (zA 0)).toArray 32 (0, 0)) := by rw [← foldXC]; exact heap_alloc_new U5 _
        have bXC0 : Below U5.heap.size U5 XC0 := by rw [← foldXC]; exact box_below U5 _
        obtain ⟨XC, foldXXC⟩ : ∃ X, XC0.setRow U5.heap.size (xcells (zA 0)).toArray = X := ⟨_, rfl⟩
        have bXC : Below U5.heap.size U5 XC := by rw [← foldXXC]; exact below_setRow bXC0 (Nat.le_refl _) _
        have xXC : XC.heap[U5.heap.size]? = some (.cells (xcells (zA 0)).toArray 32 (0, 0)) := by rw [← foldXXC]; exact setRow_heap _ _ _ _ _ _ zXC
        have ZXC : Hid (XC0.heap[U5.heap.size]? = some (.cells (xcells (zA 0)).toArray 32 (0, 0))) := zXC
        clear zXC bXC0
        have C6 : Hid (BoxT w0 XC a m ∧ XC.heap[U3.heap.size]? = some (.cells (xcells a).toArray 32 (0, 0)) ∧ (XC0.setRow U5.heap.size (xcells (zA 0)).toArray = XC)) := ⟨C5.out.1.go bXC, (bXC.block _ (Array.getElem?_eq_some_iff.1 C5.out.2).1).trans C5.out.2, foldXXC⟩
        clear bXC xXC
        have heqA := fun X => run_eqA a a X
        rw [show decide (a = a) = true from decide_eq_true rfl] at heqA
        have hgA := eqGuardA
        have hL := lives_any XC C6.out.1.tab C6.out.1.kinds
        go_wp2_with (first | refine wpList_store_row rfl 32 _ _ rfl U5.heap.size (xcells (zA 0)).toArray rfl rfl 32 (xcells (zA 0)).toArray ZXC.out info17 rfl (one17 _) ?_ | refine wpList_load_rowG (by rfl) 32 _ rfl U3.heap.size rfl 32 #[.int .i64 a.kind, .string a.name, .int .i64 a.n, .int .u64 a.tag, .int .i64 a.to, .string a.xn, .int .i64 a.xk, .bool a.xf, .string a.be, .string a.bq, .string a.bp, .int .i64 a.m.origin, .int .u64 a.m.seq, .int .i64 a.m.hop, .string a.m.ex, .string a.m.key, .string a.m.body] (0, 0) _ (by first | exact C6.out.2.1 | (rw [C6.out.2.2]; exact C6.out.2.1)) Tryd.underlying32 rfl info17 ?_ | refine wpList_load_rowG (by rfl) 32 _ rfl w0.heap.size rfl 32 #[.int .i64 a.kind, .string a.name, .int .i64 a.n, .int .u64 a.tag, .int .i64 a.to, .string a.xn, .int .i64 a.xk, .bool a.xf, .string a.be, .string a.bq, .string a.bp, .int .i64 a.m.origin, .int .u64 a.m.seq, .int .i64 a.m.hop, .string a.m.ex, .string a.m.key, .string a.m.body] (0, 0) _ (by first | exact C6.out.1.hA | (rw [C6.out.2.2]; exact C6.out.1.hA)) Tryd.underlying32 rfl info17 ?_)
        refine hL.mono ?_
        rintro e V2 ⟨rfl, b2⟩
        have HE : Hid (Below w0.heap.size w0 V2) := keptW C6.out.1.bel b2
        clear hL b2
        go_wp2
        go_ret
        exact ⟨rfl, HE.out⟩
end Go.Proofs.YticbhpnpopmodaaDoor
