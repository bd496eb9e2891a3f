/-
  RouteSames, walked.
-/
import Derived.Test.YtlfehneojkfmjaaGreatDoorLay
import Derived.Test.YtlfehneojkfmjaaGreatDoorSame
namespace Go.Proofs.YtlfehneojkfmjaaGreatDoor
open Go.RowKit Go.Sort Go.Shelf

theorem sameL_self (s : Tb) (e : ByteArray) (ks : List ByteArray) : sameL s s e ks = true := by unfold sameL; simp

set_option maxRecDepth 20000 in
set_option maxHeartbeats 8000000 in
theorem sames_law (v0 v1 v2 : Value) (l m : List Ti) (ks : List ByteArray) (w : World) (h0 : RowOf tcells w v0 l) (h1 : RowOf tcells w v1 m) (h2 : Row w v2 (scells ks)) (f0 : ∀ a ∈ l, a.Fits) (f1 : ∀ a ∈ m, a.Fits) (f2 : ∀ k ∈ ks, k.size ≤ maxLen) :
    Calls Tryz.prog 4 #[v0, v1, v2] w fun e w' => e = .returned (.bool true) ∧ Below w.heap.size w w' := by
  obtain ⟨a0, n0, c0, rfl⟩ : ∃ a n c, v0 = .slice a n c := by obtain ⟨a, c, h⟩ := h0.slice; exact ⟨a, _, c, h⟩
  obtain ⟨a1, n1, c1, rfl⟩ : ∃ a n c, v1 = .slice a n c := by obtain ⟨a, c, h⟩ := h1.slice; exact ⟨a, _, c, h⟩
  obtain ⟨a2, c2, rfl⟩ := h2.sliceStrs
  have HL : Hid (∀ V, Calls Tryz.prog 7 #[] V fun e w' => e = .returned (.bool true) ∧ Below V.heap.size V w') := lives_any
  go_enter Tryz.func4, Tryz.ntmps4
  go_wp2_with fail
  refine (light_any _ l w h0 f0).mono ?_
  rintro e w1 ⟨r1, rfl, hl1, b1⟩
  cases r1
  · go_wp2_with (go_at_call 7; refine (HL.out _).mono ?_; rintro e w4 ⟨rfl, b4⟩)
    go_ret
    exact ⟨rfl, b1.trans (b4.mono b1.size)⟩
  have l100 := hl1 rfl
  clear hl1
  go_wp2_with fail
  refine (light_any _ m w1 (h1.below b1 (Nat.le_refl _)) f1).mono ?_
  rintro e w2 ⟨r2, rfl, hl2, b2⟩
  have B2 := b1.trans (b2.mono b1.size)
  cases r2
  · go_wp2_with (go_at_call 7; refine (HL.out _).mono ?_; rintro e w4 ⟨rfl, b4⟩)
    go_ret
    exact ⟨rfl, B2.trans (b4.mono B2.size)⟩
  have m100 := hl2 rfl
  clear hl2
  by_cases h30 : 30 < ks.length
  · have h30' : (30 : Int) < (ks.length : Int) := by omega
    go_wp2_with (go_at_call 7; refine (HL.out _).mono ?_; rintro e w4 ⟨rfl, b4⟩)
    go_ret
    exact ⟨rfl, B2.trans (b4.mono B2.size)⟩
  have h30' : ¬ (30 : Int) < (ks.length : Int) := by omega
  have hLay := lay_any _ l w2 (h0.below B2 (Nat.le_refl _)) f0 (by omega)
  clear b1 b2
  go_wp2_with fail
  refine hLay.mono ?_
  rintro e w3 ⟨pa, pra, Fa, Fra, rfl, D3⟩
  have B3 := B2.trans (D3.bel.mono B2.size)
  have hLay2 := lay_any _ m w3 (h1.below B3 (Nat.le_refl _)) f1 (by omega)
  clear hLay
  go_wp2_with fail
  refine hLay2.mono ?_
  rintro e w4 ⟨pb, prb, Fb, Frb, rfl, D4⟩
  have B4 := B3.trans (D4.bel.mono B3.size)
  have ok1 := D3.ok1
  have ok2 := D4.ok1
  have TA : Hid (∀ V, Below w4.heap.size w4 V → T V pa Fa (layT l)) := fun V hV => (D3.t.kept D4.bel).kept hV
  have TB : Hid (∀ V, Below w4.heap.size w4 V → T V pb Fb (layT m)) := fun V hV => D4.t.kept hV
  have RK : Hid (∀ V, Below w4.heap.size w4 V → Row V (.slice a2 ks.length c2) (scells ks)) := fun V hV => (h2.below B4 (Nat.le_refl _)).below hV (Nat.le_refl _)
  have HB4 : Hid _ := B4
  clear hLay2 D3 D4 B2 B3 B4 h0 h1 h2
  generalize layT l = s1 at *
  generalize layT m = s2 at *
  go_wp2
  go_loopw [11, 13, 40] (fun u11 u13 u40 wr => ∃ k : Nat, u40 = .int .i64 k ∧ k ≤ ks.length ∧ u11 = .bool (sameL s1 s2 ⟨#[120]⟩ (ks.take k)) ∧ Below w4.heap.size w4 wr) (fun u11 u13 u40 wr => ks.length - (intOf u40).toNat)
  case atStart => exact ⟨0, rfl, Nat.zero_le _, rfl, Below.refl _ _⟩
  case round =>
    obtain ⟨k, rfl, hkl, rfl, hbr⟩ := hrel
    have HBR : Hid (Below w.heap.size w wr) := HB4.out.trans (hbr.mono HB4.out.size)
    by_cases hlt2 : k < ks.length
    · have hlt : (k : Int) < (ks.length : Int) := by omega
      obtain ⟨rb, ro, rc, hv, _, _, hcell⟩ := (RK.out wr hbr).atStrs (by omega)
      have hck := hcell k hlt2
      have hks := f2 _ (List.getElem_mem hlt2)
      have ht := sameL_take (s1 := s1) (s2 := s2) (e := ⟨#[120]⟩) hlt2
      injection hv with hv1 _ hv3
      subst hv1 hv3
      have HTK : Hid _ := ht
      clear hcell ht
      generalize ks[k] = q at *
      have hq63 : q.size ≤ 9223372036854775807 := hks
      by_cases h200 : 200 < q.size
      · have h200' : (200 : Int) < (q.size : Int) := by omega
        go_wp2_with (go_at_call 7; refine (HL.out _).mono ?_; rintro e w5 ⟨rfl, b5⟩)
        go_ret
        exact ⟨rfl, HBR.out.trans (b5.mono HBR.out.size)⟩
      have h200' : ¬ (200 : Int) < (q.size : Int) := by omega
      have hq1 := queues_any pa Fa s1 ⟨#[120]⟩ q wr (TA.out wr hbr) ok1 one_long hks
      have hL1 := queuesT_length ok1 ⟨#[120]⟩ q
      have hL2 := queuesT_length ok2 ⟨#[120]⟩ q
      have HT2 : Hid (∀ V, Below wr.heap.size wr V → Calls Tryz.prog 10 #[.pointer (some ⟨pb, 0, none⟩), .string ⟨#[120]⟩, .string q] V fun r w' => ∃ v', r = .returned v' ∧ Row w' v' (scells (queuesT s2 ⟨#[120]⟩ q)) ∧ Below V.heap.size V w') := fun V hV => queues_any pb Fb s2 ⟨#[120]⟩ q V ((TB.out wr hbr).kept hV) ok2 one_long hks
      generalize queuesT s1 ⟨#[120]⟩ q = X at *
      generalize queuesT s2 ⟨#[120]⟩ q = Y at *
      cases hso : sameL s1 s2 ⟨#[120]⟩ (ks.take k)
      · have HT0 : Hid (sameL s1 s2 ⟨#[120]⟩ (ks.take (k + 1)) = false) := by show _ = false; rw [HTK.out, hso]; rfl
        clear hso
        go_wp2
        go_roundw
        case rel => exact ⟨k + 1, by go_num, by omega, by rw [HT0.out], hbr⟩
        case measure => simp [intOf]; omega
      · have HT0 : Hid (sameL s1 s2 ⟨#[120]⟩ (ks.take (k + 1)) = decide (X = Y)) := by show _ = _; rw [HTK.out, hso]; rfl
        clear hso
        go_wp2_with fail
        refine hq1.mono ?_
        rintro r w5 ⟨v5, rfl, r5, b5⟩
        obtain ⟨a5, n5, c5, rfl⟩ : ∃ a n c, v5 = .slice a n c := by obtain ⟨a, c, h⟩ := r5.slice; exact ⟨a, _, c, h⟩
        go_wp2_with fail
        refine (HT2.out w5 b5).mono ?_
        rintro r w6 ⟨v6, rfl, r6, b6⟩
        obtain ⟨a6, n6, c6, rfl⟩ : ∃ a n c, v6 = .slice a n c := by obtain ⟨a, c, h⟩ := r6.slice; exact ⟨a, _, c, h⟩
        have hE := texts8_any w6 _ _ X Y (r5.below b6 (Nat.le_refl _)) r6 (by omega) (by omega)
        go_wp2_with fail
        refine hE.mono ?_
        rintro r w7 ⟨rfl, b7⟩
        have B : Hid (Below w4.heap.size w4 w7) := ((hbr.trans (b5.mono hbr.size)).trans (b6.mono (Nat.le_trans hbr.size b5.size))).trans (b7.mono (Nat.le_trans hbr.size (Nat.le_trans b5.size b6.size)))
        clear hE hq1 r5 r6 b5 b6 b7
        go_wp2
        go_roundw
        case rel => exact ⟨k + 1, by go_num, by omega, by rw [HT0.out], B.out⟩
        case measure => simp [intOf]; omega
    · obtain rfl : k = ks.length := by omega
      rw [List.take_length]
      have hS := same_any pa pb Fa Fb s1 s2 ⟨#[120]⟩ _ ks wr (TA.out wr hbr) (TB.out wr hbr) ok1 ok2 one_long (RK.out wr hbr) f2 (by omega)
      generalize sameL s1 s2 ⟨#[120]⟩ ks = sl at *
      go_wp2_with fail
      refine hS.mono ?_
      rintro r w5 ⟨rfl, b5⟩
      have B5 := hbr.trans (b5.mono hbr.size)
      have hS2 := same_any pa pa Fa Fa s1 s1 ⟨#[120]⟩ _ ks w5 (TA.out w5 B5) (TA.out w5 B5) ok1 ok1 one_long (RK.out w5 B5) f2 (by omega)
      rw [sameL_self] at hS2
      clear hS
      cases sl
      all_goals go_wp2_with fail
      all_goals refine hS2.mono ?_
      all_goals rintro r w6 ⟨rfl, b6⟩
      all_goals go_wp2_with fail
      all_goals refine (HL.out _).mono ?_
      all_goals rintro r w7 ⟨rfl, b7⟩
      all_goals go_wp2
      all_goals go_ret
      all_goals exact ⟨rfl, (HBR.out.trans (b5.mono HBR.out.size)).trans ((b6.trans (b7.mono b6.size)).mono (Nat.le_trans HBR.out.size b5.size))⟩
end Go.Proofs.YtlfehneojkfmjaaGreatDoor
