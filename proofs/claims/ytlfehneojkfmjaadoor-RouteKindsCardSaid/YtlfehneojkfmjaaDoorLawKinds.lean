/-
  RouteKinds, walked.
-/
import Derived.Test.YtlfehneojkfmjaaDoorLives8
import Derived.Test.YtlfehneojkfmjaaDoorKinds
namespace Go.Proofs.YtlfehneojkfmjaaDoor
open Go.RowKit Go.Sort Go.Shelf

theorem KT.sum {s : Tb} {a : ByteArray} {ks : List ByteArray} (h : KT s a ks) (b : ByteArray) : ∃ X Y, queuesT s ⟨#[102]⟩ a = X ∧ queuesT s ⟨#[102]⟩ b = Y ∧ queuesT s ⟨#[116]⟩ a = X ∧ queuesT s ⟨#[100]⟩ a = X ∧ ((a.toList == b.toList) = false → queuesT s ⟨#[100]⟩ b = []) ∧ (keyB (txt a) = true → keyB (txt b) = true → Y = X) ∧ (keyB (txt a) = false → X = []) ∧ X.length ≤ 32 ∧ Y.length ≤ 32 := by
  refine ⟨_, _, rfl, rfl, ?_, ?_, fun hn => ?_, fun h1 h2 => ?_, fun h1 => ?_, queuesT_length h.ok _ _, queuesT_length h.ok _ _⟩
  · exact (h.qt a).trans (h.qf a).symm
  · refine (h.qd a).trans (Eq.trans ?_ (h.qf a).symm)
    simp
  · refine (h.qd b).trans (if_neg fun hh => ?_)
    rw [hh.2] at hn
    simp at hn
  · refine (h.qf b).trans (Eq.trans ?_ (h.qf a).symm)
    rw [if_pos h1, if_pos h2]
  · refine (h.qf a).trans (if_neg ?_)
    rw [h1]; decide
theorem fits_fan (k : ByteArray) : fitsX ⟨⟨#[102]⟩, 2, false⟩ ⟨#[]⟩ k = keyB (txt k) := by
  unfold fitsX
  rw [if_neg (by decide), if_pos rfl, ByteArray.toList_eq]
  show (true && keyB (txt k) && true) = _
  simp

set_option maxRecDepth 20000 in
set_option maxHeartbeats 8000000 in
theorem kinds_law (v : Value) (qs : List ByteArray) (a b : ByteArray) (w : World) (hr : Row w v (scells qs)) (hq : ∀ q ∈ qs, q.size ≤ maxLen) (ha : a.size ≤ maxLen) (hb : b.size ≤ maxLen) :
    Calls Tryd.prog 4 #[v, .string a, .string b] w fun e w' => e = .returned (.bool true) ∧ Below w.heap.size w w' := by
  obtain ⟨va, vc, rfl⟩ := hr.sliceStrs
  have HL : Hid (∀ V, Calls Tryd.prog 5 #[] V fun e w' => e = .returned (.bool true) ∧ Below V.heap.size V w') := lives_any
  have l2 : a.size ≤ 9223372036854775807 := ha
  have l3 : b.size ≤ 9223372036854775807 := hb
  by_cases hbig : qs.length > 20
  · go_enter Tryd.func4, Tryd.ntmps4
    go_wp2_with (go_at_call 5; refine (HL.out _).mono ?_; rintro e w4 ⟨rfl, b4⟩)
    go_ret
    exact ⟨rfl, b4⟩
  · have h20 : ¬ (20 : Int) < (qs.length : Int) := by omega
    clear hbig
    go_enter Tryd.func4, Tryd.ntmps4
    go_wp2_with (first
      | (go_at_call 5; refine (HL.out _).mono ?_; rintro e w4 ⟨rfl, b4⟩)
      | (go_at_call 8; refine (new_any w).mono ?_; rintro e w1 ⟨p, rfl, F1, q1, hF, b1⟩))
    · go_ret
      exact ⟨rfl, b4⟩
    have H1 : HoldT w w1 p F1 newT := ⟨q1, newT_ok, hF, b1⟩
    have hD := declare_any p F1 newT exF w1 H1.t H1.ok one_long
    have okD := newT_ok.declare exF
    rw [kt1] at hD okD
    clear q1 hF b1
    go_wp2_with fail
    refine hD.mono ?_
    rintro e w2 ⟨rfl, F2, t2, m2⟩
    have H2 := H1.go t2 m2 okD
    have hD2 := declare_any p F2 ⟨[exF], []⟩ exT w2 H2.t H2.ok one_long
    have okD2 := H2.ok.declare exT
    rw [kt2] at hD2 okD2
    clear t2 m2 hD okD
    go_wp2_with fail
    refine hD2.mono ?_
    rintro e w3 ⟨rfl, F3, t3, m3⟩
    have H3 := H2.go t3 m3 okD2
    have hD3 := declare_any p F3 ⟨[exF, exT], []⟩ exD w3 H3.t H3.ok one_long
    have okD3 := H3.ok.declare exD
    rw [kt3] at hD3 okD3
    clear t3 m3 hD2 okD2
    go_wp2_with fail
    refine hD3.mono ?_
    rintro e w4 ⟨rfl, F4, t4, m4⟩
    have H4 := H3.go t4 m4 okD3
    clear t4 m4 hD3 okD3 H1 H2 H3
    go_wp2
    go_loopw [8, 9, 38] (fun u8 u9 u38 wr => ∃ (k : Nat) (F : Nat → Prop) (s : Tb), u38 = .int .i64 k ∧ k ≤ qs.length ∧ k ≤ 10 ∧ HoldT w wr p F s ∧ KT s a (qs.take k)) (fun u8 u9 u38 wr => qs.length - (intOf u38).toNat)
    case atStart => exact ⟨0, F4, _, rfl, Nat.zero_le _, Nat.zero_le _, H4, kt_new a⟩
    case round =>
      obtain ⟨k, F, s, rfl, hk, hk10, H, hK⟩ := hrel
      clear H4
      have hrr := hr.below H.bel (Nat.le_refl _)
      have ea : Hid (∀ V, Below wr.heap.size wr V → HoldT w V p F s) := fun V hV => H.below hV
      by_cases hlt2 : k < qs.length ∧ k < 10
      · obtain ⟨hlt2, hk10'⟩ := hlt2
        have hlt : (k : Int) < (qs.length : Int) := by omega
        have hlt10 : (k : Int) < 10 := by omega
        obtain ⟨rb, ro, rc, hv, _, _, hcell⟩ := hrr.atStrs (by omega)
        have hck := hcell k hlt2
        have hqs := hq _ (List.getElem_mem hlt2)
        have hstep := hK.step (by rw [List.length_take]; omega) qs[k] hqs ha
        rw [← List.take_succ_eq_append_getElem hlt2] at hstep
        have HS : Hid _ := hstep
        injection hv with hv1 _ hv3
        subst hv1 hv3
        clear hcell hstep hrr hr
        generalize qs[k] = q at *
        have hq63 : q.size ≤ 9223372036854775807 := hqs
        by_cases h100 : 100 < q.size
        · have h100' : (100 : Int) < (q.size : Int) := by omega
          go_wp2_with (go_at_call 5; refine (HL.out _).mono ?_; rintro e w5 ⟨rfl, b5⟩)
          go_ret
          exact ⟨rfl, (H.below b5).bel⟩
        · have h100' : ¬ (100 : Int) < (q.size : Int) := by omega
          have f1 : Bd.Fit ⟨⟨#[102]⟩, q, ⟨#[]⟩⟩ := ⟨one_long, hqs, by show (0 : Nat) ≤ maxLen; omega⟩
          have f2 : Bd.Fit ⟨⟨#[116]⟩, q, ⟨#[35]⟩⟩ := ⟨one_long, hqs, one_long⟩
          have f3 : Bd.Fit ⟨⟨#[100]⟩, q, a⟩ := ⟨one_long, hqs, ha⟩
          have hB1 := bind_any p F s ⟨⟨#[102]⟩, q, ⟨#[]⟩⟩ wr H.t H.ok f1
          have ok1 := H.ok.bind f1
          go_wp2_with fail
          refine hB1.mono ?_
          rintro e w5 ⟨rfl, F5, t5, m5⟩
          have H5 := H.go t5 m5 ok1
          have hB2 := bind_any p F5 _ ⟨⟨#[116]⟩, q, ⟨#[35]⟩⟩ w5 H5.t H5.ok f2
          have ok2 := H5.ok.bind f2
          clear t5 m5
          go_wp2_with fail
          refine hB2.mono ?_
          rintro e w6 ⟨rfl, F6, t6, m6⟩
          have H6 := H5.go t6 m6 ok2
          have hB3 := bind_any p F6 _ ⟨⟨#[100]⟩, q, a⟩ w6 H6.t H6.ok f3
          have ok3 := H6.ok.bind f3
          clear t6 m6
          go_wp2_with fail
          refine hB3.mono ?_
          rintro e w7 ⟨rfl, F7, t7, m7⟩
          have H7 := H6.go t7 m7 ok3
          clear t7 m7
          go_wp2
          go_roundw
          case rel => exact ⟨k + 1, F7, _, by go_num, by omega, by omega, H7, HS.out⟩
          case measure => simp [intOf]; omega
      · have hX := hK.sum b
        obtain ⟨X, Y, e1, e2, e3, e4, e5, e6, e7, n1, n2⟩ := hX
        have hq1 := queues_any p F s ⟨#[102]⟩ a wr H.t H.ok one_long ha
        rw [e1] at hq1
        have E2 : Hid _ := e2
        have E3 : Hid _ := e3
        have E4 : Hid _ := e4
        have E5 : Hid _ := e5
        have E6 : Hid _ := e6
        have E7 : Hid _ := e7
        clear e1 e2 e3 e4 e5 e6 e7
        by_cases hend : k < qs.length
        · obtain rfl : k = 10 := by omega
          have hlt : (10 : Int) < (qs.length : Int) := by omega
          obtain ⟨rb, ro, rc, hv, _, _, hcell⟩ := hrr.atStrs (by omega)
          have hck := hcell 10 hend
          have hqs := hq _ (List.getElem_mem hend)
          injection hv with hv1 _ hv3
          subst hv1 hv3
          clear hcell hrr hr hlt2
          generalize qs[10] = q at *
          have hq63 : q.size ≤ 9223372036854775807 := hqs
          by_cases h100 : 100 < q.size
          · have h100' : (100 : Int) < (q.size : Int) := by omega
            go_wp2_with (go_at_call 5; refine (HL.out _).mono ?_; rintro e w5 ⟨rfl, b5⟩)
            go_ret
            exact ⟨rfl, (H.below b5).bel⟩
          have h100' : ¬ (100 : Int) < (q.size : Int) := by omega
          go_wp2_with fail
          refine hq1.mono ?_
          rintro e v1 ⟨r1, rfl, row1, c1⟩
          obtain ⟨a1, d1, hv1⟩ := row1.sliceStrs
          obtain ⟨m, hm⟩ : ∃ m, m = X.length := ⟨_, rfl⟩
          rw [← hm] at hv1 n1
          subst hv1
          have M0 : Hid (keyB (txt a) = false → m = 0) := fun h => by rw [hm, E7.out h]; rfl
          have n1' : X.length ≤ 1000000 := by omega
          clear hm
          have N1 : Hid _ := n1'
          clear n1'
          have G1 := ea.out _ c1
          have hq2 := queues_any p F s ⟨#[102]⟩ b v1 G1.t G1.ok one_long hb
          rw [E2.out] at hq2
          go_wp2_with fail
          refine hq2.mono ?_
          rintro e v2 ⟨r2, rfl, row2, c2⟩
          obtain ⟨a2, d2, rfl⟩ := row2.sliceStrs
          have G2 := G1.below c2
          have row1' := row1.below c2 (Nat.le_refl _)
          have hf1 := fits_any ⟨⟨#[102]⟩, 2, false⟩ ⟨#[]⟩ a v2 one_long (by show (0 : Nat) ≤ maxLen; omega) ha
          rw [fits_fan] at hf1
          clear row1 hq1 hq2
          go_wp2_with fail
          refine hf1.mono ?_
          rintro e v3 ⟨rfl, c3⟩
          have G3 := G2.below c3
          have hf2 := fits_any ⟨⟨#[102]⟩, 2, false⟩ ⟨#[]⟩ b v3 one_long (by show (0 : Nat) ≤ maxLen; omega) hb
          rw [fits_fan] at hf2
          go_wp2_with fail
          refine hf2.mono ?_
          rintro e v4 ⟨rfl, c4⟩
          have G4 := G3.below c4
          have R1 := (row1'.below c3 (Nat.le_refl _)).below c4 (Nat.le_refl _)
          have R2 := (row2.below c3 (Nat.le_refl _)).below c4 (Nat.le_refl _)
          have HG : Hid (HoldT w v4 p F s) := G4
          clear hf1 hf2 row1' row2 G1 G2 G3 G4 c1 c2 c3 c4
          have hT1 := texts8_any v4 _ _ X Y R1 R2 N1.out (by omega)
          have KQ : Hid (∀ V, HoldT w V p F s → Row V (.slice a1 m d1) (scells X) → Calls Tryd.prog 11 #[.pointer (some ⟨p, 0, none⟩), .string ⟨#[116]⟩, .string a] V fun r w' => ∃ a' n' c', r = .returned (.slice a' n' c') ∧ Row w' (.slice a' n' c') (scells X) ∧ HoldT w w' p F s ∧ Row w' (.slice a1 m d1) (scells X)) := fun V hV hR => by
            have h := queues_any p F s ⟨#[116]⟩ a V hV.t hV.ok one_long ha
            rw [E3.out] at h
            refine h.mono ?_
            rintro e w' ⟨v', rfl, h1, h2⟩
            obtain ⟨a', c', rfl⟩ := h1.slice
            exact ⟨a', _, c', rfl, h1, hV.below h2, hR.below h2 (Nat.le_refl _)⟩
          have KD : Hid (∀ V, HoldT w V p F s → Row V (.slice a1 m d1) (scells X) → Calls Tryd.prog 11 #[.pointer (some ⟨p, 0, none⟩), .string ⟨#[100]⟩, .string a] V fun r w' => ∃ a' n' c', r = .returned (.slice a' n' c') ∧ Row w' (.slice a' n' c') (scells X) ∧ HoldT w w' p F s ∧ Row w' (.slice a1 m d1) (scells X)) := fun V hV hR => by
            have h := queues_any p F s ⟨#[100]⟩ a V hV.t hV.ok one_long ha
            rw [E4.out] at h
            refine h.mono ?_
            rintro e w' ⟨v', rfl, h1, h2⟩
            obtain ⟨a', c', rfl⟩ := h1.slice
            exact ⟨a', _, c', rfl, h1, hV.below h2, hR.below h2 (Nat.le_refl _)⟩
          have KX : Hid (∀ V v', HoldT w V p F s → Row V (.slice a1 m d1) (scells X) → Row V v' (scells X) → Calls Tryd.prog 12 #[.slice a1 m d1, v'] V fun r w' => r = .returned (.bool true) ∧ HoldT w w' p F s ∧ Row w' (.slice a1 m d1) (scells X)) := fun V v' hV h1 h2 => by
            have h := texts8_any V _ _ X X h1 h2 N1.out N1.out
            rw [decide_eq_true rfl] at h
            refine h.mono ?_
            rintro e w' ⟨rfl, h3⟩
            exact ⟨rfl, hV.below h3, h1.below h3 (Nat.le_refl _)⟩
          have KB : Hid (∀ V, (a.toList == b.toList) = false → HoldT w V p F s → Calls Tryd.prog 11 #[.pointer (some ⟨p, 0, none⟩), .string ⟨#[100]⟩, .string b] V fun r w' => ∃ a' c', r = .returned (.slice a' 0 c') ∧ HoldT w w' p F s) := fun V hn hV => by
            have h := queues_any p F s ⟨#[100]⟩ b V hV.t hV.ok one_long hb
            rw [E5.out hn] at h
            refine h.mono ?_
            rintro e w' ⟨v', rfl, h1, h2⟩
            obtain ⟨a', c', rfl⟩ := h1.sliceStrs
            exact ⟨a', c', rfl, hV.below h2⟩
          have HR1 : Hid _ := R1
          clear R1 R2
          have KT1 : Hid (keyB (txt a) = true → keyB (txt b) = true → Calls Tryd.prog 12 #[.slice a1 m d1, .slice a2 Y.length d2] v4 fun r w' => r = .returned (.bool true) ∧ HoldT w w' p F s ∧ Row w' (.slice a1 m d1) (scells X)) := fun h1 h2 => by
            rw [decide_eq_true (E6.out h1 h2).symm] at hT1
            refine hT1.mono ?_
            rintro e w' ⟨rfl, h3⟩
            exact ⟨rfl, HG.out.below h3, (show Row v4 _ _ from HR1.out).below h3 (Nat.le_refl _)⟩
          clear hT1
          generalize keyB (txt a) = ga at *
          generalize keyB (txt b) = gb at *
          cases ga
          · have hm0 := M0.out rfl
            subst hm0
            go_wp2_with fail
            refine (KQ.out _ HG.out HR1.out).mono ?_
            rintro e v5 ⟨a5, n5, d5, rfl, R5, G5, R6⟩
            go_wp2_with fail
            refine (KX.out _ _ G5 R6 R5).mono ?_
            rintro e v6 ⟨rfl, G6, R7⟩
            go_wp2_with fail
            refine (KD.out _ G6 R7).mono ?_
            rintro e v7 ⟨a7, n7, d7, rfl, R8, G7, R9⟩
            go_wp2_with fail
            refine (KX.out _ _ G7 R9 R8).mono ?_
            rintro e v8 ⟨rfl, G8, R10⟩
            cases hab : (a.toList == b.toList)
            · go_wp2_with fail
              refine (KB.out _ hab G8).mono ?_
              rintro e v9 ⟨a9, d9, rfl, G9⟩
              go_wp2_with fail
              refine (HL.out _).mono ?_
              rintro e v10 ⟨rfl, b10⟩
              go_wp2
              go_ret
              exact ⟨rfl, (G9.below b10).bel⟩
            · go_wp2_with fail
              refine (HL.out _).mono ?_
              rintro e v10 ⟨rfl, b10⟩
              go_wp2
              go_ret
              exact ⟨rfl, (G8.below b10).bel⟩
          · cases gb
            · clear KT1
              go_wp2_with fail
              refine (KQ.out _ HG.out HR1.out).mono ?_
              rintro e v5 ⟨a5, n5, d5, rfl, R5, G5, R6⟩
              go_wp2_with fail
              refine (KX.out _ _ G5 R6 R5).mono ?_
              rintro e v6 ⟨rfl, G6, R7⟩
              go_wp2_with fail
              refine (KD.out _ G6 R7).mono ?_
              rintro e v7 ⟨a7, n7, d7, rfl, R8, G7, R9⟩
              go_wp2_with fail
              refine (KX.out _ _ G7 R9 R8).mono ?_
              rintro e v8 ⟨rfl, G8, R10⟩
              cases hab : (a.toList == b.toList)
              · go_wp2_with fail
                refine (KB.out _ hab G8).mono ?_
                rintro e v9 ⟨a9, d9, rfl, G9⟩
                go_wp2_with fail
                refine (HL.out _).mono ?_
                rintro e v10 ⟨rfl, b10⟩
                go_wp2
                go_ret
                exact ⟨rfl, (G9.below b10).bel⟩
              · go_wp2_with fail
                refine (HL.out _).mono ?_
                rintro e v10 ⟨rfl, b10⟩
                go_wp2
                go_ret
                exact ⟨rfl, (G8.below b10).bel⟩
            · go_wp2_with fail
              refine (KT1.out (by trivial) (by trivial)).mono ?_
              rintro e v0 ⟨rfl, G0, R0⟩
              go_wp2_with fail
              refine (KQ.out _ G0 R0).mono ?_
              rintro e v5 ⟨a5, n5, d5, rfl, R5, G5, R6⟩
              go_wp2_with fail
              refine (KX.out _ _ G5 R6 R5).mono ?_
              rintro e v6 ⟨rfl, G6, R7⟩
              go_wp2_with fail
              refine (KD.out _ G6 R7).mono ?_
              rintro e v7 ⟨a7, n7, d7, rfl, R8, G7, R9⟩
              go_wp2_with fail
              refine (KX.out _ _ G7 R9 R8).mono ?_
              rintro e v8 ⟨rfl, G8, R10⟩
              cases hab : (a.toList == b.toList)
              · go_wp2_with fail
                refine (KB.out _ hab G8).mono ?_
                rintro e v9 ⟨a9, d9, rfl, G9⟩
                go_wp2_with fail
                refine (HL.out _).mono ?_
                rintro e v10 ⟨rfl, b10⟩
                go_wp2
                go_ret
                exact ⟨rfl, (G9.below b10).bel⟩
              · go_wp2_with fail
                refine (HL.out _).mono ?_
                rintro e v10 ⟨rfl, b10⟩
                go_wp2
                go_ret
                exact ⟨rfl, (G8.below b10).bel⟩
        · obtain rfl : k = qs.length := by omega
          clear hlt2 hend hrr hr
          go_wp2_with fail
          refine hq1.mono ?_
          rintro e v1 ⟨r1, rfl, row1, c1⟩
          obtain ⟨a1, d1, hv1⟩ := row1.sliceStrs
          obtain ⟨m, hm⟩ : ∃ m, m = X.length := ⟨_, rfl⟩
          rw [← hm] at hv1 n1
          subst hv1
          have M0 : Hid (keyB (txt a) = false → m = 0) := fun h => by rw [hm, E7.out h]; rfl
          have n1' : X.length ≤ 1000000 := by omega
          clear hm
          have N1 : Hid _ := n1'
          clear n1'
          have G1 := ea.out _ c1
          have hq2 := queues_any p F s ⟨#[102]⟩ b v1 G1.t G1.ok one_long hb
          rw [E2.out] at hq2
          go_wp2_with fail
          refine hq2.mono ?_
          rintro e v2 ⟨r2, rfl, row2, c2⟩
          obtain ⟨a2, d2, rfl⟩ := row2.sliceStrs
          have G2 := G1.below c2
          have row1' := row1.below c2 (Nat.le_refl _)
          have hf1 := fits_any ⟨⟨#[102]⟩, 2, false⟩ ⟨#[]⟩ a v2 one_long (by show (0 : Nat) ≤ maxLen; omega) ha
          rw [fits_fan] at hf1
          clear row1 hq1 hq2
          go_wp2_with fail
          refine hf1.mono ?_
          rintro e v3 ⟨rfl, c3⟩
          have G3 := G2.below c3
          have hf2 := fits_any ⟨⟨#[102]⟩, 2, false⟩ ⟨#[]⟩ b v3 one_long (by show (0 : Nat) ≤ maxLen; omega) hb
          rw [fits_fan] at hf2
          go_wp2_with fail
          refine hf2.mono ?_
          rintro e v4 ⟨rfl, c4⟩
          have G4 := G3.below c4
          have R1 := (row1'.below c3 (Nat.le_refl _)).below c4 (Nat.le_refl _)
          have R2 := (row2.below c3 (Nat.le_refl _)).below c4 (Nat.le_refl _)
          have HG : Hid (HoldT w v4 p F s) := G4
          clear hf1 hf2 row1' row2 G1 G2 G3 G4 c1 c2 c3 c4
          have hT1 := texts8_any v4 _ _ X Y R1 R2 N1.out (by omega)
          have KQ : Hid (∀ V, HoldT w V p F s → Row V (.slice a1 m d1) (scells X) → Calls Tryd.prog 11 #[.pointer (some ⟨p, 0, none⟩), .string ⟨#[116]⟩, .string a] V fun r w' => ∃ a' n' c', r = .returned (.slice a' n' c') ∧ Row w' (.slice a' n' c') (scells X) ∧ HoldT w w' p F s ∧ Row w' (.slice a1 m d1) (scells X)) := fun V hV hR => by
            have h := queues_any p F s ⟨#[116]⟩ a V hV.t hV.ok one_long ha
            rw [E3.out] at h
            refine h.mono ?_
            rintro e w' ⟨v', rfl, h1, h2⟩
            obtain ⟨a', c', rfl⟩ := h1.slice
            exact ⟨a', _, c', rfl, h1, hV.below h2, hR.below h2 (Nat.le_refl _)⟩
          have KD : Hid (∀ V, HoldT w V p F s → Row V (.slice a1 m d1) (scells X) → Calls Tryd.prog 11 #[.pointer (some ⟨p, 0, none⟩), .string ⟨#[100]⟩, .string a] V fun r w' => ∃ a' n' c', r = .returned (.slice a' n' c') ∧ Row w' (.slice a' n' c') (scells X) ∧ HoldT w w' p F s ∧ Row w' (.slice a1 m d1) (scells X)) := fun V hV hR => by
            have h := queues_any p F s ⟨#[100]⟩ a V hV.t hV.ok one_long ha
            rw [E4.out] at h
            refine h.mono ?_
            rintro e w' ⟨v', rfl, h1, h2⟩
            obtain ⟨a', c', rfl⟩ := h1.slice
            exact ⟨a', _, c', rfl, h1, hV.below h2, hR.below h2 (Nat.le_refl _)⟩
          have KX : Hid (∀ V v', HoldT w V p F s → Row V (.slice a1 m d1) (scells X) → Row V v' (scells X) → Calls Tryd.prog 12 #[.slice a1 m d1, v'] V fun r w' => r = .returned (.bool true) ∧ HoldT w w' p F s ∧ Row w' (.slice a1 m d1) (scells X)) := fun V v' hV h1 h2 => by
            have h := texts8_any V _ _ X X h1 h2 N1.out N1.out
            rw [decide_eq_true rfl] at h
            refine h.mono ?_
            rintro e w' ⟨rfl, h3⟩
            exact ⟨rfl, hV.below h3, h1.below h3 (Nat.le_refl _)⟩
          have KB : Hid (∀ V, (a.toList == b.toList) = false → HoldT w V p F s → Calls Tryd.prog 11 #[.pointer (some ⟨p, 0, none⟩), .string ⟨#[100]⟩, .string b] V fun r w' => ∃ a' c', r = .returned (.slice a' 0 c') ∧ HoldT w w' p F s) := fun V hn hV => by
            have h := queues_any p F s ⟨#[100]⟩ b V hV.t hV.ok one_long hb
            rw [E5.out hn] at h
            refine h.mono ?_
            rintro e w' ⟨v', rfl, h1, h2⟩
            obtain ⟨a', c', rfl⟩ := h1.sliceStrs
            exact ⟨a', c', rfl, hV.below h2⟩
          have HR1 : Hid _ := R1
          clear R1 R2
          have KT1 : Hid (keyB (txt a) = true → keyB (txt b) = true → Calls Tryd.prog 12 #[.slice a1 m d1, .slice a2 Y.length d2] v4 fun r w' => r = .returned (.bool true) ∧ HoldT w w' p F s ∧ Row w' (.slice a1 m d1) (scells X)) := fun h1 h2 => by
            rw [decide_eq_true (E6.out h1 h2).symm] at hT1
            refine hT1.mono ?_
            rintro e w' ⟨rfl, h3⟩
            exact ⟨rfl, HG.out.below h3, (show Row v4 _ _ from HR1.out).below h3 (Nat.le_refl _)⟩
          clear hT1
          generalize keyB (txt a) = ga at *
          generalize keyB (txt b) = gb at *
          cases ga
          · have hm0 := M0.out rfl
            subst hm0
            go_wp2_with fail
            refine (KQ.out _ HG.out HR1.out).mono ?_
            rintro e v5 ⟨a5, n5, d5, rfl, R5, G5, R6⟩
            go_wp2_with fail
            refine (KX.out _ _ G5 R6 R5).mono ?_
            rintro e v6 ⟨rfl, G6, R7⟩
            go_wp2_with fail
            refine (KD.out _ G6 R7).mono ?_
            rintro e v7 ⟨a7, n7, d7, rfl, R8, G7, R9⟩
            go_wp2_with fail
            refine (KX.out _ _ G7 R9 R8).mono ?_
            rintro e v8 ⟨rfl, G8, R10⟩
            cases hab : (a.toList == b.toList)
            · go_wp2_with fail
              refine (KB.out _ hab G8).mono ?_
              rintro e v9 ⟨a9, d9, rfl, G9⟩
              go_wp2_with fail
              refine (HL.out _).mono ?_
              rintro e v10 ⟨rfl, b10⟩
              go_wp2
              go_ret
              exact ⟨rfl, (G9.below b10).bel⟩
            · go_wp2_with fail
              refine (HL.out _).mono ?_
              rintro e v10 ⟨rfl, b10⟩
              go_wp2
              go_ret
              exact ⟨rfl, (G8.below b10).bel⟩
          · cases gb
            · clear KT1
              go_wp2_with fail
              refine (KQ.out _ HG.out HR1.out).mono ?_
              rintro e v5 ⟨a5, n5, d5, rfl, R5, G5, R6⟩
              go_wp2_with fail
              refine (KX.out _ _ G5 R6 R5).mono ?_
              rintro e v6 ⟨rfl, G6, R7⟩
              go_wp2_with fail
              refine (KD.out _ G6 R7).mono ?_
              rintro e v7 ⟨a7, n7, d7, rfl, R8, G7, R9⟩
              go_wp2_with fail
              refine (KX.out _ _ G7 R9 R8).mono ?_
              rintro e v8 ⟨rfl, G8, R10⟩
              cases hab : (a.toList == b.toList)
              · go_wp2_with fail
                refine (KB.out _ hab G8).mono ?_
                rintro e v9 ⟨a9, d9, rfl, G9⟩
                go_wp2_with fail
                refine (HL.out _).mono ?_
                rintro e v10 ⟨rfl, b10⟩
                go_wp2
                go_ret
                exact ⟨rfl, (G9.below b10).bel⟩
              · go_wp2_with fail
                refine (HL.out _).mono ?_
                rintro e v10 ⟨rfl, b10⟩
                go_wp2
                go_ret
                exact ⟨rfl, (G8.below b10).bel⟩
            · go_wp2_with fail
              refine (KT1.out (by trivial) (by trivial)).mono ?_
              rintro e v0 ⟨rfl, G0, R0⟩
              go_wp2_with fail
              refine (KQ.out _ G0 R0).mono ?_
              rintro e v5 ⟨a5, n5, d5, rfl, R5, G5, R6⟩
              go_wp2_with fail
              refine (KX.out _ _ G5 R6 R5).mono ?_
              rintro e v6 ⟨rfl, G6, R7⟩
              go_wp2_with fail
              refine (KD.out _ G6 R7).mono ?_
              rintro e v7 ⟨a7, n7, d7, rfl, R8, G7, R9⟩
              go_wp2_with fail
              refine (KX.out _ _ G7 R9 R8).mono ?_
              rintro e v8 ⟨rfl, G8, R10⟩
              cases hab : (a.toList == b.toList)
              · go_wp2_with fail
                refine (KB.out _ hab G8).mono ?_
                rintro e v9 ⟨a9, d9, rfl, G9⟩
                go_wp2_with fail
                refine (HL.out _).mono ?_
                rintro e v10 ⟨rfl, b10⟩
                go_wp2
                go_ret
                exact ⟨rfl, (G9.below b10).bel⟩
              · go_wp2_with fail
                refine (HL.out _).mono ?_
                rintro e v10 ⟨rfl, b10⟩
                go_wp2
                go_ret
                exact ⟨rfl, (G8.below b10).bel⟩
end Go.Proofs.YtlfehneojkfmjaaDoor
