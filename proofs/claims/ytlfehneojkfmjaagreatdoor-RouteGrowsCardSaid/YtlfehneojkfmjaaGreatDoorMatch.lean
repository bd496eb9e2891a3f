/-
  THE WALKS of Match and Over, the program's and the document's; two lists of texts compared.
-/
import Derived.Test.YtlfehneojkfmjaaGreatDoorRFits
namespace Go.Proofs.YtlfehneojkfmjaaGreatDoor
open Go.RowKit Go.Shelf

theorem strs_txt (l : List Txt) : (strs l).map txt = l := by
  unfold strs
  rw [List.map_map]
  exact (List.map_congr_left (fun x _ => txt_str x)).trans (List.map_id l)
theorem ofB_size {may : Txt → Bool} {s : ByteArray} (h : ofB may (txt s) = true) : s.size ≤ 60 := by
  unfold ofB at h
  simp only [Bool.and_eq_true, decide_eq_true_eq] at h
  rw [txt_length] at h
  exact h.1.1
theorem ofB_words {may : Txt → Bool} {s : Txt} (h : ofB may s = true) : (wordsL s).length ≤ 12 := by
  unfold ofB at h
  simp only [Bool.and_eq_true, decide_eq_true_eq] at h
  exact h.2

theorem below_drewN (w : World) (n B : Nat) : Below B w (w.drewN n) := ⟨rfl, rfl, rfl, Nat.le_refl _, fun _ _ => rfl⟩


set_option maxRecDepth 20000 in
set_option maxHeartbeats 1000000 in
theorem match_any (p k : ByteArray) (w : World) (hp : p.size ≤ maxLen) (hk : k.size ≤ maxLen) :
    Calls Tryz.prog 54 #[.string p, .string k] w fun e w' => e = .returned (.bool (matchB (txt p) (txt k))) ∧ Below w.heap.size w w' := by
  cases hP : patB (txt p)
  · have hm : matchB (txt p) (txt k) = false := by unfold matchB; rw [hP]; rfl
    rw [hm]
    go_enter Tryz.func54, Tryz.ntmps54
    go_wp2_with fail
    refine (pattern_any p _ hp).mono ?_
    rintro e w1 ⟨rfl, hb1⟩
    go_wp2
    go_ret
    exact ⟨rfl, hb1⟩
  · cases hK : keyB (txt k)
    · have hm : matchB (txt p) (txt k) = false := by unfold matchB; rw [hP, hK]; rfl
      rw [hm]
      go_enter Tryz.func54, Tryz.ntmps54
      go_wp2_with fail
      refine (pattern_any p _ hp).mono ?_
      rintro e w1 ⟨rfl, hb1⟩
      go_wp2_with fail
      refine (key_any k _ hk).mono ?_
      rintro e w2 ⟨rfl, hb2⟩
      go_wp2
      go_ret
      exact ⟨rfl, hb1.trans (hb2.mono hb1.size)⟩
    · have hm : matchB (txt p) (txt k) = fitsL (wordsL (txt p)) (wordsL (txt k)) := by unfold matchB; rw [hP, hK]; rfl
      rw [hm]
      have s1 := ofB_size hP
      have s2 := ofB_size hK
      have l1 := ofB_words hP
      have l2 := ofB_words hK
      go_enter Tryz.func54, Tryz.ntmps54
      go_wp2_with fail
      refine (pattern_any p _ hp).mono ?_
      rintro e w1 ⟨rfl, hb1⟩
      go_wp2_with fail
      refine (key_any k _ hk).mono ?_
      rintro e w2 ⟨rfl, hb2⟩
      go_wp2_with fail
      refine (words_any k _ (by omega)).mono ?_
      rintro e w3 ⟨v3, rfl, ho3, hb3⟩
      go_wp2_with fail
      refine (words_any p _ (by omega)).mono ?_
      rintro e w4 ⟨v4, rfl, ho4, hb4⟩
      have hst := stand_any w4 v3 v4 _ _ (ho3.row.below hb4 (Nat.le_refl _)) ho4.row (by rw [strs_length]; omega) (by rw [strs_length]; omega)
      rw [strs_txt, strs_txt] at hst
      go_wp2_with fail
      refine hst.mono ?_
      rintro e w5 ⟨rfl, hb5⟩
      go_wp2
      go_ret
      have z1 := hb1.size; have z2 := hb2.size; have z3 := hb3.size; have z4 := hb4.size
      exact ⟨rfl, (((hb1.trans (hb2.mono z1)).trans (hb3.mono (by omega))).trans (hb4.mono (by omega))).trans (hb5.mono (by omega))⟩

set_option maxRecDepth 20000 in
set_option maxHeartbeats 1000000 in
theorem rmatch_any (p k : ByteArray) (w : World) (hp : p.size ≤ maxLen) (hk : k.size ≤ maxLen) :
    Calls Tryz.prog 60 #[.string p, .string k] w fun e w' => e = .returned (.bool (matchB (txt p) (txt k))) ∧ Below w.heap.size w w' := by
  cases hP : patB (txt p)
  · have hm : matchB (txt p) (txt k) = false := by unfold matchB; rw [hP]; rfl
    rw [hm]
    go_enter Tryz.func60, Tryz.ntmps60
    go_wp2_with fail
    refine (rpattern_any p _ hp).mono ?_
    rintro e w1 ⟨rfl, hb1⟩
    go_wp2
    go_ret
    exact ⟨rfl, hb1⟩
  · cases hK : keyB (txt k)
    · have hm : matchB (txt p) (txt k) = false := by unfold matchB; rw [hP, hK]; rfl
      rw [hm]
      go_enter Tryz.func60, Tryz.ntmps60
      go_wp2_with fail
      refine (rpattern_any p _ hp).mono ?_
      rintro e w1 ⟨rfl, hb1⟩
      go_wp2_with fail
      refine (rkey_any k _ hk).mono ?_
      rintro e w2 ⟨rfl, hb2⟩
      go_wp2
      go_ret
      exact ⟨rfl, hb1.trans (hb2.mono hb1.size)⟩
    · have hm : matchB (txt p) (txt k) = fitsL (wordsL (txt p)) (wordsL (txt k)) := by unfold matchB; rw [hP, hK]; rfl
      rw [hm]
      have s1 := ofB_size hP
      have s2 := ofB_size hK
      have l1 := ofB_words hP
      have l2 := ofB_words hK
      go_enter Tryz.func60, Tryz.ntmps60
      go_wp2_with fail
      refine (rpattern_any p _ hp).mono ?_
      rintro e w1 ⟨rfl, hb1⟩
      go_wp2_with fail
      refine (rkey_any k _ hk).mono ?_
      rintro e w2 ⟨rfl, hb2⟩
      go_wp2_with fail
      refine (rwords_any p _ (by omega)).mono ?_
      rintro e w3 ⟨v3, rfl, ho3, hb3⟩
      go_wp2_with fail
      refine (rwords_any k _ (by omega)).mono ?_
      rintro e w4 ⟨v4, rfl, ho4, hb4⟩
      have hst := rfits_any false _ _ w4 v3 v4 (ho3.row.below hb4 (Nat.le_refl _)) ho4.row (by rw [strs_length]; omega) (by rw [strs_length]; omega)
      rw [strs_txt, strs_txt, rfits_not _ _ (fun w hw => (key_words hK w hw).1)] at hst
      go_wp2_with fail
      refine hst.mono ?_
      rintro e w5 ⟨rfl, n5, rfl⟩
      have hb5 := below_drewN w4 n5 w4.heap.size
      go_wp2
      go_ret
      have z1 := hb1.size; have z2 := hb2.size; have z3 := hb3.size; have z4 := hb4.size
      exact ⟨rfl, (((hb1.trans (hb2.mono z1)).trans (hb3.mono (by omega))).trans (hb4.mono (by omega))).trans (hb5.mono (by omega))⟩

set_option maxRecDepth 20000 in
set_option maxHeartbeats 1000000 in
/-- Two lists of texts, compared. -/
theorem texts_any (w : World) (va vb : Value) (l m : List ByteArray) (ha : Row w va (scells l)) (hb : Row w vb (scells m)) (hl : l.length ≤ 1000000) (_hm : m.length ≤ 1000000) :
    Calls Tryz.prog 9 #[va, vb] w fun e w' => e = .returned (.bool (l.map txt == m.map txt)) ∧ ∃ n, w' = w.drewN n := by
  obtain ⟨a1, c1, rfl⟩ := ha.sliceStrs
  obtain ⟨a2, c2, rfl⟩ := hb.sliceStrs
  by_cases hlen : l.length = m.length
  · rw [← hlen] at hb ⊢
    have HL : Hid _ := hlen
    have hle1 : l.length ≤ m.length := by omega
    have hle2 : m.length ≤ l.length := by omega
    clear hlen
    go_enter Tryz.func9, Tryz.ntmps9
    go_wp2
    go_loopw [13] (fun i wr => ∃ k : Nat, k ≤ l.length ∧ i = .int .i64 k ∧ (l.map txt).take k = (m.map txt).take k ∧ ∃ d, wr = w.drewN d) (fun i _ => l.length - (intOf i).toNat)
    case atStart => exact ⟨0, Nat.zero_le _, rfl, rfl, 0, rfl⟩
    case round =>
      obtain ⟨k, hk, rfl, hpre, hd⟩ := hrel
      have HD : Hid _ := hd
      have HP : Hid _ := hpre
      clear hd hpre
      by_cases hlt : k < l.length
      · obtain ⟨b1, o1, d1, hv1, _, _, hc1⟩ := ha.atStrs (by omega)
        obtain ⟨b2, o2, d2, hv2, _, _, hc2⟩ := hb.atStrs (by omega)
        injection hv1 with hv11 _ hv13
        rw [← HL.out] at hv2
        injection hv2 with hv21 _ hv23
        subst hv11 hv13 hv21 hv23
        have e1 : wr.cell? ⟨b1, o1 + k, none⟩ = some (.string l[k]) := by obtain ⟨d, rfl⟩ := HD.out; exact hc1 k hlt
        have e2 : wr.cell? ⟨b2, o2 + k, none⟩ = some (.string (m[k]'(by omega))) := by obtain ⟨d, rfl⟩ := HD.out; exact hc2 k (by omega)
        have hlt' : (k : Int) < (m.length : Int) := by omega
        have hlt'' : (k : Int) < (l.length : Int) := by omega
        have HE : Hid ((l[k].toList == (m[k]'(by omega)).toList) = (txt l[k] == txt (m[k]'(by omega)))) := by
          show _ = _
          rw [ByteArray.toList_eq, ByteArray.toList_eq]; rfl
        have HT1 : Hid ((l.map txt).take (k + 1) = (l.map txt).take k ++ [txt l[k]]) := by
          show _ = _
          rw [List.take_succ_eq_append_getElem (by rw [List.length_map]; omega)]; simp
        have HT2 : Hid ((m.map txt).take (k + 1) = (m.map txt).take k ++ [txt (m[k]'(by omega))]) := by
          show _ = _
          rw [List.take_succ_eq_append_getElem (by rw [List.length_map]; omega)]; simp
        clear hc1 hc2
        generalize hx : l[k] = x at *
        generalize hy : (m[k]'(by omega)) = y at *
        cases hq : (x.toList == y.toList)
        · go_wp2
          go_quiet (fail)
          go_wp2
          go_ret
          obtain ⟨d, hd⟩ := HD.out
          refine ⟨ret_bool ?_, d + nq, by rw [hd, World.drewN_drewN]⟩
          symm
          rw [beq_eq_false_iff_ne]
          intro e
          have h1 := HT1.out
          rw [e, HT2.out] at h1
          have h2 := HE.out
          rw [hq] at h2
          have h3 := (List.append_inj' h1 rfl).2
          simp at h3
          rw [h3] at h2
          simp at h2
        · go_wp2
          go_quiet (fail)
          go_wp2
          go_roundw
          case rel =>
            refine ⟨k + 1, by omega, by go_num, ?_, ?_⟩
            · have h2 := HE.out
              rw [hq] at h2
              rw [HT1.out, HT2.out, HP.out, beq_iff_eq.1 h2.symm]
            · obtain ⟨d, hd⟩ := HD.out
              exact ⟨d + nq, by rw [hd, World.drewN_drewN]⟩
          case measure => simp [intOf]; omega
      · go_wp2
        go_ret
        obtain ⟨d, hd⟩ := HD.out
        refine ⟨ret_bool ?_, d, hd⟩
        have := HP.out
        rw [List.take_of_length_le (by rw [List.length_map]; omega), List.take_of_length_le (by rw [List.length_map]; omega)] at this
        rw [this]
        simp
  · have hlen' : ((l.length : Int) == (m.length : Int)) = false := by rw [beq_eq_false_iff_ne]; omega
    go_enter Tryz.func9, Tryz.ntmps9
    go_wp2
    go_ret
    refine ⟨ret_bool ?_, 0, rfl⟩
    symm
    rw [beq_eq_false_iff_ne]
    intro e
    apply hlen
    have := congrArg List.length e
    simpa using this
end Go.Proofs.YtlfehneojkfmjaaGreatDoor
