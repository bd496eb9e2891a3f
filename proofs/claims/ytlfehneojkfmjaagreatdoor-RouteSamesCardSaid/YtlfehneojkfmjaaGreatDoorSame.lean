/-
  slices.Equal at texts, Same, by their contracts.
-/
import Derived.Test.YtlfehneojkfmjaaGreatDoorLives8
namespace Go.Proofs.YtlfehneojkfmjaaGreatDoor
open Go.RowKit Go.Sort Go.Shelf

set_option maxRecDepth 20000 in
set_option maxHeartbeats 1000000 in
/-- Two lists of texts, compared. -/
theorem equalT_any (w : World) (va vb : Value) (l m : List ByteArray) (ha : Row w va (scells l)) (hb : Row w vb (scells m)) (hl : l.length ≤ 1000000) (_hm : m.length ≤ 1000000) :
    Calls Tryz.prog 32 #[va, vb] w fun e w' => e = .returned (.bool (l.map txt == m.map txt)) ∧ ∃ n, w' = w.drewN n := by
  obtain ⟨a1, c1, rfl⟩ := ha.sliceStrs
  obtain ⟨a2, c2, rfl⟩ := hb.sliceStrs
  by_cases hlen : l.length = m.length
  · rw [← hlen] at hb ⊢
    have HL : Hid _ := hlen
    have hle1 : l.length ≤ m.length := by omega
    have hle2 : m.length ≤ l.length := by omega
    clear hlen
    go_enter Tryz.func32, Tryz.ntmps32
    go_wp2
    go_loopw [13] (fun i wr => ∃ k : Nat, k ≤ l.length ∧ i = .int .i64 k ∧ (l.map txt).take k = (m.map txt).take k ∧ ∃ d, wr = w.drewN d) (fun i _ => l.length - (intOf i).toNat)
    case atStart => exact ⟨0, Nat.zero_le _, rfl, rfl, 0, rfl⟩
    case round =>
      obtain ⟨k, hk, rfl, hpre, hd⟩ := hrel
      have HD : Hid _ := hd
      have HP : Hid _ := hpre
      clear hd hpre
      by_cases hlt : k < l.length
      · obtain ⟨b1, o1, d1, hv1, _, _, hc1⟩ := ha.atStrs (by omega)
        obtain ⟨b2, o2, d2, hv2, _, _, hc2⟩ := hb.atStrs (by omega)
        injection hv1 with hv11 _ hv13
        rw [← HL.out] at hv2
        injection hv2 with hv21 _ hv23
        subst hv11 hv13 hv21 hv23
        have e1 : wr.cell? ⟨b1, o1 + k, none⟩ = some (.string l[k]) := by obtain ⟨d, rfl⟩ := HD.out; exact hc1 k hlt
        have e2 : wr.cell? ⟨b2, o2 + k, none⟩ = some (.string (m[k]'(by omega))) := by obtain ⟨d, rfl⟩ := HD.out; exact hc2 k (by omega)
        have hlt' : (k : Int) < (m.length : Int) := by omega
        have hlt'' : (k : Int) < (l.length : Int) := by omega
        have HE : Hid ((l[k].toList == (m[k]'(by omega)).toList) = (txt l[k] == txt (m[k]'(by omega)))) := by
          show _ = _
          rw [ByteArray.toList_eq, ByteArray.toList_eq]; rfl
        have HT1 : Hid ((l.map txt).take (k + 1) = (l.map txt).take k ++ [txt l[k]]) := by
          show _ = _
          rw [List.take_succ_eq_append_getElem (by rw [List.length_map]; omega)]; simp
        have HT2 : Hid ((m.map txt).take (k + 1) = (m.map txt).take k ++ [txt (m[k]'(by omega))]) := by
          show _ = _
          rw [List.take_succ_eq_append_getElem (by rw [List.length_map]; omega)]; simp
        clear hc1 hc2
        generalize hx : l[k] = x at *
        generalize hy : (m[k]'(by omega)) = y at *
        cases hq : (x.toList == y.toList)
        · go_wp2
          go_quiet (fail)
          go_wp2
          go_ret
          obtain ⟨d, hd⟩ := HD.out
          refine ⟨ret_bool ?_, d + nq, by rw [hd, World.drewN_drewN]⟩
          symm
          rw [beq_eq_false_iff_ne]
          intro e
          have h1 := HT1.out
          rw [e, HT2.out] at h1
          have h2 := HE.out
          rw [hq] at h2
          have h3 := (List.append_inj' h1 rfl).2
          simp at h3
          rw [h3] at h2
          simp at h2
        · go_wp2
          go_quiet (fail)
          go_wp2
          go_roundw
          case rel =>
            refine ⟨k + 1, by omega, by go_num, ?_, ?_⟩
            · have h2 := HE.out
              rw [hq] at h2
              rw [HT1.out, HT2.out, HP.out, beq_iff_eq.1 h2.symm]
            · obtain ⟨d, hd⟩ := HD.out
              exact ⟨d + nq, by rw [hd, World.drewN_drewN]⟩
          case measure => simp [intOf]; omega
      · go_wp2
        go_ret
        obtain ⟨d, hd⟩ := HD.out
        refine ⟨ret_bool ?_, d, hd⟩
        have := HP.out
        rw [List.take_of_length_le (by rw [List.length_map]; omega), List.take_of_length_le (by rw [List.length_map]; omega)] at this
        rw [this]
        simp
  · have hlen' : ((l.length : Int) == (m.length : Int)) = false := by rw [beq_eq_false_iff_ne]; omega
    go_enter Tryz.func32, Tryz.ntmps32
    go_wp2
    go_ret
    refine ⟨ret_bool ?_, 0, rfl⟩
    symm
    rw [beq_eq_false_iff_ne]
    intro e
    apply hlen
    have := congrArg List.length e
    simpa using this

theorem equal_any (w : World) (va vb : Value) (l m : List ByteArray) (ha : Row w va (scells l)) (hb : Row w vb (scells m)) (hl : l.length ≤ 1000000) (hm : m.length ≤ 1000000) :
    Calls Tryz.prog 32 #[va, vb] w fun e w' => e = .returned (.bool (decide (l = m))) ∧ Below w.heap.size w w' := by
  refine (equalT_any w va vb l m ha hb hl hm).mono ?_
  rintro e w' ⟨rfl, n, rfl⟩
  exact ⟨retK_bool (map_txt_eq l m), ⟨rfl, rfl, rfl, Nat.le_refl _, fun _ _ => rfl⟩⟩
/-- Are the queues the same, of each of the keys? -/
def sameL (s1 s2 : Tb) (e : ByteArray) (ks : List ByteArray) : Bool := ks.all fun k => decide (queuesT s1 e k = queuesT s2 e k)
theorem sameL_take {s1 s2 : Tb} {e : ByteArray} {ks : List ByteArray} {k : Nat} (h : k < ks.length) : sameL s1 s2 e (ks.take (k + 1)) = (sameL s1 s2 e (ks.take k) && decide (queuesT s1 e ks[k] = queuesT s2 e ks[k])) := by
  unfold sameL
  rw [List.take_succ_eq_append_getElem h, List.all_append]
  simp
theorem sameL_bad {s1 s2 : Tb} {e : ByteArray} {ks : List ByteArray} {k : Nat} (h : k < ks.length) (hn : ¬ queuesT s1 e ks[k] = queuesT s2 e ks[k]) : sameL s1 s2 e ks = false := by
  unfold sameL
  rw [Bool.eq_false_iff]
  intro ha
  rw [List.all_eq_true] at ha
  exact hn (by simpa using ha _ (List.getElem_mem h))

set_option maxRecDepth 20000 in
set_option maxHeartbeats 2000000 in
theorem same_any (p1 p2 : Nat) (F1 F2 : Nat → Prop) (s1 s2 : Tb) (e : ByteArray) (v : Value) (ks : List ByteArray) (w : World) (h1 : T w p1 F1 s1) (h2 : T w p2 F2 s2) (ok1 : s1.Ok) (ok2 : s2.Ok) (he : e.size ≤ maxLen) (hr : Row w v (scells ks)) (hk : ∀ k ∈ ks, k.size ≤ maxLen) (hl : ks.length ≤ 1000000) :
    Calls Tryz.prog 14 #[.pointer (some ⟨p1, 0, none⟩), .pointer (some ⟨p2, 0, none⟩), .string e, v] w fun r w' => r = .returned (.bool (sameL s1 s2 e ks)) ∧ Below w.heap.size w w' := by
  obtain ⟨va, vc, rfl⟩ := hr.sliceStrs
  go_enter Tryz.func14, Tryz.ntmps14
  go_wp2
  go_loopw [10, 13] (fun u10 u13 wr => ∃ k : Nat, u13 = .int .i64 k ∧ k ≤ ks.length ∧ sameL s1 s2 e (ks.take k) = true ∧ Below w.heap.size w wr) (fun u10 u13 wr => ks.length - (intOf u13).toNat)
  case atStart => exact ⟨0, rfl, Nat.zero_le _, rfl, Below.refl _ _⟩
  case round =>
    obtain ⟨k, rfl, hkl, hso, hbr⟩ := hrel
    by_cases hlt2 : k < ks.length
    · have hlt : (k : Int) < (ks.length : Int) := by omega
      obtain ⟨rb, ro, rc, hv, _, _, hcell⟩ := (hr.below hbr (Nat.le_refl _)).atStrs (by omega)
      have hck := hcell k hlt2
      have hks := hk _ (List.getElem_mem hlt2)
      have ht := sameL_take (s1 := s1) (s2 := s2) (e := e) hlt2
      have hbad := sameL_bad (s1 := s1) (s2 := s2) (e := e) hlt2
      injection hv with hv1 _ hv3
      subst hv1 hv3
      rw [hso, Bool.true_and] at ht
      clear hcell hr hso
      generalize ks[k] = q at *
      have hq1 := queues_any p1 F1 s1 e q wr (h1.kept hbr) ok1 he hks
      have hL1 := queuesT_length ok1 e q
      have hL2 := queuesT_length ok2 e q
      have HT2 : Hid (∀ V, Below wr.heap.size wr V → Calls Tryz.prog 10 #[.pointer (some ⟨p2, 0, none⟩), .string e, .string q] V fun r w' => ∃ v', r = .returned v' ∧ Row w' v' (scells (queuesT s2 e q)) ∧ Below V.heap.size V w') := fun V hV => queues_any p2 F2 s2 e q V ((h2.kept hbr).kept hV) ok2 he hks
      generalize queuesT s1 e q = X at *
      generalize queuesT s2 e q = Y at *
      have HTK : Hid _ := ht
      have HBD : Hid _ := hbad
      clear ht hbad
      go_wp2_with fail
      refine hq1.mono ?_
      rintro r w1 ⟨v1, rfl, r1, b1⟩
      obtain ⟨a1, n1, c1, rfl⟩ : ∃ a n c, v1 = .slice a n c := by obtain ⟨a, c, h⟩ := r1.slice; exact ⟨a, _, c, h⟩
      go_wp2_with fail
      refine (HT2.out w1 b1).mono ?_
      rintro r w2 ⟨v2, rfl, r2, b2⟩
      obtain ⟨a2, n2, c2, rfl⟩ : ∃ a n c, v2 = .slice a n c := by obtain ⟨a, c, h⟩ := r2.slice; exact ⟨a, _, c, h⟩
      have hE := equal_any w2 _ _ X Y (r1.below b2 (Nat.le_refl _)) r2 (by omega) (by omega)
      go_wp2_with fail
      refine hE.mono ?_
      rintro r w3 ⟨rfl, b3⟩
      have B : Hid (Below w.heap.size w w3) := ((hbr.trans (b1.mono hbr.size)).trans (b2.mono (Nat.le_trans hbr.size b1.size))).trans (b3.mono (Nat.le_trans hbr.size (Nat.le_trans b1.size b2.size)))
      clear hE hq1 r1 r2 b1 b2 b3
      by_cases hxy : X = Y
      · have hd : Hid (decide (X = Y) = true) := decide_eq_true hxy
        rw [hd.out]
        clear hxy
        go_wp2
        go_roundw
        case rel => exact ⟨k + 1, by go_num, by omega, by rw [HTK.out, hd.out], B.out⟩
        case measure => simp [intOf]; omega
      · have hd : Hid (decide (X = Y) = false) := decide_eq_false hxy
        have hs0 : Hid _ := HBD.out hxy
        rw [hd.out]
        clear hxy
        go_wp2
        go_ret
        exact ⟨retK_bool hs0.out.symm, B.out⟩
    · obtain rfl : k = ks.length := by omega
      rw [List.take_length] at hso
      have HS : Hid _ := hso
      clear hr hso
      go_wp2
      go_ret
      exact ⟨retK_bool HS.out.symm, hbr⟩
end Go.Proofs.YtlfehneojkfmjaaGreatDoor
