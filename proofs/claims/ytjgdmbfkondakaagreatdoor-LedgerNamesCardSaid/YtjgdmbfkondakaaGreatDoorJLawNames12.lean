/-
  THE LAW LedgerNames.
-/
import Derived.Test.YtjgdmbfkondakaaGreatDoorJLives12
namespace Go.Proofs.YtjgdmbfkondakaaGreatDoor
open Go.RowKit

theorem nameB_ne {n : Int} (h : 1 ≤ n ∧ n ≤ 999999999) : nameB n ≠ ⟨#[]⟩ := fun e => by
  have := nameB_good h
  rw [e] at this
  exact absurd this (by decide)
theorem text_some {s : ByteArray} (h : s ≠ ⟨#[]⟩) : s.toList.isEmpty = false := by
  rw [ByteArray.toList_eq]
  cases e : s.data.toList with
  | nil => exact absurd (arr_inj (a := s) (b := ⟨#[]⟩) (by rw [e])) h
  | cons x l => rfl
theorem text_apart {s t : ByteArray} (h : s ≠ t) : (s.toList == t.toList) = false := by
  rw [ByteArray.toList_eq, ByteArray.toList_eq, beq_eq_false_iff_ne]
  exact fun e => h (arr_inj e)
set_option maxRecDepth 20000 in
set_option maxHeartbeats 8000000 in
theorem namesL_law (n m : Int) (hn : -9223372036854775808 ≤ n ∧ n ≤ 9223372036854775807) (hm : -9223372036854775808 ≤ m ∧ m ≤ 9223372036854775807) (ba : Option Addr) (bc : Nat) (bs : List UInt8) (w : World) (he : Env w) (hb : Holds w (.slice ba bs.length bc) bs) :
    Calls Tryz.prog 4 #[.int .i64 n, .int .i64 m, .slice ba bs.length bc] w fun e w' => e = .returned (.bool true) ∧ Below w.heap.size w w' := by
  have HL : Hid (∀ V, Below w.heap.size w V → Calls Tryz.prog 9 #[] V fun e w' => e = .returned (.bool true) ∧ Below V.heap.size V w') := fun V b => livesL_any V (he.below b)
  have HNm : Hid (∀ V k, Below w.heap.size w V → -9223372036854775808 ≤ k ∧ k ≤ 9223372036854775807 → Calls Tryz.prog 21 #[.int .i64 k] V fun e w' => e = .returned (.string (nameB k)) ∧ Below V.heap.size V w') := fun V k b h => name_any k h.1 h.2 V (he.below b)
  have HG : Hid (∀ V (s : ByteArray), s.size ≤ maxLen → Calls Tryz.prog 22 #[.string s] V fun e w' => e = .returned (.bool (goodN s)) ∧ w' = V) := fun V s h => good_any s V h
  have HH : Hid (Env w ∧ Holds w (.slice ba bs.length bc) bs) := ⟨he, hb⟩
  clear he hb
  by_cases hlen : 1000 < bs.length
  · have hlen' : (1000 : Int) < (bs.length : Int) := by omega
    have c := HL.out w (.refl _ _)
    go_enter Tryz.func4, Tryz.ntmps4
    go_wp2_with (go_at_call 9; refine c.mono ?_; rintro e w2 ⟨rfl, b2⟩)
    go_ret
    exact ⟨rfl, b2⟩
  · have hlen' : ¬ (1000 : Int) < (bs.length : Int) := by omega
    have c1 := HNm.out w n (.refl _ _) hn
    go_enter Tryz.func4, Tryz.ntmps4
    go_wp2_with fail
    refine c1.mono ?_
    rintro e w1 ⟨rfl, b1⟩
    have c2 := HNm.out w1 m b1 hm
    clear c1
    go_wp2_with fail
    refine c2.mono ?_
    rintro e w2 ⟨rfl, b2⟩
    have HB : Hid (Below w.heap.size w w2) := keptW b1 b2
    clear c2 b1 b2
    have hN := new_any 100000 w2 (by decide) (by decide)
    by_cases hr : 1 ≤ n ∧ n ≤ 999999999
    · have hne0 := nameB_ne hr
      have hne := text_some hne0
      have hg := HG.out w2 (nameB n) (by have := nameB_size n; unfold maxLen; omega)
      rw [nameB_good hr] at hg
      have hn1 : decide (n < 1) = false := by simp; omega
      have hn2 : decide (999999999 < n) = false := by simp; omega
      by_cases hnm : n = m
      · subst hnm
        generalize nameB n = X at *
        clear hr HG HNm hm hne0
        go_wp2_with (go_at_call 22; refine hg.mono ?_; rintro e w3 ⟨rfl, rfl⟩)
        clear hg hn1 hn2
        refine hN.mono ?_
        rintro e w4 ⟨p, rfl, F0, s0, f0, b0⟩
        have H0 : Sv w w4 p F0 (M.new 100000) := ⟨s0, fun k hk => by have := f0 k hk; have := HB.out.size; omega, keptW HB.out b0⟩
        have hO := H0.new HH.out.1 (by decide) (by decide) 64 (by decide)
        clear hN s0 f0 b0 H0 HB
        go_wp2_with fail
        refine hO.mono ?_
        rintro e w5 ⟨q, cv, rv, rfl, G1, l1, m1, H1, -, T1⟩
        have HS : Hid (∃ sure, St12 w w5 q p 64 [] sure [] 100000 (16 + 0 * 1024) (2 + 0 * 5)) := ⟨[], G1, l1, m1, _, _, _, H1, T1⟩
        clear hO H1 T1
        go_wp2
        go_loopg [14] 5 (fun g u14 wr => ∃ k : Nat, u14 = .int .i64 k ∧ k ≤ 5 ∧ g = 5 - k ∧ Hid (∃ sure, St12 w wr q p 64 [] sure [] 100000 (16 + k * 1024) (2 + k * 5)))
        case atStart => exact ⟨0, rfl, by omega, rfl, HS.out⟩
        case round =>
          obtain ⟨k, rfl, hk, rfl, HK⟩ := hrel
          clear HS
          by_cases hlt : k < 5
          · have hlt' : (k : Int) < 5 := by omega
            obtain ⟨sure, G, l, m', first, fr, bk, H, T⟩ := HK.out
            have hA := H.add0 T HH.out.1 (.slice ba bs.length bc) bs (H.hold HH.out.2) (by omega) (by omega) (by simp)
            clear H T HK
            go_wp2_with fail
            refine hA.mono ?_
            rintro e w6 ⟨rfl, G6, l6, H6, -, T6⟩
            have hF := H6.flush0 T6 HH.out.1 (by omega) (by omega)
            clear hA H6 T6
            go_wp2_with fail
            refine hF.mono ?_
            rintro e w7 ⟨rfl, G7, l7, m7, fr7, bk7, H7, -, T7⟩
            have HK' : Hid (∃ sure, St12 w w7 q p 64 [] sure [] 100000 (16 + (k + 1) * 1024) (2 + (k + 1) * 5)) := ⟨_, _, _, _, _, _, _, H7, T7.mono (by omega) (by omega)⟩
            clear hF H7 T7
            go_wp2
            go_roundg (5 - (k + 1))
            case measure => omega
            case rel => exact ⟨k + 1, by go_num, by omega, rfl, HK'⟩
          · have hlt' : ¬ (k : Int) < 5 := by omega
            obtain ⟨sure, G, l, m', first, fr, bk, H, T⟩ := HK.out
            have hK := H.mark0 T HH.out.1 (.slice ba bs.length bc) bs (H.hold HH.out.2) (by omega) (by omega) (by omega) (by simp)
            clear H T HK
            go_wp2_with fail
            refine hK.mono ?_
            rintro e w6 ⟨rfl, G6, l6, m6, n6, H6, -, T6⟩
            have hP := H6.parts T6 HH.out.1 (by omega)
            clear hK
            go_wp2_with fail
            refine hP.mono ?_
            rintro e w7 ⟨pa, pc, rfl, b7⟩
            have hO := (H6.go b7).open T6 HH.out.1 (by omega) (by omega) 64 (by decide)
            clear hP H6 T6 b7
            go_wp2_with fail
            refine hO.mono ?_
            rintro e w8 ⟨q8, cv8, rv8, base8, rfl, ⟨G8, m8, H8, -, T8⟩, hc8, -, hr8, -⟩
            clear hO
            obtain ⟨ra, rc, rfl⟩ := hr8.slice
            have hSm := same_any cv8 (.slice ba bs.length bc) bs bs w8 hc8 (HH.out.2.below H8.bel (Nat.le_refl _))
            have hbb : (bs == bs) = true := by simp
            rw [hbb] at hSm
            have hLv := HL.out w8 H8.bel
            have HB8 : Hid (Below w.heap.size w w8) := H8.bel
            clear H8 T8 hc8 hr8 hbb
            go_wp2_with (first | (go_at_call 19; refine hSm.mono ?_; rintro e w9 ⟨rfl, rfl⟩) | (go_at_call 9; refine hLv.mono ?_; rintro e w9 ⟨rfl, b9⟩))
            go_ret
            exact ⟨rfl, keptW HB8.out b9⟩
      · have hxy : nameB n ≠ nameB m := fun e => by
          by_cases hrm : 1 ≤ m ∧ m ≤ 999999999
          · exact hnm (nameB_inj hr hrm e)
          · rw [nameB_out hrm] at e
            exact hne0 e
        have hxy := text_apart hxy
        have hnm : (n == m) = false := by simpa using hnm
        generalize nameB n = X at *
        generalize nameB m = Y at *
        clear hr HG HNm hm hne0
        go_wp2_with (go_at_call 22; refine hg.mono ?_; rintro e w3 ⟨rfl, rfl⟩)
        clear hg hn1 hn2 hxy hnm
        refine hN.mono ?_
        rintro e w4 ⟨p, rfl, F0, s0, f0, b0⟩
        have H0 : Sv w w4 p F0 (M.new 100000) := ⟨s0, fun k hk => by have := f0 k hk; have := HB.out.size; omega, keptW HB.out b0⟩
        have hO := H0.new HH.out.1 (by decide) (by decide) 64 (by decide)
        clear hN s0 f0 b0 H0 HB
        go_wp2_with fail
        refine hO.mono ?_
        rintro e w5 ⟨q, cv, rv, rfl, G1, l1, m1, H1, -, T1⟩
        have HS : Hid (∃ sure, St12 w w5 q p 64 [] sure [] 100000 (16 + 0 * 1024) (2 + 0 * 5)) := ⟨[], G1, l1, m1, _, _, _, H1, T1⟩
        clear hO H1 T1
        go_wp2
        go_loopg [14] 5 (fun g u14 wr => ∃ k : Nat, u14 = .int .i64 k ∧ k ≤ 5 ∧ g = 5 - k ∧ Hid (∃ sure, St12 w wr q p 64 [] sure [] 100000 (16 + k * 1024) (2 + k * 5)))
        case atStart => exact ⟨0, rfl, by omega, rfl, HS.out⟩
        case round =>
          obtain ⟨k, rfl, hk, rfl, HK⟩ := hrel
          clear HS
          by_cases hlt : k < 5
          · have hlt' : (k : Int) < 5 := by omega
            obtain ⟨sure, G, l, m', first, fr, bk, H, T⟩ := HK.out
            have hA := H.add0 T HH.out.1 (.slice ba bs.length bc) bs (H.hold HH.out.2) (by omega) (by omega) (by simp)
            clear H T HK
            go_wp2_with fail
            refine hA.mono ?_
            rintro e w6 ⟨rfl, G6, l6, H6, -, T6⟩
            have hF := H6.flush0 T6 HH.out.1 (by omega) (by omega)
            clear hA H6 T6
            go_wp2_with fail
            refine hF.mono ?_
            rintro e w7 ⟨rfl, G7, l7, m7, fr7, bk7, H7, -, T7⟩
            have HK' : Hid (∃ sure, St12 w w7 q p 64 [] sure [] 100000 (16 + (k + 1) * 1024) (2 + (k + 1) * 5)) := ⟨_, _, _, _, _, _, _, H7, T7.mono (by omega) (by omega)⟩
            clear hF H7 T7
            go_wp2
            go_roundg (5 - (k + 1))
            case measure => omega
            case rel => exact ⟨k + 1, by go_num, by omega, rfl, HK'⟩
          · have hlt' : ¬ (k : Int) < 5 := by omega
            obtain ⟨sure, G, l, m', first, fr, bk, H, T⟩ := HK.out
            have hK := H.mark0 T HH.out.1 (.slice ba bs.length bc) bs (H.hold HH.out.2) (by omega) (by omega) (by omega) (by simp)
            clear H T HK
            go_wp2_with fail
            refine hK.mono ?_
            rintro e w6 ⟨rfl, G6, l6, m6, n6, H6, -, T6⟩
            have hP := H6.parts T6 HH.out.1 (by omega)
            clear hK
            go_wp2_with fail
            refine hP.mono ?_
            rintro e w7 ⟨pa, pc, rfl, b7⟩
            have hO := (H6.go b7).open T6 HH.out.1 (by omega) (by omega) 64 (by decide)
            clear hP H6 T6 b7
            go_wp2_with fail
            refine hO.mono ?_
            rintro e w8 ⟨q8, cv8, rv8, base8, rfl, ⟨G8, m8, H8, -, T8⟩, hc8, -, hr8, -⟩
            clear hO
            obtain ⟨ra, rc, rfl⟩ := hr8.slice
            have hSm := same_any cv8 (.slice ba bs.length bc) bs bs w8 hc8 (HH.out.2.below H8.bel (Nat.le_refl _))
            have hbb : (bs == bs) = true := by simp
            rw [hbb] at hSm
            have hLv := HL.out w8 H8.bel
            have HB8 : Hid (Below w.heap.size w w8) := H8.bel
            clear H8 T8 hc8 hr8 hbb
            go_wp2_with (first | (go_at_call 19; refine hSm.mono ?_; rintro e w9 ⟨rfl, rfl⟩) | (go_at_call 9; refine hLv.mono ?_; rintro e w9 ⟨rfl, b9⟩))
            go_ret
            exact ⟨rfl, keptW HB8.out b9⟩
    · have he0 := nameB_out hr
      rw [he0]
      generalize nameB m = Y at *
      clear HG HNm hm he0
      by_cases h1 : n < 1
      · have h1' : decide (n < 1) = true := by simpa using h1
        go_wp2_with fail
        refine hN.mono ?_
        rintro e w4 ⟨p, rfl, F0, s0, f0, b0⟩
        have H0 : Sv w w4 p F0 (M.new 100000) := ⟨s0, fun k hk => by have := f0 k hk; have := HB.out.size; omega, keptW HB.out b0⟩
        have hO := H0.new HH.out.1 (by decide) (by decide) 64 (by decide)
        clear hN s0 f0 b0 H0 HB
        go_wp2_with fail
        refine hO.mono ?_
        rintro e w5 ⟨q, cv, rv, rfl, G1, l1, m1, H1, -, T1⟩
        have HS : Hid (∃ sure, St12 w w5 q p 64 [] sure [] 100000 (16 + 0 * 1024) (2 + 0 * 5)) := ⟨[], G1, l1, m1, _, _, _, H1, T1⟩
        clear hO H1 T1
        go_wp2
        go_loopg [14] 5 (fun g u14 wr => ∃ k : Nat, u14 = .int .i64 k ∧ k ≤ 5 ∧ g = 5 - k ∧ Hid (∃ sure, St12 w wr q p 64 [] sure [] 100000 (16 + k * 1024) (2 + k * 5)))
        case atStart => exact ⟨0, rfl, by omega, rfl, HS.out⟩
        case round =>
          obtain ⟨k, rfl, hk, rfl, HK⟩ := hrel
          clear HS
          by_cases hlt : k < 5
          · have hlt' : (k : Int) < 5 := by omega
            obtain ⟨sure, G, l, m', first, fr, bk, H, T⟩ := HK.out
            have hA := H.add0 T HH.out.1 (.slice ba bs.length bc) bs (H.hold HH.out.2) (by omega) (by omega) (by simp)
            clear H T HK
            go_wp2_with fail
            refine hA.mono ?_
            rintro e w6 ⟨rfl, G6, l6, H6, -, T6⟩
            have hF := H6.flush0 T6 HH.out.1 (by omega) (by omega)
            clear hA H6 T6
            go_wp2_with fail
            refine hF.mono ?_
            rintro e w7 ⟨rfl, G7, l7, m7, fr7, bk7, H7, -, T7⟩
            have HK' : Hid (∃ sure, St12 w w7 q p 64 [] sure [] 100000 (16 + (k + 1) * 1024) (2 + (k + 1) * 5)) := ⟨_, _, _, _, _, _, _, H7, T7.mono (by omega) (by omega)⟩
            clear hF H7 T7
            go_wp2
            go_roundg (5 - (k + 1))
            case measure => omega
            case rel => exact ⟨k + 1, by go_num, by omega, rfl, HK'⟩
          · have hlt' : ¬ (k : Int) < 5 := by omega
            obtain ⟨sure, G, l, m', first, fr, bk, H, T⟩ := HK.out
            have hK := H.mark0 T HH.out.1 (.slice ba bs.length bc) bs (H.hold HH.out.2) (by omega) (by omega) (by omega) (by simp)
            clear H T HK
            go_wp2_with fail
            refine hK.mono ?_
            rintro e w6 ⟨rfl, G6, l6, m6, n6, H6, -, T6⟩
            have hP := H6.parts T6 HH.out.1 (by omega)
            clear hK
            go_wp2_with fail
            refine hP.mono ?_
            rintro e w7 ⟨pa, pc, rfl, b7⟩
            have hO := (H6.go b7).open T6 HH.out.1 (by omega) (by omega) 64 (by decide)
            clear hP H6 T6 b7
            go_wp2_with fail
            refine hO.mono ?_
            rintro e w8 ⟨q8, cv8, rv8, base8, rfl, ⟨G8, m8, H8, -, T8⟩, hc8, -, hr8, -⟩
            clear hO
            obtain ⟨ra, rc, rfl⟩ := hr8.slice
            have hSm := same_any cv8 (.slice ba bs.length bc) bs bs w8 hc8 (HH.out.2.below H8.bel (Nat.le_refl _))
            have hbb : (bs == bs) = true := by simp
            rw [hbb] at hSm
            have hLv := HL.out w8 H8.bel
            have HB8 : Hid (Below w.heap.size w w8) := H8.bel
            clear H8 T8 hc8 hr8 hbb
            go_wp2_with (first | (go_at_call 19; refine hSm.mono ?_; rintro e w9 ⟨rfl, rfl⟩) | (go_at_call 9; refine hLv.mono ?_; rintro e w9 ⟨rfl, b9⟩))
            go_ret
            exact ⟨rfl, keptW HB8.out b9⟩
      · have h2 : decide (999999999 < n) = true := by simp; omega
        have h1' : decide (n < 1) = false := by simpa using h1
        go_wp2_with fail
        refine hN.mono ?_
        rintro e w4 ⟨p, rfl, F0, s0, f0, b0⟩
        have H0 : Sv w w4 p F0 (M.new 100000) := ⟨s0, fun k hk => by have := f0 k hk; have := HB.out.size; omega, keptW HB.out b0⟩
        have hO := H0.new HH.out.1 (by decide) (by decide) 64 (by decide)
        clear hN s0 f0 b0 H0 HB
        go_wp2_with fail
        refine hO.mono ?_
        rintro e w5 ⟨q, cv, rv, rfl, G1, l1, m1, H1, -, T1⟩
        have HS : Hid (∃ sure, St12 w w5 q p 64 [] sure [] 100000 (16 + 0 * 1024) (2 + 0 * 5)) := ⟨[], G1, l1, m1, _, _, _, H1, T1⟩
        clear hO H1 T1
        go_wp2
        go_loopg [14] 5 (fun g u14 wr => ∃ k : Nat, u14 = .int .i64 k ∧ k ≤ 5 ∧ g = 5 - k ∧ Hid (∃ sure, St12 w wr q p 64 [] sure [] 100000 (16 + k * 1024) (2 + k * 5)))
        case atStart => exact ⟨0, rfl, by omega, rfl, HS.out⟩
        case round =>
          obtain ⟨k, rfl, hk, rfl, HK⟩ := hrel
          clear HS
          by_cases hlt : k < 5
          · have hlt' : (k : Int) < 5 := by omega
            obtain ⟨sure, G, l, m', first, fr, bk, H, T⟩ := HK.out
            have hA := H.add0 T HH.out.1 (.slice ba bs.length bc) bs (H.hold HH.out.2) (by omega) (by omega) (by simp)
            clear H T HK
            go_wp2_with fail
            refine hA.mono ?_
            rintro e w6 ⟨rfl, G6, l6, H6, -, T6⟩
            have hF := H6.flush0 T6 HH.out.1 (by omega) (by omega)
            clear hA H6 T6
            go_wp2_with fail
            refine hF.mono ?_
            rintro e w7 ⟨rfl, G7, l7, m7, fr7, bk7, H7, -, T7⟩
            have HK' : Hid (∃ sure, St12 w w7 q p 64 [] sure [] 100000 (16 + (k + 1) * 1024) (2 + (k + 1) * 5)) := ⟨_, _, _, _, _, _, _, H7, T7.mono (by omega) (by omega)⟩
            clear hF H7 T7
            go_wp2
            go_roundg (5 - (k + 1))
            case measure => omega
            case rel => exact ⟨k + 1, by go_num, by omega, rfl, HK'⟩
          · have hlt' : ¬ (k : Int) < 5 := by omega
            obtain ⟨sure, G, l, m', first, fr, bk, H, T⟩ := HK.out
            have hK := H.mark0 T HH.out.1 (.slice ba bs.length bc) bs (H.hold HH.out.2) (by omega) (by omega) (by omega) (by simp)
            clear H T HK
            go_wp2_with fail
            refine hK.mono ?_
            rintro e w6 ⟨rfl, G6, l6, m6, n6, H6, -, T6⟩
            have hP := H6.parts T6 HH.out.1 (by omega)
            clear hK
            go_wp2_with fail
            refine hP.mono ?_
            rintro e w7 ⟨pa, pc, rfl, b7⟩
            have hO := (H6.go b7).open T6 HH.out.1 (by omega) (by omega) 64 (by decide)
            clear hP H6 T6 b7
            go_wp2_with fail
            refine hO.mono ?_
            rintro e w8 ⟨q8, cv8, rv8, base8, rfl, ⟨G8, m8, H8, -, T8⟩, hc8, -, hr8, -⟩
            clear hO
            obtain ⟨ra, rc, rfl⟩ := hr8.slice
            have hSm := same_any cv8 (.slice ba bs.length bc) bs bs w8 hc8 (HH.out.2.below H8.bel (Nat.le_refl _))
            have hbb : (bs == bs) = true := by simp
            rw [hbb] at hSm
            have hLv := HL.out w8 H8.bel
            have HB8 : Hid (Below w.heap.size w w8) := H8.bel
            clear H8 T8 hc8 hr8 hbb
            go_wp2_with (first | (go_at_call 19; refine hSm.mono ?_; rintro e w9 ⟨rfl, rfl⟩) | (go_at_call 9; refine hLv.mono ?_; rintro e w9 ⟨rfl, b9⟩))
            go_ret
            exact ⟨rfl, keptW HB8.out b9⟩
end Go.Proofs.YtjgdmbfkondakaaGreatDoor
