/-
  THE WALK of InboxBrings.
-/
import Derived.Test.YtkdjpleedaldcaaDoorRot21
import Derived.Deep.LoopGhost
import Derived.OneCell
import Derived.Deep.CutRange
import Derived.Deep.RegionLaw
namespace Go.Proofs.YtkdjpleedaldcaaDoor
open Go.RowKit Go.Maps
set_option maxRecDepth 100000

/-- A list of numbers, as cells. -/
def ncells (l : List Nat) : List Value := l.map fun n : Nat => .int .u64 (n : Int)
theorem ncells_length (l : List Nat) : (ncells l).length = l.length := by simp [ncells]
theorem Row.atN64 {w : World} {a : Option Addr} {n cap : Nat} {l : List Nat} (h : Row w (.slice a n cap) (ncells l)) : n = l.length ∧ l.length ≤ maxLen ∧ ∀ i (hi : i < l.length), ∃ b off, a = some ⟨b, off, none⟩ ∧ b < w.heap.size ∧ w.cell? ⟨b, off + i, none⟩ = some (.int .u64 (l[i] : Nat)) := by
  have hn : n = l.length := by
    rcases h with ⟨h1, h2⟩ | ⟨a', cap', h1, _⟩
    · injection h1 with h1 h3 h4
      have : l = [] := by simpa [ncells] using h2
      simp [this, h3]
    · injection h1 with h1 h3 h4
      rw [h3, ncells_length]
  refine ⟨hn, ?_, fun i hi => ?_⟩
  · rcases h with ⟨_, h2⟩ | ⟨a', cap', h1, h2, h3, _⟩
    · have : l = [] := by simpa [ncells] using h2
      simp [this]
    · rw [ncells_length] at h2; omega
  · obtain ⟨b, off, c, h1, _, _, h4⟩ := h.at (by rw [ncells_length]; omega)
    injection h1 with h1 _ _
    have h5 := h4 i (by rw [ncells_length]; exact hi)
    refine ⟨b, off, h1, World.block_lt_of_cell? w ⟨b, off + i, none⟩ h5, ?_⟩
    rw [h5]
    simp [ncells]
theorem at_lcells {d : Nat} {K : List Nat} {i : Nat} (h : i < K.length) (h' : i < (lcells d K).length) : (lcells d K)[i] = .int .u16 ((d + K[i] : Nat) : Int) := by simp [lcells]
theorem at_hwcells {d : Nat} {K : List Nat} {i : Nat} (h : i < K.length) (h' : i < (hwcells d K).length) : (hwcells d K)[i] = .int .i64 ((d + K[i] : Nat) : Int) := by simp [hwcells]

set_option maxHeartbeats 8000000 in
theorem brings_law (S H : Nat) (v : Value) (l : List Nat) (w : World) (hS : S < 18446744073709551616) (hH : H < 18446744073709551616) (hr : Row w v (ncells l)) (hf : ∀ n ∈ l, n < 18446744073709551616) (hT : Tab w) : Calls Tryd.prog 3 #[.int .u64 S, .int .u64 H, v] w fun e w' => e = .returned (.bool true) ∧ Below w.heap.size w w' := by
  obtain ⟨n, hn⟩ : ∃ n, n = S % 8 + 1 := ⟨_, rfl⟩
  have hn1 : 1 ≤ n := by omega
  have hn2 : n ≤ 8 := by omega
  have e1 : (1 : Int) + (S : Int) % 8 = n := by omega
  obtain ⟨T, hT0⟩ : ∃ T, T = H % 30 := ⟨_, rfl⟩
  have hT30 : T < 30 := by omega
  have e2 : (H : Int) % 30 = T := by omega
  obtain ⟨va, vc, rfl⟩ := hr.slice
  rw [ncells_length] at hr ⊢
  obtain ⟨_, hcap, HA⟩ := hr.atN64
  have hcap2 : (l.length : Int) ≤ 9223372036854775807 := by unfold maxLen at hcap; omega
  have HAC : Hid _ := HA
  have HF : Hid _ := hf
  have HTab : Hid (Tab w) := hT
  have HR : Hid (n = S % 8 + 1 ∧ T = H % 30) := ⟨hn, hT0⟩
  clear hr hf HA hn hT hT0 hcap
  have hN := W.new_good n 2 w hn1 (by omega) (by decide) (by decide)
  have hN2 := fun w => inew_good n w hn1 (by omega)
  by_cases h200 : 200 < l.length
  · have h200' : (200 : Int) < (l.length : Int) := by omega
    go_enter Tryd.func3, Tryd.ntmps3
    go_wp2_with (first
      | (go_at_call 4; refine hN.mono ?_; rintro e x0 ⟨rfl, W0, B0, -⟩)
      | (go_at_call 5; refine (hN2 _).mono ?_; rintro e x1 ⟨rfl, X1, B1, -⟩)
      | (go_at_call 6; refine (lives_any _).mono ?_; rintro e x2 ⟨rfl, B2⟩))
    go_ret
    exact ⟨rfl, B0.trans ((B1.trans (B2.mono B1.size)).mono B0.size)⟩
  · have h200' : ¬ (200 : Int) < (l.length : Int) := by omega
    go_enter Tryd.func3, Tryd.ntmps3
    go_wp2_with (first
      | (go_at_call 4; refine hN.mono ?_; rintro e x0 ⟨rfl, W0, B0, -⟩)
      | (go_at_call 5; refine (hN2 _).mono ?_; rintro e x1 ⟨rfl, X1, B1, -⟩))
    have hBr : Br w.heap.size x1.heap.size w x1 w.heap.size (x0.heap.size + 1) x0.heap.size (W.newW n 2) (newI n) := by
      have hs0 := W0.lt
      have hs1 := X1.lt
      have hs2 := X1.map.lt
      exact ⟨W0.below B1 hs0, X1, W.newW_ok hn1 (by omega) (by decide) (by decide), newI_ok hn1 (by omega), Nat.le_refl _, by omega, by omega, Nat.lt_of_lt_of_le hs0 B1.size, hs1, hs2, by omega, by omega, Nat.le_refl _, B0.trans (B1.mono B0.size), HTab.out, HTab.out.pos⟩
    have HB0 : Hid (Br w.heap.size x1.heap.size w x1 w.heap.size (x0.heap.size + 1) x0.heap.size (W.newW n 2) (newI n)) := hBr
    clear W0 B0 X1 B1 hBr hN hN2 e1 e2 hS hH
    generalize x1.heap.size = R at *
    generalize x0.heap.size + 1 = q at *
    generalize x0.heap.size = b at *
    generalize hBB : w.heap.size = B at *
    have HBB : Hid (w.heap.size = B) := hBB
    clear hBB
    have hl : l.length ≤ 200 := by omega
    go_loopg [11, 12, 13, 14, 15, 16, 18, 19, 20, 21] (l.length + 3 * T + 10) (fun g u11 u12 u13 u14 u15 u16 u18 u19 u20 u21 wr => ∃ (now d : Nat) (m : W.Wn) (x : Ib), u11 = .int .i64 d ∧ u12 = .int .i64 x.n ∧ u13 = .slice none 0 0 ∧ u14 = .slice none 0 0 ∧ u15 = .int .i64 now ∧ now ≤ l.length + 3 * T + 10 ∧ g = l.length + 3 * T + 10 - now ∧ Hid (Br B R w wr B q b m x ∧ Bq T n d now m x ∧ (x.h 0).isSome = false ∧ Soon T l.length now d m x))
    case atStart => exact ⟨0, 0, _, _, rfl, rfl, rfl, rfl, rfl, Nat.zero_le _, rfl, HB0.out, bq_new hT30 hn1 hn2, rfl, fun h => absurd h (by omega)⟩
    case round =>
      obtain ⟨now, d, m, x, rfl, rfl, rfl, rfl, rfl, hnow, rfl, hX⟩ := hrel
      clear HB0
      have hd2 := hX.out.2.1.le
      have hd3 := hX.out.2.1.xn
      by_cases hlt : now < l.length + 3 * T + 10
      · have hlt2 : (now : Int) < (l.length : Int) + 3 * (T : Int) + 10 := by omega
        have hT2 : (T : Int) < 30 := by omega
        have hl2 : (l.length : Int) ≤ 200 := by omega
        go_upto_if 66 with fail
        go_cut [16] from 63 to 70 (fun u16 wx => ∃ kk : Nat, u16 = .int .u64 kk ∧ kk < 18446744073709551616 ∧ (l.length ≤ now → kk = 0) ∧ wx = wr)
        case first =>
          by_cases hnl : now < l.length
          · have hnl2 : (now : Int) < (l.length : Int) := by omega
            have hx := HF.out l[now] (List.getElem_mem hnl)
            obtain ⟨g, off, rfl, hbp, c0⟩ := HAC.out now hnl
            have bel := hX.out.1.bel
            replace c0 := (bel.cell (p := ⟨g, off + now, none⟩) hbp).trans c0
            generalize l[now] = y at *
            clear bel hX
            go_wp2_with fail
            go_meet
            exact ⟨y, rfl, hx, fun h => absurd h (by omega), rfl⟩
          · have hnl2 : ¬ (now : Int) < (l.length : Int) := by omega
            clear hX
            go_wp2_with fail
            go_meet
            exact ⟨0, rfl, by omega, fun _ => rfl, rfl⟩
        case rest =>
          obtain ⟨kk, rfl, hkk, hk0, rfl⟩ := hcut
          have HKK : Hid (kk < 18446744073709551616 ∧ (l.length ≤ now → kk = 0)) := ⟨hkk, hk0⟩
          clear hk0
          obtain ⟨K, hK⟩ : ∃ K, K = (List.range (min (T - d) n)).filter (W.dueB m now) := ⟨_, rfl⟩
          have hws := hX.out.2.1.ws
          have hL : W.sendL m now (min (T - d) n) = K.map fun i : Nat => (i : Int) := by rw [hK]; exact W.sendL_eq _ _ _ (by omega)
          have hKin : ∀ k ∈ K, k < n ∧ d + k < T := fun k hk => by
            rw [hK, List.mem_filter, List.mem_range] at hk
            omega
          have S1 := hX.out.1.send ((T : Int) - d) now
          rw [look_is hX.out.2.1, now_is (by omega), hL, List.length_map] at S1
          have Q1 := hX.out.2.1.send (by omega)
          obtain ⟨m1, hm1⟩ : ∃ m1, m1 = W.sendM m now (min (T - d) n) := ⟨_, rfl⟩
          rw [← hm1] at S1 Q1
          have HM1 : Hid (m1 = W.sendM m now (min (T - d) n) ∧ Bq T n d (now + 1) m1 x) := ⟨hm1, Q1⟩
          have HKI : Hid (∀ k ∈ K, k < n ∧ d + k < T) := hKin
          have HKL : Hid (K = (List.range (min (T - d) n)).filter (W.dueB m now) ∧ W.sendL m now (min (T - d) n) = K.map fun i : Nat => (i : Int)) := ⟨hK, hL⟩
          have hKn : K.length ≤ 8 := by
            have h1 := List.length_filter_le (W.dueB m now) (List.range (min (T - d) n))
            rw [← hK, List.length_range] at h1
            omega
          have hb1 := Q1.wb
          have HX0 : Hid (Bq T n d now m x ∧ (x.h 0).isSome = false ∧ Soon T l.length now d m x) := hX.out.2
          have HSE : Hid (∀ k ∈ K, k < n ∧ d + k < T ∧ m1.sent.testBit k = true) := fun k hk => by
            obtain ⟨h1, h2⟩ := hKin k hk
            have h3 : (k : Int) ∈ W.sendL m now (min (T - d) n) := by rw [hL]; exact List.mem_map.2 ⟨k, hk, rfl⟩
            obtain ⟨k', e, _, _, h4⟩ := hX.out.2.1.list h3
            have : k' = k := by omega
            rw [this, ← hm1] at h4
            exact ⟨h1, h2, h4⟩
          have HNW : Hid (now < l.length + 3 * T + 10) := hlt
          clear hm1 Q1 hK hL hKin hws hnow hlt hlt2
          clear hX
          go_wp2_with fail
          refine S1.mono ?_
          rintro e w1 ⟨a1, k1, rfl, rS, X1⟩
          clear S1
          have HX1 : Hid _ := X1
          have HRS : Hid _ := rS
          clear X1 rS
          go_wp2_with fail
          go_loopg [13, 14, 18, 78] K.length (fun g u13 u14 u18 u78 wv => ∃ (k : Nat), u78 = .int .i64 k ∧ k ≤ K.length ∧ g = K.length - k ∧ Hid (Below w1.heap.size w1 wv ∧ Own1 wv w1.heap.size 32 u13 (lcells d (K.take k)) ∧ Own1 wv w1.heap.size 3 u14 (hwcells d (K.take k))))
          case atStart => exact ⟨0, rfl, Nat.zero_le _, rfl, Below.refl _ _, own1_nil _ _ _, own1_nil _ _ _⟩
          case round =>
            obtain ⟨k, rfl, hk, rfl, hP⟩ := hrel
            by_cases hkl : k < K.length
            · have hkl2 : (k : Int) < (K.length : Int) := by omega
              have hk8 : (k : Int) < 8 := by omega
              have hy := HKI.out K[k] (List.getElem_mem hkl)
              have htk : K.take (k + 1) = K.take k ++ [K[k]] := by rw [List.take_add_one]; simp [hkl]
              have hRow := HRS.out
              have hlm : (K.map fun i : Nat => (i : Int)).length = K.length := List.length_map ..
              obtain ⟨g, off, cap1, hv1, _, _, hcell⟩ := (Row.below HRS.out hP.out.1 (Nat.le_refl _)).atInts (by rw [hlm]; omega)
              rw [hlm] at hv1
              injection hv1 with hv1 _ hcp
              subst hv1
              subst hcp
              have c0 := hcell k (by rw [hlm]; exact hkl)
              simp only [List.getElem_map] at c0
              have HTK : Hid (K.take (k + 1) = K.take k ++ [K[k]]) := htk
              clear hcell htk hRow
              generalize K[k] = y at *
              have XV : Br B R w wr B q b m1 x := HX1.out.keep (hP.out.1.mono HX1.out.siz) HX1.out.BR
              have HXV : Hid _ := XV
              have hNum := XV.num (y : Int)
              have hmv : moveI (m1.b : Int) (y : Int) = ((d + y : Nat) : Int) := by unfold moveI; omega
              rw [hmv] at hNum
              clear XV hmv
              have hl1 : (lcells d (K.take k)).length ≤ 8 := by rw [lcells_len, List.length_take]; omega
              have hl2 : (hwcells d (K.take k)).length ≤ 8 := by rw [hwcells_len, List.length_take]; omega
              have hd29 : (d : Int) < 30 := by omega
              have hy8 : (y : Int) < 8 := by omega
              clear HX1
              go_wp2_with (first
                | (go_at_call 8; refine hNum.mono ?_; rintro e wr ⟨rfl, rfl⟩)
                | (at_builtin; refine wpList_append_rowO rfl _ _ 29 32 _ _ isU16 rfl w1.heap.size _ _ (lcells d (K.take k)) [_] rfl rfl (World.ownsRow.alloc hP.out.2.1 _) (row_one _ _ _) (by simp [Value.oneCell']) (by simp only [List.length_singleton]; omega) (by simp only [List.length_singleton]; omega) (by have := hP.out.1.size; simp; omega) ?_; intro v2 w3 own2 gr2; have hw3 : Own1 w3 w1.heap.size 3 u14 (hwcells d (K.take k)) := Own1.far (World.ownsRow.alloc hP.out.2.2 _) (World.ownsRow.alloc hP.out.2.1 _) (by decide) gr2)
                | (at_builtin; refine wpList_append_rowO rfl _ _ 30 3 _ _ isI rfl w1.heap.size _ _ (hwcells d (K.take k)) [_] rfl rfl (World.ownsRow.alloc hw3 _) (row_one _ _ _) (by simp [Value.oneCell']) (by simp only [List.length_singleton]; omega) (by simp only [List.length_singleton]; omega) (by have := hP.out.1.size; have := gr2.size; simp at this ⊢; omega) ?_; intro v3 w4 own3 gr3))
              go_roundg (K.length - (k + 1))
              case measure => omega
              case rel =>
                have b1 : Below w1.heap.size w1 w3 := Own1.under (World.ownsRow.alloc hP.out.2.1 _) gr2 (hP.out.1.alloc hP.out.1.size _) (by have := hP.out.1.size; simp; omega)
                have b2 : Below w1.heap.size w1 w4 := Own1.under (World.ownsRow.alloc hw3 _) gr3 (b1.alloc b1.size _) (by have := b1.size; simp; omega)
                refine ⟨k + 1, by go_num, by omega, rfl, b2, ?_, ?_⟩
                · rw [HTK.out, lcells_snoc]
                  exact Own1.far (World.ownsRow.alloc own2 _) (World.ownsRow.alloc hw3 _) (by decide) gr3
                · rw [HTK.out, hwcells_snoc, Int.natCast_add]
                  exact own3
            · obtain rfl : k = K.length := by omega
              have hno : ¬ (K.length : Int) < (K.length : Int) := by omega
              rw [List.take_length] at hP
              have HP2 : Hid (Br B R w wr B q b m1 x ∧ Own1 wr R 32 u13 (lcells d K) ∧ Own1 wr R 3 u14 (hwcells d K)) := ⟨HX1.out.keep (hP.out.1.mono HX1.out.siz) HX1.out.BR, hP.out.2.1.mono HX1.out.siz, hP.out.2.2.mono HX1.out.siz⟩
              clear HX1 HRS hP hk
              obtain ⟨a2, cap2, rfl⟩ := HP2.out.2.1.row.slice
              obtain ⟨a3, cap3, rfl⟩ := HP2.out.2.2.row.slice
              rw [lcells_len, hwcells_len] at HP2
              rw [lcells_len, hwcells_len]
              have hKn9 := hKn
              go_upto_region 20 with fail
              go_cut [102] from 95 to 101 (fun u102 wx => u102 = .bool (decide (kk % 4 = 1 ∧ 0 < K.length)) ∧ wx = wr)
              case first =>
                clear HAC HF HR hb1 hKn
                by_cases h1 : kk % 4 = 1
                · have h1b : ((kk : Int) % 4 == 1) = true := by simp; omega
                  have h1i : (kk : Int) % 4 = 1 := by omega
                  by_cases h0 : 0 < K.length
                  · have h0i : (0 : Int) < (K.length : Int) := by omega
                    go_wp2_with fail
                    go_meet
                    exact ⟨congrArg Value.bool (decide_eq_true (p := kk % 4 = 1 ∧ 0 < K.length) ⟨h1, h0⟩).symm, rfl⟩
                  · have h0i : ¬ (0 : Int) < (K.length : Int) := by omega
                    go_wp2_with fail
                    go_meet
                    exact ⟨congrArg Value.bool (decide_eq_false (p := kk % 4 = 1 ∧ 0 < K.length) (fun h => h0 h.2)).symm, rfl⟩
                · have h1b : ((kk : Int) % 4 == 1) = false := by simp; omega
                  have h1i : ¬ (kk : Int) % 4 = 1 := by omega
                  go_wp2_with fail
                  go_meet
                  exact ⟨congrArg Value.bool (decide_eq_false (p := kk % 4 = 1 ∧ 0 < K.length) (fun h => h1 h.1)).symm, rfl⟩
              case rest =>
                obtain ⟨rfl, hw⟩ := hcut
                have hw := hw.symm
                subst hw
                obtain ⟨K1, hK1⟩ : ∃ K1, K1 = if kk % 4 = 1 ∧ 0 < K.length then K.tail else K := ⟨_, rfl⟩
                have HK1 : Hid (K1 = if kk % 4 = 1 ∧ 0 < K.length then K.tail else K) := hK1
                clear hK1
                go_upto_if 102 with fail
                go_cut [13, 14] from 102 to 106 (fun u13 u14 wx => ∃ a2 cap2 a3 cap3, u13 = .slice a2 K1.length cap2 ∧ u14 = .slice a3 K1.length cap3 ∧ Hid (Br B R w wx B q b m1 x ∧ RowIn R wx u13 (lcells d K1) ∧ RowIn R wx u14 (hwcells d K1) ∧ (¬ kk % 4 = 1 → Own1 wx R 32 u13 (lcells d K1) ∧ Own1 wx R 3 u14 (hwcells d K1))))
                case first =>
                  clear HAC HF HR hb1 hKn
                  by_cases h01 : kk % 4 = 1 ∧ 0 < K.length
                  · rw [show decide (kk % 4 = 1 ∧ 0 < K.length) = true from decide_eq_true h01]
                    have hK1 := HK1.out
                    rw [if_pos h01] at hK1
                    obtain ⟨h1, h0⟩ := h01
                    obtain ⟨k0, Kt, rfl⟩ : ∃ k0 Kt, K = k0 :: Kt := by
                      cases K with
                      | nil => simp at h0
                      | cons a b => exact ⟨a, b, rfl⟩
                    have hK1' : K1 = Kt := hK1
                    subst hK1'
                    obtain ⟨g2, rfl, hn2', hc2, hm2, _, _, c2, _⟩ := own_head HP2.out.2.1
                    obtain ⟨g3, rfl, hn3', hc3, hm3, _, _, c3, _⟩ := own_head HP2.out.2.2
                    have HP3 : Hid ((RowIn R wr _ (lcells d K1) ∧ (cap2 ≤ 1 → RowIn R wr (.slice (some ⟨g2, 0, none⟩) ((k0 :: K1).length - 1) 0) (lcells d K1))) ∧ (RowIn R wr _ (hwcells d K1) ∧ (cap3 ≤ 1 → RowIn R wr (.slice (some ⟨g3, 0, none⟩) ((k0 :: K1).length - 1) 0) (hwcells d K1)))) := ⟨⟨(RowIn.of_own HP2.out.2.1).tail, fun h => (RowIn.of_own HP2.out.2.1).tail0 h 0⟩, ⟨(RowIn.of_own HP2.out.2.2).tail, fun h => (RowIn.of_own HP2.out.2.2).tail0 h 0⟩⟩
                    have HB3 : Hid (Br B R w wr B q b m1 x) := HP2.out.1
                    have hlk : K1.length = (k0 :: K1).length - 1 := rfl
                    clear HP2 hn2' hn3' hK1 HK1
                    generalize (k0 :: K1).length = nk at *
                    have h0i : (0 : Int) < (nk : Int) := by omega
                    have h0j : (1 : Int) ≤ (nk : Int) := by omega
                    have hc2i : (nk : Int) ≤ (cap2 : Int) := by omega
                    have hc3i : (nk : Int) ≤ (cap3 : Int) := by omega
                    have hm2i : (cap2 : Int) ≤ 9223372036854775807 := by unfold maxLen at hm2; omega
                    have hm3i : (cap3 : Int) ≤ 9223372036854775807 := by unfold maxLen at hm3; omega
                    go_wp2_with fail
                    go_region
                    all_goals go_wp2_with fail
                    all_goals go_meet
                    all_goals exact ⟨_, _, _, _, (by rw [hlk]), (by rw [hlk]), HB3.out.go (Below.refl _ _).drew, (by first | exact HP3.out.1.1.keep (Kept.of_below (Below.refl _ _).drew) | exact (HP3.out.1.2 (by omega)).keep (Kept.of_below (Below.refl _ _).drew)), (by first | exact HP3.out.2.1.keep (Kept.of_below (Below.refl _ _).drew) | exact (HP3.out.2.2 (by omega)).keep (Kept.of_below (Below.refl _ _).drew)), fun h => absurd h1 h⟩
                  · rw [show decide (kk % 4 = 1 ∧ 0 < K.length) = false from decide_eq_false h01]
                    have hK1 := HK1.out
                    rw [if_neg h01] at hK1
                    subst hK1
                    go_wp2_with fail
                    go_meet
                    exact ⟨_, _, _, _, rfl, rfl, HP2.out.1, RowIn.of_own HP2.out.2.1, RowIn.of_own HP2.out.2.2, fun _ => HP2.out.2⟩
                case rest =>
                  clear HP2
                  obtain ⟨a2, cap2, a3, cap3, rfl, rfl, HP2⟩ := hcut
                  go_upto_region 22 with fail
                  go_cut [114] from 107 to 113 (fun u114 wx => u114 = .bool (decide (kk % 4 = 2 ∧ 0 < K1.length)) ∧ wx = wc)
                  case first =>
                    clear HAC HF HR hb1 hKn
                    by_cases h1 : kk % 4 = 2
                    · have h1b : ((kk : Int) % 4 == 2) = true := by simp; omega
                      have h1i : (kk : Int) % 4 = 2 := by omega
                      by_cases h0 : 0 < K1.length
                      · have h0i : (0 : Int) < (K1.length : Int) := by omega
                        go_wp2_with fail
                        go_meet
                        exact ⟨congrArg Value.bool (decide_eq_true (p := kk % 4 = 2 ∧ 0 < K1.length) ⟨h1, h0⟩).symm, rfl⟩
                      · have h0i : ¬ (0 : Int) < (K1.length : Int) := by omega
                        go_wp2_with fail
                        go_meet
                        exact ⟨congrArg Value.bool (decide_eq_false (p := kk % 4 = 2 ∧ 0 < K1.length) (fun h => h0 h.2)).symm, rfl⟩
                    · have h1b : ((kk : Int) % 4 == 2) = false := by simp; omega
                      have h1i : ¬ (kk : Int) % 4 = 2 := by omega
                      go_wp2_with fail
                      go_meet
                      exact ⟨congrArg Value.bool (decide_eq_false (p := kk % 4 = 2 ∧ 0 < K1.length) (fun h => h1 h.1)).symm, rfl⟩
                  case rest =>
                    obtain ⟨rfl, hw⟩ := hcut
                    subst hw
                    go_upto_if 114 with fail
                    go_cut [13, 14] from 114 to 128 (fun u13 u14 wx => ∃ (K' : List Nat) (a2 : Option Addr) (cap2 : Nat) (a3 : Option Addr) (cap3 : Nat), u13 = .slice a2 K'.length cap2 ∧ u14 = .slice a3 K'.length cap3 ∧ Hid (Br B R w wx B q b m1 x ∧ RowIn R wx u13 (lcells d K') ∧ RowIn R wx u14 (hwcells d K') ∧ (∀ k ∈ K', k ∈ K) ∧ (kk = 0 → K' = K)))
                    case first =>
                      clear HAC HF HR hb1
                      have hsub : (∀ k ∈ K1, k ∈ K) ∧ (kk = 0 → K1 = K) := by
                        rw [HK1.out]
                        split
                        · rename_i h; exact ⟨fun k hk => List.mem_of_mem_tail hk, fun h0 => by omega⟩
                        · exact ⟨fun k hk => hk, fun _ => rfl⟩
                      by_cases h01 : kk % 4 = 2 ∧ 0 < K1.length
                      · rw [show decide (kk % 4 = 2 ∧ 0 < K1.length) = true from decide_eq_true h01]
                        obtain ⟨h1, h0⟩ := h01
                        obtain ⟨k0, Kt, rfl⟩ : ∃ k0 Kt, K1 = k0 :: Kt := by
                          cases K1 with
                          | nil => simp at h0
                          | cons a b => exact ⟨a, b, rfl⟩
                        have hO := HP2.out.2.2.2 (by omega)
                        obtain ⟨g2, rfl, hn2', hc2, hm2, hR2, hg2, c2, cur2, hb2⟩ := own_head hO.1
                        obtain ⟨g3, rfl, hn3', hc3, hm3, hR3, hg3, c3, cur3, hb3⟩ := own_head hO.2
                        have h23 : g2 ≠ g3 := fun e => by
                          rw [e, hb3] at hb2
                          injection hb2 with hb2
                          injection hb2 with _ hb2 _
                          exact absurd hb2 (by decide)
                        have hlen : (hwcells d Kt).length ≤ 1000 ∧ (lcells d Kt).length ≤ 1000 := by
                          rw [hwcells_len, lcells_len]
                          have h3 : (k0 :: Kt).length ≤ 8 := by
                            rw [HK1.out]
                            split
                            · rw [List.length_tail]; omega
                            · exact hKn
                          simp only [List.length_cons] at h3
                          omega
                        have hI : Rot wc.heap.size R g2 g3 (k0 :: Kt).length cap2 (k0 :: Kt).length cap3 (.int .u16 ((d + k0 : Nat) : Int)) (.int .i64 ((d + k0 : Nat) : Int)) (lcells d Kt) (hwcells d Kt) wc wc.drew 0 undef 0 undef :=
                          Rot.drew ⟨Below.refl _ _, Nat.le_refl _, hg2, hg3, h23, hR2, hR3, hn2', hn3', hlen.2, hlen.1, rfl, rfl, hO.1, hO.2, trivial, trivial⟩
                        have HI0 : Hid _ := hI
                        have HB3 : Hid (Br B R w wc B q b m1 x) := HP2.out.1
                        have HSU : Hid (∀ k ∈ Kt ++ [k0], k ∈ K) := fun k hk => hsub.1 k (by simp only [List.mem_append, List.mem_singleton] at hk; simp only [List.mem_cons]; exact hk.symm)
                        have hlk : (Kt ++ [k0]).length = (k0 :: Kt).length := by simp
                        clear HP2 hn2' hn3' hlen hO hsub HK1 hKn
                        generalize (k0 :: Kt).length = nk at *
                        have h0i : (0 : Int) < (nk : Int) := by omega
                        have h0j : (1 : Int) ≤ (nk : Int) := by omega
                        have hc2i : (nk : Int) ≤ (cap2 : Int) := by omega
                        have hc3i : (nk : Int) ≤ (cap3 : Int) := by omega
                        have hm2i : (cap2 : Int) ≤ 9223372036854775807 := by unfold maxLen at hm2; omega
                        have hm3i : (cap3 : Int) ≤ 9223372036854775807 := by unfold maxLen at hm3; omega
                        clear hb2 hb3 hI hR2 hR3 hm2 hm3
                        go_wp2_with fail
                        have ca2 := fun o => cell_alloc21 (w := wc) o c2
                        have ca3 := fun o => cell_alloc21 (w := wc) o c3
                        have cb2 := fun o o' => cell_alloc21 (w := wc.alloc o) o' (ca2 o)
                        have cb3 := fun o o' => cell_alloc21 (w := wc.alloc o) o' (ca3 o)
                        obtain ⟨o2, ho2, hif2⟩ : ∃ o2, (o2 = 1 ∨ (o2 = 0 ∧ cap2 ≤ 1)) ∧ (if cap2 = 1 then some (⟨g2, 0, none⟩ : Addr) else some ⟨g2, 1, none⟩) = some ⟨g2, o2, none⟩ := by
                          by_cases h : cap2 = 1
                          · exact ⟨0, .inr ⟨rfl, by omega⟩, by rw [if_pos h]⟩
                          · exact ⟨1, .inl rfl, by rw [if_neg h]⟩
                        obtain ⟨o3, ho3, hif3⟩ : ∃ o3, (o3 = 1 ∨ (o3 = 0 ∧ cap3 ≤ 1)) ∧ (if cap3 = 1 then some (⟨g3, 0, none⟩ : Addr) else some ⟨g3, 1, none⟩) = some ⟨g3, o3, none⟩ := by
                          by_cases h : cap3 = 1
                          · exact ⟨0, .inr ⟨rfl, by omega⟩, by rw [if_pos h]⟩
                          · exact ⟨1, .inl rfl, by rw [if_neg h]⟩
                        have HF2 : Hid _ := hif2
                        have HF3 : Hid _ := hif3
                        have HO2 : Hid _ := ho2
                        have HO3 : Hid _ := ho3
                        clear hif2 hif3 ho2 ho3
                        go_region_law (first
                          | (refine step_rotX rfl _ _ rfl (congrArg (fun z => Value.slice z (nk - 1) (cap2 - 1)) HF2.out) HO2.out (by first | exact HI0.out.allocX | exact HI0.out.allocX.allocY | exact HI0.out.allocY.allocX | exact hI2.out | exact hI2.out.allocX) (by first | rfl | (simp [Act.eval]; done) | (go_simp; done)) ?_; intro q1 Y1 hI2'; obtain ⟨d2, d3⟩ := hI2'.cells; have hI2 : Hid _ := hI2'; clear hI2'; have da2 := fun o => cell_alloc21 (w := Y1) o d2; have da3 := fun o => cell_alloc21 (w := Y1) o d3)
                          | (refine step_rotY rfl _ _ rfl (congrArg (fun z => Value.slice z (nk - 1) (cap3 - 1)) HF3.out) HO3.out (by first | exact HI0.out.allocY | exact HI0.out.allocY.allocX | exact HI0.out.allocX.allocY | exact hI2.out | exact hI2.out.allocY) (by first | rfl | (simp [Act.eval]; done) | (go_simp; done)) ?_; intro q1 Y1 hI2'; obtain ⟨d2, d3⟩ := hI2'.cells; have hI2 : Hid _ := hI2'; clear hI2'; have da2 := fun o => cell_alloc21 (w := Y1) o d2; have da3 := fun o => cell_alloc21 (w := Y1) o d3))
                        all_goals go_wp2_with fail
                        all_goals go_meet
                        all_goals (obtain ⟨a, c, a', c', e1, e2, r1, r2, bl⟩ := hI2.out.done; exact ⟨Kt ++ [k0], a, c, a', c', e1, e2, HB3.out.keep bl HB3.out.BR, r1, r2, HSU.out, fun h => by omega⟩)
                      · rw [show decide (kk % 4 = 2 ∧ 0 < K1.length) = false from decide_eq_false h01]
                        go_wp2_with fail
                        go_meet
                        exact ⟨K1, _, _, _, _, rfl, rfl, HP2.out.1, HP2.out.2.1, HP2.out.2.2.1, hsub⟩
                    case rest =>
                      clear HP2 HK1
                      obtain ⟨K', a2, cap2, a3, cap3, rfl, rfl, HP3⟩ := hcut
                      have hKc : K'.length ≤ maxLen ∧ True := by
                        rcases HP3.out.2.1 with ⟨_, h⟩ | ⟨_, _, c, _, h1, h2, _⟩
                        · have : K' = [] := by simpa [lcells] using h
                          subst this; exact ⟨Nat.zero_le _, trivial⟩
                        · rw [lcells_len] at h1; exact ⟨by omega, trivial⟩
                      have hKc2 : (K'.length : Int) ≤ 9223372036854775807 := by have := hKc.1; unfold maxLen at this; omega
                      clear hKc
                      go_wp2_with fail
                      go_loopg [19, 131] K'.length (fun g u19 u131 wv => ∃ (k : Nat) (y : Ib), u131 = .int .i64 k ∧ k ≤ K'.length ∧ g = K'.length - k ∧ y.n = x.n ∧ Hid (Br B R w wv B q b m1 y ∧ Bq T n d (now + 1) m1 y ∧ RowIn R wv (.slice a2 K'.length cap2) (lcells d K') ∧ RowIn R wv (.slice a3 K'.length cap3) (hwcells d K') ∧ ∀ e ∈ K'.take k, inI y (d + e) = true))
                      case atStart => exact ⟨0, x, rfl, Nat.zero_le _, rfl, rfl, HP3.out.1, HM1.out.2, HP3.out.2.1, HP3.out.2.2.1, fun e he => by simp at he⟩
                      case round =>
                        obtain ⟨k, y, rfl, hk, rfl, hyn, hY⟩ := hrel
                        by_cases hkl : k < K'.length
                        · have hkl2 : (k : Int) < (K'.length : Int) := by omega
                          obtain ⟨g2, o2, rfl, hg2, c2⟩ := hY.out.2.2.1.at (i := k) (by rw [lcells_len]; exact hkl)
                          obtain ⟨g3, o3, rfl, hg3, c3⟩ := hY.out.2.2.2.1.at (i := k) (by rw [hwcells_len]; exact hkl)
                          rw [at_lcells hkl] at c2
                          rw [at_hwcells hkl] at c3
                          have he := HSE.out K'[k] (HP3.out.2.2.2.1 _ (List.getElem_mem hkl))
                          have htk : ∀ e ∈ K'.take (k + 1), e ∈ K'.take k ∨ e = K'[k] := fun e h => by
                            rw [List.take_add_one, List.mem_append] at h
                            rcases h with h | h
                            · exact .inl h
                            · right; simpa [hkl] using h
                          have HTK : Hid (∀ e ∈ K'.take (k + 1), e ∈ K'.take k ∨ e = K'[k]) := htk
                          generalize K'[k] = e1 at *
                          have HT1 := hY.out.2.1.take he.1 he.2.1 he.2.2
                          obtain ⟨num, hnum⟩ : ∃ num, num = d + e1 := ⟨_, rfl⟩
                          rw [← hnum] at HT1 c2 c3
                          have hn30 : num < 30 := by omega
                          have HNU : Hid (num = d + e1) := hnum
                          obtain ⟨y1, hy1⟩ : ∃ y1, y1 = takeM y num (msgM num) := ⟨_, rfl⟩
                          rw [← hy1] at HT1
                          have HQ1 : Hid (Bq T n d (now + 1) m1 y1 ∧ y1.n = y.n ∧ (∀ j, inI y j = true → inI y1 j = true) ∧ inI y1 num = true) := HT1
                          have htake : ∀ X z, Br B R w X B q b m1 z → Calls Tryd.prog 9 #[.pointer (some ⟨q, 0, none⟩), .int .u16 num, .agg #[.int .i64 0, .int .u64 0, .int .i64 num, .string ⟨#[]⟩, .string ⟨#[]⟩, .string ⟨#[]⟩]] X fun e w' => e = .returned (.bool (mayT z num)) ∧ Br B R w w' B q b m1 (takeM z num (msgM num)) ∧ Kept R X w' := fun X z h => h.take (by omega) (msgM num)
                          have hmsg : ∀ X, Calls Tryd.prog 10 #[.int .i64 num] X fun e w' => e = .returned (.agg #[.int .i64 0, .int .u64 0, .int .i64 num, .string ⟨#[]⟩, .string ⟨#[]⟩, .string ⟨#[]⟩]) ∧ Below X.heap.size X w' := msg_any num
                          have HEE : Hid (e1 < n ∧ d + e1 < T ∧ m1.sent.testBit e1 = true) := he
                          clear HT1 htk he hnum
                          have HY1 : Hid (y1 = takeM y num (msgM num)) := hy1
                          clear hy1
                          have HR0 : Hid (RowIn R wr (.slice (some ⟨g2, o2, none⟩) K'.length cap2) (lcells d K') ∧ RowIn R wr (.slice (some ⟨g3, o3, none⟩) K'.length cap3) (hwcells d K') ∧ ∀ e ∈ K'.take k, inI y (d + e) = true) := hY.out.2.2
                          have HB0 : Hid (Br B R w wr B q b m1 y) := hY.out.1
                          have HG : Hid (R ≤ g2 ∧ R ≤ g3) := ⟨hg2, hg3⟩
                          clear hY hg2 hg3
                          go_upto_region 27 with fail
                          go_cut [] from 134 to 144 (fun wx => Hid (Br B R w wx B q b m1 y1 ∧ Kept R wr wx))
                          case first =>
                            -- R27
                            refine wp_region_noPanic ?_
                            refine wp_region_held_drew (S := fun w' => w'.cell? ⟨g2, o2 + k, none⟩ = some (.int .u16 num) ∧ w'.cell? ⟨g3, o3 + k, none⟩ = some (.int .i64 num)) (by kernel_rfl) (⟨c2, c3⟩) (fun hHeld => ?_)
                            refine wpAnyH_take (i := 0) (v := ?_) (by simp only [List.getElem?_toArray, List.getElem?_cons_zero]; rfl) (by kernel_rfl) (by kernel_rfl) (by kernel_rfl) (fun _ _ _ h => h) (Or.inl ⟨by rfl, ?_⟩) (by assumption) ?_
                            rotate_left
                            · (intro wq hSq; clear hSq; go_simp; try with_reducible rfl)
                            try simp only [Act.put, List.setIfInBounds_toArray, List.set_cons_zero, List.set_cons_succ]
                            refine wpAnyH_take (i := 1) (v := ?_) (by simp only [List.getElem?_toArray, List.getElem?_cons_succ, List.getElem?_cons_zero]; rfl) (by kernel_rfl) (by kernel_rfl) (by kernel_rfl) (fun _ _ _ h => h) (Or.inl ⟨by rfl, ?_⟩) (by assumption) ?_
                            rotate_left
                            · (intro wq hSq; clear hSq; go_simp; try with_reducible rfl)
                            try simp only [Act.put, List.setIfInBounds_toArray, List.set_cons_zero, List.set_cons_succ]
                            refine wpAnyH_take (i := 2) (v := ?_) (by simp only [List.getElem?_toArray, List.getElem?_cons_succ, List.getElem?_cons_zero]; rfl) (by kernel_rfl) (by kernel_rfl) (by kernel_rfl) (fun _ _ _ h => h) (Or.inl ⟨by rfl, ?_⟩) (by assumption) ?_
                            rotate_left
                            · (intro wq hSq; clear hSq; go_simp; try with_reducible rfl)
                            try simp only [Act.put, List.setIfInBounds_toArray, List.set_cons_zero, List.set_cons_succ]
                            refine wpAnyH_take (i := 3) (v := ?_) (by simp only [List.getElem?_toArray, List.getElem?_cons_succ, List.getElem?_cons_zero]; rfl) (by kernel_rfl) (by kernel_rfl) (by kernel_rfl) (fun _ _ _ h => h) (Or.inl ⟨by rfl, ?_⟩) (by assumption) ?_
                            rotate_left
                            · (intro wq hSq; clear hSq; go_simp; try with_reducible rfl)
                            try simp only [Act.put, List.setIfInBounds_toArray, List.set_cons_zero, List.set_cons_succ]
                            refine wpAnyH_take (i := 4) (v := .int .u16 num) (by simp only [List.getElem?_toArray, List.getElem?_cons_succ, List.getElem?_cons_zero]; rfl) (by kernel_rfl) (by kernel_rfl) (by kernel_rfl) (fun _ _ _ h => h) (Or.inl ⟨by rfl, by intro wq hSq; obtain ⟨q2, q3⟩ := hSq; go_simp; try with_reducible rfl⟩) (by assumption) ?_
                            try simp only [Act.put, List.setIfInBounds_toArray, List.set_cons_zero, List.set_cons_succ]
                            refine wpAnyH_take (i := 5) (v := ?_) (by simp only [List.getElem?_toArray, List.getElem?_cons_succ, List.getElem?_cons_zero]; rfl) (by kernel_rfl) (by kernel_rfl) (by kernel_rfl) (fun _ _ _ h => h) (Or.inl ⟨by rfl, ?_⟩) (by assumption) ?_
                            rotate_left
                            · (intro wq hSq; clear hSq; go_simp; try with_reducible rfl)
                            try simp only [Act.put, List.setIfInBounds_toArray, List.set_cons_zero, List.set_cons_succ]
                            refine wpAnyH_take (i := 6) (v := ?_) (by simp only [List.getElem?_toArray, List.getElem?_cons_succ, List.getElem?_cons_zero]; rfl) (by kernel_rfl) (by kernel_rfl) (by kernel_rfl) (fun _ _ _ h => h) (Or.inl ⟨by rfl, ?_⟩) (by assumption) ?_
                            rotate_left
                            · (intro wq hSq; clear hSq; go_simp; try with_reducible rfl)
                            try simp only [Act.put, List.setIfInBounds_toArray, List.set_cons_zero, List.set_cons_succ]
                            refine wpAnyH_take (i := 7) (v := ?_) (by simp only [List.getElem?_toArray, List.getElem?_cons_succ, List.getElem?_cons_zero]; rfl) (by kernel_rfl) (by kernel_rfl) (by kernel_rfl) (fun _ _ _ h => h) (Or.inl ⟨by rfl, ?_⟩) (by assumption) ?_
                            rotate_left
                            · (intro wq hSq; clear hSq; go_simp; try with_reducible rfl)
                            try simp only [Act.put, List.setIfInBounds_toArray, List.set_cons_zero, List.set_cons_succ]
                            refine wpAnyH_take (i := 8) (v := .int .i64 num) (by simp only [List.getElem?_toArray, List.getElem?_cons_succ, List.getElem?_cons_zero]; rfl) (by kernel_rfl) (by kernel_rfl) (by kernel_rfl) (fun _ _ _ h => h) (Or.inl ⟨by rfl, by intro wq hSq; obtain ⟨q2, q3⟩ := hSq; go_simp; try with_reducible rfl⟩) (by assumption) ?_
                            try simp only [Act.put, List.setIfInBounds_toArray, List.set_cons_zero, List.set_cons_succ]
                            refine wpAnyH_ready (rs := [9]) (by kernel_rfl) (by simp) ?_
                            refine AllReadyH.cons rfl (fun K hK => ?_) AllReadyH.nil
                            have HS9 : Hid _ := hHeld
                            clear hHeld
                            go_simp
                            go_at_call 10
                            refine (hmsg _).mono ?_
                            rintro e w3 ⟨rfl, b3⟩
                            have X3 : Hid (Br B R w w3 B q b m1 y ∧ Below wr.heap.size wr w3) := ⟨(HB0.out).go ((Below.refl _ wr).drew.trans b3), (Below.refl _ wr).drew.trans b3⟩
                            have HS3 : Hid (w3.cell? ⟨g2, o2 + k, none⟩ = some (.int .u16 num) ∧ w3.cell? ⟨g3, o3 + k, none⟩ = some (.int .i64 num)) := ⟨cell_on X3.out.2 c2, cell_on X3.out.2 c3⟩
                            clear b3
                            try dsimp only
                            refine hK.out _ _ (HS3.out) (fun hHeld => ?_)
                            clear hK K
                            try simp only [Act.put, List.setIfInBounds_toArray, List.set_cons_zero, List.set_cons_succ]
                            refine wpAnyH_ready (rs := [10]) (by kernel_rfl) (by simp) ?_
                            refine AllReadyH.cons rfl (fun K hK => ?_) AllReadyH.nil
                            have HS10 : Hid _ := hHeld
                            clear hHeld
                            go_simp
                            go_at_call 9
                            refine (htake w3 y X3.out.1).mono ?_
                            rintro e w4 ⟨rfl, X4, s4⟩
                            have HE9 : Hid (Br B R w w4 B q b m1 (takeM y num (msgM num)) ∧ Kept R wr w4) := ⟨X4, (Kept.of_below X3.out.2).trans s4⟩
                            try dsimp only
                            refine hK.out _ _ (⟨s4.cell HS3.out.1 HG.out.1, s4.cell HS3.out.2 HG.out.2⟩) (fun hHeld => ?_)
                            clear hK K
                            try simp only [Act.put, List.setIfInBounds_toArray, List.set_cons_zero, List.set_cons_succ]
                            refine wpAnyH_done (by kernel_rfl) ?_ _
                            refine NoPanic.normal ?_
                            -- ENDR27
                            go_wp2_with fail
                            go_meet
                            exact ⟨by rw [HY1.out]; exact HE9.out.1, HE9.out.2⟩
                          case rest =>
                            have HBW : Hid (Br B R w wc B q b m1 y1 ∧ Kept R wr wc) := hcut
                            have HIN : Hid (∀ e ∈ K'.take (k + 1), inI y1 (d + e) = true) := fun e he => by
                              rcases HTK.out e he with h | rfl
                              · exact HQ1.out.2.2.1 _ (HR0.out.2.2 e h)
                              · rw [← HNU.out]; exact HQ1.out.2.2.2
                            have HT2 : Hid (Bq T n d (now + 1) m1 (takeM y1 num (msgM num)) ∧ (takeM y1 num (msgM num)).n = y1.n ∧ (∀ j, inI y1 j = true → inI (takeM y1 num (msgM num)) j = true)) := by
                              have h := HQ1.out.1.take HEE.out.1 HEE.out.2.1 HEE.out.2.2
                              rw [← HNU.out] at h
                              exact ⟨h.1, h.2.1, h.2.2.1⟩
                            replace c2 := HBW.out.2.cell c2 HG.out.1
                            replace c3 := HBW.out.2.cell c3 HG.out.2
                            clear hcut HB0 HY1
                            by_cases h3 : kk % 4 = 3
                            · have h3b : ((kk : Int) % 4 == 3) = true := by simp; omega
                              have h3i : (kk : Int) % 4 = 3 := by omega
                              go_wp2_with fail
                              -- R29
                              refine wp_region_noPanic ?_
                              refine wp_region_held_drew (S := fun w' => w'.cell? ⟨g2, o2 + k, none⟩ = some (.int .u16 num) ∧ w'.cell? ⟨g3, o3 + k, none⟩ = some (.int .i64 num)) (by kernel_rfl) (⟨c2, c3⟩) (fun hHeld => ?_)
                              refine wpAnyH_take (i := 0) (v := ?_) (by simp only [List.getElem?_toArray, List.getElem?_cons_zero]; rfl) (by kernel_rfl) (by kernel_rfl) (by kernel_rfl) (fun _ _ _ h => h) (Or.inl ⟨by rfl, ?_⟩) (by assumption) ?_
                              rotate_left
                              · (intro wq hSq; clear hSq; go_simp; try with_reducible rfl)
                              try simp only [Act.put, List.setIfInBounds_toArray, List.set_cons_zero, List.set_cons_succ]
                              refine wpAnyH_take (i := 1) (v := ?_) (by simp only [List.getElem?_toArray, List.getElem?_cons_succ, List.getElem?_cons_zero]; rfl) (by kernel_rfl) (by kernel_rfl) (by kernel_rfl) (fun _ _ _ h => h) (Or.inl ⟨by rfl, ?_⟩) (by assumption) ?_
                              rotate_left
                              · (intro wq hSq; clear hSq; go_simp; try with_reducible rfl)
                              try simp only [Act.put, List.setIfInBounds_toArray, List.set_cons_zero, List.set_cons_succ]
                              refine wpAnyH_take (i := 2) (v := ?_) (by simp only [List.getElem?_toArray, List.getElem?_cons_succ, List.getElem?_cons_zero]; rfl) (by kernel_rfl) (by kernel_rfl) (by kernel_rfl) (fun _ _ _ h => h) (Or.inl ⟨by rfl, ?_⟩) (by assumption) ?_
                              rotate_left
                              · (intro wq hSq; clear hSq; go_simp; try with_reducible rfl)
                              try simp only [Act.put, List.setIfInBounds_toArray, List.set_cons_zero, List.set_cons_succ]
                              refine wpAnyH_take (i := 3) (v := ?_) (by simp only [List.getElem?_toArray, List.getElem?_cons_succ, List.getElem?_cons_zero]; rfl) (by kernel_rfl) (by kernel_rfl) (by kernel_rfl) (fun _ _ _ h => h) (Or.inl ⟨by rfl, ?_⟩) (by assumption) ?_
                              rotate_left
                              · (intro wq hSq; clear hSq; go_simp; try with_reducible rfl)
                              try simp only [Act.put, List.setIfInBounds_toArray, List.set_cons_zero, List.set_cons_succ]
                              refine wpAnyH_take (i := 4) (v := .int .u16 num) (by simp only [List.getElem?_toArray, List.getElem?_cons_succ, List.getElem?_cons_zero]; rfl) (by kernel_rfl) (by kernel_rfl) (by kernel_rfl) (fun _ _ _ h => h) (Or.inl ⟨by rfl, by intro wq hSq; obtain ⟨q2, q3⟩ := hSq; go_simp; try with_reducible rfl⟩) (by assumption) ?_
                              try simp only [Act.put, List.setIfInBounds_toArray, List.set_cons_zero, List.set_cons_succ]
                              refine wpAnyH_take (i := 5) (v := ?_) (by simp only [List.getElem?_toArray, List.getElem?_cons_succ, List.getElem?_cons_zero]; rfl) (by kernel_rfl) (by kernel_rfl) (by kernel_rfl) (fun _ _ _ h => h) (Or.inl ⟨by rfl, ?_⟩) (by assumption) ?_
                              rotate_left
                              · (intro wq hSq; clear hSq; go_simp; try with_reducible rfl)
                              try simp only [Act.put, List.setIfInBounds_toArray, List.set_cons_zero, List.set_cons_succ]
                              refine wpAnyH_take (i := 6) (v := ?_) (by simp only [List.getElem?_toArray, List.getElem?_cons_succ, List.getElem?_cons_zero]; rfl) (by kernel_rfl) (by kernel_rfl) (by kernel_rfl) (fun _ _ _ h => h) (Or.inl ⟨by rfl, ?_⟩) (by assumption) ?_
                              rotate_left
                              · (intro wq hSq; clear hSq; go_simp; try with_reducible rfl)
                              try simp only [Act.put, List.setIfInBounds_toArray, List.set_cons_zero, List.set_cons_succ]
                              refine wpAnyH_take (i := 7) (v := ?_) (by simp only [List.getElem?_toArray, List.getElem?_cons_succ, List.getElem?_cons_zero]; rfl) (by kernel_rfl) (by kernel_rfl) (by kernel_rfl) (fun _ _ _ h => h) (Or.inl ⟨by rfl, ?_⟩) (by assumption) ?_
                              rotate_left
                              · (intro wq hSq; clear hSq; go_simp; try with_reducible rfl)
                              try simp only [Act.put, List.setIfInBounds_toArray, List.set_cons_zero, List.set_cons_succ]
                              refine wpAnyH_take (i := 8) (v := .int .i64 num) (by simp only [List.getElem?_toArray, List.getElem?_cons_succ, List.getElem?_cons_zero]; rfl) (by kernel_rfl) (by kernel_rfl) (by kernel_rfl) (fun _ _ _ h => h) (Or.inl ⟨by rfl, by intro wq hSq; obtain ⟨q2, q3⟩ := hSq; go_simp; try with_reducible rfl⟩) (by assumption) ?_
                              try simp only [Act.put, List.setIfInBounds_toArray, List.set_cons_zero, List.set_cons_succ]
                              refine wpAnyH_ready (rs := [9]) (by kernel_rfl) (by simp) ?_
                              refine AllReadyH.cons rfl (fun K hK => ?_) AllReadyH.nil
                              have HS9 : Hid _ := hHeld
                              clear hHeld
                              go_simp
                              go_at_call 10
                              refine (hmsg _).mono ?_
                              rintro e w3 ⟨rfl, b3⟩
                              have X3 : Hid (Br B R w w3 B q b m1 y1 ∧ Below wc.heap.size wc w3) := ⟨(HBW.out.1).go ((Below.refl _ wc).drew.trans b3), (Below.refl _ wc).drew.trans b3⟩
                              have HS3 : Hid (w3.cell? ⟨g2, o2 + k, none⟩ = some (.int .u16 num) ∧ w3.cell? ⟨g3, o3 + k, none⟩ = some (.int .i64 num)) := ⟨cell_on X3.out.2 c2, cell_on X3.out.2 c3⟩
                              clear b3
                              try dsimp only
                              refine hK.out _ _ (HS3.out) (fun hHeld => ?_)
                              clear hK K
                              try simp only [Act.put, List.setIfInBounds_toArray, List.set_cons_zero, List.set_cons_succ]
                              refine wpAnyH_ready (rs := [10]) (by kernel_rfl) (by simp) ?_
                              refine AllReadyH.cons rfl (fun K hK => ?_) AllReadyH.nil
                              have HS10 : Hid _ := hHeld
                              clear hHeld
                              go_simp
                              go_at_call 9
                              refine (htake w3 y1 X3.out.1).mono ?_
                              rintro e w4 ⟨rfl, X4, s4⟩
                              have HE9 : Hid (Br B R w w4 B q b m1 (takeM y1 num (msgM num)) ∧ Kept R wc w4) := ⟨X4, (Kept.of_below X3.out.2).trans s4⟩
                              try dsimp only
                              refine hK.out _ _ (⟨s4.cell HS3.out.1 HG.out.1, s4.cell HS3.out.2 HG.out.2⟩) (fun hHeld => ?_)
                              clear hK K
                              try simp only [Act.put, List.setIfInBounds_toArray, List.set_cons_zero, List.set_cons_succ]
                              refine wpAnyH_done (by kernel_rfl) ?_ _
                              refine NoPanic.normal ?_
                              -- ENDR29
                              go_wp2_with fail
                              go_roundg (K'.length - (k + 1))
                              case measure => omega
                              case rel => exact ⟨k + 1, takeM y1 num (msgM num), by go_num, by omega, rfl, HT2.out.2.1.trans (HQ1.out.2.1.trans hyn), HE9.out.1, HT2.out.1, HR0.out.1.keep (HBW.out.2.trans HE9.out.2), HR0.out.2.1.keep (HBW.out.2.trans HE9.out.2), fun e he => HT2.out.2.2 _ (HIN.out e he)⟩
                            · have h3b : ((kk : Int) % 4 == 3) = false := by simp; omega
                              have h3i : ¬ (kk : Int) % 4 = 3 := by omega
                              go_wp2_with fail
                              go_roundg (K'.length - (k + 1))
                              case measure => omega
                              case rel => exact ⟨k + 1, y1, by go_num, by omega, rfl, HQ1.out.2.1.trans hyn, HBW.out.1, HQ1.out.1, HR0.out.1.keep HBW.out.2, HR0.out.2.1.keep HBW.out.2, HIN.out⟩
                        · obtain rfl : k = K'.length := by omega
                          have HY3 : Hid (Br B R w wr B q b m1 y ∧ Bq T n d (now + 1) m1 y ∧ ∀ e ∈ K', inI y (d + e) = true) := ⟨hY.out.1, hY.out.2.1, fun e he => hY.out.2.2.2.2 e (by rw [List.take_length]; exact he)⟩
                          have HKE : Hid (kk = 0 → K' = K) := HP3.out.2.2.2.2
                          clear hY HP3 hk hkl
                          go_wp2_with fail
                          go_loopg [12, 20, 21] (T + 1) (fun g u12 u20 u21 wv => ∃ z : Ib, u12 = .int .i64 z.n ∧ T + 1 - z.n ≤ g ∧ Hid (Br B R w wv B q b m1 z ∧ Bq T n d (now + 1) m1 z ∧ ∀ e ∈ K', inI z (d + e) = true))
                          case atStart => exact ⟨y, by rw [hyn], by omega, HY3.out⟩
                          case round =>
                            obtain ⟨z, rfl, hg, hZ⟩ := hrel
                            clear HY3
                            have hzn := hZ.out.2.1.xn
                            have hzd := hZ.out.2.1.le
                            have S1 := hZ.out.1.head
                            have HP := fun h => hZ.out.2.1.pop h
                            cases hh : (z.h 0).isSome with
                            | false =>
                              rw [hh] at S1
                              generalize (z.h 0).getD zM = y0 at *
                              clear HP
                              go_wp2_with fail
                              refine S1.mono ?_
                              rintro e w1 ⟨rfl, b1⟩
                              clear S1
                              obtain ⟨W2, fold2⟩ : ∃ W, w1.alloc (.cells #[.int .i64 0, .int .u64 0, .int .i64 0, .string ⟨#[]⟩, .string ⟨#[]⟩, .string ⟨#[]⟩] 39) = W := ⟨_, rfl⟩
                              obtain ⟨hh2, HE1, HE2⟩ := box_set y0 fold2
                              obtain ⟨V2, hV2⟩ : ∃ V, V = W2.setRow w1.heap.size (mcells y0).toArray := ⟨_, rfl⟩
                              rw [← hV2] at HE1 HE2
                              have HX2 : Hid (Br B R w V2 B q b m1 z) := (hZ.out.1.go b1).go HE1
                              have foldV := hV2.symm
                              have HQ : Hid (Bq T n d (now + 1) m1 z ∧ ∀ e ∈ K', inI z (d + e) = true) := hZ.out.2
                              clear HE1 hV2 HE2 b1 hZ
                              have hng : ¬ (z.n : Int) < (d : Int) := by omega
                              have hng2 : ¬ (z.n : Int) < (z.n : Int) := by omega
                              have hnow2 := HNW.out
                              by_cases h8 : kk % 8 = 4
                              · have h8b : ((kk : Int) % 8 == 4) = true := by simp; omega
                                have h8i : (kk : Int) % 8 = 4 := by omega
                                go_wp2_with (refine wpList_store_row rfl 39 _ _ rfl w1.heap.size (mcells y0).toArray rfl rfl 39 (mcells zM).toArray hh2 infoMs rfl (oneMs _) ?_; rw [foldV])
                                go_roundg (l.length + 3 * T + 10 - (now + 1))
                                case measure => omega
                                case rel => exact ⟨now + 1, d, m1, z, rfl, rfl, rfl, rfl, by go_num, by omega, rfl, HX2.out, HQ.out.1, hh, fun ht => absurd (HKK.out.2 (by omega)) (by omega)⟩
                              · have h8b : ((kk : Int) % 8 == 4) = false := by simp; omega
                                have h8i : ¬ (kk : Int) % 8 = 4 := by omega
                                obtain ⟨na, hna⟩ : ∃ na : Nat, na = z.n - d := ⟨_, rfl⟩
                                have hA := HQ.out.1.ack
                                rw [← hna] at hA
                                have hack : ∀ X, Br B R w X B q b m1 z → Calls Tryd.prog 13 #[.pointer (some ⟨B, 0, none⟩), .int .u16 z.n, .int .u64 (ackS z)] X fun e w' => e = .returned (.int .i64 na) ∧ Br B R w w' B q b (W.ackW m1 z.n (ackS z)) z := fun X h => by
                                  have := h.ack z.n (ackS z) (ackS_set z)
                                  rw [hA.1] at this
                                  exact this
                                have hsum : (d : Int) + (na : Int) = (z.n : Int) := by omega
                                have hd29 : (d : Int) < 30 := by omega
                                have hna30 : (na : Int) < 30 := by omega
                                have HA : Hid (Bq T n z.n (now + 1) (W.ackW m1 z.n (ackS z)) z) := hA.2.1
                                have HSO : Hid (Soon T l.length (now + 1) z.n (W.ackW m1 z.n (ackS z)) z) := by
                                  intro ht
                                  have hk0 := HKK.out.2 (by omega)
                                  have hq := HQ.out
                                  have hm := HM1.out.1
                                  subst hm
                                  exact soon_next hn1 HX0.out.1 HX0.out.2.1 HX0.out.2.2 hq.1 hh (fun k hk => hq.2 k (by
                                    rw [HKE.out hk0]
                                    rw [HKL.out.2] at hk
                                    obtain ⟨k', h1, h2⟩ := List.mem_map.1 hk
                                    have : k' = k := by omega
                                    rw [← this]; exact h1)) ht
                                clear hA hna
                                go_wp2_with (first
                                  | (refine wpList_store_row rfl 39 _ _ rfl w1.heap.size (mcells y0).toArray rfl rfl 39 (mcells zM).toArray hh2 infoMs rfl (oneMs _) ?_; rw [foldV])
                                  | (go_at_call 14; refine HX2.out.tell.mono ?_; rintro e w5 ⟨rfl, X5⟩)
                                  | (go_at_call 13; refine (hack w5 X5).mono ?_; rintro e w6 ⟨rfl, X6⟩))
                                go_roundg (l.length + 3 * T + 10 - (now + 1))
                                case measure => omega
                                case rel => exact ⟨now + 1, z.n, W.ackW m1 z.n (ackS z), z, by simp only, rfl, rfl, rfl, by go_num, by omega, rfl, X6, HA.out, hh, HSO.out⟩
                            | true =>
                              obtain ⟨h4, h5, h6, h2⟩ := HP hh
                              rw [hh, h2] at S1
                              clear HP h2
                              have hzt := h4.xn
                              rw [h5] at hzt
                              go_wp2_with fail
                              refine S1.mono ?_
                              rintro e w1 ⟨rfl, b1⟩
                              clear S1
                              obtain ⟨W2, fold2⟩ : ∃ W, w1.alloc (.cells #[.int .i64 0, .int .u64 0, .int .i64 0, .string ⟨#[]⟩, .string ⟨#[]⟩, .string ⟨#[]⟩] 39) = W := ⟨_, rfl⟩
                              obtain ⟨hh2, HE1, HE2⟩ := box_set (msgM z.n) fold2
                              obtain ⟨V2, hV2⟩ : ∃ V, V = W2.setRow w1.heap.size (mcells (msgM z.n)).toArray := ⟨_, rfl⟩
                              rw [← hV2] at HE1 HE2
                              have X2 : Br B R w V2 B q b m1 z := (hZ.out.1.go b1).go HE1
                              have foldV := hV2.symm
                              clear HE1 hV2
                              go_wp2_with (refine wpList_store_row rfl 39 _ _ rfl w1.heap.size (mcells (msgM z.n)).toArray rfl rfl 39 (mcells zM).toArray hh2 infoMs rfl (oneMs _) ?_; rw [foldV])
                              clear foldV fold2 hh2
                              have k0 : V2.cell? ⟨w1.heap.size, 0, none⟩ = some (.int .i64 0) := cell_of_list21 HE2 0 rfl
                              have k1 : V2.cell? ⟨w1.heap.size, 1, none⟩ = some (.int .u64 0) := cell_of_list21 HE2 1 rfl
                              have k2 : V2.cell? ⟨w1.heap.size, 2, none⟩ = some (.int .i64 z.n) := cell_of_list21 HE2 2 rfl
                              have k3 : V2.cell? ⟨w1.heap.size, 3, none⟩ = some (.string ⟨#[]⟩) := cell_of_list21 HE2 3 rfl
                              have k4 : V2.cell? ⟨w1.heap.size, 4, none⟩ = some (.string ⟨#[]⟩) := cell_of_list21 HE2 4 rfl
                              have k5 : V2.cell? ⟨w1.heap.size, 5, none⟩ = some (.string ⟨#[]⟩) := cell_of_list21 HE2 5 rfl
                              have hmsg : ∀ X, Calls Tryd.prog 10 #[.int .i64 z.n] X fun e w' => e = .returned (.agg #[.int .i64 0, .int .u64 0, .int .i64 z.n, .string ⟨#[]⟩, .string ⟨#[]⟩, .string ⟨#[]⟩]) ∧ Below X.heap.size X w' := msg_any z.n
                              have heq : ∀ X, (binOp .neq 39 (.agg #[.int .i64 0, .int .u64 0, .int .i64 z.n, .string ⟨#[]⟩, .string ⟨#[]⟩, .string ⟨#[]⟩]) (.agg #[.int .i64 0, .int .u64 0, .int .i64 z.n, .string ⟨#[]⟩, .string ⟨#[]⟩, .string ⟨#[]⟩])).run Tryd.prog X = .ok (.bool false) X := fun X => by
                                have := run_neM (msgM z.n) (msgM z.n) X
                                rw [decide_eq_true rfl] at this
                                exact this
                              have hgt := eqGuardM
                              have HRb : Hid (R ≤ w1.heap.size) := Nat.le_trans hZ.out.1.siz b1.size
                              have HQ : Hid (Bq T n d (now + 1) m1 (popM z) ∧ (popM z).n = z.n + 1 ∧ ∀ e ∈ K', inI (popM z) (d + e) = true) := ⟨h4, h5, fun e he => by rw [h6]; exact hZ.out.2.2 e he⟩
                              have HV : Hid (Br B R w V2 B q b m1 z) := X2
                              clear X2 h4 h5 h6 hZ b1 HE2
                              have hpop : ∀ X, Br B R w X B q b m1 z → Calls Tryd.prog 12 #[.pointer (some ⟨q, 0, none⟩)] X fun e w' => e = .returned (.bool true) ∧ Br B R w w' B q b m1 (popM z) ∧ Kept R X w' := fun X h => by
                                have := h.pop
                                rw [hh] at this
                                exact this
                              -- R34
                              refine wp_region_noPanic ?_
                              refine wp_region_held_drew (S := fun w' => w'.cell? ⟨w1.heap.size, 0, none⟩ = some (.int .i64 0) ∧ w'.cell? ⟨w1.heap.size, 1, none⟩ = some (.int .u64 0) ∧ w'.cell? ⟨w1.heap.size, 2, none⟩ = some (.int .i64 z.n) ∧ w'.cell? ⟨w1.heap.size, 3, none⟩ = some (.string ⟨#[]⟩) ∧ w'.cell? ⟨w1.heap.size, 4, none⟩ = some (.string ⟨#[]⟩) ∧ w'.cell? ⟨w1.heap.size, 5, none⟩ = some (.string ⟨#[]⟩)) (by kernel_rfl) (⟨k0, k1, k2, k3, k4, k5⟩) (fun hHeld => ?_)
                              refine wpAnyH_take (i := 0) (v := .agg #[.int .i64 0, .int .u64 0, .int .i64 z.n, .string ⟨#[]⟩, .string ⟨#[]⟩, .string ⟨#[]⟩]) (by simp only [List.getElem?_toArray, List.getElem?_cons_zero]; rfl) (by kernel_rfl) (by kernel_rfl) (by kernel_rfl) (fun _ _ _ h => h) (Or.inl ⟨by rfl, by intro wq hSq; obtain ⟨q0, q1, q2, q3, q4, q5⟩ := hSq; go_simp; try with_reducible rfl⟩) (by assumption) ?_
                              try simp only [Act.put, List.setIfInBounds_toArray, List.set_cons_zero, List.set_cons_succ]
                              refine wpAnyH_take (i := 1) (v := ?_) (by simp only [List.getElem?_toArray, List.getElem?_cons_succ, List.getElem?_cons_zero]; rfl) (by kernel_rfl) (by kernel_rfl) (by kernel_rfl) (fun _ _ _ h => h) (Or.inl ⟨by rfl, ?_⟩) (by assumption) ?_
                              rotate_left
                              · (intro wq hSq; clear hSq; go_simp; try with_reducible rfl)
                              try simp only [Act.put, List.setIfInBounds_toArray, List.set_cons_zero, List.set_cons_succ]
                              refine wpAnyH_ready (rs := [2]) (by kernel_rfl) (by simp) ?_
                              refine AllReadyH.cons rfl (fun K hK => ?_) AllReadyH.nil
                              have HS2 : Hid _ := hHeld
                              clear hHeld
                              go_simp
                              go_at_call 10
                              refine (hmsg V2.drew).mono ?_
                              rintro e w3 ⟨rfl, b3⟩
                              have X3 : Hid (Br B R w w3 B q b m1 z) := HV.out.go ((Below.refl _ V2).drew.trans b3)
                              have HS3 : Hid (w3.cell? ⟨w1.heap.size, 0, none⟩ = some (.int .i64 0) ∧ w3.cell? ⟨w1.heap.size, 1, none⟩ = some (.int .u64 0) ∧ w3.cell? ⟨w1.heap.size, 2, none⟩ = some (.int .i64 z.n) ∧ w3.cell? ⟨w1.heap.size, 3, none⟩ = some (.string ⟨#[]⟩) ∧ w3.cell? ⟨w1.heap.size, 4, none⟩ = some (.string ⟨#[]⟩) ∧ w3.cell? ⟨w1.heap.size, 5, none⟩ = some (.string ⟨#[]⟩)) := ⟨cell_on b3 k0, cell_on b3 k1, cell_on b3 k2, cell_on b3 k3, cell_on b3 k4, cell_on b3 k5⟩
                              clear b3
                              try dsimp only
                              refine hK.out _ _ (HS3.out) (fun hHeld => ?_)
                              clear hK K
                              try simp only [Act.put, List.setIfInBounds_toArray, List.set_cons_zero, List.set_cons_succ]
                              refine wpAnyH_take (i := 3) (v := .bool false) (by simp only [List.getElem?_toArray, List.getElem?_cons_succ, List.getElem?_cons_zero]; rfl) (by kernel_rfl) (by kernel_rfl) (by kernel_rfl) (fun _ _ _ h => h) (Or.inl ⟨by rfl, by intro wq hSq; clear hSq; go_simp; try with_reducible rfl⟩) (by assumption) ?_
                              try simp only [Act.put, List.setIfInBounds_toArray, List.set_cons_zero, List.set_cons_succ]
                              refine wpAnyH_take (i := 4) (v := .bool false) (by simp only [List.getElem?_toArray, List.getElem?_cons_succ, List.getElem?_cons_zero]; rfl) (by kernel_rfl) (by kernel_rfl) (by kernel_rfl) (fun _ _ _ h => h) (Or.inl ⟨by rfl, by intro wq hSq; clear hSq; go_simp; try with_reducible rfl⟩) (by assumption) ?_
                              try simp only [Act.put, List.setIfInBounds_toArray, List.set_cons_zero, List.set_cons_succ]
                              refine wpAnyH_take (i := 5) (v := ?_) (by simp only [List.getElem?_toArray, List.getElem?_cons_succ, List.getElem?_cons_zero]; rfl) (by kernel_rfl) (by kernel_rfl) (by kernel_rfl) (fun _ _ _ h => h) (Or.inl ⟨by rfl, ?_⟩) (by assumption) ?_
                              rotate_left
                              · (intro wq hSq; clear hSq; go_simp; try with_reducible rfl)
                              try simp only [Act.put, List.setIfInBounds_toArray, List.set_cons_zero, List.set_cons_succ]
                              refine wpAnyH_ready (rs := [6]) (by kernel_rfl) (by simp) ?_
                              refine AllReadyH.cons rfl (fun K hK => ?_) AllReadyH.nil
                              have HS6 : Hid _ := hHeld
                              clear hHeld
                              go_simp
                              go_at_call 12
                              refine (hpop w3 X3.out).mono ?_
                              rintro e w4 ⟨rfl, X4, s4⟩
                              try dsimp only
                              refine hK.out _ _ (⟨s4.cell HS3.out.1 HRb.out, s4.cell HS3.out.2.1 HRb.out, s4.cell HS3.out.2.2.1 HRb.out, s4.cell HS3.out.2.2.2.1 HRb.out, s4.cell HS3.out.2.2.2.2.1 HRb.out, s4.cell HS3.out.2.2.2.2.2 HRb.out⟩) (fun hHeld => ?_)
                              clear hK K
                              try simp only [Act.put, List.setIfInBounds_toArray, List.set_cons_zero, List.set_cons_succ]
                              refine wpAnyH_take (i := 7) (v := .bool false) (by simp only [List.getElem?_toArray, List.getElem?_cons_succ, List.getElem?_cons_zero]; rfl) (by kernel_rfl) (by kernel_rfl) (by kernel_rfl) (fun _ _ _ h => h) (Or.inl ⟨by rfl, by intro wq hSq; clear hSq; go_simp; try with_reducible rfl⟩) (by assumption) ?_
                              try simp only [Act.put, List.setIfInBounds_toArray, List.set_cons_zero, List.set_cons_succ]
                              refine wpAnyH_take (i := 8) (v := ?_) (by simp only [List.getElem?_toArray, List.getElem?_cons_succ, List.getElem?_cons_zero]; rfl) (by kernel_rfl) (by kernel_rfl) (by kernel_rfl) (fun _ _ _ h => h) (Or.inl ⟨by rfl, ?_⟩) (by assumption) ?_
                              rotate_left
                              · (intro wq hSq; clear hSq; go_simp; try with_reducible rfl)
                              try simp only [Act.put, List.setIfInBounds_toArray, List.set_cons_zero, List.set_cons_succ]
                              refine wpAnyH_done (by kernel_rfl) ?_ _
                              refine NoPanic.normal ?_
                              -- ENDR34
                              clear hmsg heq hgt hpop k0 k1 k2 k3 k4 k5 HS3 hHeld
                              go_wp2_with fail
                              go_roundg (T + 1 - (z.n + 1))
                              case measure => omega
                              case rel => exact ⟨popM z, by rw [HQ.out.2.1]; go_num, by rw [HQ.out.2.1]; omega, X4, HQ.out.1, HQ.out.2.2⟩
      · obtain rfl : now = l.length + 3 * T + 10 := by omega
        have hlt2 : ¬ ((l.length + 3 * T + 10 : Nat) : Int) < (l.length : Int) + 3 * (T : Int) + 10 := by omega
        obtain ⟨hd, hxT⟩ := soon_end hX.out.2.1 hX.out.2.2.2 rfl
        have HBx : Hid (Br B R w wr B q b m x) := hX.out.1
        clear hX HAC HF
        rw [hxT]
        subst hd
        have hdd : ((d : Int) == (d : Int)) = true := by simp
        go_wp2_with (go_at_call 6; refine (lives_any _).mono ?_; rintro e x2 ⟨rfl, B2⟩)
        go_ret
        exact ⟨rfl, by rw [HBB.out]; exact HBx.out.bel.trans (B2.mono (Nat.le_trans HBx.out.BR HBx.out.siz))⟩
end Go.Proofs.YtkdjpleedaldcaaDoor
