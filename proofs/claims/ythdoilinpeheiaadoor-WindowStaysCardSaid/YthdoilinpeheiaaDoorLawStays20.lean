/-
  THE WALK of WindowStays.
-/
import Derived.Test.YthdoilinpeheiaaDoorLawAgain20
namespace Go.Proofs.YthdoilinpeheiaaDoor
open Go.RowKit
set_option maxRecDepth 100000

theorem stays_law (d : Dm) (num set : Nat) (w : World) (hd : d.Fits) (hnum : num < 65536) (hset : set < 18446744073709551616) (hT : Tab w) : Calls Tryd.prog 7 #[dmv d, .int .u16 num, .int .u64 set] w fun e w' => e = .returned (.bool true) ∧ Below w.heap.size w w' := by
  have hpos := hT.pos
  obtain ⟨S, T, H⟩ := d
  obtain ⟨n, hn⟩ : ∃ n, n = S % 32 + 1 := ⟨_, rfl⟩
  obtain ⟨t, ht⟩ : ∃ t, t = T % 50 + 1 := ⟨_, rfl⟩
  obtain ⟨h, hh⟩ : ∃ h, h = H % 40 := ⟨_, rfl⟩
  obtain ⟨K, hK⟩ : ∃ K, K = min h n := ⟨_, rfl⟩
  have hn1 : 1 ≤ n := by omega
  have hn2 : n ≤ 32 := by omega
  have ht1 : 1 ≤ t := by omega
  have ht2 : t ≤ 50 := by omega
  have hk2 : K ≤ 32 := by omega
  have hk2' : (K : Int) ≤ 32 := by omega
  have HE : Hid (n = S % 32 + 1 ∧ t = T % 50 + 1 ∧ h = H % 40) := ⟨hn, ht, hh⟩
  have HK : Hid (K = min h n) := hK
  have hF : Hid _ := hd
  clear hn ht hh hK hd
  obtain ⟨W, hW⟩ : ∃ W, W = w.alloc (.cells #[.int .u64 S, .int .u64 T, .int .u64 H] 49) := ⟨_, rfl⟩
  have bB : Below w.heap.size w W := by rw [hW]; exact (Below.refl _ w).alloc (Nat.le_refl _) _
  have hh : W.heap[w.heap.size]? = some (.cells #[.int .u64 S, .int .u64 T, .int .u64 H] 49 (0, 0)) := by rw [hW]; exact heap_alloc_new w _
  have k0 : W.cell? ⟨w.heap.size, 0, none⟩ = some (.int .u64 S) := by rw [cell_of_row W w.heap.size 0 _ 49 (0, 0) hh]; rfl
  have k1 : W.cell? ⟨w.heap.size, 1, none⟩ = some (.int .u64 T) := by rw [cell_of_row W w.heap.size 1 _ 49 (0, 0) hh]; rfl
  have k2 : W.cell? ⟨w.heap.size, 2, none⟩ = some (.int .u64 H) := by rw [cell_of_row W w.heap.size 2 _ 49 (0, 0) hh]; rfl
  have hfold := hW.symm
  clear hh hW
  go_enter Tryd.func7, Tryd.ntmps7
  go_wp2
  try rw [hfold]
  go_cut [7, 8] from 11 to 19 (fun u7 u8 wx => u7 = .int .i64 n ∧ u8 = .int .i64 h ∧ ∃ q, wx = W.drewN q)
  case first =>
    obtain ⟨f1, f2, f3⟩ := hF.out
    simp only at f1 f2 f3
    go_quiet (fail)
    go_wp2
    go_meet
    obtain ⟨e1, e2, e3⟩ := HE.out
    exact ⟨congrArg (Value.int .i64) (by omega), congrArg (Value.int .i64) (by omega), _, rfl⟩
  case rest =>
    obtain ⟨rfl, rfl, q, rfl⟩ := hcut
    clear hfold
    have e2 : (1 : Int) + (T : Int) % 50 = t := by have := HE.out; omega
    have f2 := hF.out.t
    simp only at f2
    go_wp2_with fail
    have bC : Below w.heap.size w (W.drewN q) := below_drewN bB q
    refine (lw_new (B := w.heap.size) (w0 := w) n t hn1 hn2 ht1 (by omega) bC bC.size hT hpos).mono ?_
    rintro e x0 ⟨rfl, X0⟩
    generalize (W.drewN q).heap.size = p at *
    have HNW : Hid (∀ t, newW n t = ⟨n, t, 0, 0, 0, fun _ => 0⟩) := fun _ => rfl
    have hlk : ∀ (b : Nat) (q : Nat) (f : Nat → Nat), lookN (fullM n t b K q f) h = K := fun b q f => by rw [look_full, HK.out]
    have hlk0 : ∀ (b : Nat) (f : Nat → Nat), lookN ⟨n, t, b, 0, 0, f⟩ h = K := fun b f => by rw [look_min, HK.out]
    have hq1 : nowN 5 = 5 := by decide
    have hq2 : nowN 0 = 0 := by decide
    obtain ⟨A1, A2⟩ := all_sent n t 0 5 K (fun _ => 0) hk2
    have E1 := open_full n t 0 K 5 (fun _ => 0) hk2
    obtain ⟨F1, g, F2⟩ := ack_full n t K 5 set (fun _ => 0) hk2 (by have := HK.out; omega)
    have G1 := open_none n t K g
    have G0 := open_none n t 0 (fun _ => 0)
    obtain ⟨J1, J2⟩ := all_sent n t 0 0 K (fun _ => 0) hk2
    have L1 : Hid (K < num → ackN (fullM n t 0 K 5 (fun _ => 0)) num = 0 ∧ ackW (fullM n t 0 K 5 (fun _ => 0)) num set = fullM n t 0 K 5 (fun _ => 0)) := fun h => ack_far n t K 5 num set (fun _ => 0) hk2 h hnum
    have N1 : Hid (0 < K → ackN ⟨n, t, K, 0, 0, g⟩ (K - 1) = 0 ∧ ackW ⟨n, t, K, 0, 0, g⟩ (K - 1) set = ⟨n, t, K, 0, 0, g⟩) := fun h => ack_behind n t K set g hk2 h
    have S0 := X0.send h 5
    rw [HNW.out, hlk0, hq1, A1, A2] at S0
    have b0 : ((fullM n t 0 K 5 (fun _ => 0)).b : Int) = 0 := rfl
    have R1 : Hid (∀ W', Lw w.heap.size w W' p ⟨n, t, K, 0, 0, g⟩ → Calls Tryd.prog 17 #[.pointer (some ⟨p, 0, none⟩)] W' fun e w' => e = .returned (.tuple #[]) ∧ Lw w.heap.size w w' p ⟨n, t, 0, 0, 0, fun _ => 0⟩) := fun W' h => h.reset
    have b1 : ((⟨n, t, K, 0, 0, g⟩ : Wn).b : Int) = K := rfl
    have b2 : ((⟨n, t, 0, 0, 0, fun _ => 0⟩ : Wn).b : Int) = 0 := rfl
    have Q1 : Hid (∀ W', Lw w.heap.size w W' p ⟨n, t, 0, 0, 0, fun _ => 0⟩ → Calls Tryd.prog 12 #[.pointer (some ⟨p, 0, none⟩), .int .i64 h, .int .i64 0] W' fun e w' => ∃ a cap, e = .returned (.slice a K cap) ∧ Below w.heap.size w w' ∧ w.heap.size ≤ w'.heap.size) := fun W' h' => by
      have := h'.send h 0
      rw [hlk0, hq2, J1] at this
      refine this.mono ?_
      rintro e w' ⟨a, c, rfl, _, X⟩
      exact ⟨a, c, rfl, X.bel, X.size⟩
    clear A1 A2 J1 J2 hlk hlk0 hq1 hq2 HNW
    have X0' : Hid _ := X0
    clear X0
    generalize fullM n t 0 K 5 (fun _ => 0) = M0 at *
    generalize hM1 : (⟨n, t, K, 0, 0, g⟩ : Wn) = M1 at *
    generalize hM2 : (⟨n, t, 0, 0, 0, fun _ => 0⟩ : Wn) = M2 at *
    clear hM1 hM2
    have HE1 : Hid _ := E1
    have HF1 : Hid _ := F1
    have HF2 : Hid _ := F2
    have HG1 : Hid _ := G1
    have HG0 : Hid _ := G0
    clear E1 F1 F2 G1 G0
    clear k0 k1 k2 e2
    go_wp2_with fail
    refine S0.mono ?_
    rintro e x1 ⟨a1, c1, rfl, _, X1⟩
    clear S0
    go_upto_if 36 with fail
    go_cut [] from 33 to 52 (fun wx => Lw w.heap.size w wx p M0)
    case first =>
      by_cases hnk : K < num
      · obtain ⟨l1, l2⟩ := L1.out hnk
        have hnk' : (K : Int) < (num : Int) := by omega
        have S1 := X1.ack num set hset
        rw [l1, l2] at S1
        clear l1 l2
        go_wp2_with fail
        refine S1.mono ?_
        rintro e x2 ⟨rfl, X2⟩
        go_wp2_with fail
        refine X2.base.mono ?_
        rintro e x3 ⟨rfl, hx⟩
        subst hx
        go_wp2_with fail
        have S2 := X2.opens
        rw [HE1.out] at S2
        refine S2.mono ?_
        rintro e x4 ⟨rfl, X4⟩
        go_wp2_with fail
        go_meet
        exact X4
      · have hnk' : ¬ (K : Int) < (num : Int) := by omega
        go_wp2_with fail
        go_meet
        exact X1
    case rest =>
      have X2 := hcut
      clear X1 hcut
      go_wp2_with fail
      have S5 := X2.ack K set hset
      rw [HF1.out, HF2.out] at S5
      refine S5.mono ?_
      rintro e x6 ⟨rfl, X6⟩
      go_wp2_with fail
      have S6 := X6.opens
      rw [HG1.out] at S6
      refine S6.mono ?_
      rintro e x7 ⟨rfl, X7⟩
      go_wp2_with fail
      refine X7.base.mono ?_
      rintro e x8 ⟨rfl, hx8⟩
      subst hx8
      clear S5 S6
      have e1 : ((K - 1 : Nat) : Int) = (if 0 < K then (K : Int) - 1 else 0) := by split <;> omega
      by_cases h0 : 0 < K
      · obtain ⟨n1, n2⟩ := N1.out h0
        have S8 := X7.ack (K - 1) set hset
        rw [n1, n2, e1, if_pos h0] at S8
        clear n1 n2 e1
        have h0' : (0 : Int) < (K : Int) := by omega
        go_wp2_with fail
        refine S8.mono ?_
        rintro e y8 ⟨rfl, X8⟩
        clear S8
        go_wp2_with fail
        refine X8.base.mono ?_
        rintro e y9 ⟨rfl, hx⟩
        subst hx
        have Y := R1.out _ X8
        clear X7 X8
        go_wp2_with fail
        refine Y.mono ?_
        rintro e y10 ⟨rfl, X10⟩
        clear Y
        go_wp2_with fail
        refine X10.base.mono ?_
        rintro e y11 ⟨rfl, hx⟩
        subst hx
        go_wp2_with fail
        have S10 := X10.opens
        rw [HG0.out] at S10
        refine S10.mono ?_
        rintro e y12 ⟨rfl, X12⟩
        clear S10
        go_wp2_with fail
        have hT12 := X12.tabs
        refine (Q1.out _ X12).mono ?_
        rintro e y13 ⟨a13, c13, rfl, B13, Z13⟩
        go_wp2_with fail
        refine (lives_any _ (hT.below B13 hpos)).mono ?_
        rintro e y14 ⟨rfl, B14⟩
        go_wp2_with fail
        go_ret
        exact ⟨rfl, B13.trans (B14.mono Z13)⟩
      · have h0' : ¬ (0 : Int) < (K : Int) := by omega
        clear e1
        have Y := R1.out _ X7
        go_wp2_with fail
        refine Y.mono ?_
        rintro e y10 ⟨rfl, X10⟩
        clear Y X7
        go_wp2_with fail
        refine X10.base.mono ?_
        rintro e y11 ⟨rfl, hx⟩
        subst hx
        go_wp2_with fail
        have S10 := X10.opens
        rw [HG0.out] at S10
        refine S10.mono ?_
        rintro e y12 ⟨rfl, X12⟩
        clear S10
        go_wp2_with fail
        refine (Q1.out _ X12).mono ?_
        rintro e y13 ⟨a13, c13, rfl, B13, Z13⟩
        go_wp2_with fail
        refine (lives_any _ (hT.below B13 hpos)).mono ?_
        rintro e y14 ⟨rfl, B14⟩
        go_wp2_with fail
        go_ret
        exact ⟨rfl, B13.trans (B14.mono Z13)⟩
end Go.Proofs.YthdoilinpeheiaaDoor
