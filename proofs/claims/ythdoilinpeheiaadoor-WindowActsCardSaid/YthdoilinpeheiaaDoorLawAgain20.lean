/-
  THE WALK of WindowAgain.
-/
import Derived.Test.YthdoilinpeheiaaDoorFacts20
import Derived.Deep.RegionHeld3
namespace Go.Proofs.YthdoilinpeheiaaDoor
open Go.RowKit
set_option maxRecDepth 20000

/-- A window's numbers, and how many wait, that came in. -/
structure Dm where
  s : Nat
  t : Nat
  h : Nat
abbrev dmv (d : Dm) : Value := .agg #[.int .u64 d.s, .int .u64 d.t, .int .u64 d.h]
structure Dm.Fits (d : Dm) : Prop where
  s : d.s < 18446744073709551616
  t : d.t < 18446744073709551616
  h : d.h < 18446744073709551616

theorem again_law (d : Dm) (now : Nat) (w : World) (hd : d.Fits) (hnow : now < 18446744073709551616) (hT : Tab w) : Calls Tryd.prog 5 #[dmv d, .int .u64 now] w fun e w' => e = .returned (.bool true) ∧ Below w.heap.size w w' := by
  have hpos := hT.pos
  obtain ⟨S, T, H⟩ := d
  obtain ⟨n, hn⟩ : ∃ n, n = S % 32 + 1 := ⟨_, rfl⟩
  obtain ⟨t, ht⟩ : ∃ t, t = T % 50 + 1 := ⟨_, rfl⟩
  obtain ⟨h, hh⟩ : ∃ h, h = H % 40 := ⟨_, rfl⟩
  obtain ⟨c, hc⟩ : ∃ c, c = now % 1000 := ⟨_, rfl⟩
  obtain ⟨K, hK⟩ : ∃ K, K = min h n := ⟨_, rfl⟩
  have hn1 : 1 ≤ n := by omega
  have hn2 : n ≤ 32 := by omega
  have ht1 : 1 ≤ t := by omega
  have ht2 : t ≤ 50 := by omega
  have hc2 : c < 1000 := by omega
  have hk2 : K ≤ 32 := by omega
  have HE : Hid (n = S % 32 + 1 ∧ t = T % 50 + 1 ∧ h = H % 40 ∧ c = now % 1000) := ⟨hn, ht, hh, hc⟩
  have HK : Hid (K = min h n) := hK
  have hF : Hid _ := hd
  clear hn ht hh hc hK hd
  go_enter Tryd.func5, Tryd.ntmps5
  go_wp2
  go_cut [5, 6, 7, 8] from 11 to 27 (fun u5 u6 u7 u8 wx => u5 = .int .i64 n ∧ u6 = .int .i64 t ∧ u7 = .int .i64 h ∧ u8 = .int .i64 c ∧ Below w.heap.size w wx)
  case first =>
    obtain ⟨f1, f2, f3⟩ := hF.out
    simp only at f1 f2 f3
    have bB : Below w.heap.size w (w.alloc (.cells #[.int .u64 S, .int .u64 T, .int .u64 H] 49)) := (Below.refl _ w).alloc (Nat.le_refl _) _
    go_quiet (fail)
    go_wp2
    go_meet
    obtain ⟨e1, e2, e3, e4⟩ := HE.out
    exact ⟨congrArg (Value.int .i64) (by omega), congrArg (Value.int .i64) (by omega), congrArg (Value.int .i64) (by omega), congrArg (Value.int .i64) (by omega), below_drewN bB _⟩
  case rest =>
    obtain ⟨rfl, rfl, rfl, rfl, bC⟩ := hcut
    go_wp2_with fail
    refine (lw_new (B := w.heap.size) (w0 := w) n t hn1 hn2 ht1 (by omega) bC bC.size hT hpos).mono ?_
    rintro e x0 ⟨rfl, X0⟩
    generalize wc.heap.size = p at *
    go_upto_if 36 with fail
    go_cut [10] from 34 to 37 (fun u10 wx => u10 = .int .i64 K ∧ wx = x0)
    case first =>
      have hk := HK.out
      by_cases hlt : n < h
      · have h1 : (n : Int) < h := by omega
        go_wp2
        go_meet
        exact ⟨congrArg (Value.int .i64) (by omega), rfl⟩
      · have h1 : ¬ (n : Int) < h := by omega
        go_wp2
        go_meet
        exact ⟨congrArg (Value.int .i64) (by omega), rfl⟩
    case rest =>
      obtain ⟨rfl, rfl⟩ := hcut
      have hlk : ∀ (b : Nat) (q : Nat) (f : Nat → Nat), lookN (fullM n t b K q f) h = K := fun b q f => by rw [look_full, HK.out]
      have HNW : Hid (newW n t = ⟨n, t, 0, 0, 0, fun _ => 0⟩) := rfl
      have hlk0 : ∀ (b : Nat) (f : Nat → Nat), lookN ⟨n, t, b, 0, 0, f⟩ h = K := fun b f => by rw [look_min, HK.out]
      have hq1 : nowN ((c : Int)) = c := by unfold nowN; omega
      have hq2 : nowN ((c : Int) + t - 1) = c + t - 1 := by unfold nowN; omega
      have hq3 : nowN ((c : Int) + t) = c + t := by unfold nowN; omega
      obtain ⟨A1, A2⟩ := all_sent n t 0 c K (fun _ => 0) hk2
      obtain ⟨B1, B2⟩ := none_sent n t 0 c (c + t - 1) K (fun _ => 0) hk2 (by omega)
      obtain ⟨C1, C2⟩ := again_sent n t 0 c (c + t) K (fun _ => 0) hk2 (by omega)
      obtain ⟨D1, D2⟩ := none_sent n t 0 (c + t) c K (fun _ => 0) hk2 (by omega)
      have E1 := open_full n t 0 K c (fun _ => 0) hk2
      obtain ⟨F1, g, F2⟩ := ack_full n t K (c + t) 0 (fun _ => 0) hk2 (by have := HK.out; omega)
      have G1 := open_none n t K g
      obtain ⟨J1, _⟩ := all_sent n t K (c + t) K g hk2
      have S0 := X0.send h c
      rw [HNW.out, hlk0, hq1, A1, A2] at S0
      have hk2' : (K : Int) ≤ 32 := by omega
      have HX : Hid (∀ X : World, Lw w.heap.size w X p (newW n t) → True) := fun _ _ => trivial
      clear HX
      go_wp2_with fail
      refine S0.mono ?_
      rintro e x1 ⟨a1, k1, rfl, _, X1⟩
      go_wp2_with fail
      have S1 := X1.opens
      rw [E1] at S1
      refine S1.mono ?_
      rintro e x2 ⟨rfl, X2⟩
      go_wp2_with fail
      have S2 := X2.send h (c + t - 1)
      rw [hlk, hq2, B1, B2] at S2
      refine S2.mono ?_
      rintro e x3 ⟨a3, k3, rfl, _, X3⟩
      go_wp2_with fail
      have S3 := X3.send h (c + t)
      rw [hlk, hq3, C1, C2] at S3
      refine S3.mono ?_
      rintro e x4 ⟨a4, k4, rfl, _, X4⟩
      go_wp2_with fail
      have S4 := X4.send h c
      rw [hlk, hq1, D1, D2] at S4
      refine S4.mono ?_
      rintro e x5 ⟨a5, k5, rfl, _, X5⟩
      go_wp2_with fail
      have S5 := X5.ack K 0 (by decide)
      rw [F1, F2] at S5
      refine S5.mono ?_
      rintro e x6 ⟨rfl, X6⟩
      go_wp2_with fail
      have S6 := X6.opens
      rw [G1] at S6
      refine S6.mono ?_
      rintro e x7 ⟨rfl, X7⟩
      go_wp2_with fail
      refine X7.base.mono ?_
      rintro e x8 ⟨rfl, hx8⟩
      subst hx8
      go_wp2_with fail
      have S8 := X7.send h (c + t)
      rw [hlk0, hq3, J1] at S8
      refine S8.mono ?_
      rintro e x9 ⟨a9, k9, rfl, _, X9⟩
      go_wp2_with fail
      refine (lives_any _ X9.tabs).mono ?_
      rintro e x10 ⟨rfl, B10⟩
      go_wp2_with fail
      go_ret
      exact ⟨rfl, X9.bel.trans (B10.mono X9.size)⟩
end Go.Proofs.YthdoilinpeheiaaDoor
