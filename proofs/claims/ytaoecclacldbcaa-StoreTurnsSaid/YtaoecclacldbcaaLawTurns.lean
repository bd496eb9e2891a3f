/-
  THE LAW StoreTurns.
-/
import Derived.Test.YtaoecclacldbcaaChain
import Derived.Test.YtaoecclacldbcaaLends
namespace Go.Proofs.Ytaoecclacldbcaa
open Go.RowKit

set_option maxRecDepth 20000 in
set_option maxHeartbeats 8000000 in
theorem turns_law (v0 v1 : Value) (l b : List UInt8) (N k : Int) (w : World) (h0 : Holds w v0 l) (h1 : Holds w v1 b) (hl : l.length ≤ 140737488351232) (hb : b.length ≤ 140737488351232) (hN : 0 ≤ N ∧ N < 18446744073709551616) (hk : -9223372036854775808 ≤ k ∧ k < 9223372036854775808) :
    Calls Try.prog 6 #[v0, v1, .agg #[.int .u64 N, .int .i64 k]] w fun e w' => e = .returned (.bool true) ∧ Below w.heap.size w w' := by
  obtain ⟨a0, c0, rfl⟩ := h0.slice
  obtain ⟨a1, c1, rfl⟩ := h1.slice
  obtain ⟨W, hW⟩ : ∃ W, w.alloc (.cells #[.int .u64 N, .int .i64 k] 54) = W := ⟨_, rfl⟩
  have x0 : W.cell? ⟨w.heap.size, 0, none⟩ = some (.int .u64 N) := by
    have h := heap_alloc_new w (.cells #[.int .u64 N, .int .i64 k] 54)
    rw [hW] at h
    simp only [World.cell?]; rw [h]; rfl
  have x1 : W.cell? ⟨w.heap.size, 1, none⟩ = some (.int .i64 k) := by
    have h := heap_alloc_new w (.cells #[.int .u64 N, .int .i64 k] 54)
    rw [hW] at h
    simp only [World.cell?]; rw [h]; rfl
  have bW : Below w.heap.size w W := by rw [← hW]; exact (Below.refl _ _).alloc (Nat.le_refl _) _
  have hw0 : IntKind.i64.wrap ((l.length : Int) + (b.length : Int)) = (l.length : Int) + (b.length : Int) := by rw [IntKind.wrap_i64]; omega
  have HL : Hid (∀ V, Calls Try.prog 12 #[] V fun e w' => e = .returned (.bool true) ∧ Below V.heap.size V w') := lives_any
  by_cases hlong : 5000 < l.length + b.length
  · have hlong' : (5000 : Int) < (l.length : Int) + (b.length : Int) := by omega
    clear h0 h1 x0 x1
    go_enter Try.func6, Try.ntmps6
    go_wp2_with (go_at_call 12; refine (HL.out _).mono ?_; rintro e w4 ⟨rfl, b4⟩)
    go_ret
    exact ⟨rfl, keptW bW b4⟩
  · have hlong' : ¬ (5000 : Int) < (l.length : Int) + (b.length : Int) := by omega
    have ta : tA.size ≤ maxLen := of_decide_eq_true (by kernel_rfl)
    have tb : tB.size ≤ maxLen := of_decide_eq_true (by kernel_rfl)
    have hNw := new_any 100000 W (by decide) (by decide)
    have H0l : Hid (Holds W (.slice a0 l.length c0) l) := h0.below bW (Nat.le_refl _)
    have H1l : Hid (Holds W (.slice a1 b.length c1) b) := h1.below bW (Nat.le_refl _)
    obtain ⟨q, hq⟩ : ∃ q : Int, q = N % 7 := ⟨_, rfl⟩
    have q0 : 0 ≤ q := by omega
    have q7 : q < 7 := by omega
    have hqw : IntKind.i64.wrap q = q := by rw [IntKind.wrap_i64]; omega
    have hqt : N.tmod 7 = q := by rw [Int.tmod_eq_emod_of_nonneg (by omega)]; exact hq.symm
    have o1 : k1.Ok := M.make_ok ok_new _
    have o2 := M.write_ok o1 tA l
    rw [kw l (by omega)] at o2
    have o3 := M.sync_ok o2 tA
    rw [ks] at o3
    have o4 := M.commit_ok o3
    rw [kc] at o4
    have kp : (mOne ⟨l, l⟩ 4 0 0).plan q k = (0, mOne ⟨l, l⟩ 4 q k) := by
      unfold M.plan
      rw [if_neg (by simp [mOne]), if_neg (by omega)]
      rfl
    have o5 := M.plan_ok o4 q k (by omega) hk
    rw [kp] at o5
    obtain ⟨m6, hm6⟩ : ∃ m6, ((mOne ⟨l, l⟩ 4 q k).make tB).2 = m6 := ⟨_, rfl⟩
    obtain ⟨m7, hm7⟩ : ∃ m7, (m6.write tB b).2 = m7 := ⟨_, rfl⟩
    obtain ⟨m8, hm8⟩ : ∃ m8, (m7.sync tB).2 = m8 := ⟨_, rfl⟩
    obtain ⟨m9, hm9⟩ : ∃ m9, (m8.move tB tA).2 = m9 := ⟨_, rfl⟩
    obtain ⟨c, hcc⟩ : ∃ c, m9.commit = c := ⟨_, rfl⟩
    have o6 := M.make_ok o5 tB
    have n6 := M.make_count (mOne ⟨l, l⟩ 4 q k) tB
    rw [hm6] at o6 n6
    have o7 := M.write_ok o6 tB b
    have n7 := M.write_count m6 tB b
    rw [hm7] at o7 n7
    have o8 := M.sync_ok o7 tB
    have n8 := M.sync_count m7 tB
    rw [hm8] at o8 n8
    have o9 := M.move_ok o8 tB tA
    have n9 := M.move_count m8 tB tA
    rw [hm9] at o9 n9
    have o10 := M.commit_ok o9
    have n10 := M.commit_count m9
    rw [hcc] at o10 n10
    have n5 : (mOne ⟨l, l⟩ 4 q k).count = 4 := rfl
    have HF := turn_fin l b (by omega) q k q0 q7 c (by rw [hm6, hm7, hm8, hm9, hcc])
    have HQ : Hid ((mOne ⟨l, l⟩ 4 q k).Ok ∧ m6.Ok ∧ m7.Ok ∧ m8.Ok ∧ m9.Ok ∧ c.2.Ok) := ⟨o5, o6, o7, o8, o9, o10⟩
    have HK : Hid (m6.count ≤ 5 ∧ m7.count ≤ 6 ∧ m8.count ≤ 7 ∧ m9.count ≤ 8 ∧ c.2.count ≤ 9) := ⟨by omega, by omega, by omega, by omega, by omega⟩
    have HMs : Hid (((mOne ⟨l, l⟩ 4 q k).make tB).2 = m6 ∧ (m6.write tB b).2 = m7 ∧ (m7.sync tB).2 = m8 ∧ (m8.move tB tA).2 = m9 ∧ m9.commit = c) := ⟨hm6, hm7, hm8, hm9, hcc⟩
    have HX : Hid (W.cell? ⟨w.heap.size, 0, none⟩ = some (.int .u64 N) ∧ W.cell? ⟨w.heap.size, 1, none⟩ = some (.int .i64 k)) := ⟨x0, x1⟩
    have HFi : Hid _ := HF
    clear h0 h1 o5 o6 o7 o8 o9 o10 n5 n6 n7 n8 n9 n10 hm6 hm7 hm8 hm9 hcc HF x0 x1
    go_enter Try.func6, Try.ntmps6
    go_wp2_with fail
    refine hNw.mono ?_
    rintro e w0 ⟨p, rfl, F0, s0, f0, b0⟩
    have H0 : Mine W w0 p F0 (M.new 100000) := ⟨s0, ok_new, f0, b0⟩
    have hM1 := make_any p F0 _ tA w0 H0.st ok_new (by decide) ta
    rw [kr1] at hM1
    clear hNw s0 f0 b0
    go_wp2_with fail
    refine hM1.mono ?_
    rintro e w1 ⟨rfl, F1, s1, m1⟩
    have H1 : Mine W w1 p F1 k1 := H0.to s1 m1 o1
    clear hM1 s1 m1 H0
    have hW2 := write_any p F1 k1 tA _ l w1 H1.st o1 (by rw [k1_eq]; decide) ta (H0l.out.below H1.bel (Nat.le_refl _))
    rw [kw l (by omega)] at hW2
    go_wp2_with fail
    refine hW2.mono ?_
    rintro e w2 ⟨rfl, F2, s2, m2⟩
    have H2 := H1.to s2 m2 o2
    clear hW2 s2 m2 H1
    have hS3 := sync_any p F2 _ tA w2 H2.st o2 (by show (2 : Nat) ≤ _; omega) ta
    rw [ks] at hS3
    go_wp2_with fail
    refine hS3.mono ?_
    rintro e w3 ⟨rfl, F3, s3, m3⟩
    have H3 := H2.to s3 m3 o3
    clear hS3 s3 m3 H2
    have hC4 := commit_any p F3 _ w3 H3.st o3 (by show (3 : Nat) ≤ _; omega)
    rw [kc] at hC4
    go_wp2_with fail
    refine hC4.mono ?_
    rintro e w4 ⟨rfl, F4, s4, m4⟩
    have H4 := H3.to s4 m4 o4
    have x0 := cell_on H4.bel HX.out.1
    have x1 := cell_on H4.bel HX.out.2
    clear hC4 s4 m4 H3
    have hP5 := plan_any p F4 _ q k w4 H4.st
    rw [kp] at hP5
    go_wp2_with fail
    rw [← hq]
    refine hP5.mono ?_
    rintro e w5 ⟨rfl, F5, s5, m5⟩ --P6
    have H5 := H4.to s5 m5 HQ.out.1
    clear hP5 s5 m5 H4 x0 x1
    have hM6 := make_any p F5 _ tB w5 H5.st HQ.out.1 (by show (4 : Nat) ≤ _; omega) tb
    rw [HMs.out.1] at hM6
    generalize ((mOne ⟨l, l⟩ 4 q k).make tB).1 = e6 at hM6
    go_wp2_with fail
    refine hM6.mono ?_
    rintro e w6 ⟨rfl, F6, s6, m6'⟩ --P7
    have H6 := H5.to s6 m6' HQ.out.2.1
    clear hM6 s6 m6' H5
    have hW7 := write_any p F6 m6 tB _ b w6 H6.st HQ.out.2.1 (by have := HK.out; omega) tb (H1l.out.below H6.bel (Nat.le_refl _))
    rw [HMs.out.2.1] at hW7
    generalize (m6.write tB b).1 = e7 at hW7
    go_wp2_with fail
    refine hW7.mono ?_
    rintro e w7 ⟨rfl, F7, s7, m7'⟩
    have H7 := H6.to s7 m7' HQ.out.2.2.1
    clear hW7 s7 m7' H6
    have hS8 := sync_any p F7 m7 tB w7 H7.st HQ.out.2.2.1 (by have := HK.out; omega) tb
    rw [HMs.out.2.2.1] at hS8
    generalize (m7.sync tB).1 = e8 at hS8
    go_wp2_with fail
    refine hS8.mono ?_
    rintro e w8 ⟨rfl, F8, s8, m8'⟩
    have H8 := H7.to s8 m8' HQ.out.2.2.2.1
    clear hS8 s8 m8' H7
    have hV9 := move_any p F8 m8 tB tA w8 H8.st HQ.out.2.2.2.1 (by have := HK.out; omega) tb ta
    rw [HMs.out.2.2.2.1] at hV9
    generalize (m8.move tB tA).1 = e9 at hV9
    go_wp2_with fail
    refine hV9.mono ?_
    rintro e w9 ⟨rfl, F9, s9, m9'⟩ --P10
    have H9 := H8.to s9 m9' HQ.out.2.2.2.2.1
    clear hV9 s9 m9' H8
    have hC10 := commit_any p F9 m9 w9 H9.st HQ.out.2.2.2.2.1 (by have := HK.out; omega)
    rw [HMs.out.2.2.2.2] at hC10
    have hmod : ∀ x : Int, q = x → N % 7 = x := fun x hx => by rw [← hq]; exact hx
    rcases HFi.out with ⟨hd, z1, z2, z3⟩ | ⟨⟨hd1, hd2⟩, z1, z2, z3⟩
    · rw [z1] at hC10
      go_wp2_with fail
      refine hC10.mono ?_
      rintro e w10 ⟨rfl, F10, s10, m10⟩
      have H10 := H9.to s10 m10 HQ.out.2.2.2.2.2
      clear hC10 s10 m10 H9
      have hO := on_any p F10 c.2 w10 H10.st
      rw [z2] at hO
      go_wp2_with fail
      refine hO.mono ?_
      rintro e w10 ⟨rfl, rfl⟩
      have x1 := cell_on H10.bel HX.out.2
      have hFl := fail_any p F10 c.2 k w10 H10.st HQ.out.2.2.2.2.2 (by have := HK.out; omega) hk
      go_wp2_with fail
      refine hFl.mono ?_
      rintro e w11 ⟨rfl, F11, s11, m11⟩
      have H11 := H10.to s11 m11 (HQ.out.2.2.2.2.2.fail k)
      clear hFl s11 m11 H10 hO x1
      have hPw := power_any p F11 _ w11 H11.st
      go_wp2_with fail
      refine hPw.mono ?_
      rintro e w12 ⟨rfl, F12, s12, m12⟩
      have H12 := H11.to s12 m12 (HQ.out.2.2.2.2.2.fail k).power
      clear hPw s12 m12 H11
      have hR := read_any p F12 _ tA w12 H12.st (HQ.out.2.2.2.2.2.fail k).power ta
      rw [z3] at hR
      go_wp2_with fail
      refine hR.mono ?_
      rintro e w13 ⟨vr, rfl, hvr, bR⟩
      have H13 := H12.go bR
      clear hR bR H12
      obtain ⟨ra, rc, rfl⟩ := hvr.slice
      have x0 := cell_on H13.bel HX.out.1
      have hSa := same_any _ _ _ _ w13 hvr (H1l.out.below H13.bel (Nat.le_refl _))
      rw [show (b == b) = true by simp] at hSa
      have hB := keptW bW H13.bel
      clear hvr
      rcases hd with hd | hd
      · have hmd := hmod 0 hd
        go_wp2_with (first
          | (go_at_call 30; refine hSa.mono ?_; rintro e w13 ⟨rfl, rfl⟩)
          | (go_at_call 12; refine (HL.out _).mono ?_; rintro e w14 ⟨rfl, b14⟩))
        go_ret
        exact ⟨rfl, keptW hB b14⟩
      · have hmd := hmod 6 hd
        go_wp2_with (first
          | (go_at_call 30; refine hSa.mono ?_; rintro e w13 ⟨rfl, rfl⟩)
          | (go_at_call 12; refine (HL.out _).mono ?_; rintro e w14 ⟨rfl, b14⟩))
        go_ret
        exact ⟨rfl, keptW hB b14⟩
    · rw [z1] at hC10
      go_wp2_with fail
      refine hC10.mono ?_
      rintro e w10 ⟨rfl, F10, s10, m10⟩
      have H10 := H9.to s10 m10 HQ.out.2.2.2.2.2
      clear hC10 s10 m10 H9
      have hO := on_any p F10 c.2 w10 H10.st
      rw [z2] at hO
      go_wp2_with fail
      refine hO.mono ?_
      rintro e w10 ⟨rfl, rfl⟩
      have hPw := power_any p F10 _ w10 H10.st
      go_wp2_with fail
      refine hPw.mono ?_
      rintro e w12 ⟨rfl, F12, s12, m12⟩
      have H12 := H10.to s12 m12 HQ.out.2.2.2.2.2.power
      clear hPw s12 m12 H10 hO
      have hR := read_any p F12 _ tA w12 H12.st HQ.out.2.2.2.2.2.power ta
      rw [z3] at hR
      go_wp2_with fail
      refine hR.mono ?_
      rintro e w13 ⟨vr, rfl, hvr, bR⟩
      have H13 := H12.go bR
      clear hR bR H12
      obtain ⟨ra, rc, rfl⟩ := hvr.slice
      have x0 := cell_on H13.bel HX.out.1
      have hSa := same_any _ _ _ _ w13 hvr (H0l.out.below H13.bel (Nat.le_refl _))
      rw [show (l == l) = true by simp] at hSa
      have hm1 : ¬ N % 7 = 0 := by omega
      have hm2 : ¬ N % 7 = 6 := by omega
      have hm3 : (N % 7 == 0) = false := by simp only [beq_eq_false_iff_ne]; exact hm1
      have hm4 : (N % 7 == 6) = false := by simp only [beq_eq_false_iff_ne]; exact hm2
      have hm5 : ¬ (7 : Int) ∣ N := by omega
      have hB := keptW bW H13.bel
      clear hvr
      go_wp2_with (first
        | (go_at_call 30; refine hSa.mono ?_; rintro e w13 ⟨rfl, rfl⟩)
        | (go_at_call 12; refine (HL.out _).mono ?_; rintro e w14 ⟨rfl, b14⟩))
      go_ret
      exact ⟨rfl, keptW hB b14⟩
end Go.Proofs.Ytaoecclacldbcaa
