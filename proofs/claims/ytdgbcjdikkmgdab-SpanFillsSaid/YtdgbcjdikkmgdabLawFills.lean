/-
  THE LAW SpanFills.
-/
import Derived.Test.YtdgbcjdikkmgdabLives
import Derived.Deep.LoopGhost
namespace Go.Proofs.Ytdgbcjdikkmgdab
open Go.RowKit

theorem topL_mem {l : List (Nat × Nat)} {b : Nat} (h : Apart b l) (hl : l ≠ []) : Mem l (topL l) := by
  have hg : l.getLast? = some (l.getLast hl) := List.getLast?_eq_some_getLast hl
  have hm := List.getLast_mem hl
  unfold topL
  rw [hg]
  exact ⟨_, hm, (h.lowR hm).2, Nat.le_refl _⟩
/-- As many numbers as there are up to k, none beyond it: one range. -/
theorem filled {l : List (Nat × Nat)} {k : Nat} (h : Apart 1 l) (hk : 1 ≤ k) (hm : ∀ m, Mem l m → m ≤ k) (hs : sizeL l = k) : l = [(1, k)] := by
  have hl : l ≠ [] := by rintro rfl; simp [sizeL] at hs; omega
  have hr := top_room h hl
  have ht := hm _ (topL_mem h hl)
  cases l with
  | nil => exact absurd rfl hl
  | cons r t =>
    have h0 := h.1
    have h1 := h.2.1
    have hc : (r :: t).countP (fun q => decide (q.1 ≠ 1)) = 0 := by omega
    have hall := List.countP_eq_zero.1 hc
    have hr1 : r.1 = 1 := by simpa using hall r (by simp)
    have htn : t = [] := by
      cases t with
      | nil => rfl
      | cons s u =>
        have := hall s (by simp)
        have h3 := h.2.2.1
        simp at this
        omega
    subst htn
    have hs' : r.2 - r.1 + 1 = k := by simpa [sizeL] using hs
    have e : r = (1, k) := Prod.ext hr1 (by show r.2 = k; omega)
    rw [e]
/-- Fewer than k numbers: one up to k lacks. -/
theorem lacks {l : List (Nat × Nat)} {k : Nat} (h : Apart 1 l) (hs : sizeL l < k) : ∃ m, 1 ≤ m ∧ m ≤ k ∧ ¬ Mem l m := by
  cases l with
  | nil => exact ⟨1, Nat.le_refl _, by omega, mem_nil 1⟩
  | cons r t =>
    have h0 := h.1
    have h1 := h.2.1
    rw [sizeL] at hs
    by_cases hr : r.1 = 1
    · refine ⟨r.2 + 1, by omega, by omega, fun hm => ?_⟩
      rcases (mem_cons r t _).1 hm with hm | hm
      · omega
      · have := h.2.2.low hm; omega
    · refine ⟨1, Nat.le_refl _, by omega, fun hm => ?_⟩
      rcases (mem_cons r t _).1 hm with hm | hm
      · omega
      · have := h.2.2.low hm; omega

set_option maxHeartbeats 2000000 in
theorem fills_law (n step : Nat) (w : World) (hn : n < 18446744073709551616) (hs : step < 18446744073709551616) :
    Calls Try.prog 3 #[.int .u64 (n : Int), .int .u64 (step : Int)] w fun e w' => e = .returned (.bool true) ∧ Below w.heap.size w w' := by
  obtain ⟨K, hK⟩ : ∃ K : Nat, K = 1 + n % 60 := ⟨_, rfl⟩
  have hK1 : 1 ≤ K := by omega
  have hK2 : K ≤ 60 := by omega
  have e1 : (1 : Int) + (n : Int) % 60 = (K : Int) := by omega
  obtain ⟨S, hS⟩ : ∃ S : Nat, S = step % 7 := ⟨_, rfl⟩
  have e2 : (step : Int) % 7 = (S : Int) := by omega
  have hS7 : S < 7 := by omega
  clear hK hS
  go_enter Try.func3, Try.ntmps3
  go_wp2_with (go_at_call 4; refine (new_any _).mono ?_; rintro e w0 ⟨rfl, _, rfl⟩)
  go_loopw [7, 8] (fun u7 u8 wr => ∃ (i a : Nat) (v : Value) (l : List (Nat × Nat)), u8 = .int .i64 i ∧ u7 = .int .i64 a ∧ i ≤ K ∧ a < K ∧ Hid (Mine w.heap.size w wr w.heap.size v l ∧ Fine l ∧ sizeL l = i ∧ ∀ m, Mem l m → m ≤ K)) (fun _ u8 _ => K - (intOf u8).toNat)
  case atStart => exact ⟨0, 0, .slice none 0 0, [], rfl, rfl, Nat.zero_le _, hK1, (⟨mine_new w, fine_nil, rfl, fun m h => absurd h (mem_nil m)⟩ : _ ∧ _)⟩
  case round =>
    obtain ⟨i, a, v, l, rfl, rfl, hi, ha, HB⟩ := hrel
    by_cases hlt : i < K
    · have hlt' : (i : Int) < (K : Int) := by omega
      have hKp : ¬ ((K : Int) = 0) := by omega
      have e3' : ((a : Int) + 1 + (S : Int)) % (K : Int) = (((a + 1 + S) % K : Nat) : Int) := by rw [Int.natCast_emod]; simp
      have e3 : ((a : Int) + 1 + (S : Int)).tmod (K : Int) = (((a + 1 + S) % K : Nat) : Int) := by
        rw [Int.tmod_eq_emod_of_nonneg (by omega)]; exact e3'
      have hb1 : (a + 1 + S) % K < K := Nat.mod_lt _ hK1
      generalize (a + 1 + S) % K = a1 at e3 e3' hb1
      obtain ⟨m0, hm1, hm2, hm3⟩ := lacks HB.out.2.1.1 (by rw [HB.out.2.2.1]; exact hlt)
      have hlen : l.length ≤ 60 := by have := length_le_sizeL l; rw [HB.out.2.2.1] at this; omega
      have hq0 : ∃ q, q ≤ K ∧ (a1 + q) % K = m0 - 1 := by
        by_cases h : a1 ≤ m0 - 1
        · exact ⟨m0 - 1 - a1, by omega, by rw [show a1 + (m0 - 1 - a1) = m0 - 1 by omega]; exact Nat.mod_eq_of_lt (by omega)⟩
        · exact ⟨m0 - 1 + K - a1, by omega, by rw [show a1 + (m0 - 1 + K - a1) = m0 - 1 + K by omega, Nat.add_mod_right]; exact Nat.mod_eq_of_lt (by omega)⟩
      obtain ⟨q0, hq1, hq2⟩ := hq0
      have HQ : Hid (¬ Mem l ((a1 + q0) % K + 1)) := (by rw [hq2, show m0 - 1 + 1 = m0 by omega]; exact hm3 : ¬ Mem l ((a1 + q0) % K + 1))
      clear hq2
      go_wp2
      clear e2
      go_loopg [7] K (fun kx s7 wr2 => ∃ (b q : Nat), s7 = .int .i64 b ∧ b < K ∧ q ≤ kx ∧ Hid (¬ Mem l ((b + q) % K + 1) ∧ Below wr.heap.size wr wr2))
      case atStart => exact ⟨a1, q0, rfl, hb1, hq1, (⟨HQ.out, Below.refl _ _⟩ : _ ∧ _)⟩
      case round =>
        obtain ⟨b, q, rfl, hbK, hqk, HI⟩ := hrel
        have M1 := HB.out.1.go HI.out.2
        have hKp2 : ¬ ((K : Int) = 0) := by omega
        have e4' : ((b : Int) + 1) % (K : Int) = (((b + 1) % K : Nat) : Int) := by rw [Int.natCast_emod]; simp
        have e4 : ((b : Int) + 1).tmod (K : Int) = (((b + 1) % K : Nat) : Int) := by rw [Int.tmod_eq_emod_of_nonneg (by omega)]; exact e4'
        have hb2 : (b + 1) % K < K := Nat.mod_lt _ hK1
        have hcast : (b : Int) + 1 = ((b + 1 : Nat) : Int) := by omega
        cases hm : memB l (b + 1) with
        | true =>
          have hq3 : q ≠ 0 := by
            rintro rfl
            refine HI.out.1 ?_
            show Mem l (b % K + 1)
            rw [Nat.mod_eq_of_lt hbK]
            exact (memB_iff l (b + 1)).1 hm
          have hq4 : ((b + 1) % K + (q - 1)) % K = (b + q) % K := by rw [Nat.mod_add_mod, show b + 1 + (q - 1) = b + q by omega]
          have HI2 : Hid (¬ Mem l (((b + 1) % K + (q - 1)) % K + 1)) := (by rw [hq4]; exact HI.out.1 : ¬ Mem l (((b + 1) % K + (q - 1)) % K + 1))
          have HH := has_any _ l (b + 1) _ M1.set.lies HB.out.2.1.1 (by omega)
          rw [hm, ← hcast] at HH
          clear hq4 hcast
          generalize (b + 1) % K = b2 at *
          go_wp2_with (go_at_call 5; refine HH.mono ?_; rintro e w3 ⟨rfl, b3⟩)
          go_roundg (q - 1)
          case measure => omega
          case rel => exact ⟨b2, q - 1, rfl, hb2, Nat.le_refl _, (⟨HI2.out, HI.out.2.trans (b3.mono HI.out.2.size)⟩ : _ ∧ _)⟩
        | false =>
          have hno : ¬ (b + 1 = 0 ∨ Mem l (b + 1)) := fun h => h.elim (by omega) ((memB_false l (b + 1)).1 hm)
          have hnew := (newB_true l (b + 1)).2 hno
          have HH := has_any _ l (b + 1) _ M1.set.lies HB.out.2.1.1 (by omega)
          rw [hm, ← hcast] at HH
          have HA := fun W (hW : SetAt W w.heap.size v l) => add_any w.heap.size (b + 1) v l W hW HB.out.2.1.1 HB.out.2.1.2 (by omega) (by omega)
          rw [hnew, ← hcast] at HA
          have hz := addS_size (n := b + 1) HB.out.2.1.1
          rw [hnew, if_pos rfl, HB.out.2.2.1] at hz
          have hf := HB.out.2.1.add (n := b + 1) (by omega)
          have hM := addS_mem (n := b + 1) HB.out.2.1.1
          have hg : gapsL (addS l (b + 1)) ≤ i + 1 := by have := gapsL_le (addS l (b + 1)); have := length_le_sizeL (addS l (b + 1)); omega
          have HZ : Hid (sizeL (addS l (b + 1)) = i + 1 ∧ ∀ m, Mem (addS l (b + 1)) m → m ≤ K) := ⟨hz, fun m h => ((hM m).1 h).elim (fun h => HB.out.2.2.2 m h) (fun h => by omega)⟩
          clear hM hz hnew hno hcast e4 e4' e3 e3'
          generalize addS l (b + 1) = l2 at *
          have hg' : ¬ ((i : Int) + 1 < (gapsL l2 : Int)) := by omega
          go_wp2_with fail
          refine HH.mono ?_
          rintro e w3 ⟨rfl, b3⟩
          have M3 := M1.go b3
          go_wp2_with fail
          refine (HA _ M3.set).mono ?_
          rintro e w4 ⟨rfl, v4, s4, t4, n4⟩
          have M4 := M3.add s4 t4 n4
          go_wp2_with fail
          refine (gaps_any _ l2 w4 M4.set.lies hf.1).mono ?_
          rintro e w' ⟨rfl, rfl⟩
          go_wp2
          exact ⟨⟨i + 1, b, v4, l2, by go_num, rfl, by omega, hbK, (⟨M4, hf, HZ.out.1, HZ.out.2⟩ : _ ∧ _)⟩, by simp [intOf]; omega⟩
    · obtain rfl : i = K := by omega
      have hfil := filled HB.out.2.1.1 hK1 HB.out.2.2.2 HB.out.2.2.1
      have M1 := HB.out.1
      rw [hfil] at M1
      have hfi := HB.out.2.1
      rw [hfil] at hfi
      have hlow : lowL [(1, i)] = i := rfl
      have htop : topL [(1, i)] = i := rfl
      have hgap : gapsL [(1, i)] = 0 := by simp [gapsL]
      have hmem : newB [(1, i)] 1 = false := by
        rw [Bool.eq_false_iff]
        exact fun h => (newB_true _ _).1 h (.inr ⟨(1, i), by simp, Nat.le_refl _, hK1⟩)
      clear hfil HB e2
      go_wp2_with fail
      refine (ranges_any _ [(1, i)] wr M1.set.lies (by simp)).mono ?_
      rintro e w3 ⟨r3, rfl, o3, b3⟩
      have M3 := M1.go b3
      obtain ⟨r3a, r3c, hr3⟩ : ∃ a c, r3 = .slice a 1 c := o3.rng.slice
      subst hr3
      go_wp2_with fail
      refine (low_any _ _ w3 M3.set.lies).mono ?_
      rw [hlow]
      rintro e w' ⟨rfl, rfl⟩
      go_wp2_with fail
      refine (top_any _ _ _ M3.set.lies).mono ?_
      rw [htop]
      rintro e w' ⟨rfl, rfl⟩
      go_wp2_with fail
      refine (gaps_any _ _ _ M3.set.lies hfi.1).mono ?_
      rw [hgap]
      rintro e w' ⟨rfl, rfl⟩
      go_wp2_with fail
      refine (add_any w.heap.size 1 v [(1, i)] _ M3.set hfi.1 hfi.2 (by decide) (by simp)).mono ?_
      rw [hmem]
      rintro e w4 ⟨rfl, v4, s4, t4, n4⟩
      have M4 := M3.add s4 t4 n4
      go_wp2_with fail
      refine (lives_any _).mono ?_
      rintro e w5 ⟨rfl, b5⟩
      have M5 := M4.go b5
      go_wp2
      go_ret
      exact ⟨rfl, M5.bel⟩
end Go.Proofs.Ytdgbcjdikkmgdab
