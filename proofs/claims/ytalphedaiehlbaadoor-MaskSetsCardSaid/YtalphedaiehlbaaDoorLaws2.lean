/-
  THE WALKS of the laws MaskBack, MaskRuns and MaskTwice.
-/
import Derived.Test.YtalphedaiehlbaaDoorLaws
import Derived.Test.YtalphedaiehlbaaDoorSets2
namespace Go.Proofs.YtalphedaiehlbaaDoor
open Go.RowKit

theorem pick_neg (m : Nat) : pickS m (-1) = listS m := by unfold pickS; rw [if_neg (by omega)]
theorem andNot_rest {m : Nat} (k : Int) (h : IsSet m) : bits .andNot .u64 (m : Int) (belowS k : Int) = (restS m k : Int) := u64_andNot_nat m _ h (belowS_set k)
theorem sizeS_eq {a b : Nat} (h : (listN a).length = (listN b).length) : (listS a).length = (listS b).length := by rw [listS_length, listS_length, h]

set_option maxHeartbeats 1000000 in
theorem runs_law (m : Nat) (w : World) (hm : IsSet m) (hT : Tab w) :
    Calls Tryd.prog 7 #[.int .u64 m] w fun e w' => e = .returned (.bool true) ∧ Below w.heap.size w w' := by
  have hle := runS_le m
  have e1 : bits .and .u64 (m : Int) (belowS (runS m) : Int) = (belowS (runS m) : Int) := by rw [u64_and_nat m _ hm (belowS_set _), run_and]
  have e2 := run_has hm
  have e3 := run_slide hm
  have e4 := run_below (runS m) hle
  generalize hr : runS m = r at *
  have hs := Since.refl hT
  go_enter Tryd.func7, Tryd.ntmps7
  go_wp2_with fail
  refine (run_any m _ hm hT).mono ?_
  rw [hr]
  rintro e w1 ⟨rfl, b1⟩
  have s1 := hs.go b1
  go_wp2_with (go_at_call 15; refine (below_any r _).mono ?_; rintro e w' ⟨rfl, rfl⟩)
  refine (has_any m r _ hm).mono ?_
  rintro e w2 ⟨rfl, rfl⟩
  go_wp2_with fail
  refine (slide_any m r _).mono ?_
  rintro e w3 ⟨rfl, rfl⟩
  go_wp2_with fail
  refine (has_any (slideS m r) 0 _ (slideS_set r hm)).mono ?_
  rintro e w4 ⟨rfl, rfl⟩
  go_wp2_with (go_at_call 15; refine (below_any r _).mono ?_; rintro e w' ⟨rfl, rfl⟩)
  refine (run_any (belowS r) _ (belowS_set r) s1.tab).mono ?_
  rintro e w5 ⟨rfl, b5⟩
  go_wp2_with fail
  refine (lives_any _ (s1.go b5).tab).mono ?_
  rintro e w6 ⟨rfl, b6⟩
  go_wp2_with fail
  go_ret
  exact ⟨rfl, ((s1.go b5).go b6).bel⟩

set_option maxHeartbeats 1000000 in
theorem back_law (m n : Nat) (w : World) (hm : IsSet m) (hn : n < 18446744073709551616) (hT : Tab w) :
    Calls Tryd.prog 6 #[.int .u64 m, .int .u64 n] w fun e w' => e = .returned (.bool true) ∧ Below w.heap.size w w' := by
  obtain ⟨k, hk⟩ : ∃ k : Nat, k = n % 64 := ⟨_, rfl⟩
  have hk64 : k < 64 := by omega
  have hkc : ((n : Int) % 64) = k := by omega
  have hkc2 : (n : Int).tmod 64 = k := by rw [Int.tmod_eq_emod_of_nonneg (by omega)]; exact hkc
  have f1 := pick_neg m
  have f2 := of_list hm
  have f3 : slideS (slideS m k) (-(k : Int)) = restS m k := slide_back k hm (by omega)
  have f4 : slideS m 0 = m := slide_zero
  have f5 := sizeS_eq (slide_size k hm (by omega))
  have f6 := andNot_rest (k : Int) hm
  have s0 := Since.refl hT
  clear hk
  go_enter Tryd.func6, Tryd.ntmps6
  go_wp2_with fail
  refine (list_any m (-1) _ hm s0.tab).mono ?_
  rw [f1]
  rintro e w1 ⟨v1, rfl, r1, b1⟩
  obtain ⟨a1, c1, rfl⟩ := r1.sliceInts
  have s1 := s0.go b1
  go_wp2_with fail
  refine (of_any _ (listS m) _ r1).mono ?_
  rintro e w2 ⟨rfl, rfl⟩
  go_wp2_with fail
  refine (size_any m _ hm s1.tab).mono ?_
  rintro e w3 ⟨rfl, b3⟩
  have s3 := s1.go b3
  go_wp2_with fail
  refine (slide_any m k _).mono ?_
  rintro e w4 ⟨rfl, rfl⟩
  go_wp2_with fail
  refine (slide_any (slideS m k) (-(k : Int)) _).mono ?_
  rintro e w5 ⟨rfl, rfl⟩
  go_wp2_with fail
  refine (below_any k _).mono ?_
  rintro e w6 ⟨rfl, rfl⟩
  go_wp2_with fail
  refine (slide_any m 0 _).mono ?_
  rintro e w7 ⟨rfl, rfl⟩
  go_wp2_with fail
  refine (size_any (slideS m k) _ (slideS_set k hm) s3.tab).mono ?_
  rintro e w8 ⟨rfl, b8⟩
  have s8 := s3.go b8
  go_wp2_with fail
  refine (below_any k _).mono ?_
  rintro e w9 ⟨rfl, rfl⟩
  go_wp2_with fail
  refine (size_any (restS m k) _ (restS_set k hm) s8.tab).mono ?_
  rintro e w10 ⟨rfl, b10⟩
  have s10 := s8.go b10
  go_wp2_with fail
  refine (lives_any _ s10.tab).mono ?_
  rintro e w11 ⟨rfl, b11⟩
  go_wp2_with fail
  go_ret
  exact ⟨rfl, (s10.go b11).bel⟩

set_option maxHeartbeats 1000000 in
theorem twice_law (m : Nat) (n k : Int) (w : World) (hm : IsSet m) (hT : Tab w) :
    Calls Tryd.prog 8 #[.int .u64 m, .int .i64 n, .int .i64 k] w fun e w' => e = .returned (.bool true) ∧ Below w.heap.size w w' := by
  have f1 := with_twice m n
  have f2 := without_twice n hm
  have f3 := has_without n hm
  have f4 := has_with m n
  have hw := withS_set n hm
  have ho := withoutS_set n hm
  have s0 := Since.refl hT
  obtain ⟨a, ha⟩ : ∃ a, a = withS m n := ⟨_, rfl⟩
  obtain ⟨o, hoo⟩ : ∃ o, o = withoutS m n := ⟨_, rfl⟩
  rw [← ha] at f1 f4 hw
  rw [← hoo] at f2 f3 ho
  have g1 : n ≠ k → hasS a k = hasS m k := fun h => by rw [ha]; exact has_with_other m h
  have g2 : n ≠ k → hasS o k = hasS m k := fun h => by rw [hoo]; exact has_without_other hm h
  have g3 : ¬ (0 ≤ n ∧ n < 64) → a = m ∧ o = m := fun h => ⟨by rw [ha]; exact with_out m h, by rw [hoo]; exact without_out hm h⟩
  have g4 : 0 ≤ n ∧ n < 64 → (listS a).length = (listS o).length + 1 := fun h => by
    have := with_size n.toNat hm (by omega)
    rw [Int.toNat_of_nonneg h.1] at this
    rw [listS_length, listS_length, ha, hoo, this]
  have g5 : (listS o).length ≤ 64 := by rw [listS_length]; exact listN_length o
  have HW : Hid _ := ha
  have HO : Hid _ := hoo
  clear ha hoo
  have G1 : Hid _ := g1
  have G2 : Hid _ := g2
  have G3 : Hid _ := g3
  have G4 : Hid _ := g4
  clear g1 g2 g3 g4
  go_enter Tryd.func8, Tryd.ntmps8
  go_wp2_with fail
  refine (with_any m n _ hm).mono ?_
  rw [← HW.out]
  rintro e w1 ⟨rfl, b1⟩
  have s1 := s0.go b1
  go_wp2_with fail
  refine (without_any m n _ hm).mono ?_
  rw [← HO.out]
  rintro e w2 ⟨rfl, rfl⟩
  by_cases hin : 0 ≤ n ∧ n < 64
  · have g4 := G4.out hin
    rw [decide_eq_true hin] at f4
    obtain ⟨hin1, hin2⟩ := hin
    go_wp2_with fail
    refine (with_any a n _ hw).mono ?_
    rw [f1]
    rintro e w3 ⟨rfl, b3⟩
    have s3 := s1.go b3
    go_wp2_with fail
    refine (without_any o n _ ho).mono ?_
    rw [f2]
    rintro e w4 ⟨rfl, rfl⟩
    go_wp2_with fail
    refine (has_any o n _ ho).mono ?_
    rw [f3]
    rintro e w5 ⟨rfl, rfl⟩
    go_wp2_with fail
    refine (has_any a n _ hw).mono ?_
    rw [f4]
    rintro e w6 ⟨rfl, rfl⟩
    by_cases hnk : n = k
    · subst hnk
      go_wp2_with fail
      refine (size_any a _ hw s3.tab).mono ?_
      rintro e w8 ⟨rfl, b8⟩
      have s8 := s3.go b8
      go_wp2_with fail
      refine (size_any o _ ho s8.tab).mono ?_
      rintro e w9 ⟨rfl, b9⟩
      have s9 := s8.go b9
      go_wp2_with fail
      refine (lives_any _ s9.tab).mono ?_
      rintro e w10 ⟨rfl, b10⟩
      go_wp2_with fail
      go_ret
      exact ⟨rfl, (s9.go b10).bel⟩
    · go_wp2_with fail
      refine (has_any a k _ hw).mono ?_
      rw [G1.out hnk]
      rintro e w7 ⟨rfl, rfl⟩
      go_wp2_with fail
      refine (has_any m k _ hm).mono ?_
      rintro e w7 ⟨rfl, rfl⟩
      go_wp2_with fail
      refine (has_any o k _ ho).mono ?_
      rw [G2.out hnk]
      rintro e w7 ⟨rfl, rfl⟩
      go_wp2_with fail
      refine (has_any m k _ hm).mono ?_
      rintro e w7 ⟨rfl, rfl⟩
      go_wp2_with fail
      refine (size_any a _ hw s3.tab).mono ?_
      rintro e w8 ⟨rfl, b8⟩
      have s8 := s3.go b8
      go_wp2_with fail
      refine (size_any o _ ho s8.tab).mono ?_
      rintro e w9 ⟨rfl, b9⟩
      have s9 := s8.go b9
      go_wp2_with fail
      refine (lives_any _ s9.tab).mono ?_
      rintro e w10 ⟨rfl, b10⟩
      go_wp2_with fail
      go_ret
      exact ⟨rfl, (s9.go b10).bel⟩
  · obtain ⟨ea, eo⟩ := G3.out hin
    subst ea
    subst eo
    clear HW HO G1 G2 G3 G4
    rcases Int.lt_or_le n 0 with hn | hn
    · go_wp2_with fail
      refine (with_any o n _ hw).mono ?_
      rw [f1]
      rintro e w3 ⟨rfl, b3⟩
      have s3 := s1.go b3
      go_wp2_with fail
      refine (without_any o n _ ho).mono ?_
      rw [f2]
      rintro e w4 ⟨rfl, rfl⟩
      go_wp2_with fail
      refine (has_any o n _ ho).mono ?_
      rw [f3]
      rintro e w5 ⟨rfl, rfl⟩
      go_wp2_with fail
      refine (has_any o n _ hw).mono ?_
      rw [f3]
      rintro e w6 ⟨rfl, rfl⟩
      by_cases hnk : n = k
      · subst hnk
        go_wp2_with fail
        refine (lives_any _ s3.tab).mono ?_
        rintro e w10 ⟨rfl, b10⟩
        go_wp2_with fail
        go_ret
        exact ⟨rfl, (s3.go b10).bel⟩
      · go_wp2_with (go_at_call 9; refine (has_any o k _ ho).mono ?_; rintro e w' ⟨rfl, rfl⟩)
        refine (lives_any _ s3.tab).mono ?_
        rintro e w10 ⟨rfl, b10⟩
        go_wp2_with fail
        go_ret
        exact ⟨rfl, (s3.go b10).bel⟩
    · have hn2 : ¬ n < 64 := fun h => hin ⟨hn, h⟩
      go_wp2_with fail
      refine (with_any o n _ hw).mono ?_
      rw [f1]
      rintro e w3 ⟨rfl, b3⟩
      have s3 := s1.go b3
      go_wp2_with fail
      refine (without_any o n _ ho).mono ?_
      rw [f2]
      rintro e w4 ⟨rfl, rfl⟩
      go_wp2_with fail
      refine (has_any o n _ ho).mono ?_
      rw [f3]
      rintro e w5 ⟨rfl, rfl⟩
      go_wp2_with fail
      refine (has_any o n _ hw).mono ?_
      rw [f3]
      rintro e w6 ⟨rfl, rfl⟩
      by_cases hnk : n = k
      · subst hnk
        go_wp2_with fail
        refine (lives_any _ s3.tab).mono ?_
        rintro e w10 ⟨rfl, b10⟩
        go_wp2_with fail
        go_ret
        exact ⟨rfl, (s3.go b10).bel⟩
      · go_wp2_with (go_at_call 9; refine (has_any o k _ ho).mono ?_; rintro e w' ⟨rfl, rfl⟩)
        refine (lives_any _ s3.tab).mono ?_
        rintro e w10 ⟨rfl, b10⟩
        go_wp2_with fail
        go_ret
        exact ⟨rfl, (s3.go b10).bel⟩
end Go.Proofs.YtalphedaiehlbaaDoor
