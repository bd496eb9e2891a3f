/-
  THE WALKS of the laws SealBytes, SealBack and SealApart.
-/
import Derived.Test.YtpdmcodnnhbchaaDoorAlive
namespace Go.Proofs.YtpdmcodnnhbchaaDoor
open Go.RowKit

set_option maxHeartbeats 400000 in
theorem bytes_law (s : Value) (bs : List UInt8) (w : World) (ht : Tab w) (hs : Holds w s bs) :
    Calls Tryd.prog 3 #[s] w fun e w' => e = .returned (.bool true) ∧ Below w.heap.size w w' := by
  obtain ⟨a, cap, rfl⟩ := hs.slice
  by_cases hl : 1200000 < bs.length
  · go_enter Tryd.func3, Tryd.ntmps3
    go_wp2_with (go_at_call 9; refine (lives_any _ ht).mono ?_; rintro e w3 ⟨rfl, b3⟩)
    go_ret
    exact ⟨rfl, b3⟩
  · go_enter Tryd.func3, Tryd.ntmps3
    go_wp2_with fail
    refine (lend_any _ bs _ hs (by omega)).mono ?_
    rintro e w1 ⟨v1, v2, rfl, own1, hold2, b1⟩
    have s1 := (Since.refl ht).go b1
    have hs1 := hs.below b1 (Nat.le_refl _)
    have hq : (bs == bs) = true := by simp
    have hr : (sealL bs == sealL bs) = true := by simp
    have hk : ([167, 59] ++ bs ++ [94, 193] == [167, 59] ++ bs ++ [94, 193]) = true := by simp
    clear hs
    go_wp2_with (first
      | (go_at_call 11; refine (sum_any _ bs _ hold2).mono ?_; rintro e w' ⟨rfl, rfl⟩)
      | (go_at_call 12; refine (rsum_any _ bs _ hs1).mono ?_; rintro e w' ⟨rfl, rfl⟩)
      | (go_at_call 14; refine (seal_any _ bs _ s1.tab hold2).mono ?_; rintro e w2 ⟨v3, rfl, own3, b2⟩; have s2 := s1.go b2)
      | (go_at_call 15; refine (rseal_any _ bs _ (hs1.below b2 (Nat.le_refl _))).mono ?_; rintro e w3 ⟨v4, rfl, own4, b3⟩; have s3 := s2.go b3)
      | (go_at_call 13; refine (same_any _ _ _ _ _ (own3.holds.below b3 (Nat.le_refl _)) own4.holds).mono ?_; rintro e w' ⟨rfl, rfl⟩)
      | (go_at_call 16; refine (kept_any _ _ _ bs _ ((own1.holds.below b2 (Nat.le_refl _)).below b3 (Nat.le_refl _)) ((hs1.below b2 (Nat.le_refl _)).below b3 (Nat.le_refl _)) (by omega)).mono ?_; rintro e w4 ⟨rfl, b4⟩; have s4 := s3.go b4)
      | (go_at_call 9; refine (lives_any _ s4.tab).mono ?_; rintro e w5 ⟨rfl, b5⟩))
    go_ret
    exact ⟨rfl, (s4.go b5).bel⟩

set_option maxHeartbeats 1000000 in
theorem back_law (s t : Value) (bs tl : List UInt8) (cut : Nat) (w : World) (ht : Tab w) (hs : Holds w s bs) (htl : Holds w t tl) (hcut : cut < 18446744073709551616) (hm1 : bs.length ≤ 140737488351232) (hm2 : tl.length ≤ 140737488351232) :
    Calls Tryd.prog 5 #[s, t, .int .u64 cut] w fun e w' => e = .returned (.bool true) ∧ Below w.heap.size w w' := by
  obtain ⟨a, cap, rfl⟩ := hs.slice
  obtain ⟨at', capt, rfl⟩ := htl.slice
  by_cases hl : 20000 < bs.length + tl.length
  · go_enter Tryd.func5, Tryd.ntmps5
    go_wp2_with (go_at_call 9; refine (lives_any _ ht).mono ?_; rintro e w3 ⟨rfl, b3⟩)
    go_ret
    exact ⟨rfl, b3⟩
  · have hlen := sealL_length bs (by omega)
    have hE := open_seal bs tl (by omega)
    have hC := cont_seal bs tl (by omega)
    have hS := size_seal bs tl (by omega)
    obtain ⟨K, hK⟩ : ∃ K, K = cut % (bs.length + 8) := ⟨_, rfl⟩
    have hKi : ((cut : Int) % ((bs.length : Int) + 8)) = (K : Int) := by rw [hK, Int.natCast_emod, Int.natCast_add]; rfl
    have hKlt : K < bs.length + 8 := by rw [hK]; exact Nat.mod_lt _ (by omega)
    clear hK
    have hE2 := open_cut bs (by omega) K hKlt
    have HH : Hid ((sealL bs).length = bs.length + 8 ∧ errO (sealL bs ++ tl) = 0 ∧ contO (sealL bs ++ tl) = bs ∧ sizeO (sealL bs ++ tl) = bs.length + 8 ∧ errO ((sealL bs).take K) = 8) := ⟨hlen, hE, hC, hS, hE2⟩
    have hself : (bs == bs) = true := by simp
    clear hlen hE hC hS hE2
    go_enter Tryd.func5, Tryd.ntmps5
    go_wp2_with fail
    refine (seal_any _ bs _ ht hs).mono ?_
    rintro e w1 ⟨v1, rfl, own1, b1⟩
    have s1 := (Since.refl ht).go b1
    obtain ⟨g1, o1, c1, hv1, hc1, hx1, hcell1⟩ := own1.holds.at (by rw [HH.out.1]; omega)
    have hpart := holds_part hcell1 0 (n := K) (cap := c1) (by rw [HH.out.1]; omega) (by rw [HH.out.1] at hc1; omega) hx1
    rw [List.drop_zero, Nat.add_zero] at hpart
    rw [HH.out.1] at hv1 hc1
    clear hcell1
    have hx2 : c1 ≤ 9223372036854775807 := hx1
    subst hv1
    go_wp2_with (first
      | (at_builtin; refine wpList_append_bytes rfl (.tmp 30) (.tmp 31) 22 5 isU8 rfl w1.heap.size _ _ [] (sealL bs) rfl rfl (owns_new _ _ _ [] (Nat.le_refl _) (by simp)) (own1.holds.below ((Below.refl _ _).alloc (Nat.le_refl _) _) (Nat.le_refl _)) (by simp [HH.out.1]; omega) (by simp) ?_; intro v2 w2 own2 b2 z2)
      | (at_builtin; refine wpList_append_bytes rfl (.tmp 32) (.tmp 33) 22 5 isU8 rfl w1.heap.size _ _ (sealL bs) tl rfl rfl own2 (htl.below ((s1.alloc (.cells #[] 5)).go' b2 s1.size).bel (Nat.le_refl _)) (by simp [HH.out.1]; omega) z2 ?_; intro v3 w3 own3 b3 z3))
    have n2 : Below w1.heap.size w1 w2 := ((Below.refl _ _).alloc (Nat.le_refl _) _).trans b2
    have s3 := s1.go (n2.trans b3)
    refine (open_any _ _ _ s3.tab own3.holds).mono ?_
    rintro e w4 ⟨v4, he4, own4, b4⟩
    rw [HH.out.2.1, HH.out.2.2.2.1] at he4
    rw [HH.out.2.2.1] at own4
    subst he4
    obtain ⟨a4, c4, rfl⟩ := own4.holds.slice
    have s4 := s3.go b4
    have n4 : Below w1.heap.size w1 w4 := (n2.trans b3).trans (b4.mono (n2.trans b3).size)
    go_wp2_with fail
    refine (open_any _ _ _ s4.tab (hpart.below n4 (Nat.le_refl _))).mono ?_
    rintro e w5 ⟨v5, he5, own5, b5⟩
    rw [HH.out.2.2.2.2, (openO_bad _ _ HH.out.2.2.2.2 (by decide)).2] at he5
    subst he5
    obtain ⟨a5, c5, rfl⟩ := own5.holds.slice
    have s5 := s4.go b5
    go_wp2_with (first
      | (go_at_call 13; refine (same_any _ _ _ _ _ (own4.holds.below b5 (Nat.le_refl _)) (hs.below s5.bel (Nat.le_refl _))).mono ?_; rintro e w' ⟨rfl, rfl⟩)
      | (go_at_call 9; refine (lives_any _ s5.tab).mono ?_; rintro e w6 ⟨rfl, b6⟩))
    go_ret
    exact ⟨rfl, (s5.go b6).bel⟩

theorem seal_apart (x y : List UInt8) (hx : x.length ≤ 1048576) (hy : y.length ≤ 1048576) : (sealL x == sealL y) = (x == y) := by
  by_cases h : x = y
  · subst h; simp
  · have h2 : sealL x ≠ sealL y := fun he => h (by rw [← cont_seal x [] hx, he, cont_seal y [] hy])
    rw [beq_eq_false_iff_ne.2 h, beq_eq_false_iff_ne.2 h2]

set_option maxHeartbeats 1000000 in
theorem apart_law (s t : Value) (xs ys : List UInt8) (w : World) (ht : Tab w) (hs : Holds w s xs) (htl : Holds w t ys) (hm1 : xs.length ≤ 140737488351232) (hm2 : ys.length ≤ 140737488351232) :
    Calls Tryd.prog 8 #[s, t] w fun e w' => e = .returned (.bool true) ∧ Below w.heap.size w w' := by
  obtain ⟨a, cap, rfl⟩ := hs.slice
  obtain ⟨at', capt, rfl⟩ := htl.slice
  by_cases hl : 5000 < xs.length + ys.length
  · go_enter Tryd.func8, Tryd.ntmps8
    go_wp2_with (go_at_call 9; refine (lives_any _ ht).mono ?_; rintro e w3 ⟨rfl, b3⟩)
    go_ret
    exact ⟨rfl, b3⟩
  · have hap := seal_apart xs ys (by omega) (by omega)
    have hlen := sealL_length xs (by omega)
    have hE := open_seal (sealL xs) [] (by omega)
    have hC := cont_seal (sealL xs) [] (by omega)
    have hS := size_seal (sealL xs) [] (by omega)
    have hE2 := open_seal xs [] (by omega)
    have hC2 := cont_seal xs [] (by omega)
    have hS2 := size_seal xs [] (by omega)
    rw [List.append_nil] at hE hC hS hE2 hC2 hS2
    rw [hlen] at hS
    have HH : Hid (errO (sealL (sealL xs)) = 0 ∧ contO (sealL (sealL xs)) = sealL xs ∧ sizeO (sealL (sealL xs)) = xs.length + 8 + 8 ∧ errO (sealL xs) = 0 ∧ contO (sealL xs) = xs ∧ sizeO (sealL xs) = xs.length + 8) := ⟨hE, hC, hS, hE2, hC2, hS2⟩
    have hself : (xs == xs) = true := by simp
    clear hE hC hS hE2 hC2 hS2 hlen
    go_enter Tryd.func8, Tryd.ntmps8
    go_wp2_with fail
    refine (seal_any _ xs _ ht hs).mono ?_
    rintro e w1 ⟨v1, rfl, own1, b1⟩
    have s1 := (Since.refl ht).go b1
    go_wp2_with fail
    refine (seal_any _ ys _ s1.tab (htl.below b1 (Nat.le_refl _))).mono ?_
    rintro e w2 ⟨v2, rfl, own2, b2⟩
    have s2 := s1.go b2
    have h1 := own1.holds.below b2 (Nat.le_refl _)
    go_wp2_with fail
    refine (same_any _ _ _ _ _ h1 own2.holds).mono ?_
    rintro e w' ⟨rfl, rfl⟩
    go_wp2_with fail
    refine (same_any _ _ _ _ _ (hs.below s2.bel (Nat.le_refl _)) (htl.below s2.bel (Nat.le_refl _))).mono ?_
    rintro e w2 ⟨rfl, rfl⟩
    go_wp2_with fail
    refine (seal_any _ (sealL xs) _ s2.tab h1).mono ?_
    rintro e w3 ⟨v3, rfl, own3, b3⟩
    have s3 := s2.go b3
    go_wp2_with fail
    refine (open_any _ _ _ s3.tab own3.holds).mono ?_
    rintro e w4 ⟨v4, he4, own4, b4⟩
    rw [HH.out.1, HH.out.2.2.1] at he4
    rw [HH.out.2.1] at own4
    subst he4
    have s4 := s3.go b4
    go_wp2_with fail
    refine (open_any _ _ _ s4.tab own4.holds).mono ?_
    rintro e w5 ⟨v5, he5, own5, b5⟩
    rw [HH.out.2.2.2.1, HH.out.2.2.2.2.2] at he5
    rw [HH.out.2.2.2.2.1] at own5
    subst he5
    have s5 := s4.go b5
    obtain ⟨a5, c5, rfl⟩ := own5.holds.slice
    go_wp2_with (first
      | (go_at_call 13; refine (same_any _ _ _ _ _ own5.holds (hs.below s5.bel (Nat.le_refl _))).mono ?_; rintro e w' ⟨rfl, rfl⟩)
      | (go_at_call 9; refine (lives_any _ s5.tab).mono ?_; rintro e w6 ⟨rfl, b6⟩))
    go_ret
    exact ⟨rfl, (s5.go b6).bel⟩
end Go.Proofs.YtpdmcodnnhbchaaDoor
