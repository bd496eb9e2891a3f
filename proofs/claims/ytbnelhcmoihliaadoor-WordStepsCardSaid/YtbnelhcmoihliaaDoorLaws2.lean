/-
  THE WALKS of the statements over bytes: each returns true, and leaves what was there as it was.
-/
import Derived.Test.YtbnelhcmoihliaaDoorLaws
import Derived.Outline
namespace Go.Proofs.YtbnelhcmoihliaaDoor
open Go.RowKit

theorem bytes_long (s : Value) (bs : List UInt8) (n v : Int) (w : World) (ht : Tab w) (hs : Holds w s bs) (hl : 5000 < bs.length) :
    Calls Tryd.prog 3 #[s, .int .i64 n, .int .u64 v] w fun e w' => e = .returned (.bool true) ∧ Below w.heap.size w w' := by
  obtain ⟨a, cap, rfl⟩ := hs.slice
  clear hs
  go_enter Tryd.func3, Tryd.ntmps3
  go_wp2_with (go_at_call 9; refine (lives_any _ ht).mono ?_; rintro e w1 ⟨rfl, bel⟩)
  go_ret
  exact ⟨rfl, bel⟩

set_option maxHeartbeats 1000000 in
theorem bytes_short (s : Value) (bs : List UInt8) (n : Int) (v : Nat) (w : World) (ht : Tab w) (hs : Holds w s bs) (hl : ¬ 5000 < bs.length) (hv : v < 18446744073709551616) :
    Calls Tryd.prog 3 #[s, .int .i64 n, .int .u64 v] w fun e w' => e = .returned (.bool true) ∧ Below w.heap.size w w' := by
  have hp := ht.pos
  have hS := hs
  obtain ⟨a, cap, rfl⟩ := hs.slice
  clear hs
  go_enter Tryd.func3, Tryd.ntmps3
  go_wp2_with fail
  refine (lend_any _ bs _ hS (by omega)).mono ?_
  rintro e w1 ⟨v1, v2, rfl, own1, hold2, bel1⟩
  have ht1 := ht.below bel1 hp
  have hS1 := hS.below bel1 (Nat.le_refl _)
  go_wp2_with fail
  refine (get_any _ bs n _ ht1 hold2).mono ?_
  rintro e w2 ⟨rfl, rfl⟩
  go_wp2_with fail
  refine (rget_any _ bs n _ hS1).mono ?_
  rintro e w3 ⟨rfl, rfl⟩
  go_wp2_with fail
  refine (put_any _ bs n v _ ht1 hold2 (by omega) hv).mono ?_
  rintro e w4 ⟨v4, rfl, own4, bel4⟩
  have ht4 := ht1.below bel4 ht1.pos
  have hS4 := hS1.below bel4 (Nat.le_refl _)
  have hw4 := own1.holds.below bel4 (Nat.le_refl _)
  go_wp2_with fail
  refine (rput_any _ bs n v _ hS4 (by omega)).mono ?_
  rintro e w5 ⟨v5, rfl, own5, bel5⟩
  have ht5 := ht4.below bel5 ht4.pos
  have hS5 := hS4.below bel5 (Nat.le_refl _)
  have hw5 := hw4.below bel5 (Nat.le_refl _)
  have h45 := own4.holds.below bel5 (Nat.le_refl _)
  go_wp2_with fail
  refine (same_any _ _ _ _ _ h45 own5.holds).mono ?_
  rintro e w6 ⟨rfl, rfl⟩
  go_wp2_with fail
  refine (kept_any _ _ _ bs _ hw5 hS5 (by omega)).mono ?_
  rintro e w7 ⟨rfl, bel7⟩
  have ht7 := ht5.below bel7 ht5.pos
  go_wp2_with fail
  refine (lives_any _ ht7).mono ?_
  rintro e w8 ⟨rfl, bel8⟩
  go_wp2
  go_ret
  refine ⟨rfl, ?_⟩
  have s1 := bel1.size
  have s4 := bel4.size
  have s5 := bel5.size
  have s7 := bel7.size
  exact bel1.trans ((bel4.mono (by omega)).trans ((bel5.mono (by omega)).trans ((bel7.mono (by omega)).trans (bel8.mono (by omega)))))

theorem bytes_law (s : Value) (bs : List UInt8) (n : Int) (v : Nat) (w : World) (ht : Tab w) (hs : Holds w s bs) (hv : v < 18446744073709551616) :
    Calls Tryd.prog 3 #[s, .int .i64 n, .int .u64 v] w fun e w' => e = .returned (.bool true) ∧ Below w.heap.size w w' := by
  by_cases hl : 5000 < bs.length
  · exact bytes_long s bs n v w ht hs hl
  · exact bytes_short s bs n v w ht hs hl hv

theorem back_long (v k : Int) (s : Value) (bs : List UInt8) (w : World) (ht : Tab w) (hs : Holds w s bs) (hl : 1000 < bs.length) :
    Calls Tryd.prog 6 #[.int .u64 v, .int .u64 k, s] w fun e w' => e = .returned (.bool true) ∧ Below w.heap.size w w' := by
  obtain ⟨a, cap, rfl⟩ := hs.slice
  clear hs
  go_enter Tryd.func6, Tryd.ntmps6
  go_wp2_with (go_at_call 9; refine (lives_any _ ht).mono ?_; rintro e w1 ⟨rfl, bel⟩)
  go_ret
  exact ⟨rfl, bel⟩

theorem putI_length (m v : Nat) (h : goodB m = true) : (putI m v).length = m := by simp [putI, h, putL_length]

theorem Holds.take {w : World} {b off n cap : Nat} {bs : List UInt8} (h : Holds w (.slice (some ⟨b, off, none⟩) bs.length cap) bs) (hn : n ≤ bs.length) : Holds w (.slice (some ⟨b, off, none⟩) n cap) (bs.take n) := by
  rcases h with ⟨h, _⟩ | ⟨a, c, hv, h1, h2, h3⟩
  · simp at h
  · simp at hv
    obtain ⟨rfl, rfl⟩ := hv
    have hl : (bs.take n).length = n := by simp; omega
    refine .inr ⟨⟨b, off, none⟩, cap, by rw [hl], by omega, h2, fun j u hj => h3 j u ?_⟩
    simp only [bcells, List.map_take, List.getElem?_take] at hj
    split at hj
    · exact hj
    · cases hj

set_option maxHeartbeats 1000000 in
theorem back_short (v : Nat) (k : Int) (s : Value) (bs : List UInt8) (m : Nat) (w : World) (ht : Tab w) (hs : Holds w s bs) (hl : ¬ 1000 < bs.length) (hv : v < 18446744073709551616) (hm : wrap64 (2 ^ (k % 4).toNat) = m) (hg : goodB m = true) (h1 : 1 ≤ m) (h8 : m ≤ 8) (hk : 0 ≤ k) (hfin : m < 8 ∨ (¬ m < 8 ∧ cutI v m = v)) :
    Calls Tryd.prog 6 #[.int .u64 v, .int .u64 k, s] w fun e w' => e = .returned (.bool true) ∧ Below w.heap.size w w' := by
  have hp := ht.pos
  have hS := hs
  obtain ⟨a, cap, rfl⟩ := hs.slice
  clear hs
  have H8 : Hid _ := hfin
  clear hfin
  go_enter Tryd.func6, Tryd.ntmps6
  go_wp2_with fail
  refine (put_any _ [] m v _ ht (.inl ⟨rfl, rfl⟩) (by simp) hv).mono ?_
  rintro e w1 ⟨v1, rfl, own1, bel1⟩
  rw [List.nil_append] at own1
  have hlen := putI_length m v hg
  have hget := getI_putI m v bs
  have hgetB := getB_putI m v bs
  rw [show ((v : Int) % 18446744073709551616) = v by omega] at hget
  rw [hg] at hgetB
  have HG : Hid _ := hget
  have HB : Hid _ := hgetB
  clear hget hgetB
  have ht1 := ht.below bel1 hp
  have hS1 := hS.below bel1 (Nat.le_refl _)
  obtain ⟨b, off, c, hv1, hc1, hc2, _⟩ := own1.holds.at (by omega)
  rw [hlen] at hv1 hc1
  unfold maxLen at hc2
  subst hv1
  generalize putI m v = ps at *
  go_wp2_with (first
    | (at_builtin; refine wpList_append_bytes rfl (.tmp 24) (.tmp 25) 22 5 isU8 rfl w1.heap.size _ _ [] ps rfl rfl (owns_made _ _ _ #[] 0 (Nat.le_refl _) (by unfold maxLen; omega) rfl) (own1.holds.below ((Below.refl _ _).alloc (Nat.le_refl _) _) (Nat.le_refl _)) (by simp; omega) (by simp) ?_; intro v2 w2 own2 bel2 sz2)
    | (at_builtin; refine wpList_append_bytes rfl (.tmp 26) (.tmp 27) 22 5 isU8 rfl w1.heap.size _ _ ([] ++ ps) bs rfl rfl own2 (hS1.below (((Below.refl _ _).alloc (Nat.le_refl _) _).trans bel2) (Nat.le_refl _)) (by simp; omega) sz2 ?_; intro v3 w3 own3 bel3 sz3))
  have belA : Below w1.heap.size w1 w3 := (((Below.refl _ _).alloc (Nat.le_refl _) _).trans bel2).trans bel3
  have ht3 := ht1.below belA ht1.pos
  have hb3 : Holds w3 (.slice (some ⟨b, off, none⟩) ps.length c) ps := by rw [hlen]; exact own1.holds.below belA (Nat.le_refl _)
  have hfew : getB (ps.take (m - 1)) (m : Int) = false := by
    unfold getB
    rw [hg]
    simp
    omega
  refine (get_any _ (ps ++ bs) m _ ht3 (by simpa using own3.holds)).mono ?_
  rintro e w4 ⟨rfl, rfl⟩
  rw [HB.out, HG.out]
  go_wp2_with fail
  refine (get_any _ (ps.take (m - 1)) m _ ht3 (hb3.take (by omega))).mono ?_
  rintro e w5 ⟨rfl, rfl⟩
  go_wp2_with fail
  refine (cut_any _ _ _ (by omega)).mono ?_
  rintro e w6 ⟨rfl, rfl⟩
  have fin : ∀ w8 : World, Below w6.heap.size w6 w8 → Below w.heap.size w w8 := fun w8 h => bel1.trans ((belA.mono bel1.size).trans (h.mono (Nat.le_trans bel1.size belA.size)))
  rcases H8.out with h78 | ⟨h78, hcut⟩
  all_goals go_wp2_with (go_at_call 9; refine (lives_any _ ht3).mono ?_; rintro e w8 ⟨rfl, bel8⟩)
  all_goals go_ret
  all_goals exact ⟨rfl, fin _ bel8⟩

theorem back_law (v : Nat) (k : Int) (s : Value) (bs : List UInt8) (w : World) (ht : Tab w) (hs : Holds w s bs) (hv : v < 18446744073709551616) (hk : 0 ≤ k) :
    Calls Tryd.prog 6 #[.int .u64 v, .int .u64 k, s] w fun e w' => e = .returned (.bool true) ∧ Below w.heap.size w w' := by
  by_cases hl : 1000 < bs.length
  · exact back_long v k s bs w ht hs hl
  · obtain ⟨m, hm, hcase⟩ := width_of k hk
    obtain ⟨n, rfl⟩ : ∃ n : Nat, m = n := ⟨m.toNat, by omega⟩
    refine back_short v k s bs n w ht hs hl hv hm ?_ (by omega) (by omega) hk ?_
    · unfold goodB; simp; omega
    · by_cases h : n < 8
      · exact .inl h
      · obtain rfl : n = 8 := by omega
        exact .inr ⟨h, by simp [cutI]⟩
end Go.Proofs.YtbnelhcmoihliaaDoor
