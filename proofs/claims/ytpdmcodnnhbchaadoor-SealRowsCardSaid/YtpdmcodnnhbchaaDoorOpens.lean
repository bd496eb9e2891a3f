/-
  THE WALK of the law SealOpens.
-/
import Derived.Test.YtpdmcodnnhbchaaDoorAlive
import Derived.BigQuiet
namespace Go.Proofs.YtpdmcodnnhbchaaDoor
open Go.RowKit

theorem belowDraws (B : Nat) (w : World) (n : Nat) : Below B w (w.drewN n) := ⟨rfl, rfl, rfl, Nat.le_refl _, fun _ _ => rfl⟩

/-- A list of lists of bytes in memory: its k-th. -/
theorem Row.rows {w : World} {v : Value} {cs : List Value} {base : Nat} {ls : List (List UInt8)} (h : Row w v cs) (ha : OwnsAll w base cs ls) (hp : 0 < ls.length) :
    ∃ b off cap, v = .slice (some ⟨b, off, none⟩) ls.length cap ∧ ls.length ≤ cap ∧ cap ≤ maxLen ∧ ∀ k (hk : k < ls.length), ∃ a c, w.cell? ⟨b, off + k, none⟩ = some (.slice a ls[k].length c) ∧ Holds w (.slice a ls[k].length c) ls[k] := by
  obtain ⟨b, off, cap, hv, h1, h2, h3⟩ := h.at (by rw [ha.1]; exact hp)
  rw [ha.1] at hv h1
  refine ⟨b, off, cap, hv, h1, h2, fun k hk => ?_⟩
  have hk' : k < cs.length := by rw [ha.1]; exact hk
  have h4 := ha.2 k cs[k] ls[k] (List.getElem?_eq_getElem hk') (List.getElem?_eq_getElem hk)
  obtain ⟨a, c, hac⟩ := h4.holds.slice
  have h5 := h3 k hk'
  rw [hac] at h5
  refine ⟨a, c, h5, ?_⟩
  rw [← hac]
  exact h4.holds
theorem Row.rowsNil {w : World} {v : Value} {cs : List Value} {base : Nat} {ls : List (List UInt8)} (h : Row w v cs) (ha : OwnsAll w base cs ls) : ∃ a cap, v = .slice a ls.length cap := by
  obtain ⟨a, c, hv⟩ := h.slice
  rw [ha.1] at hv
  exact ⟨a, c, hv⟩
theorem Row.belowB {w w' : World} {v : Value} {cs : List Value} (h : Row w v cs) (b : Below w.heap.size w w') : Row w' v cs := h.below b (Nat.le_refl _)

set_option maxHeartbeats 1000000 in
theorem opens_law (s : Value) (bs : List UInt8) (w : World) (ht : Tab w) (hs : Holds w s bs) :
    Calls Tryd.prog 4 #[s] w fun e w' => e = .returned (.bool true) ∧ Below w.heap.size w w' := by
  obtain ⟨a, cap, rfl⟩ := hs.slice
  by_cases hl : 20000 < bs.length
  · go_enter Tryd.func4, Tryd.ntmps4
    go_wp2_with (go_at_call 9; refine (lives_any _ ht).mono ?_; rintro e w3 ⟨rfl, b3⟩)
    go_ret
    exact ⟨rfl, b3⟩
  · obtain ⟨L, hL⟩ : ∃ L, L = wholeC bs := ⟨_, rfl⟩
    have hq : (contO bs == contO bs) = true := by simp
    go_enter Tryd.func4, Tryd.ntmps4
    go_wp2_with fail
    refine (open_any _ bs _ ht hs).mono ?_
    rintro e w1 ⟨v1, rfl, own1, b1⟩
    have s1 := (Since.refl ht).go b1
    go_wp2_with fail
    refine (ropen_any _ bs _ (hs.below s1.bel (Nat.le_refl _))).mono ?_
    rintro e w2 ⟨v2, rfl, own2, b2⟩
    have s2 := s1.go b2
    go_wp2_with fail
    refine (whole_any _ bs _ s2.tab (hs.below s2.bel (Nat.le_refl _)) (by omega)).mono ?_
    rintro e w3 ⟨v3, cs3, rfl, row3, all3, b3⟩
    have s3 := s2.go b3
    rw [← hL] at all3
    go_wp2_with fail
    refine (rwhole_any _ bs _ (hs.below s3.bel (Nat.le_refl _)) (by omega)).mono ?_
    rintro e w4 ⟨v4, cs4, rfl, row4, all4, b4⟩
    have s4 := s3.go b4
    rw [← hL] at all4
    clear hL
    have row3' := row3.below b4 (Nat.le_refl _)
    have all3' := all3.kept b4 (Nat.le_refl _)
    have h1 := (own1.holds.below b2 (Nat.le_refl _)).below b3 (Nat.le_refl _) |>.below b4 (Nat.le_refl _)
    have h2 := (own2.holds.below b3 (Nat.le_refl _)).below b4 (Nat.le_refl _)
    clear row3 all3
    by_cases hp : 0 < L.length
    · obtain ⟨g3, o3, c3, hv3, hc3, hm3, hk3⟩ := row3'.rows all3' hp
      obtain ⟨g4, o4, c4, hv4, hc4, hm4, hk4⟩ := row4.rows all4 hp
      subst hv3 hv4
      unfold maxLen at hm3 hm4
      have hlen : L.length ≤ 9223372036854775807 := by omega
      go_wp2_with (go_at_call 13; refine (same_any _ _ _ _ _ h1 h2).mono ?_; rintro e w' ⟨rfl, rfl⟩)
      go_loopw [68] (fun i wr => ∃ k : Nat, k ≤ L.length ∧ i = .int .i64 k ∧ Below w'.heap.size w' wr) (fun i _ => L.length - (intOf i).toNat)
      case atStart => exact ⟨0, Nat.zero_le _, rfl, Below.refl _ _⟩
      case round =>
        obtain ⟨k, hk, rfl, br⟩ := hrel
        have sr := s4.go br
        by_cases hlt : k < L.length
        · obtain ⟨a3, d3, e3, f3⟩ := hk3 k hlt
          obtain ⟨a4, d4, e4, f4⟩ := hk4 k hlt
          rw [← br.cell (World.block_lt_of_cell? w' _ e3)] at e3
          rw [← br.cell (World.block_lt_of_cell? w' _ e4)] at e4
          replace f3 := f3.below br (Nat.le_refl _)
          replace f4 := f4.below br (Nat.le_refl _)
          have hself : (L[k] == L[k]) = true := by simp
          have hki : (k : Int) < (L.length : Int) := by omega
          go_wp2_with fail
          go_quiet (first | (go_at_call 13; refine Calls.quiet_of_same (same_any _ _ _ _ _ (f3.below (belowDraws _ _ _) (Nat.le_refl _)) (f4.below (belowDraws _ _ _) (Nat.le_refl _)))))
          go_wp2
          exact ⟨⟨k + 1, by omega, by go_num, br.trans (belowDraws _ _ _)⟩, by simp [intOf]; omega⟩
        · go_wp2_with (go_at_call 9; refine (lives_any _ sr.tab).mono ?_; rintro e w5 ⟨rfl, b5⟩)
          go_ret
          exact ⟨rfl, (sr.go b5).bel⟩
    · obtain rfl : L = [] := List.eq_nil_of_length_eq_zero (by omega)
      obtain ⟨a3, c3, rfl⟩ := row3'.rowsNil all3'
      obtain ⟨a4, c4, rfl⟩ := row4.rowsNil all4
      simp only [List.length_nil]
      go_wp2_with (go_at_call 13; refine (same_any _ _ _ _ _ h1 h2).mono ?_; rintro e w' ⟨rfl, rfl⟩)
      go_loopw [68] (fun i wr => i = .int .i64 0 ∧ wr = w') (fun _ _ => 0)
      case atStart => exact ⟨rfl, rfl⟩
      case round =>
        obtain ⟨rfl, rfl⟩ := hrel
        go_wp2_with (go_at_call 9; refine (lives_any _ s4.tab).mono ?_; rintro e w5 ⟨rfl, b5⟩)
        go_ret
        exact ⟨rfl, (s4.go b5).bel⟩
end Go.Proofs.YtpdmcodnnhbchaaDoor
