/-
  THE WALKS of the laws MaskSets, MaskLists and MaskSlides.
-/
import Derived.Test.YtalphedaiehlbaaDoorLives
namespace Go.Proofs.YtalphedaiehlbaaDoor
open Go.RowKit

/-- What was made on the way lies beyond: the table is as it was, whatever lay lies as it lay. -/
structure Since (w w' : World) : Prop where
  tab : Tab w'
  bel : Below w.heap.size w w'
theorem Since.refl {w : World} (h : Tab w) : Since w w := ⟨h, Below.refl _ _⟩
theorem Since.go {w w1 w2 : World} (h : Since w w1) (b : Below w1.heap.size w1 w2) : Since w w2 := ⟨h.tab.below b h.tab.pos, h.bel.trans (b.mono h.bel.size)⟩
theorem Since.row {w w1 w2 : World} {v : Value} {cs : List Value} (_ : Since w w1) (h : Row w1 v cs) (b : Below w1.heap.size w1 w2) : Row w2 v cs := h.below b (Nat.le_refl _)

set_option maxHeartbeats 400000 in
theorem sets_law (m : Nat) (n : Int) (w : World) (hm : IsSet m) (hT : Tab w) :
    Calls Tryd.prog 3 #[.int .u64 m, .int .i64 n] w fun e w' => e = .returned (.bool true) ∧ Below w.heap.size w w' := by
  go_enter Tryd.func3, Tryd.ntmps3
  go_wp2_with (first
    | (go_at_call 9; refine (has_any m n _ hm).mono ?_; rintro e w' ⟨rfl, rfl⟩)
    | (go_at_call 10; refine (rhas_any m n _ hm).mono ?_; rintro e w' ⟨rfl, rfl⟩)
    | (go_at_call 11; refine (with_any m n _ hm).mono ?_; rintro e w1 ⟨rfl, b1⟩)
    | (go_at_call 12; refine (rwith_any m n _ hm).mono ?_; rintro e w' ⟨rfl, rfl⟩)
    | (go_at_call 13; refine (without_any m n _ hm).mono ?_; rintro e w' ⟨rfl, rfl⟩)
    | (go_at_call 14; refine (rwithout_any m n _ hm).mono ?_; rintro e w2 ⟨rfl, b2⟩)
    | (go_at_call 15; refine (below_any n _).mono ?_; rintro e w' ⟨rfl, rfl⟩)
    | (go_at_call 16; refine (rbelow_any n _).mono ?_; rintro e w' ⟨rfl, rfl⟩)
    | (go_at_call 17; refine (lives_any _ (((Since.refl hT).go b1).go b2).tab).mono ?_; rintro e w3 ⟨rfl, b3⟩))
  go_ret
  exact ⟨rfl, ((((Since.refl hT).go b1).go b2).go b3).bel⟩

set_option maxHeartbeats 400000 in
theorem slides_law (m : Nat) (n : Int) (v : Value) (l : List Int) (w : World) (hm : IsSet m) (hT : Tab w) (hl : Row w v (icells l)) :
    Calls Tryd.prog 5 #[.int .u64 m, .int .i64 n, v] w fun e w' => e = .returned (.bool true) ∧ Below w.heap.size w w' := by
  obtain ⟨a, cap, hv⟩ := hl.sliceInts
  subst hv
  go_enter Tryd.func5, Tryd.ntmps5
  by_cases hlong : 1000 < l.length
  · go_wp2_with (go_at_call 17; refine (lives_any _ hT).mono ?_; rintro e w3 ⟨rfl, b3⟩)
    go_ret
    exact ⟨rfl, b3⟩
  · go_wp2_with (first
      | (go_at_call 24; refine (slide_any m n _).mono ?_; rintro e w' ⟨rfl, rfl⟩)
      | (go_at_call 25; refine (rslide_any m n _ hm).mono ?_; rintro e w1 ⟨rfl, b1⟩)
      | (go_at_call 26; refine (of_any _ l _ (hl.below b1 (Nat.le_refl _))).mono ?_; rintro e w' ⟨rfl, rfl⟩)
      | (go_at_call 27; refine (rof_any _ l _ (hl.below b1 (Nat.le_refl _))).mono ?_; rintro e w' ⟨rfl, rfl⟩)
      | (go_at_call 17; refine (lives_any _ ((Since.refl hT).go b1).tab).mono ?_; rintro e w3 ⟨rfl, b3⟩))
    go_ret
    exact ⟨rfl, (((Since.refl hT).go b1).go b3).bel⟩

theorem pick_take (m : Nat) (stop : Int) (h : 0 ≤ stop ∧ stop < (listS m).length) : pickS m stop = (listS m).take stop.toNat := by unfold pickS; rw [if_pos h]
theorem pick_all (m : Nat) (stop : Int) (h : ¬ (0 ≤ stop ∧ stop < (listS m).length)) : pickS m stop = listS m := by unfold pickS; rw [if_neg h]
theorem icells_take (l : List Int) (k : Nat) : (icells l).take k = icells (l.take k) := by unfold icells; rw [List.map_take]

theorem Row.takeInts {w : World} {v : Value} {l : List Int} (h : Row w v (icells l)) (k : Nat) (hk : k ≤ l.length) (hp : 0 < l.length) :
    ∃ b off cap, v = .slice (some ⟨b, off, none⟩) l.length cap ∧ l.length ≤ cap ∧ cap ≤ maxLen ∧ Row w (.slice (some ⟨b, off, none⟩) k cap) (icells (l.take k)) := by
  obtain ⟨b, off, cap, hv, h1, h2, _⟩ := h.atInts hp
  obtain ⟨a, cap', hv', hr⟩ := h.take k (by rw [icells_length]; exact hk) (by rw [icells_length]; exact hp)
  rw [hv, icells_length] at hv'
  injection hv' with e1 _ e3
  injection e1 with e1
  subst e1 e3
  exact ⟨b, off, cap, hv, h1, h2, by rw [← icells_take]; exact hr⟩

set_option maxHeartbeats 1000000 in
theorem lists_law (m : Nat) (stop : Int) (w : World) (hm : IsSet m) (hT : Tab w) :
    Calls Tryd.prog 4 #[.int .u64 m, .int .i64 stop] w fun e w' => e = .returned (.bool true) ∧ Below w.heap.size w w' := by
  have hlen : (listS m).length ≤ 64 := by rw [listS_length]; exact listN_length m
  go_enter Tryd.func4, Tryd.ntmps4
  go_wp2_with fail
  refine (rlist_any m _ hm).mono ?_
  rintro e w1 ⟨v, rfl, own, b1⟩
  have s1 := (Since.refl hT).go b1
  by_cases hs : 0 ≤ stop ∧ stop < (listS m).length
  · obtain ⟨b, off, cap, rfl, hc1, hc2, htake⟩ := own.row.takeInts stop.toNat (by omega) (by omega)
    rw [← pick_take m stop hs] at htake
    obtain ⟨hs1, hs2⟩ := hs
    unfold maxLen at hc2
    go_wp2_with (first
      | (go_at_call 20; refine (list_any m stop _ hm s1.tab).mono ?_; rintro e w2 ⟨v2, rfl, r2, b2⟩; obtain ⟨a2, c2, rfl⟩ := r2.sliceInts; have s2 := s1.go b2)
      | (go_at_call 19; refine (ints_any _ _ _ _ _ r2 (htake.below b2 (Nat.le_refl _))).mono ?_; rintro e w3 ⟨rfl, b3⟩; have s3 := s2.go b3)
      | (go_at_call 21; refine (size_any m _ hm s3.tab).mono ?_; rintro e w4 ⟨rfl, b4⟩; have s4 := s3.go b4)
      | (go_at_call 18; refine (rlist_any m _ hm).mono ?_; rintro e w5 ⟨v5, rfl, own5, b5⟩; obtain ⟨a5, c5, rfl⟩ := own5.row.sliceInts; have s5 := s4.go b5)
      | (go_at_call 22; refine (run_any m _ hm s5.tab).mono ?_; rintro e w6 ⟨rfl, b6⟩; have s6 := s5.go b6)
      | (go_at_call 23; refine (rrun_any m _ hm).mono ?_; rintro e w' ⟨rfl, rfl⟩)
      | (go_at_call 17; refine (lives_any _ s6.tab).mono ?_; rintro e w7 ⟨rfl, b7⟩))
    go_ret
    exact ⟨rfl, (s6.go b7).bel⟩
  · have hp := pick_all m stop hs
    obtain ⟨a, cap, rfl⟩ := own.row.sliceInts
    have htake : Row w1 (.slice a (listS m).length cap) (icells (pickS m stop)) := by rw [hp]; exact own.row
    clear hp
    rcases Int.lt_or_le stop 0 with hs0 | hs0
    · go_wp2_with (first
        | (go_at_call 20; refine (list_any m stop _ hm s1.tab).mono ?_; rintro e w2 ⟨v2, rfl, r2, b2⟩; obtain ⟨a2, c2, rfl⟩ := r2.sliceInts; have s2 := s1.go b2)
        | (go_at_call 19; refine (ints_any _ _ _ _ _ r2 (htake.below b2 (Nat.le_refl _))).mono ?_; rintro e w3 ⟨rfl, b3⟩; have s3 := s2.go b3)
        | (go_at_call 21; refine (size_any m _ hm s3.tab).mono ?_; rintro e w4 ⟨rfl, b4⟩; have s4 := s3.go b4)
        | (go_at_call 18; refine (rlist_any m _ hm).mono ?_; rintro e w5 ⟨v5, rfl, own5, b5⟩; obtain ⟨a5, c5, rfl⟩ := own5.row.sliceInts; have s5 := s4.go b5)
        | (go_at_call 22; refine (run_any m _ hm s5.tab).mono ?_; rintro e w6 ⟨rfl, b6⟩; have s6 := s5.go b6)
        | (go_at_call 23; refine (rrun_any m _ hm).mono ?_; rintro e w' ⟨rfl, rfl⟩)
        | (go_at_call 17; refine (lives_any _ s6.tab).mono ?_; rintro e w7 ⟨rfl, b7⟩))
      go_ret
      exact ⟨rfl, (s6.go b7).bel⟩
    · have hs2 : ¬ stop < (listS m).length := fun h => hs ⟨hs0, h⟩
      clear hs
      go_wp2_with (first
        | (go_at_call 20; refine (list_any m stop _ hm s1.tab).mono ?_; rintro e w2 ⟨v2, rfl, r2, b2⟩; obtain ⟨a2, c2, rfl⟩ := r2.sliceInts; have s2 := s1.go b2)
        | (go_at_call 19; refine (ints_any _ _ _ _ _ r2 (htake.below b2 (Nat.le_refl _))).mono ?_; rintro e w3 ⟨rfl, b3⟩; have s3 := s2.go b3)
        | (go_at_call 21; refine (size_any m _ hm s3.tab).mono ?_; rintro e w4 ⟨rfl, b4⟩; have s4 := s3.go b4)
        | (go_at_call 18; refine (rlist_any m _ hm).mono ?_; rintro e w5 ⟨v5, rfl, own5, b5⟩; obtain ⟨a5, c5, rfl⟩ := own5.row.sliceInts; have s5 := s4.go b5)
        | (go_at_call 22; refine (run_any m _ hm s5.tab).mono ?_; rintro e w6 ⟨rfl, b6⟩; have s6 := s5.go b6)
        | (go_at_call 23; refine (rrun_any m _ hm).mono ?_; rintro e w' ⟨rfl, rfl⟩)
        | (go_at_call 17; refine (lives_any _ s6.tab).mono ?_; rintro e w7 ⟨rfl, b7⟩))
      go_ret
      exact ⟨rfl, (s6.go b7).bel⟩
end Go.Proofs.YtalphedaiehlbaaDoor
