/-
  TopoTells: the law's walk; what the other laws share.
-/
import Derived.Test.YtcfagojkeholmaaRTells2
import Derived.Deep.RegionHeld3
namespace Go.Proofs.Ytcfagojkeholmaa
open Go.RowKit Go.Sort Go.Shelf

theorem cell_on {w w' : World} {b j : Nat} {v : Value} (hb : Below w.heap.size w w') (h : w.cell? ⟨b, j, none⟩ = some v) : w'.cell? ⟨b, j, none⟩ = some v :=
  (hb.cell (p := ⟨b, j, none⟩) (World.block_lt_of_cell? _ _ h)).trans h
theorem keptW {w w1 w2 : World} (h : Below w.heap.size w w1) (b : Below w1.heap.size w1 w2) : Below w.heap.size w w2 := h.trans (b.mono h.size)

set_option maxRecDepth 20000 in
set_option maxHeartbeats 4000000 in
theorem tells_law (S H a b : Int) (v : Value) (l : List (Int × Int)) (w : World) (hr : RowOf ecells w v l) :
    Calls Try.prog 3 #[tv S v H, .int .i64 a, .int .i64 b] w fun e w' => e = .returned (.bool true) ∧ Below w.heap.size w w' := by
  obtain ⟨ad, cap, rfl⟩ := hr.slice
  have hl : l.length ≤ 9223372036854775807 := by have := hr.eds.2.1; unfold maxLen at this; omega
  obtain ⟨W, fold⟩ : ∃ W, w.alloc (.cells #[.int .i64 S, .slice ad l.length cap, .int .i64 H] 24) = W := ⟨_, rfl⟩
  have hB0 : Boxed w W S (.slice ad l.length cap) H := by rw [← fold]; exact boxed_new _ _ _ _
  have bW := hB0.bel
  have x0 := hB0.c0
  have x1 := hB0.c1
  have x2 := hB0.c2
  have HR : Hid (RowOf ecells w (.slice ad l.length cap) l) := hr
  clear hr hB0
  have HL : Hid (∀ V, Calls Try.prog 8 #[] V fun e w' => e = .returned (.bool true) ∧ Below V.heap.size V w') := lives_any
  have h1 := fun W hW => good_any S H (.slice ad l.length cap) l W hW
  have h2 := fun W hW => rgood_any S H (.slice ad l.length cap) l W hW
  have h3 := fun W hW => next_any S H a (.slice ad l.length cap) l W hW
  have h4 := fun W hW => rnext_any S H a (.slice ad l.length cap) l W hW
  have h6 := fun W hW => far_any S H a b (.slice ad l.length cap) l W hW
  have h7 := fun W hW => rfar_any S H a b (.slice ad l.length cap) l W hW
  generalize nextT S l H a = L at h3 h4
  generalize farT S l H a b = y at h6 h7
  generalize goodB S l H = r at h1 h2
  cases r
  · by_cases h200 : 200 < l.length
    · have h200' : (200 : Int) < (l.length : Int) := by omega
      go_enter Try.func3, Try.ntmps3
      go_wp2_with (go_at_call 8; refine (HL.out _).mono ?_; rintro e w4 ⟨rfl, b4⟩)
      go_ret
      exact ⟨rfl, bW.trans (b4.mono bW.size)⟩
    · have h200' : ¬ (200 : Int) < (l.length : Int) := by omega
      go_enter Try.func3, Try.ntmps3
      go_wp2
      have bD : Below w.heap.size w W.drew := bW.drew
      go_region_held3 (fun w' => w'.cell? ⟨w.heap.size, 0, none⟩ = some (.int .i64 S) ∧ w'.cell? ⟨w.heap.size, 1, none⟩ = some (.slice ad l.length cap) ∧ w'.cell? ⟨w.heap.size, 2, none⟩ = some (.int .i64 H) ∧ Below w.heap.size w w') (go_keep) (first
        | (go_at_call 9; refine (h1 _ (HR.out.below (by assumption) (Nat.le_refl _))).mono ?_; rintro e w1 ⟨rfl, b1⟩; have q0 := cell_on (b := w.heap.size) (j := 0) (v := .int .i64 S) b1 (by assumption); have q1 := cell_on (b := w.heap.size) (j := 1) (v := .slice ad l.length cap) b1 (by assumption); have q2 := cell_on (b := w.heap.size) (j := 2) (v := .int .i64 H) b1 (by assumption); have q3 := keptW (w := w) (by assumption) b1)
        | (go_at_call 10; refine (h2 _ (HR.out.below (by assumption) (Nat.le_refl _))).mono ?_; rintro e w2 ⟨rfl, b2⟩; have q0 := cell_on (b := w.heap.size) (j := 0) (v := .int .i64 S) b2 (by assumption); have q1 := cell_on (b := w.heap.size) (j := 1) (v := .slice ad l.length cap) b2 (by assumption); have q2 := cell_on (b := w.heap.size) (j := 2) (v := .int .i64 H) b2 (by assumption); have q3 := keptW (w := w) (by assumption) b2)
        | (go_at_call 12; refine (h3 _ (HR.out.below (by assumption) (Nat.le_refl _))).mono ?_; rintro e w3 ⟨v3, rfl, r3, b3⟩; have hr3 : Hid (Row w3 v3 (icells L)) := r3.row; clear r3; have q0 := cell_on (b := w.heap.size) (j := 0) (v := .int .i64 S) b3 (by assumption); have q1 := cell_on (b := w.heap.size) (j := 1) (v := .slice ad l.length cap) b3 (by assumption); have q2 := cell_on (b := w.heap.size) (j := 2) (v := .int .i64 H) b3 (by assumption); have q3 := keptW (w := w) (by assumption) b3)
        | (go_at_call 13; refine (h4 _ (HR.out.below (by assumption) (Nat.le_refl _))).mono ?_; rintro e w4 ⟨v4, rfl, r4, b4⟩; have hr4 : Hid (Row w4 v4 (icells L)) := r4.row; clear r4; have hr3' : Hid (Row w4 v3 (icells L)) := hr3.out.below b4 (Nat.le_refl _); have q0 := cell_on (b := w.heap.size) (j := 0) (v := .int .i64 S) b4 (by assumption); have q1 := cell_on (b := w.heap.size) (j := 1) (v := .slice ad l.length cap) b4 (by assumption); have q2 := cell_on (b := w.heap.size) (j := 2) (v := .int .i64 H) b4 (by assumption); have q3 := keptW (w := w) (by assumption) b4)
        | (go_at_call 11; refine (ints_any _ _ _ _ _ hr3'.out hr4.out).mono ?_; rintro e w5 ⟨rfl, b5⟩; have q0 := cell_on (b := w.heap.size) (j := 0) (v := .int .i64 S) b5 (by assumption); have q1 := cell_on (b := w.heap.size) (j := 1) (v := .slice ad l.length cap) b5 (by assumption); have q2 := cell_on (b := w.heap.size) (j := 2) (v := .int .i64 H) b5 (by assumption); have q3 := keptW (w := w) (by assumption) b5)
        | (go_at_call 14; refine (h6 _ (HR.out.below (by assumption) (Nat.le_refl _))).mono ?_; rintro e w6 ⟨rfl, b6⟩; have q0 := cell_on (b := w.heap.size) (j := 0) (v := .int .i64 S) b6 (by assumption); have q1 := cell_on (b := w.heap.size) (j := 1) (v := .slice ad l.length cap) b6 (by assumption); have q2 := cell_on (b := w.heap.size) (j := 2) (v := .int .i64 H) b6 (by assumption); have q3 := keptW (w := w) (by assumption) b6)
        | (go_at_call 15; refine (h7 _ (HR.out.below (by assumption) (Nat.le_refl _))).mono ?_; rintro e w7 ⟨rfl, b7⟩; have q0 := cell_on (b := w.heap.size) (j := 0) (v := .int .i64 S) b7 (by assumption); have q1 := cell_on (b := w.heap.size) (j := 1) (v := .slice ad l.length cap) b7 (by assumption); have q2 := cell_on (b := w.heap.size) (j := 2) (v := .int .i64 H) b7 (by assumption); have q3 := keptW (w := w) (by assumption) b7)
        | (go_at_call 8; refine (HL.out _).mono ?_; rintro e w8 ⟨rfl, b8⟩; have q0 := cell_on (b := w.heap.size) (j := 0) (v := .int .i64 S) b8 (by assumption); have q1 := cell_on (b := w.heap.size) (j := 1) (v := .slice ad l.length cap) b8 (by assumption); have q2 := cell_on (b := w.heap.size) (j := 2) (v := .int .i64 H) b8 (by assumption); have q3 := keptW (w := w) (by assumption) b8))
      all_goals go_wp2
      all_goals go_ret
      all_goals exact ⟨rfl, by assumption⟩
  · by_cases h200 : 200 < l.length
    · have h200' : (200 : Int) < (l.length : Int) := by omega
      go_enter Try.func3, Try.ntmps3
      go_wp2_with (go_at_call 8; refine (HL.out _).mono ?_; rintro e w4 ⟨rfl, b4⟩)
      go_ret
      exact ⟨rfl, bW.trans (b4.mono bW.size)⟩
    · have h200' : ¬ (200 : Int) < (l.length : Int) := by omega
      go_enter Try.func3, Try.ntmps3
      go_wp2
      have bD : Below w.heap.size w W.drew := bW.drew
      go_region_held3 (fun w' => w'.cell? ⟨w.heap.size, 0, none⟩ = some (.int .i64 S) ∧ w'.cell? ⟨w.heap.size, 1, none⟩ = some (.slice ad l.length cap) ∧ w'.cell? ⟨w.heap.size, 2, none⟩ = some (.int .i64 H) ∧ Below w.heap.size w w') (go_keep) (first
        | (go_at_call 9; refine (h1 _ (HR.out.below (by assumption) (Nat.le_refl _))).mono ?_; rintro e w1 ⟨rfl, b1⟩; have q0 := cell_on (b := w.heap.size) (j := 0) (v := .int .i64 S) b1 (by assumption); have q1 := cell_on (b := w.heap.size) (j := 1) (v := .slice ad l.length cap) b1 (by assumption); have q2 := cell_on (b := w.heap.size) (j := 2) (v := .int .i64 H) b1 (by assumption); have q3 := keptW (w := w) (by assumption) b1)
        | (go_at_call 10; refine (h2 _ (HR.out.below (by assumption) (Nat.le_refl _))).mono ?_; rintro e w2 ⟨rfl, b2⟩; have q0 := cell_on (b := w.heap.size) (j := 0) (v := .int .i64 S) b2 (by assumption); have q1 := cell_on (b := w.heap.size) (j := 1) (v := .slice ad l.length cap) b2 (by assumption); have q2 := cell_on (b := w.heap.size) (j := 2) (v := .int .i64 H) b2 (by assumption); have q3 := keptW (w := w) (by assumption) b2)
        | (go_at_call 12; refine (h3 _ (HR.out.below (by assumption) (Nat.le_refl _))).mono ?_; rintro e w3 ⟨v3, rfl, r3, b3⟩; have hr3 : Hid (Row w3 v3 (icells L)) := r3.row; clear r3; have q0 := cell_on (b := w.heap.size) (j := 0) (v := .int .i64 S) b3 (by assumption); have q1 := cell_on (b := w.heap.size) (j := 1) (v := .slice ad l.length cap) b3 (by assumption); have q2 := cell_on (b := w.heap.size) (j := 2) (v := .int .i64 H) b3 (by assumption); have q3 := keptW (w := w) (by assumption) b3)
        | (go_at_call 13; refine (h4 _ (HR.out.below (by assumption) (Nat.le_refl _))).mono ?_; rintro e w4 ⟨v4, rfl, r4, b4⟩; have hr4 : Hid (Row w4 v4 (icells L)) := r4.row; clear r4; have hr3' : Hid (Row w4 v3 (icells L)) := hr3.out.below b4 (Nat.le_refl _); have q0 := cell_on (b := w.heap.size) (j := 0) (v := .int .i64 S) b4 (by assumption); have q1 := cell_on (b := w.heap.size) (j := 1) (v := .slice ad l.length cap) b4 (by assumption); have q2 := cell_on (b := w.heap.size) (j := 2) (v := .int .i64 H) b4 (by assumption); have q3 := keptW (w := w) (by assumption) b4)
        | (go_at_call 11; refine (ints_any _ _ _ _ _ hr3'.out hr4.out).mono ?_; rintro e w5 ⟨rfl, b5⟩; have q0 := cell_on (b := w.heap.size) (j := 0) (v := .int .i64 S) b5 (by assumption); have q1 := cell_on (b := w.heap.size) (j := 1) (v := .slice ad l.length cap) b5 (by assumption); have q2 := cell_on (b := w.heap.size) (j := 2) (v := .int .i64 H) b5 (by assumption); have q3 := keptW (w := w) (by assumption) b5)
        | (go_at_call 14; refine (h6 _ (HR.out.below (by assumption) (Nat.le_refl _))).mono ?_; rintro e w6 ⟨rfl, b6⟩; have q0 := cell_on (b := w.heap.size) (j := 0) (v := .int .i64 S) b6 (by assumption); have q1 := cell_on (b := w.heap.size) (j := 1) (v := .slice ad l.length cap) b6 (by assumption); have q2 := cell_on (b := w.heap.size) (j := 2) (v := .int .i64 H) b6 (by assumption); have q3 := keptW (w := w) (by assumption) b6)
        | (go_at_call 15; refine (h7 _ (HR.out.below (by assumption) (Nat.le_refl _))).mono ?_; rintro e w7 ⟨rfl, b7⟩; have q0 := cell_on (b := w.heap.size) (j := 0) (v := .int .i64 S) b7 (by assumption); have q1 := cell_on (b := w.heap.size) (j := 1) (v := .slice ad l.length cap) b7 (by assumption); have q2 := cell_on (b := w.heap.size) (j := 2) (v := .int .i64 H) b7 (by assumption); have q3 := keptW (w := w) (by assumption) b7)
        | (go_at_call 8; refine (HL.out _).mono ?_; rintro e w8 ⟨rfl, b8⟩; have q0 := cell_on (b := w.heap.size) (j := 0) (v := .int .i64 S) b8 (by assumption); have q1 := cell_on (b := w.heap.size) (j := 1) (v := .slice ad l.length cap) b8 (by assumption); have q2 := cell_on (b := w.heap.size) (j := 2) (v := .int .i64 H) b8 (by assumption); have q3 := keptW (w := w) (by assumption) b8))
      all_goals go_wp2
      all_goals go_ret
      all_goals exact ⟨rfl, by assumption⟩

end Go.Proofs.Ytcfagojkeholmaa
