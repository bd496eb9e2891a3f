/-
  TopoTells: the law's walk; what the other laws share.
-/
import Derived.Test.YtcfagojkeholmaaLawTells
import Derived.Deep.RegionHeld3
namespace Go.Proofs.Ytcfagojkeholmaa
open Go.RowKit Go.Sort Go.Shelf

set_option maxRecDepth 20000 in
set_option maxHeartbeats 4000000 in
theorem ways_law (S H a b : Int) (v : Value) (l : List (Int × Int)) (w : World) (hr : RowOf ecells w v l) :
    Calls Try.prog 4 #[tv S v H, .int .i64 a, .int .i64 b] w fun e w' => e = .returned (.bool true) ∧ Below w.heap.size w w' := by
  obtain ⟨ad, cap, rfl⟩ := hr.slice
  have hl : l.length ≤ 9223372036854775807 := by have := hr.eds.2.1; unfold maxLen at this; omega
  obtain ⟨W, fold⟩ : ∃ W, w.alloc (.cells #[.int .i64 S, .slice ad l.length cap, .int .i64 H] 24) = W := ⟨_, rfl⟩
  have hB0 : Boxed w W S (.slice ad l.length cap) H := by rw [← fold]; exact boxed_new _ _ _ _
  have bW := hB0.bel
  have x0 := hB0.c0
  have x1 := hB0.c1
  have x2 := hB0.c2
  have HR : Hid (RowOf ecells w (.slice ad l.length cap) l) := hr
  clear hr hB0
  have HL : Hid (∀ V, Calls Try.prog 8 #[] V fun e w' => e = .returned (.bool true) ∧ Below V.heap.size V w') := lives_any
  have h1 := fun W hW => within_any S H a (.slice ad l.length cap) l W hW
  have h2 := fun W hW => rwithin_any S H a (.slice ad l.length cap) l W hW
  have h4 := fun W hW => onward_any S H a b (.slice ad l.length cap) l W hW
  have h5 := fun W hW => ronward_any S H a b (.slice ad l.length cap) l W hW
  have h7 := fun W hW => rounds_any S H (.slice ad l.length cap) l W hW
  have h8 := fun W hW => rrounds_any S H (.slice ad l.length cap) l W hW
  generalize withinT S l H a = L at h1 h2
  generalize onwardT S l H a b = M at h4 h5
  generalize roundsT S l H = y at h7 h8
  by_cases h200 : 200 < l.length
  · have h200' : (200 : Int) < (l.length : Int) := by omega
    go_enter Try.func4, Try.ntmps4
    go_wp2_with (go_at_call 8; refine (HL.out _).mono ?_; rintro e w4 ⟨rfl, b4⟩)
    go_ret
    exact ⟨rfl, bW.trans (b4.mono bW.size)⟩
  · have h200' : ¬ (200 : Int) < (l.length : Int) := by omega
    go_enter Try.func4, Try.ntmps4
    go_wp2
    have bD : Below w.heap.size w W.drew := bW.drew
    go_region_held3 (fun w' => w'.cell? ⟨w.heap.size, 0, none⟩ = some (.int .i64 S) ∧ w'.cell? ⟨w.heap.size, 1, none⟩ = some (.slice ad l.length cap) ∧ w'.cell? ⟨w.heap.size, 2, none⟩ = some (.int .i64 H) ∧ Below w.heap.size w w') (go_keep) (first
      | (go_at_call 16; refine (h1 _ (HR.out.below (by assumption) (Nat.le_refl _))).mono ?_; rintro e w1 ⟨v1, rfl, r1, b1⟩; have hr1 : Hid (Row w1 v1 (icells L)) := r1.row; clear r1; have q0 := cell_on (b := w.heap.size) (j := 0) (v := .int .i64 S) b1 (by assumption); have q1 := cell_on (b := w.heap.size) (j := 1) (v := .slice ad l.length cap) b1 (by assumption); have q2 := cell_on (b := w.heap.size) (j := 2) (v := .int .i64 H) b1 (by assumption); have q3 := keptW (w := w) (by assumption) b1)
      | (go_at_call 17; refine (h2 _ (HR.out.below (by assumption) (Nat.le_refl _))).mono ?_; rintro e w2 ⟨v2, rfl, r2, b2⟩; have hr2 : Hid (Row w2 v2 (icells L)) := r2.row; clear r2; have hr1' : Hid (Row w2 v1 (icells L)) := hr1.out.below b2 (Nat.le_refl _); have q0 := cell_on (b := w.heap.size) (j := 0) (v := .int .i64 S) b2 (by assumption); have q1 := cell_on (b := w.heap.size) (j := 1) (v := .slice ad l.length cap) b2 (by assumption); have q2 := cell_on (b := w.heap.size) (j := 2) (v := .int .i64 H) b2 (by assumption); have q3 := keptW (w := w) (by assumption) b2)
      | (go_at_call 18; refine (h4 _ (HR.out.below (by assumption) (Nat.le_refl _))).mono ?_; rintro e w4 ⟨v4, rfl, r4, b4⟩; have hr4 : Hid (Row w4 v4 (icells M)) := r4.row; clear r4; have q0 := cell_on (b := w.heap.size) (j := 0) (v := .int .i64 S) b4 (by assumption); have q1 := cell_on (b := w.heap.size) (j := 1) (v := .slice ad l.length cap) b4 (by assumption); have q2 := cell_on (b := w.heap.size) (j := 2) (v := .int .i64 H) b4 (by assumption); have q3 := keptW (w := w) (by assumption) b4)
      | (go_at_call 19; refine (h5 _ (HR.out.below (by assumption) (Nat.le_refl _))).mono ?_; rintro e w5 ⟨v5, rfl, r5, b5⟩; have hr5 : Hid (Row w5 v5 (icells M)) := r5.row; clear r5; have hr4' : Hid (Row w5 v4 (icells M)) := hr4.out.below b5 (Nat.le_refl _); have q0 := cell_on (b := w.heap.size) (j := 0) (v := .int .i64 S) b5 (by assumption); have q1 := cell_on (b := w.heap.size) (j := 1) (v := .slice ad l.length cap) b5 (by assumption); have q2 := cell_on (b := w.heap.size) (j := 2) (v := .int .i64 H) b5 (by assumption); have q3 := keptW (w := w) (by assumption) b5)
      | (go_at_call 11; refine (ints_any _ _ _ _ _ hr4'.out hr5.out).mono ?_; rintro e w6 ⟨rfl, b6⟩; have q0 := cell_on (b := w.heap.size) (j := 0) (v := .int .i64 S) b6 (by assumption); have q1 := cell_on (b := w.heap.size) (j := 1) (v := .slice ad l.length cap) b6 (by assumption); have q2 := cell_on (b := w.heap.size) (j := 2) (v := .int .i64 H) b6 (by assumption); have q3 := keptW (w := w) (by assumption) b6)
      | (go_at_call 11; refine (ints_any _ _ _ _ _ hr1'.out hr2.out).mono ?_; rintro e w3 ⟨rfl, b3⟩; have q0 := cell_on (b := w.heap.size) (j := 0) (v := .int .i64 S) b3 (by assumption); have q1 := cell_on (b := w.heap.size) (j := 1) (v := .slice ad l.length cap) b3 (by assumption); have q2 := cell_on (b := w.heap.size) (j := 2) (v := .int .i64 H) b3 (by assumption); have q3 := keptW (w := w) (by assumption) b3)
      | (go_at_call 20; refine (h7 _ (HR.out.below (by assumption) (Nat.le_refl _))).mono ?_; rintro e w7 ⟨rfl, b7⟩; have q0 := cell_on (b := w.heap.size) (j := 0) (v := .int .i64 S) b7 (by assumption); have q1 := cell_on (b := w.heap.size) (j := 1) (v := .slice ad l.length cap) b7 (by assumption); have q2 := cell_on (b := w.heap.size) (j := 2) (v := .int .i64 H) b7 (by assumption); have q3 := keptW (w := w) (by assumption) b7)
      | (go_at_call 21; refine (h8 _ (HR.out.below (by assumption) (Nat.le_refl _))).mono ?_; rintro e w8 ⟨rfl, b8⟩; have q0 := cell_on (b := w.heap.size) (j := 0) (v := .int .i64 S) b8 (by assumption); have q1 := cell_on (b := w.heap.size) (j := 1) (v := .slice ad l.length cap) b8 (by assumption); have q2 := cell_on (b := w.heap.size) (j := 2) (v := .int .i64 H) b8 (by assumption); have q3 := keptW (w := w) (by assumption) b8)
      | (go_at_call 8; refine (HL.out _).mono ?_; rintro e w9 ⟨rfl, b9⟩; have q0 := cell_on (b := w.heap.size) (j := 0) (v := .int .i64 S) b9 (by assumption); have q1 := cell_on (b := w.heap.size) (j := 1) (v := .slice ad l.length cap) b9 (by assumption); have q2 := cell_on (b := w.heap.size) (j := 2) (v := .int .i64 H) b9 (by assumption); have q3 := keptW (w := w) (by assumption) b9))
    all_goals go_wp2
    all_goals go_ret
    all_goals exact ⟨rfl, by assumption⟩

end Go.Proofs.Ytcfagojkeholmaa
