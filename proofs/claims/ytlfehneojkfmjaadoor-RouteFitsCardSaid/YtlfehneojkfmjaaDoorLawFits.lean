/-
  RouteFits, walked.
-/
import Derived.Test.YtlfehneojkfmjaaDoorLives8
namespace Go.Proofs.YtlfehneojkfmjaaDoor
open Go.RowKit Go.Sort Go.Shelf

theorem cell_on {w w' : World} {b j : Nat} {v : Value} (hb : Below w.heap.size w w') (h : w.cell? ⟨b, j, none⟩ = some v) : w'.cell? ⟨b, j, none⟩ = some v :=
  (hb.cell (p := ⟨b, j, none⟩) (World.block_lt_of_cell? _ _ h)).trans h
theorem keptW {w w1 w2 : World} (h : Below w.heap.size w w1) (b : Below w1.heap.size w1 w2) : Below w.heap.size w w2 := h.trans (b.mono h.size)

set_option maxRecDepth 20000 in
set_option maxHeartbeats 4000000 in
theorem fits_law (x : Ex) (s key : ByteArray) (w : World) (hx : x.name.size ≤ maxLen) (hs : s.size ≤ maxLen) (hk : key.size ≤ maxLen) :
    Calls Tryd.prog 3 #[xv x, .string s, .string key] w fun e w' => e = .returned (.bool true) ∧ Below w.heap.size w w' := by
  obtain ⟨W, fold⟩ : ∃ W, w.alloc (.cells #[.string x.name, .int .i64 x.kind, .bool x.fed] 23) = W := ⟨_, rfl⟩
  have bW : Below w.heap.size w W := by rw [← fold]; exact (Below.refl _ _).alloc (Nat.le_refl _) _
  have x0 : W.cell? ⟨w.heap.size, 0, none⟩ = some (.string x.name) := by rw [← fold]; exact cell_of_list (C := xcells x) (heap_alloc_new w _) 0
  have x1 : W.cell? ⟨w.heap.size, 1, none⟩ = some (.int .i64 x.kind) := by rw [← fold]; exact cell_of_list (C := xcells x) (heap_alloc_new w _) 1
  have x2 : W.cell? ⟨w.heap.size, 2, none⟩ = some (.bool x.fed) := by rw [← fold]; exact cell_of_list (C := xcells x) (heap_alloc_new w _) 2
  have h1 := fun W => fits_any x s key W hx hs hk
  have h2 := fun W => rfits8_any x s key W hx hs hk
  generalize fitsX x s key = r at h1 h2
  have HL : Hid (∀ V, Calls Tryd.prog 5 #[] V fun e w' => e = .returned (.bool true) ∧ Below V.heap.size V w') := lives_any
  have l1 : x.name.size ≤ 9223372036854775807 := hx
  have l2 : s.size ≤ 9223372036854775807 := hs
  have l3 : key.size ≤ 9223372036854775807 := hk
  cases r
  all_goals go_enter Tryd.func3, Tryd.ntmps3
  all_goals go_wp2_with (go_at_call 5; refine (HL.out _).mono ?_; rintro e w4 ⟨rfl, b4⟩)
  all_goals try (go_ret; exact ⟨rfl, bW.trans (b4.mono bW.size)⟩)
  all_goals have bD : Below w.heap.size w W.drew := bW.drew
  all_goals go_region_held3 (fun w' => w'.cell? ⟨w.heap.size, 0, none⟩ = some (.string x.name) ∧ w'.cell? ⟨w.heap.size, 1, none⟩ = some (.int .i64 x.kind) ∧ w'.cell? ⟨w.heap.size, 2, none⟩ = some (.bool x.fed) ∧ Below w.heap.size w w') (go_keep) (first
    | (go_at_call 6; refine (h1 _).mono ?_; rintro e wq ⟨rfl, bq⟩; have q0 := cell_on bq (v := .string x.name) (by assumption); have q1 := cell_on bq (v := .int .i64 x.kind) (by assumption); have q2 := cell_on bq (v := .bool x.fed) (by assumption); have q3 := keptW (w := w) (by assumption) bq)
    | (go_at_call 7; refine (h2 _).mono ?_; rintro e wq ⟨rfl, bq⟩; have q0 := cell_on bq (v := .string x.name) (by assumption); have q1 := cell_on bq (v := .int .i64 x.kind) (by assumption); have q2 := cell_on bq (v := .bool x.fed) (by assumption); have q3 := keptW (w := w) (by assumption) bq)
    | (go_at_call 5; refine (HL.out _).mono ?_; rintro e wq ⟨rfl, bq⟩; have q0 := cell_on bq (v := .string x.name) (by assumption); have q1 := cell_on bq (v := .int .i64 x.kind) (by assumption); have q2 := cell_on bq (v := .bool x.fed) (by assumption); have q3 := keptW (w := w) (by assumption) bq))
  all_goals go_wp2
  all_goals go_ret
  all_goals exact ⟨rfl, by assumption⟩
end Go.Proofs.YtlfehneojkfmjaaDoor
