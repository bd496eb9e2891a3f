/-
  PACKAGE fifo: a queue that no call made.
-/
import Derived.Test.YtocdfcaakflgpaaReset
import Derived.Test.YtocdfcaakflgpaaLives
namespace Go.Proofs.Ytocdfcaakflgpaa
open Go.RowKit Go.Sort

/-- A queue that no call made. -/
def Un (w : World) (q : Value) : Prop := q = .pointer none ∨ ∃ p, q = .pointer (some ⟨p, 0, none⟩) ∧ w.heap[p]? = some (.cells #[.int .i64 0, .int .u64 0, .slice none 0 0, .map none] 64 (0, 0))
theorem Un.below {w w' : World} {q : Value} (h : Un w q) (hb : Below w.heap.size w w') : Un w' q := by
  rcases h with h | ⟨p, hp, hw⟩
  · exact .inl h
  · exact .inr ⟨p, hp, by rw [hb.block p (Array.getElem?_eq_some_iff.1 hw).1]; exact hw⟩
set_option maxHeartbeats 400000 in
theorem un_made (q : Value) (w : World) (h : Un w q) : Calls Try.prog 29 #[q] w fun e w' => e = .returned (.bool false) ∧ w' = w := by
  rcases h with rfl | ⟨p, rfl, hw⟩
  · go_enter Try.func29, Try.ntmps29
    go_wp2
    go_ret
    exact ⟨rfl, rfl⟩
  · obtain ⟨⟨c0, c1, c2, c3⟩, _⟩ := cells4 hw
    clear hw
    go_enter Try.func29, Try.ntmps29
    go_wp2
    go_ret
    exact ⟨rfl, rfl⟩
set_option maxHeartbeats 400000 in
theorem un_most (q : Value) (w : World) (h : Un w q) : Calls Try.prog 27 #[q] w fun e w' => e = .returned (.int .i64 0) ∧ w' = w := by
  rcases h with rfl | ⟨p, rfl, hw⟩
  · go_enter Try.func27, Try.ntmps27
    go_wp2
    go_ret
    exact ⟨rfl, rfl⟩
  · obtain ⟨⟨c0, c1, c2, c3⟩, _⟩ := cells4 hw
    clear hw
    go_enter Try.func27, Try.ntmps27
    go_wp2
    go_ret
    exact ⟨rfl, rfl⟩
set_option maxHeartbeats 400000 in
theorem un_next (q : Value) (w : World) (h : Un w q) : Calls Try.prog 21 #[q] w fun e w' => e = .returned (.int .u64 0) ∧ w' = w := by
  rcases h with rfl | ⟨p, rfl, hw⟩
  · go_enter Try.func21, Try.ntmps21
    go_wp2
    go_ret
    exact ⟨rfl, rfl⟩
  · obtain ⟨⟨c0, c1, c2, c3⟩, _⟩ := cells4 hw
    clear hw
    go_enter Try.func21, Try.ntmps21
    go_wp2
    go_ret
    exact ⟨rfl, rfl⟩
set_option maxHeartbeats 400000 in
theorem un_room (q : Value) (w : World) (h : Un w q) : Calls Try.prog 26 #[q] w fun e w' => e = .returned (.int .i64 0) ∧ Below w.heap.size w w' := by
  rcases h with rfl | ⟨p, rfl, hw⟩
  · go_enter Try.func26, Try.ntmps26
    go_wp2
    go_ret
    exact ⟨rfl, Below.refl _ _⟩
  · obtain ⟨⟨c0, c1, c2, c3⟩, _⟩ := cells4 hw
    have hlen : ∀ ty q, (Builtin.len_ #[62] ty #[.map none]).run Try.prog (w.drewN q) = .ok (.int .i64 0) (w.drewN q) := fun ty q => Maps.len_nil (w := w.drewN q) Try.underlying62 ty
    clear hw
    go_enter Try.func26, Try.ntmps26
    go_wp2
    go_quiet (fail)
    go_wp2
    go_ret
    exact ⟨rfl, ⟨rfl, rfl, rfl, Nat.le_refl _, fun _ _ => rfl⟩⟩
set_option maxHeartbeats 400000 in
theorem un_ready (q : Value) (w : World) (h : Un w q) : Calls Try.prog 24 #[q] w fun e w' => ∃ v, e = .returned v ∧ Rows w' v [] ∧ Below w.heap.size w w' := by
  rcases h with rfl | ⟨p, rfl, hw⟩
  · go_enter Try.func24, Try.ntmps24
    go_wp2
    go_ret
    exact ⟨_, rfl, rowOf_nil _, Below.refl _ _⟩
  · obtain ⟨⟨c0, c1, c2, c3⟩, _⟩ := cells4 hw
    have hA := another_any (.slice none 0 0) [] w (rowOf_nil _) (by simp)
    clear hw
    go_enter Try.func24, Try.ntmps24
    go_wp2_with fail
    refine hA.mono ?_
    rintro e w' ⟨v', rfl, own, bel⟩
    obtain ⟨va, vc, rfl⟩ := own.rng.slice
    go_wp2
    go_ret
    exact ⟨_, rfl, own.rng, bel⟩
set_option maxHeartbeats 400000 in
theorem un_out (q : Value) (w : World) (h : Un w q) : Calls Try.prog 25 #[q] w fun e w' => ∃ v, e = .returned v ∧ Rows w' v [] ∧ Below w.heap.size w w' := by
  rcases h with rfl | ⟨p, rfl, hw⟩
  · go_enter Try.func25, Try.ntmps25
    go_wp2
    go_ret
    exact ⟨_, rfl, rowOf_nil _, Below.refl _ _⟩
  · exact (out_map p none [] _ _ _ List.Pairwise.nil (by simp) w hw (.inl ⟨rfl, rfl⟩)).mono fun _ _ ⟨v, he, own, b⟩ => ⟨v, he, own.rng, b⟩
set_option maxHeartbeats 400000 in
theorem un_reset (q : Value) (w : World) (h : Un w q) : Calls Try.prog 16 #[q] w fun e w' => e = .returned (.int .i64 0) ∧ Below w.heap.size w w' := by
  have hO := un_out q w h
  go_enter Try.func16, Try.ntmps16
  go_wp2_with fail
  refine hO.mono ?_
  rintro e w' ⟨v', rfl, row, bel⟩
  obtain ⟨va, vc, rfl⟩ := row.slice
  simp only [List.length_nil]
  go_wp2
  go_rounds 1
  go_ret
  exact ⟨rfl, bel⟩
set_option maxHeartbeats 400000 in
theorem un_copy (q : Value) (w : World) (h : Un w q) : Calls Try.prog 13 #[q] w fun e w' => e = .returned (.pointer none) ∧ w' = w := by
  have hM := un_made q w h
  have hq : q = .pointer none ∨ ∃ p, q = .pointer (some ⟨p, 0, none⟩) := h.imp id fun ⟨p, hp, _⟩ => ⟨p, hp⟩
  rcases hq with rfl | ⟨p, rfl⟩
  all_goals go_enter Try.func13, Try.ntmps13
  all_goals go_wp2_with fail
  all_goals refine hM.mono ?_
  all_goals rintro e w ⟨rfl, rfl⟩
  all_goals go_wp2
  all_goals go_ret
  all_goals exact ⟨rfl, rfl⟩
set_option maxRecDepth 10000 in
set_option maxHeartbeats 400000 in
theorem un_push (q : Value) (m : Msg) (w : World) (h : Un w q) : Calls Try.prog 15 #[q, mv m] w fun e w' => e = .returned (.int .i64 1) ∧ Below w.heap.size w w' := by
  have hM := un_made q _ (h.below (below_alloc w (.cells #[.int .i64 m.o, .int .u64 m.s, .int .i64 m.hop, .string m.ex, .string m.key, .string m.body] 33)))
  have hq : q = .pointer none ∨ ∃ p, q = .pointer (some ⟨p, 0, none⟩) := h.imp id fun ⟨p, hp, _⟩ => ⟨p, hp⟩
  rcases hq with rfl | ⟨p, rfl⟩
  all_goals go_enter Try.func15, Try.ntmps15
  all_goals go_wp2_with fail
  all_goals refine hM.mono ?_
  all_goals rintro e w' ⟨rfl, rfl⟩
  all_goals go_wp2
  all_goals go_ret
  all_goals exact ⟨rfl, below_alloc _ _⟩
theorem un_ptr {w : World} {q : Value} (h : Un w q) : ∃ a, q = .pointer a := h.elim (fun h => ⟨_, h⟩) (fun ⟨_, h, _⟩ => ⟨_, h⟩)
theorem put8_below {w W : World} (bel : Below w.heap.size w W) (nz : Nat) (hz : w.heap.size ≤ nz) (v0 v1 v2 v3 v4 v5 v6 v7 : Value) : Below w.heap.size w (put8 W nz v0 v1 v2 v3 v4 v5 v6 v7) := by
  obtain ⟨h1, h2, h3⟩ := put8_world W nz v0 v1 v2 v3 v4 v5 v6 v7
  exact bel.trans ⟨h1, h2, h3, Nat.le_of_eq (put8_size _ _ _ _ _ _ _ _ _ _).symm, fun k hk => put8_other _ _ _ _ _ _ _ _ (by omega)⟩

set_option maxRecDepth 20000 in
set_option maxHeartbeats 1000000 in
theorem un_give (q : Value) (w : World) (h : Un w q) : Calls Try.prog 14 #[q] w fun e w' => e = .returned (.tuple #[.agg #[.int .u64 0, .int .i64 0, .int .u64 0, .int .i64 0, .string ⟨#[]⟩, .string ⟨#[]⟩, .string ⟨#[]⟩, .bool false], .bool false]) ∧ Below w.heap.size w w' := by
  obtain ⟨W, hW⟩ : ∃ W, W = w.alloc (.cells #[.int .u64 0, .int .i64 0, .int .u64 0, .int .i64 0, .string ⟨#[]⟩, .string ⟨#[]⟩, .string ⟨#[]⟩, .bool false] 38) := ⟨_, rfl⟩
  have bel0 : Below w.heap.size w W := by rw [hW]; exact below_alloc _ _
  have z0 : ItAt W w.heap.size 0 zeroIt := by rw [hW]; exact itAt_new w zeroIt _ rfl
  have soft0 : Soft W w.heap.size := ⟨_, by rw [hW]; exact heap_alloc_new w _, rfl⟩
  have hM := un_made q _ (h.below bel0)
  have HW : Hid (W = w.alloc (.cells #[.int .u64 0, .int .i64 0, .int .u64 0, .int .i64 0, .string ⟨#[]⟩, .string ⟨#[]⟩, .string ⟨#[]⟩, .bool false] 38)) := hW
  have HZ : Hid _ := put8_at soft0 (.int .u64 0) (.int .i64 0) (.int .u64 0) (.int .i64 0) (.string ⟨#[]⟩) (.string ⟨#[]⟩) (.string ⟨#[]⟩) (.bool false)
  have HE : Hid _ := put8_below bel0 w.heap.size (Nat.le_refl _) (.int .u64 0) (.int .i64 0) (.int .u64 0) (.int .i64 0) (.string ⟨#[]⟩) (.string ⟨#[]⟩) (.string ⟨#[]⟩) (.bool false)
  obtain ⟨y0, y1, y2, y3, y4, y5, y6, y7⟩ := z0
  simp only [Nat.zero_add] at y0 y1 y2 y3 y4 y5 y6 y7
  have f0 := soft0.frozen
  obtain ⟨a, rfl⟩ := un_ptr h
  cases a with
  | none =>
    go_enter Try.func14, Try.ntmps14
    go_wp2_with fail
    rw [← HW.out]
    clear hW
    refine hM.mono ?_
    rintro e W ⟨rfl, rfl⟩
    go_wp2
    refine ret_item (p := 2) (u := 3) (r := .bool false) rfl w.heap.size rfl rfl rfl HZ.out ?_
    exact ⟨rfl, HE.out⟩
  | some a =>
    go_enter Try.func14, Try.ntmps14
    go_wp2_with fail
    rw [← HW.out]
    clear hW
    refine hM.mono ?_
    rintro e W ⟨rfl, rfl⟩
    go_wp2
    refine ret_item (p := 2) (u := 3) (r := .bool false) rfl w.heap.size rfl rfl rfl HZ.out ?_
    exact ⟨rfl, HE.out⟩
set_option maxRecDepth 20000 in
set_option maxHeartbeats 1000000 in
theorem un_take (q : Value) (t : Int) (w : World) (h : Un w q) : Calls Try.prog 43 #[q, .int .u64 t] w fun e w' => e = .returned (.tuple #[.agg #[.int .u64 0, .int .i64 0, .int .u64 0, .int .i64 0, .string ⟨#[]⟩, .string ⟨#[]⟩, .string ⟨#[]⟩, .bool false], .int .i64 1]) ∧ Below w.heap.size w w' := by
  obtain ⟨W, hW⟩ : ∃ W, W = w.alloc (.cells #[.int .u64 0, .int .i64 0, .int .u64 0, .int .i64 0, .string ⟨#[]⟩, .string ⟨#[]⟩, .string ⟨#[]⟩, .bool false] 38) := ⟨_, rfl⟩
  have bel0 : Below w.heap.size w W := by rw [hW]; exact below_alloc _ _
  have z0 : ItAt W w.heap.size 0 zeroIt := by rw [hW]; exact itAt_new w zeroIt _ rfl
  have soft0 : Soft W w.heap.size := ⟨_, by rw [hW]; exact heap_alloc_new w _, rfl⟩
  have hM := un_made q _ (h.below bel0)
  have HW : Hid (W = w.alloc (.cells #[.int .u64 0, .int .i64 0, .int .u64 0, .int .i64 0, .string ⟨#[]⟩, .string ⟨#[]⟩, .string ⟨#[]⟩, .bool false] 38)) := hW
  have HZ : Hid _ := put8_at soft0 (.int .u64 0) (.int .i64 0) (.int .u64 0) (.int .i64 0) (.string ⟨#[]⟩) (.string ⟨#[]⟩) (.string ⟨#[]⟩) (.bool false)
  have HE : Hid _ := put8_below bel0 w.heap.size (Nat.le_refl _) (.int .u64 0) (.int .i64 0) (.int .u64 0) (.int .i64 0) (.string ⟨#[]⟩) (.string ⟨#[]⟩) (.string ⟨#[]⟩) (.bool false)
  obtain ⟨y0, y1, y2, y3, y4, y5, y6, y7⟩ := z0
  simp only [Nat.zero_add] at y0 y1 y2 y3 y4 y5 y6 y7
  have f0 := soft0.frozen
  obtain ⟨a, rfl⟩ := un_ptr h
  cases a with
  | none =>
    go_enter Try.func43, Try.ntmps43
    go_wp2_with fail
    rw [← HW.out]
    clear hW
    refine hM.mono ?_
    rintro e W ⟨rfl, rfl⟩
    go_wp2
    refine ret_item (p := 4) (u := 5) (r := .int .i64 1) rfl w.heap.size rfl rfl rfl HZ.out ?_
    exact ⟨rfl, HE.out⟩
  | some a =>
    go_enter Try.func43, Try.ntmps43
    go_wp2_with fail
    rw [← HW.out]
    clear hW
    refine hM.mono ?_
    rintro e W ⟨rfl, rfl⟩
    go_wp2
    refine ret_item (p := 4) (u := 5) (r := .int .i64 1) rfl w.heap.size rfl rfl rfl HZ.out ?_
    exact ⟨rfl, HE.out⟩
set_option maxRecDepth 10000 in
set_option maxHeartbeats 400000 in
theorem un_done (q : Value) (t : Int) (w : World) (h : Un w q) : Calls Try.prog 22 #[q, .int .u64 t] w fun e w' => e = .returned (.int .i64 1) ∧ Below w.heap.size w w' := by
  have hT := un_take q t w h
  go_enter Try.func22, Try.ntmps22
  go_wp2_with fail
  refine hT.mono ?_
  rintro e w1 ⟨rfl, b⟩
  go_wp2
  go_ret
  exact ⟨rfl, b.alloc b.size _⟩
set_option maxRecDepth 10000 in
set_option maxHeartbeats 400000 in
theorem un_back (q : Value) (t : Int) (w : World) (h : Un w q) : Calls Try.prog 23 #[q, .int .u64 t] w fun e w' => e = .returned (.int .i64 1) ∧ Below w.heap.size w w' := by
  have hT := un_take q t w h
  go_enter Try.func23, Try.ntmps23
  go_wp2_with fail
  refine hT.mono ?_
  rintro e w1 ⟨rfl, b⟩
  go_wp2
  go_ret
  exact ⟨rfl, b.alloc b.size _⟩
end Go.Proofs.Ytocdfcaakflgpaa
