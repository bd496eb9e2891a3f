/-
  A TABLE THAT NO CALL MADE: all calls, by their contracts; the statement BindNone, walked.
-/
import Derived.Test.YtiaagiijjledkaaGreatDoorLives
namespace Go.Proofs.YtiaagiijjledkaaGreatDoor
open Go.RowKit Go.Sort Go.Maps Go.Shelf

/-- What no call made: nil, or a zero value. -/
def Un (w : World) (v : Value) : Prop := v = .pointer none ∨ ∃ p, v = .pointer (some ⟨p, 0, none⟩) ∧ w.cell? ⟨p, 0, none⟩ = some (.map none)
theorem Un.below {w w' : World} {v : Value} (h : Un w v) (b : Below w.heap.size w w') : Un w' v := by
  rcases h with rfl | ⟨p, rfl, c⟩
  · exact .inl rfl
  · exact .inr ⟨p, rfl, (b.cell (p := ⟨p, 0, none⟩) (World.block_lt_of_cell? _ _ c)).trans c⟩
theorem un_made (v : Value) (w : World) (h : Un w v) : Calls Tryz.prog 29 #[v] w fun e w' => e = .returned (.bool false) ∧ w' = w := by
  rcases h with rfl | ⟨p, rfl, c⟩
  · exact made_nil w
  · exact made_zero p w c
theorem below_box (w : World) (o : Obj) : Below w.heap.size w (w.alloc o) := (Below.refl _ _).alloc (Nat.le_refl _) _
set_option maxRecDepth 20000 in
set_option maxHeartbeats 1000000 in
theorem un_declare (v : Value) (x : Ex) (w : World) (h : Un w v) : Calls Tryz.prog 20 #[v, xv x] w fun e w' => e = .returned (.int .i64 1) ∧ Below w.heap.size w w' := by
  have hM := fun o => un_made v (w.alloc o) (h.below (below_box w o))
  go_enter Tryz.func20, Tryz.ntmps20
  go_wp2_with fail
  refine (hM _).mono ?_
  rintro e W ⟨rfl, rfl⟩
  go_wp2
  go_ret
  exact ⟨rfl, below_box _ _⟩
set_option maxRecDepth 20000 in
set_option maxHeartbeats 1000000 in
theorem un_drop (v : Value) (n : ByteArray) (w : World) (h : Un w v) : Calls Tryz.prog 19 #[v, .string n] w fun e w' => e = .returned (.int .i64 1) ∧ Below w.heap.size w w' := by
  have hM := fun o => un_made v (w.alloc o) (h.below (below_box w o))
  go_enter Tryz.func19, Tryz.ntmps19
  go_wp2_with fail
  refine (hM _).mono ?_
  rintro e W ⟨rfl, rfl⟩
  go_wp2
  go_ret
  exact ⟨rfl, below_box _ _⟩
set_option maxRecDepth 20000 in
set_option maxHeartbeats 1000000 in
theorem un_bind (v : Value) (x : Bd) (w : World) (h : Un w v) : Calls Tryz.prog 17 #[v, bv x] w fun e w' => e = .returned (.int .i64 1) ∧ Below w.heap.size w w' := by
  have hM := fun o => un_made v (w.alloc o) (h.below (below_box w o))
  go_enter Tryz.func17, Tryz.ntmps17
  go_wp2_with fail
  refine (hM _).mono ?_
  rintro e W ⟨rfl, rfl⟩
  go_wp2
  go_ret
  exact ⟨rfl, below_box _ _⟩
set_option maxRecDepth 20000 in
set_option maxHeartbeats 1000000 in
theorem un_unbind (v : Value) (x : Bd) (w : World) (h : Un w v) : Calls Tryz.prog 18 #[v, bv x] w fun e w' => e = .returned (.int .i64 1) ∧ Below w.heap.size w w' := by
  have hM := fun o => un_made v (w.alloc o) (h.below (below_box w o))
  go_enter Tryz.func18, Tryz.ntmps18
  go_wp2_with fail
  refine (hM _).mono ?_
  rintro e W ⟨rfl, rfl⟩
  go_wp2
  go_ret
  exact ⟨rfl, below_box _ _⟩
set_option maxRecDepth 20000 in
set_option maxHeartbeats 1000000 in
theorem un_forget (v : Value) (n : ByteArray) (w : World) (h : Un w v) : Calls Tryz.prog 26 #[v, .string n] w fun e w' => e = .returned (.int .i64 0) ∧ Below w.heap.size w w' := by
  have hM := fun o => un_made v (w.alloc o) (h.below (below_box w o))
  go_enter Tryz.func26, Tryz.ntmps26
  go_wp2_with fail
  refine (hM _).mono ?_
  rintro e W ⟨rfl, rfl⟩
  go_wp2
  go_ret
  exact ⟨rfl, below_box _ _⟩
set_option maxRecDepth 20000 in
set_option maxHeartbeats 1000000 in
theorem un_exchanges (v : Value) (w : World) (h : Un w v) : Calls Tryz.prog 11 #[v] w fun e w' => e = .returned (.slice none 0 0) ∧ w' = w := by
  have hM := un_made v w h
  go_enter Tryz.func11, Tryz.ntmps11
  go_wp2_with fail
  refine hM.mono ?_
  rintro e W ⟨rfl, rfl⟩
  go_wp2
  go_ret
  exact ⟨rfl, rfl⟩
set_option maxRecDepth 20000 in
set_option maxHeartbeats 1000000 in
theorem un_bindings (v : Value) (w : World) (h : Un w v) : Calls Tryz.prog 12 #[v] w fun e w' => e = .returned (.slice none 0 0) ∧ w' = w := by
  have hM := un_made v w h
  go_enter Tryz.func12, Tryz.ntmps12
  go_wp2_with fail
  refine hM.mono ?_
  rintro e W ⟨rfl, rfl⟩
  go_wp2
  go_ret
  exact ⟨rfl, rfl⟩
set_option maxRecDepth 20000 in
set_option maxHeartbeats 1000000 in
theorem un_copy (v : Value) (w : World) (h : Un w v) : Calls Tryz.prog 15 #[v] w fun e w' => e = .returned (.pointer none) ∧ w' = w := by
  have hM := un_made v w h
  go_enter Tryz.func15, Tryz.ntmps15
  go_wp2_with fail
  refine hM.mono ?_
  rintro e W ⟨rfl, rfl⟩
  go_wp2
  go_ret
  exact ⟨rfl, rfl⟩
set_option maxRecDepth 20000 in
set_option maxHeartbeats 2000000 in
theorem un_find (v : Value) (n : ByteArray) (w : World) (h : Un w v) : Calls Tryz.prog 13 #[v, .string n] w fun e w' => e = .returned (.tuple #[.agg #[.string ⟨#[]⟩, .int .i64 0, .bool false], .bool false]) ∧ Below w.heap.size w w' := by
  obtain ⟨W, fold⟩ : ∃ W, w.alloc (.cells #[.string ⟨#[]⟩, .int .i64 0, .bool false] 33) = W := ⟨_, rfl⟩
  have bW : Below w.heap.size w W := by rw [← fold]; exact below_box _ _
  have hWz : W.heap[w.heap.size]? = some (.cells #[.string ⟨#[]⟩, .int .i64 0, .bool false] 33 (0, 0)) := by rw [← fold]; exact heap_alloc_new w _
  have hM := un_made v W (h.below bW)
  have t0 : W.cell? ⟨w.heap.size, 0, none⟩ = some (.string ⟨#[]⟩) := cell_of_list (C := [.string ⟨#[]⟩, .int .i64 0, .bool false]) hWz 0
  have t1 : W.cell? ⟨w.heap.size, 1, none⟩ = some (.int .i64 0) := cell_of_list (C := [.string ⟨#[]⟩, .int .i64 0, .bool false]) hWz 1
  have t2 : W.cell? ⟨w.heap.size, 2, none⟩ = some (.bool false) := cell_of_list (C := [.string ⟨#[]⟩, .int .i64 0, .bool false]) hWz 2
  have f0 := frozen_of_list hWz
  have HZ : Hid _ := put3_at (w := W) ⟨_, hWz, rfl⟩ (.string ⟨#[]⟩) (.int .i64 0) (.bool false)
  have HE : Hid _ := put3_below (w := W) (.string ⟨#[]⟩) (.int .i64 0) (.bool false) bW (Nat.le_refl _)
  clear hWz bW
  go_enter Tryz.func13, Tryz.ntmps13
  go_wp2_with fail
  refine hM.mono ?_
  rintro e W ⟨rfl, rfl⟩
  clear fold
  go_wp2
  refine ret_x (p := 4) (u := 5) (r := .bool false) rfl w.heap.size rfl rfl rfl HZ.out ?_
  exact ⟨rfl, HE.out⟩
end Go.Proofs.YtiaagiijjledkaaGreatDoor
