/-
  A DESK THAT NO CALL MADE: all calls, by their contracts.
-/
import Derived.Test.YtfgedgiihclemaaLives17
namespace Go.Proofs.Ytfgedgiihclemaa
open Go.RowKit Go.Maps Go.Sort Go.Shelf
set_option maxRecDepth 20000

/-- What no call made: nil, or a zero value. -/
def Un (w : World) (v : Value) : Prop := v = .pointer none ∨ ∃ p, v = .pointer (some ⟨p, 0, none⟩) ∧ w.cell? ⟨p, 0, none⟩ = some (.map none)
theorem Un.below {w w' : World} {v : Value} (h : Un w v) (b : Below w.heap.size w w') : Un w' v := by
  rcases h with rfl | ⟨p, rfl, c⟩
  · exact .inl rfl
  · exact .inr ⟨p, rfl, (b.cell (p := ⟨p, 0, none⟩) (World.block_lt_of_cell? _ _ c)).trans c⟩
theorem un_made (v : Value) (w : World) (h : Un w v) : Calls Try.prog 30 #[v] w fun e w' => e = .returned (.bool false) ∧ w' = w := by
  rcases h with rfl | ⟨p, rfl, c⟩
  · go_enter Try.func30, Try.ntmps30
    go_wp2
    go_ret
    exact ⟨rfl, rfl⟩
  · have hnn : ∀ w, (binOp .neq 57 (.map none) (.map none)).run Try.prog w = .ok (.bool false) w := fun w => run_neq_map_nil w 57 3 78 none Try.underlying57
    go_enter Try.func30, Try.ntmps30
    go_wp2
    go_ret
    exact ⟨rfl, rfl⟩
theorem below_box (w : World) (o : Obj) : Below w.heap.size w (w.alloc o) := (Below.refl _ _).alloc (Nat.le_refl _) _
theorem un_find (v : Value) (c : Int) (w : World) (h : Un w v) : Calls Try.prog 33 #[v, .int .i64 c] w fun e w' => e = .returned (.tuple #[.pointer none, .int .i64 1]) ∧ w' = w := by
  have hM := un_made v w h
  go_enter Try.func33, Try.ntmps33
  go_wp2_with fail
  refine hM.mono ?_
  rintro e w ⟨rfl, rfl⟩
  go_wp2
  go_ret2
  exact ⟨rfl, rfl⟩
theorem un_add (v : Value) (c : Int) (q : ByteArray) (m : Int) (w : World) (h : Un w v) : Calls Try.prog 18 #[v, .int .i64 c, .string q, .int .i64 m] w fun e w' => e = .returned (.int .i64 1) ∧ w' = w := by
  have hM := un_made v w h
  go_enter Try.func18, Try.ntmps18
  go_wp2_with fail
  refine hM.mono ?_
  rintro e w ⟨rfl, rfl⟩
  go_wp2
  go_ret
  exact ⟨rfl, rfl⟩
theorem un_took (v : Value) (c t : Int) (w : World) (h : Un w v) : Calls Try.prog 20 #[v, .int .i64 c, .int .u64 t] w fun e w' => e = .returned (.int .i64 1) ∧ w' = w := by
  have hM := un_find v c w h
  go_enter Try.func20, Try.ntmps20
  go_wp2_with fail
  refine hM.mono ?_
  rintro e w ⟨rfl, rfl⟩
  go_wp2
  go_ret
  exact ⟨rfl, rfl⟩
theorem un_settle (v : Value) (c t : Int) (w : World) (h : Un w v) : Calls Try.prog 22 #[v, .int .i64 c, .int .u64 t] w fun e w' => e = .returned (.tuple #[.string ⟨#[]⟩, .int .i64 1]) ∧ w' = w := by
  have hM := un_find v c w h
  go_enter Try.func22, Try.ntmps22
  go_wp2_with fail
  refine hM.mono ?_
  rintro e w ⟨rfl, rfl⟩
  go_wp2
  go_ret2
  exact ⟨rfl, rfl⟩
theorem un_next (v : Value) (q : ByteArray) (w : World) (h : Un w v) : Calls Try.prog 19 #[v, .string q] w fun e w' => e = .returned (.tuple #[.int .i64 0, .bool false]) ∧ Below w.heap.size w w' := by
  have hM := un_made v (w.alloc (.cells #[.string q] 9)) (h.below (below_box w _))
  go_enter Try.func19, Try.ntmps19
  go_wp2_with fail
  refine hM.mono ?_
  rintro e W ⟨rfl, rfl⟩
  go_wp2
  go_ret2
  exact ⟨rfl, below_box _ _⟩
theorem un_clients (v : Value) (w : World) (h : Un w v) : Calls Try.prog 13 #[v] w fun e w' => e = .returned (.slice none 0 0) ∧ w' = w := by
  have hM := un_made v w h
  go_enter Try.func13, Try.ntmps13
  go_wp2_with fail
  refine hM.mono ?_
  rintro e w ⟨rfl, rfl⟩
  go_wp2
  go_ret
  exact ⟨rfl, rfl⟩
theorem un_forget (v : Value) (q : ByteArray) (w : World) (h : Un w v) : Calls Try.prog 23 #[v, .string q] w fun e w' => e = .returned (.slice none 0 0) ∧ w' = w := by
  have hM := un_clients v w h
  go_enter Try.func23, Try.ntmps23
  go_wp2_with fail
  refine hM.mono ?_
  rintro e w ⟨rfl, rfl⟩
  go_wp2
  go_loop [5, 7, 11] (fun u5 _ u11 => u5 = .slice none 0 0 ∧ u11 = .int .i64 0) (fun _ _ _ => 0)
  case atStart => exact ⟨rfl, rfl⟩
  case round =>
    obtain ⟨rfl, rfl⟩ := hrel
    go_wp2
    go_ret
    exact ⟨rfl, rfl⟩
theorem un_drop (v : Value) (c : Int) (w : World) (h : Un w v) : Calls Try.prog 21 #[v, .int .i64 c] w fun e w' => e = .returned (.tuple #[.agg #[.string ⟨#[]⟩, .slice none 0 0], .int .i64 1]) ∧ Below w.heap.size w w' := by
  have hM := un_find v c (w.alloc (.cells #[.string ⟨#[]⟩, .slice none 0 0] 40)) (h.below (below_box w _))
  go_enter Try.func21, Try.ntmps21
  go_wp2_with fail
  refine hM.mono ?_
  rintro e W ⟨rfl, rfl⟩
  go_wp2
  exact bodyPost_ret (v := .tuple #[.agg #[.string ⟨#[]⟩, .slice none 0 0], .int .i64 1]) (by simp [results, Try.results21, go_sem]) rfl ⟨rfl, below_box _ _⟩
theorem un_hold (v : Value) (c : Int) (w : World) (h : Un w v) : Calls Try.prog 15 #[v, .int .i64 c] w fun e w' => e = .returned (.tuple #[.agg #[.string ⟨#[]⟩, .slice none 0 0], .bool false]) ∧ Below w.heap.size w w' := by
  have hM := un_find v c (w.alloc (.cells #[.string ⟨#[]⟩, .slice none 0 0] 40)) (h.below (below_box w _))
  go_enter Try.func15, Try.ntmps15
  go_wp2_with fail
  refine hM.mono ?_
  rintro e W ⟨rfl, rfl⟩
  go_wp2
  exact bodyPost_ret (v := .tuple #[.agg #[.string ⟨#[]⟩, .slice none 0 0], .bool false]) (by simp [results, Try.results15, go_sem]) rfl ⟨rfl, below_box _ _⟩
end Go.Proofs.Ytfgedgiihclemaa
