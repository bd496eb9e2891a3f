/-
  made, upTo, New, Base, Num, Open, waits, wereSent, by their contracts.
-/
import Derived.Test.YtkdjpleedaldcaaDoorWin20
import Derived.WalkSpells
import Derived.Deep.RegionHeld3
namespace Go.Proofs.YtkdjpleedaldcaaDoor.W
open Go.RowKit
set_option maxRecDepth 20000


theorem upToW_any (n k : Int) (w : World) : Calls Tryd.prog 15 #[.int .i64 n, .int .i64 k] w fun e w' => e = .returned (.bool (decide (1 ≤ n ∧ n ≤ k))) ∧ w' = w := by
  go_enter Tryd.func15, Tryd.ntmps15
  go_wp2
  all_goals go_ret
  all_goals exact ⟨ret_bool (by simp_all; try omega), rfl⟩


/-- May a window be so? -/
def mayW (n t : Int) : Bool := decide (1 ≤ n ∧ n ≤ 32) && decide (1 ≤ t ∧ t ≤ 1000)

theorem new_bad (n t : Int) (w : World) (h : mayW n t = false) : Calls Tryd.prog 4 #[.int .i64 n, .int .i64 t] w fun e w' => e = .returned (.pointer none) ∧ w' = w := by
  unfold mayW at h
  go_enter Tryd.func4, Tryd.ntmps4
  go_wp2_with (go_at_call 15; refine (upToW_any _ _ _).mono ?_; rintro e w ⟨rfl, rfl⟩)
  all_goals first
    | (go_ret; exact ⟨rfl, rfl⟩)
    | (exfalso; simp only [Bool.and_eq_false_iff, decide_eq_false_iff_not, Bool.not_eq_false', decide_eq_true_eq] at *; omega)

theorem new_good (n t : Nat) (w : World) (h1 : 1 ≤ n) (h2 : n ≤ 32) (h3 : 1 ≤ t) (h4 : t ≤ 1000) : Calls Tryd.prog 4 #[.int .i64 n, .int .i64 t] w fun e w' =>
    e = .returned (.pointer (some ⟨w.heap.size, 0, none⟩)) ∧ WAt w' w.heap.size (newW n t) ∧ Below w.heap.size w w' ∧ w'.heap.size = w.heap.size + 1 := by
  go_enter Tryd.func4, Tryd.ntmps4
  go_wp2_with (go_at_call 15; refine (upToW_any _ _ _).mono ?_; rintro e w ⟨rfl, rfl⟩)
  all_goals first
    | (exfalso; simp only [Bool.not_eq_true', decide_eq_false_iff_not, Int.not_le] at *; omega)
    | (go_ret; exact ⟨rfl, heap_alloc_new w _, (Below.refl _ w).alloc (Nat.le_refl _) _, by simp⟩)


section

variable {w : World} {p : Nat} {m : Wn}

theorem made_at (h : WAt w p m) : Calls Tryd.prog 18 #[.pointer (some ⟨p, 0, none⟩)] w fun e w' => e = .returned (.bool (decide (0 < m.s))) ∧ w' = w := by
  have c0 : w.cell? ⟨p, 0, none⟩ = some (.int .i64 m.s) := h.cell (i := 0) (by decide)
  clear h
  go_enter Tryd.func18, Tryd.ntmps18
  go_wp2
  go_ret
  exact ⟨ret_bool (by simp), rfl⟩

theorem num_at (h : WAt w p m) (hs : 0 < m.s) (i : Int) : Calls Tryd.prog 8 #[.pointer (some ⟨p, 0, none⟩), .int .i64 i] w fun e w' => e = .returned (.int .u16 (moveI m.b i)) ∧ w' = w := by
  have hM := made_at h
  rw [decide_eq_true hs] at hM
  have c2 : w.cell? ⟨p, 2, none⟩ = some (.int .u16 m.b) := h.cell (i := 2) (by decide)
  clear h
  go_enter Tryd.func8, Tryd.ntmps8
  go_wp2_with (first | (go_at_call 18; refine hM.mono ?_; rintro e w ⟨rfl, rfl⟩) | (go_at_call 22; refine (move_any _ _ _).mono ?_; rintro e w ⟨rfl, rfl⟩))
  go_ret
  exact ⟨rfl, rfl⟩

end

end Go.Proofs.YtkdjpleedaldcaaDoor.W
