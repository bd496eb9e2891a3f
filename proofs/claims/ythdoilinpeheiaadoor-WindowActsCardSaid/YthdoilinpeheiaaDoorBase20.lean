/-
  made, upTo, New, Base, Num, Open, waits, wereSent, by their contracts.
-/
import Derived.Test.YthdoilinpeheiaaDoorWin20
import Derived.WalkSpells
import Derived.Deep.RegionHeld3
namespace Go.Proofs.YthdoilinpeheiaaDoor
open Go.RowKit
set_option maxRecDepth 20000

theorem upToW_any (n k : Int) (w : World) : Calls Tryd.prog 25 #[.int .i64 n, .int .i64 k] w fun e w' => e = .returned (.bool (decide (1 ≤ n ∧ n ≤ k))) ∧ w' = w := by
  go_enter Tryd.func25, Tryd.ntmps25
  go_wp2
  all_goals go_ret
  all_goals exact ⟨ret_bool (by simp_all; try omega), rfl⟩

/-- May a window be so? -/
def mayW (n t : Int) : Bool := decide (1 ≤ n ∧ n ≤ 32) && decide (1 ≤ t ∧ t ≤ 1000)
theorem new_bad (n t : Int) (w : World) (h : mayW n t = false) : Calls Tryd.prog 8 #[.int .i64 n, .int .i64 t] w fun e w' => e = .returned (.pointer none) ∧ w' = w := by
  unfold mayW at h
  go_enter Tryd.func8, Tryd.ntmps8
  go_wp2_with (go_at_call 25; refine (upToW_any _ _ _).mono ?_; rintro e w ⟨rfl, rfl⟩)
  all_goals first
    | (go_ret; exact ⟨rfl, rfl⟩)
    | (exfalso; simp only [Bool.and_eq_false_iff, decide_eq_false_iff_not, Bool.not_eq_false', decide_eq_true_eq] at *; omega)
theorem new_good (n t : Nat) (w : World) (h1 : 1 ≤ n) (h2 : n ≤ 32) (h3 : 1 ≤ t) (h4 : t ≤ 1000) : Calls Tryd.prog 8 #[.int .i64 n, .int .i64 t] w fun e w' =>
    e = .returned (.pointer (some ⟨w.heap.size, 0, none⟩)) ∧ WAt w' w.heap.size (newW n t) ∧ Below w.heap.size w w' ∧ w'.heap.size = w.heap.size + 1 := by
  go_enter Tryd.func8, Tryd.ntmps8
  go_wp2_with (go_at_call 25; refine (upToW_any _ _ _).mono ?_; rintro e w ⟨rfl, rfl⟩)
  all_goals first
    | (exfalso; simp only [Bool.not_eq_true', decide_eq_false_iff_not, Int.not_le] at *; omega)
    | (go_ret; exact ⟨rfl, heap_alloc_new w _, (Below.refl _ w).alloc (Nat.le_refl _) _, by simp⟩)

section
variable {w : World} {p : Nat} {m : Wn}
theorem made_at (h : WAt w p m) : Calls Tryd.prog 26 #[.pointer (some ⟨p, 0, none⟩)] w fun e w' => e = .returned (.bool (decide (0 < m.s))) ∧ w' = w := by
  have c0 : w.cell? ⟨p, 0, none⟩ = some (.int .i64 m.s) := h.cell (i := 0) (by decide)
  clear h
  go_enter Tryd.func26, Tryd.ntmps26
  go_wp2
  go_ret
  exact ⟨ret_bool (by simp), rfl⟩
theorem base_at (h : WAt w p m) (hs : 0 < m.s) : Calls Tryd.prog 19 #[.pointer (some ⟨p, 0, none⟩)] w fun e w' => e = .returned (.int .u16 m.b) ∧ w' = w := by
  have hM := made_at h
  rw [decide_eq_true hs] at hM
  have c2 : w.cell? ⟨p, 2, none⟩ = some (.int .u16 m.b) := h.cell (i := 2) (by decide)
  clear h
  go_enter Tryd.func19, Tryd.ntmps19
  go_wp2_with (go_at_call 26; refine hM.mono ?_; rintro e w ⟨rfl, rfl⟩)
  go_ret
  exact ⟨rfl, rfl⟩
theorem num_at (h : WAt w p m) (hs : 0 < m.s) (i : Int) : Calls Tryd.prog 22 #[.pointer (some ⟨p, 0, none⟩), .int .i64 i] w fun e w' => e = .returned (.int .u16 (moveI m.b i)) ∧ w' = w := by
  have hM := made_at h
  rw [decide_eq_true hs] at hM
  have c2 : w.cell? ⟨p, 2, none⟩ = some (.int .u16 m.b) := h.cell (i := 2) (by decide)
  clear h
  go_enter Tryd.func22, Tryd.ntmps22
  go_wp2_with (first | (go_at_call 26; refine hM.mono ?_; rintro e w ⟨rfl, rfl⟩) | (go_at_call 37; refine (move_any _ _ _).mono ?_; rintro e w ⟨rfl, rfl⟩))
  go_ret
  exact ⟨rfl, rfl⟩
theorem open_at (h : WAt w p m) (hs : 0 < m.s) (h1 : IsSet m.sent) (h2 : IsSet m.there) (hT : Tab w) : Calls Tryd.prog 20 #[.pointer (some ⟨p, 0, none⟩)] w fun e w' => e = .returned (.int .i64 (openN m)) ∧ Below w.heap.size w w' := by
  have hM := made_at h
  rw [decide_eq_true hs] at hM
  have c3 : w.cell? ⟨p, 3, none⟩ = some (.int .u64 m.sent) := h.cell (i := 3) (by decide)
  have c4 : w.cell? ⟨p, 4, none⟩ = some (.int .u64 m.there) := h.cell (i := 4) (by decide)
  have ha : bits .andNot .u64 (m.sent : Int) (m.there : Int) = (openS m : Int) := u64_andNot_nat m.sent _ h1 h2
  clear h
  go_enter Tryd.func20, Tryd.ntmps20
  go_wp2_with (go_at_call 26; refine hM.mono ?_; rintro e w ⟨rfl, rfl⟩)
  go_wp2
  have bD : Below w.heap.size w w.drew := (Below.refl _ w).drew
  have hz : Calls Tryd.prog 36 #[.int .u64 (openS m)] w.drew fun e w' => e = .returned (.int .i64 (openN m)) ∧ Below w.heap.size w w' := by
    refine (callsIn_wide.1 (size_in (openS m) w.drew (openS_set h1) hT)).mono ?_
    rintro e w' ⟨rfl, b⟩
    exact ⟨by rw [listS_length]; rfl, bD.trans b⟩
  go_region_held3 (fun w' => w'.cell? ⟨p, 3, none⟩ = some (.int .u64 m.sent) ∧ w'.cell? ⟨p, 4, none⟩ = some (.int .u64 m.there)) (go_keep) (first
    | (go_at_call 36; refine hz.mono ?_; rintro e w1 ⟨rfl, b1⟩; have q3 := cell_on (b := p) (j := 3) (v := .int .u64 m.sent) b1 (by assumption); have q4 := cell_on (b := p) (j := 4) (v := .int .u64 m.there) b1 (by assumption)))
  go_wp2
  go_ret
  exact ⟨rfl, by assumption⟩
end
end Go.Proofs.YthdoilinpeheiaaDoor
