/-
  A window that no call made; acts in memory.
-/
import Derived.Test.YthdoilinpeheiaaDoorLives20
namespace Go.Proofs.YthdoilinpeheiaaDoor
open Go.RowKit
set_option maxRecDepth 20000

/-- A window that no call made: nil, or one without a size. -/
def Un (w : World) (v : Value) : Prop := v = .pointer none ∨ ∃ p, v = .pointer (some ⟨p, 0, none⟩) ∧ w.cell? ⟨p, 0, none⟩ = some (.int .i64 0)
theorem un_made (w : World) (v : Value) (h : Un w v) : Calls Tryd.prog 26 #[v] w fun e w' => e = .returned (.bool false) ∧ w' = w := by
  rcases h with rfl | ⟨p, rfl, hc⟩
  · go_enter Tryd.func26, Tryd.ntmps26
    go_wp2
    go_ret
    exact ⟨rfl, rfl⟩
  · go_enter Tryd.func26, Tryd.ntmps26
    go_wp2
    go_ret
    exact ⟨rfl, rfl⟩
section
variable {w : World} {v : Value}
theorem un_base (h : Un w v) : Calls Tryd.prog 19 #[v] w fun e w' => e = .returned (.int .u16 0) ∧ w' = w := by
  have hM := un_made w v h
  clear h
  go_enter Tryd.func19, Tryd.ntmps19
  go_wp2_with (go_at_call 26; refine hM.mono ?_; rintro e w ⟨rfl, rfl⟩)
  go_ret
  exact ⟨rfl, rfl⟩
theorem un_num (h : Un w v) (i : Int) : Calls Tryd.prog 22 #[v, .int .i64 i] w fun e w' => e = .returned (.int .u16 0) ∧ w' = w := by
  have hM := un_made w v h
  clear h
  go_enter Tryd.func22, Tryd.ntmps22
  go_wp2_with (go_at_call 26; refine hM.mono ?_; rintro e w ⟨rfl, rfl⟩)
  go_ret
  exact ⟨rfl, rfl⟩
theorem un_open (h : Un w v) : Calls Tryd.prog 20 #[v] w fun e w' => e = .returned (.int .i64 0) ∧ w' = w := by
  have hM := un_made w v h
  clear h
  go_enter Tryd.func20, Tryd.ntmps20
  go_wp2_with (go_at_call 26; refine hM.mono ?_; rintro e w ⟨rfl, rfl⟩)
  go_ret
  exact ⟨rfl, rfl⟩
theorem un_ack (h : Un w v) (n k : Int) : Calls Tryd.prog 15 #[v, .int .u16 n, .int .u64 k] w fun e w' => e = .returned (.int .i64 0) ∧ w' = w := by
  have hM := un_made w v h
  clear h
  go_enter Tryd.func15, Tryd.ntmps15
  go_wp2_with (go_at_call 26; refine hM.mono ?_; rintro e w ⟨rfl, rfl⟩)
  go_ret
  exact ⟨rfl, rfl⟩
theorem un_send (h : Un w v) (n k : Int) : Calls Tryd.prog 12 #[v, .int .i64 n, .int .i64 k] w fun e w' => e = .returned (.slice none 0 0) ∧ w' = w := by
  have hM := un_made w v h
  clear h
  go_enter Tryd.func12, Tryd.ntmps12
  go_wp2
  go_step3
  go_wp2_with fail
  refine hM.mono ?_
  rintro e w ⟨rfl, rfl⟩
  go_wp2_with fail
  rw [Exit.noGoto_ret]
  go_ret
  exact ⟨rfl, rfl⟩
theorem un_reset (h : Un w v) : Calls Tryd.prog 17 #[v] w fun e w' => e = .returned (.tuple #[]) ∧ w' = w := by
  have hM := un_made w v h
  clear h
  go_enter Tryd.func17, Tryd.ntmps17
  go_wp2_with (go_at_call 26; refine hM.mono ?_; rintro e w ⟨rfl, rfl⟩)
  go_end0
  exact ⟨rfl, rfl⟩
end

/-- Something that is done to a window. -/
structure Ac where
  kind : Int
  hv : Int
  now : Int
  num : Nat
  set : Nat
abbrev acv (a : Ac) : Value := .agg #[.int .i64 a.kind, .int .i64 a.hv, .int .i64 a.now, .int .u16 a.num, .int .u64 a.set]
def acells (a : Ac) : List Value := [.int .i64 a.kind, .int .i64 a.hv, .int .i64 a.now, .int .u16 a.num, .int .u64 a.set]
/-- What is known of an act that came in. -/
structure Ac.Fits (x : Ac) : Prop where
  h1 : -9223372036854775808 ≤ x.hv ∧ x.hv ≤ 9223372036854775807
  h2 : -9223372036854775808 ≤ x.now ∧ x.now ≤ 9223372036854775807
  num : x.num < 65536
  set : x.set < 18446744073709551616

theorem none_law (a : Ac) (w : World) (hT : Tab w) : Calls Tryd.prog 6 #[acv a] w fun e w' => e = .returned (.bool true) ∧ Below w.heap.size w w' := by
  have hpos := hT.pos
  obtain ⟨W, hW⟩ : ∃ W, W = (w.alloc (.cells #[.int .i64 a.kind, .int .i64 a.hv, .int .i64 a.now, .int .u16 a.num, .int .u64 a.set] 31)).alloc (.cells (wcells (newW 0 0)).toArray 53) := ⟨_, rfl⟩
  have bW : Below w.heap.size w W := by rw [hW]; exact ((Below.refl _ w).alloc (Nat.le_refl _) _).alloc (by simp) _
  have hU1 : Un W (.pointer none) := .inl rfl
  have hU2 : Un W (.pointer (some ⟨w.heap.size + 1, 0, none⟩)) := .inr ⟨_, rfl, by
    have h : WAt W (w.heap.size + 1) (newW 0 0) := by
      have := heap_alloc_new (w.alloc (.cells #[.int .i64 a.kind, .int .i64 a.hv, .int .i64 a.now, .int .u16 a.num, .int .u64 a.set] 31)) (.cells (wcells (newW 0 0)).toArray 53)
      rw [World.size_alloc] at this
      rw [hW]; exact this
    exact h.cell (i := 0) (by decide)⟩
  have hc : ∀ j u, (acells a)[j]? = some u → W.cell? ⟨w.heap.size, j, none⟩ = some u := fun j u hj => by
    have h : W.heap[w.heap.size]? = some (.cells (acells a).toArray 31 (0, 0)) := by
      rw [hW, Below.heap_alloc _ _ _ (by simp)]; exact heap_alloc_new w _
    rw [cell_of_row W w.heap.size j _ 31 (0, 0) h]
    simpa using hj
  have k1 := hc 1 _ rfl
  have k2 := hc 2 _ rfl
  have k3 := hc 3 _ rfl
  have k4 := hc 4 _ rfl
  have HL := lives_any W (hT.below bW hpos)
  have hfold := hW.symm
  clear hc hW
  go_enter Tryd.func6, Tryd.ntmps6
  go_wp2
  refine Eq.mpr (congrArg (Code.wp Tryd.prog _ _ _) (hfold : _ = W)) ?_
  clear hfold
  have hstep : ∀ v, Un W v → (∀ n k, Calls Tryd.prog 12 #[v, .int .i64 n, .int .i64 k] W fun e w' => e = .returned (.slice none 0 0) ∧ w' = W) ∧ (∀ n k, Calls Tryd.prog 15 #[v, .int .u16 n, .int .u64 k] W fun e w' => e = .returned (.int .i64 0) ∧ w' = W) ∧ Calls Tryd.prog 19 #[v] W (fun e w' => e = .returned (.int .u16 0) ∧ w' = W) ∧ (∀ i, Calls Tryd.prog 22 #[v, .int .i64 i] W fun e w' => e = .returned (.int .u16 0) ∧ w' = W) ∧ Calls Tryd.prog 20 #[v] W (fun e w' => e = .returned (.int .i64 0) ∧ w' = W) ∧ Calls Tryd.prog 17 #[v] W (fun e w' => e = .returned (.tuple #[]) ∧ w' = W) :=
    fun v h => ⟨un_send h, un_ack h, un_base h, un_num h, un_open h, un_reset h⟩
  obtain ⟨s1, a1, b1, n1, o1, r1⟩ := hstep _ hU1
  obtain ⟨s2, a2, b2, n2, o2, r2⟩ := hstep _ hU2
  clear hstep hU1 hU2
  have i0 : ∀ X : World, (Instr.index 54 (.agg #[.pointer none, .pointer (some ⟨w.heap.size + 1, 0, none⟩)]) (.int .i64 0)).run Tryd.prog X = .ok (.pointer none) X := fun X => by kernel_rfl
  have i1 : ∀ X : World, (Instr.index 54 (.agg #[.pointer none, .pointer (some ⟨w.heap.size + 1, 0, none⟩)]) (.int .i64 1)).run Tryd.prog X = .ok (.pointer (some ⟨w.heap.size + 1, 0, none⟩)) X := fun X => by kernel_rfl
  go_loopg [5, 7] 2 (fun g u5 u7 wr => ∃ k : Nat, k ≤ 2 ∧ u7 = .int .i64 k ∧ g = 2 - k ∧ wr = W)
  case atStart => exact ⟨0, by decide, rfl, rfl, rfl⟩
  case round =>
    obtain ⟨k, hk, rfl, rfl, rfl⟩ := hrel
    obtain rfl | rfl | rfl : k = 0 ∨ k = 1 ∨ k = 2 := by omega
    · go_wp2_with (first
        | (go_at_call 17; refine r1.mono ?_; rintro e w' ⟨rfl, rfl⟩)
        | (go_at_call 19; refine b1.mono ?_; rintro e w' ⟨rfl, rfl⟩)
        | (go_at_call 22; refine (n1 _).mono ?_; rintro e w' ⟨rfl, rfl⟩)
        | (go_at_call 12; refine (s1 _ _).mono ?_; rintro e w' ⟨rfl, rfl⟩)
        | (go_at_call 15; refine (a1 _ _).mono ?_; rintro e w' ⟨rfl, rfl⟩)
        | (go_at_call 20; refine o1.mono ?_; rintro e w' ⟨rfl, rfl⟩))
      go_roundg 1
      case measure => omega
      case rel => exact ⟨1, by decide, rfl, rfl, rfl⟩
    · go_wp2_with (first
        | (go_at_call 17; refine r2.mono ?_; rintro e w' ⟨rfl, rfl⟩)
        | (go_at_call 19; refine b2.mono ?_; rintro e w' ⟨rfl, rfl⟩)
        | (go_at_call 22; refine (n2 _).mono ?_; rintro e w' ⟨rfl, rfl⟩)
        | (go_at_call 12; refine (s2 _ _).mono ?_; rintro e w' ⟨rfl, rfl⟩)
        | (go_at_call 15; refine (a2 _ _).mono ?_; rintro e w' ⟨rfl, rfl⟩)
        | (go_at_call 20; refine o2.mono ?_; rintro e w' ⟨rfl, rfl⟩))
      go_roundg 0
      case measure => omega
      case rel => exact ⟨2, by decide, rfl, rfl, rfl⟩
    · go_wp2_with (go_at_call 10; refine HL.mono ?_; rintro e w' ⟨rfl, bL⟩)
      go_ret
      exact ⟨rfl, bW.trans (bL.mono bW.size)⟩
end Go.Proofs.YthdoilinpeheiaaDoor
