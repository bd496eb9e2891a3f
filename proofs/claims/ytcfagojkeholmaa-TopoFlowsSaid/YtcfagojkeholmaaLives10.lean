/-
  The document's Ints; the examples: lives, by its contract.
-/
import Derived.Test.YtcfagojkeholmaaTells3
namespace Go.Proofs.Ytcfagojkeholmaa
open Go.RowKit Go.Sort Go.Shelf

theorem take_step (a b : List Int) (h : a.length = b.length) (k : Nat) (hk : k < a.length) (he : a.take k = b.take k) : (a[k] = b[k]'(by omega)) ↔ a.take (k + 1) = b.take (k + 1) := by
  have e1 := List.take_succ_eq_append_getElem hk
  have e2 := List.take_succ_eq_append_getElem (show k < b.length by omega)
  rw [e1, e2, he]
  exact ⟨fun h => by rw [h], fun h => (List.cons.inj (List.append_cancel_left h)).1⟩

set_option maxHeartbeats 400000 in
theorem ints_any (v u : Value) (a b : List Int) (w : World) (ha : Row w v (icells a)) (hb : Row w u (icells b)) :
    Calls Try.prog 11 #[v, u] w fun e w' => e = .returned (.bool (a == b)) ∧ Below w.heap.size w w' := by
  by_cases hl : a.length = b.length
  · by_cases hp : 0 < a.length
    · obtain ⟨g1, o1, c1, rfl, ha1, ha2, hca⟩ := ha.atInts hp
      obtain ⟨g2, o2, c2, rfl, hb1, hb2, hcb⟩ := hb.atInts (by omega)
      unfold maxLen at ha2 hb2
      go_enter Try.func11, Try.ntmps11
      go_wp2
      go_loopw [13] (fun i wr => ∃ k : Nat, k ≤ a.length ∧ i = .int .i64 k ∧ a.take k = b.take k ∧ Below w.heap.size w wr ∧ w.heap.size ≤ wr.heap.size ∧ (∀ j (hj : j < a.length), wr.cell? ⟨g1, o1 + j, none⟩ = some (.int .i64 a[j])) ∧ (∀ j (hj : j < b.length), wr.cell? ⟨g2, o2 + j, none⟩ = some (.int .i64 b[j]))) (fun i _ => a.length - (intOf i).toNat)
      case atStart => exact ⟨0, Nat.zero_le _, rfl, rfl, Below.refl _ _, Nat.le_refl _, hca, hcb⟩
      case round =>
        obtain ⟨k, hk, rfl, he, bel, sz, hca, hcb⟩ := hrel
        by_cases hlt : k < a.length
        · have h1 := hca k hlt
          have h2 := hcb k (by omega)
          have hstep := take_step a b hl k hlt he
          have HS : Hid _ := hstep
          clear hstep
          go_wp2
          go_region
          by_cases hkb : a[k] = b[k]'(by omega)
          · go_wp2
            go_roundw
            case rel => exact ⟨k + 1, by omega, by go_num, HS.out.1 hkb, bel.drew, sz, hca, hcb⟩
            case measure => simp [intOf]; omega
          · go_wp2
            go_ret
            refine ⟨ret_bool ?_, bel.drew⟩
            symm
            rw [beq_eq_false_iff_ne]
            intro e
            subst e
            exact hkb rfl
        · go_wp2
          obtain rfl : k = a.length := by omega
          go_ret
          refine ⟨ret_bool ?_, bel⟩
          symm
          rw [beq_iff_eq]
          rw [List.take_of_length_le (Nat.le_refl _), List.take_of_length_le (by omega)] at he
          exact he
    · obtain rfl : a = [] := List.eq_nil_of_length_eq_zero (by omega)
      obtain rfl : b = [] := List.eq_nil_of_length_eq_zero (by simpa using hl.symm)
      obtain ⟨a1, c1, rfl⟩ := ha.sliceInts
      obtain ⟨a2, c2, rfl⟩ := hb.sliceInts
      go_enter Try.func11, Try.ntmps11
      go_wp2
      go_rounds 1
      go_ret
      exact ⟨rfl, Below.refl _ _⟩
  · obtain ⟨a1, c1, rfl⟩ := ha.sliceInts
    obtain ⟨a2, c2, rfl⟩ := hb.sliceInts
    go_enter Try.func11, Try.ntmps11
    go_wp2
    go_ret
    refine ⟨ret_bool ?_, Below.refl _ _⟩
    symm
    rw [beq_eq_false_iff_ne]
    intro e
    subst e
    exact hl rfl

/-- The ring of three. -/
def ring3 : List (Int × Int) := [(1, 2), (2, 3), (3, 1)]
theorem ring3_good : goodB 3 ring3 1 = true := by decide
theorem ring3_within : withinT 3 ring3 1 1 = [1, 2] := by decide
theorem ring3_onward : onwardT 3 ring3 1 1 2 = [] := by decide
theorem ring3_far : farT 3 ring3 1 1 3 = 2 := by decide
theorem ring3_rounds : roundsT 3 ring3 1 = 1 := by decide
theorem ring3_row (w : World) : RowOf ecells (w.alloc (.cells #[.int .i64 1, .int .i64 2, .int .i64 2, .int .i64 3, .int .i64 3, .int .i64 1] 39)) (.slice (some ⟨w.heap.size, 0, none⟩) 3 3) ring3 := by
  refine .inr ⟨_, 3, rfl, Nat.le_refl _, by simp [maxLen], fun j u hj => ?_⟩
  rw [Go.WideShapes.add_plain, Nat.zero_add, World.cell?_alloc_at _ _ _ _ rfl]
  have : (cellsOf ecells ring3) = [.int .i64 1, .int .i64 2, .int .i64 2, .int .i64 3, .int .i64 3, .int .i64 1] := rfl
  rw [this] at hj
  simpa using hj

/-- In the midst of lives. -/
structure LvAt (w wr : World) : Prop where
  bel : Below w.heap.size w wr
  row : RowOf ecells wr (.slice (some ⟨w.heap.size, 0, none⟩) 3 3) ring3
  box : wr.heap[w.heap.size + 1]? = some (.cells #[.int .i64 3, .slice (some ⟨w.heap.size, 0, none⟩) 3 3, .int .i64 1] 24 (0, 0))
theorem LvAt.next {w wr wq : World} (h : LvAt w wr) (hb : Below wr.heap.size wr wq) : LvAt w wq :=
  ⟨h.bel.trans (hb.mono h.bel.size), h.row.below hb (Nat.le_refl _), by rw [hb.block _ (Array.getElem?_eq_some_iff.1 h.box).1]; exact h.box⟩
theorem LvAt.c0 {w wr : World} (h : LvAt w wr) : wr.cell? ⟨w.heap.size + 1, 0, none⟩ = some (.int .i64 3) := by
  rw [cell_of_row wr (w.heap.size + 1) 0 _ _ (0, 0) h.box]; rfl
theorem LvAt.c1 {w wr : World} (h : LvAt w wr) : wr.cell? ⟨w.heap.size + 1, 1, none⟩ = some (.slice (some ⟨w.heap.size, 0, none⟩) 3 3) := by
  rw [cell_of_row wr (w.heap.size + 1) 1 _ _ (0, 0) h.box]; rfl
theorem LvAt.c2 {w wr : World} (h : LvAt w wr) : wr.cell? ⟨w.heap.size + 1, 2, none⟩ = some (.int .i64 1) := by
  rw [cell_of_row wr (w.heap.size + 1) 2 _ _ (0, 0) h.box]; rfl
theorem row_two (w : World) (a b : Int) (n : Nat) (hn : n = w.heap.size) : Row (w.alloc (.cells #[.int .i64 a, .int .i64 b] 3)) (.slice (some ⟨n, 0, none⟩) 2 2) (icells [a, b]) := by
  subst hn
  refine .inr ⟨_, 2, rfl, Nat.le_refl _, by simp [maxLen], fun j u hj => ?_⟩
  rw [Go.WideShapes.add_plain, Nat.zero_add, World.cell?_alloc_at _ _ _ _ rfl]
  simpa [icells] using hj

set_option maxRecDepth 20000 in
set_option maxHeartbeats 2000000 in
theorem lives_any (w : World) : Calls Try.prog 8 #[] w fun e w' => e = .returned (.bool true) ∧ Below w.heap.size w w' := by
  have h0 : Hid (LvAt w ((w.alloc (.cells #[.int .i64 1, .int .i64 2, .int .i64 2, .int .i64 3, .int .i64 3, .int .i64 1] 39)).alloc (.cells #[.int .i64 3, .slice (some ⟨w.heap.size, 0, none⟩) 3 3, .int .i64 1] 24))) := by
    refine ⟨((Below.refl _ _).alloc (Nat.le_refl _) _).alloc (by simp) _, (ring3_row w).below ((Below.refl _ _).alloc (Nat.le_refl _) _) (Nat.le_refl _), ?_⟩
    have := heap_alloc_new (w.alloc (.cells #[.int .i64 1, .int .i64 2, .int .i64 2, .int .i64 3, .int .i64 3, .int .i64 1] 39)) (.cells #[.int .i64 3, .slice (some ⟨w.heap.size, 0, none⟩) 3 3, .int .i64 1] 24)
    rw [World.size_alloc] at this
    exact this
  have hG := fun W hW => good_any 3 1 (.slice (some ⟨w.heap.size, 0, none⟩) 3 3) ring3 W hW
  rw [ring3_good] at hG
  have hWi := fun W hW => within_any 3 1 1 (.slice (some ⟨w.heap.size, 0, none⟩) 3 3) ring3 W hW
  rw [ring3_within] at hWi
  have hOn := fun W hW => onward_any 3 1 1 2 (.slice (some ⟨w.heap.size, 0, none⟩) 3 3) ring3 W hW
  rw [ring3_onward] at hOn
  have hFa := fun W hW => far_any 3 1 1 3 (.slice (some ⟨w.heap.size, 0, none⟩) 3 3) ring3 W hW
  rw [ring3_far] at hFa
  have hRo := fun W hW => rounds_any 3 1 (.slice (some ⟨w.heap.size, 0, none⟩) 3 3) ring3 W hW
  rw [ring3_rounds] at hRo
  go_enter Try.func8, Try.ntmps8
  go_wp2_with (first
    | (go_at_call 9; refine (hG _ h0.out.row).mono ?_; rintro e w2 ⟨rfl, b2⟩; have h1 : Hid (LvAt w w2) := h0.out.next b2; have p0 := h1.out.c0; have p1 := h1.out.c1; have p2 := h1.out.c2; clear b2)
    | (go_at_call 16; refine (hWi _ h1.out.row).mono ?_; rintro e w3 ⟨v3, rfl, r3, b3⟩; have h2 : Hid (LvAt w w3) := h1.out.next b3; have hr3 : Hid (Row w3 v3 (icells [1, 2])) := r3.row; clear p0 p1 p2 b3 r3)
    | (go_at_call 11; refine (ints_any v3 _ [1, 2] [1, 2] _ (hr3.out.below ((Below.refl _ _).alloc (Nat.le_refl _) _) (Nat.le_refl _)) (row_two _ 1 2 _ rfl)).mono ?_; rintro e w4 ⟨rfl, b4⟩; have h3 : Hid (LvAt w w4) := (h2.out.next ((Below.refl _ _).alloc (Nat.le_refl _) _)).next b4; have p0 := h3.out.c0; have p1 := h3.out.c1; have p2 := h3.out.c2; clear b4)
    | (go_at_call 18; refine (hOn _ h3.out.row).mono ?_; rintro e w5 ⟨v5, rfl, r5, b5⟩; have h4 : Hid (LvAt w w5) := h3.out.next b5; obtain ⟨va5, vc5, hv5⟩ := r5.slice; rw [List.length_nil] at hv5; subst hv5; clear p0 p1 p2 b5 r5; have p0 := h4.out.c0; have p1 := h4.out.c1; have p2 := h4.out.c2)
    | (go_at_call 14; refine (hFa _ h4.out.row).mono ?_; rintro e w6 ⟨rfl, b6⟩; have h5 : Hid (LvAt w w6) := h4.out.next b6; clear p0 p1 p2 b6; have p0 := h5.out.c0; have p1 := h5.out.c1; have p2 := h5.out.c2)
    | (go_at_call 20; refine (hRo _ h5.out.row).mono ?_; rintro e w7 ⟨rfl, b7⟩; have h6 : Hid (LvAt w w7) := h5.out.next b7; clear p0 p1 p2 b7))
  go_ret
  exact ⟨rfl, h6.out.bel⟩
end Go.Proofs.Ytcfagojkeholmaa
