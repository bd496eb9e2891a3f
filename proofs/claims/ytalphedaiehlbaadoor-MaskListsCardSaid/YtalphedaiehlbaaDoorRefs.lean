/-
  THE WALKS of the document's Without, Below, Slide, Run and Ints.
-/
import Derived.Test.YtalphedaiehlbaaDoorLists
namespace Go.Proofs.YtalphedaiehlbaaDoor
open Go.RowKit

/-- The document's Without and Slide behind k rounds. -/
def outT (l : List Int) (n : Int) (k : Nat) : Nat := foldS 0 ((l.take k).filter fun x => x != n)
def slideT (l : List Int) (n : Int) (k : Nat) : Nat := foldS 0 ((l.take k).map fun x => x - n)
theorem outT_zero (l : List Int) (n : Int) : outT l n 0 = 0 := rfl
theorem slideT_zero (l : List Int) (n : Int) : slideT l n 0 = 0 := rfl
theorem outT_set (l : List Int) (n : Int) (k : Nat) : IsSet (outT l n k) := foldS_set 0 _ (by decide)
theorem slideT_set (l : List Int) (n : Int) (k : Nat) : IsSet (slideT l n k) := foldS_set 0 _ (by decide)
theorem outT_succ (l : List Int) (n : Int) (k : Nat) (h : k < l.length) : outT l n (k + 1) = if l[k] = n then outT l n k else withS (outT l n k) l[k] := by
  unfold outT
  rw [List.take_succ_eq_append_getElem h, List.filter_append]
  unfold foldS
  rw [List.foldl_append]
  by_cases hk : l[k] = n
  · simp [hk]
  · simp [hk]
theorem slideT_succ (l : List Int) (n : Int) (k : Nat) (h : k < l.length) : slideT l n (k + 1) = withS (slideT l n k) (l[k] - n) := by
  unfold slideT
  rw [List.take_succ_eq_append_getElem h, List.map_append]
  unfold foldS
  rw [List.foldl_append]
  rfl
theorem outT_all (l : List Int) (n : Int) : outT l n l.length = ofS (l.filter fun x => x != n) := by
  unfold outT
  rw [List.take_of_length_le (Nat.le_refl _)]
  rfl
theorem slideT_all (l : List Int) (n : Int) : slideT l n l.length = ofS (l.map fun x => x - n) := by
  unfold slideT
  rw [List.take_of_length_le (Nat.le_refl _)]
  rfl

set_option maxHeartbeats 400000 in
theorem rwithout_any (m : Nat) (n : Int) (w : World) (hm : IsSet m) :
    Calls Tryd.prog 14 #[.int .u64 m, .int .i64 n] w fun e w' => e = .returned (.int .u64 (withoutS m n)) ∧ Below w.heap.size w w' := by
  obtain ⟨l, hL⟩ : ∃ l, l = listS m := ⟨_, rfl⟩
  rw [← without_of n hm, ← hL, ← outT_all]
  go_enter Tryd.func14, Tryd.ntmps14
  go_wp2_with fail
  refine (rlist_any m _ hm).mono ?_
  rintro e w1 ⟨v, rfl, own, bel⟩
  rw [← hL] at own
  have hl := own.row
  clear hL
  by_cases hp : 0 < l.length
  · obtain ⟨b, off, cap, rfl, hc1, hc2, hcell⟩ := hl.atInts hp
    unfold maxLen at hc2
    go_wp2
    go_loop [5, 11] (fun x i => ∃ k : Nat, k ≤ l.length ∧ i = .int .i64 k ∧ x = .int .u64 (outT l n k)) (fun _ i => l.length - (intOf i).toNat)
    case atStart => exact ⟨0, Nat.zero_le _, rfl, rfl⟩
    case round =>
      obtain ⟨k, hk, rfl, rfl⟩ := hrel
      by_cases hlt : k < l.length
      · have hc := hcell k hlt
        have hset := outT_set l n k
        have hstep := outT_succ l n k hlt
        have HS : Hid _ := hstep
        clear hstep
        by_cases hkn : l[k] = n
        · go_wp2
          refine ⟨⟨k + 1, by omega, by go_num, ?_⟩, by simp [intOf]; omega⟩
          rw [HS.out, if_pos hkn]
        · go_wp2_with (go_at_call 12; refine (rwith_any _ _ _ hset).mono ?_; rintro e w' ⟨rfl, rfl⟩)
          refine ⟨⟨k + 1, by omega, by go_num, ?_⟩, by simp [intOf]; omega⟩
          rw [HS.out, if_neg hkn]
      · go_wp2
        obtain rfl : k = l.length := by omega
        go_ret
        exact ⟨rfl, bel⟩
  · obtain rfl : l = [] := List.eq_nil_of_length_eq_zero (by omega)
    obtain ⟨a, cap, rfl⟩ := hl.sliceInts
    go_wp2
    go_rounds 1
    go_ret
    exact ⟨rfl, bel⟩

set_option maxHeartbeats 400000 in
theorem rslide_any (m : Nat) (n : Int) (w : World) (hm : IsSet m) :
    Calls Tryd.prog 25 #[.int .u64 m, .int .i64 n] w fun e w' => e = .returned (.int .u64 (slideS m n)) ∧ Below w.heap.size w w' := by
  by_cases hn : n > 64 ∨ n < -64
  · go_enter Tryd.func25, Tryd.ntmps25
    rcases hn with hn | hn
    · go_wp2
      go_ret
      exact ⟨ret_int (by unfold slideS; rw [if_pos (by omega)]; rfl), Below.refl _ _⟩
    · have hn2 : ¬ 64 < n := by omega
      go_wp2
      go_ret
      exact ⟨ret_int (by unfold slideS; rw [if_pos (by omega)]; rfl), Below.refl _ _⟩
  have hn1 : n ≤ 64 := by omega
  have hn2 : -64 ≤ n := by omega
  clear hn
  obtain ⟨l, hL⟩ : ∃ l, l = listS m := ⟨_, rfl⟩
  rw [← slide_of n hm, ← hL, ← slideT_all]
  go_enter Tryd.func25, Tryd.ntmps25
  go_wp2_with fail
  refine (rlist_any m _ hm).mono ?_
  rintro e w1 ⟨v, rfl, own, bel⟩
  rw [← hL] at own
  have hl := own.row
  have hbd : ∀ x ∈ l, 0 ≤ x ∧ x < 64 := fun x hx => listS_bound (hL ▸ hx)
  clear hL
  by_cases hp : 0 < l.length
  · obtain ⟨b, off, cap, rfl, hc1, hc2, hcell⟩ := hl.atInts hp
    unfold maxLen at hc2
    go_wp2
    go_loop [5, 17] (fun x i => ∃ k : Nat, k ≤ l.length ∧ i = .int .i64 k ∧ x = .int .u64 (slideT l n k)) (fun _ i => l.length - (intOf i).toNat)
    case atStart => exact ⟨0, Nat.zero_le _, rfl, rfl⟩
    case round =>
      obtain ⟨k, hk, rfl, rfl⟩ := hrel
      by_cases hlt : k < l.length
      · have hc := hcell k hlt
        have hset := slideT_set l n k
        have hkb := hbd l[k] (List.getElem_mem hlt)
        have hstep := slideT_succ l n k hlt
        have HS : Hid _ := hstep
        clear hstep
        go_wp2_with (go_at_call 12; refine (rwith_any _ _ _ hset).mono ?_; rintro e w' ⟨rfl, rfl⟩)
        refine ⟨⟨k + 1, by omega, by go_num, ?_⟩, by simp [intOf]; omega⟩
        rw [HS.out]
      · go_wp2
        obtain rfl : k = l.length := by omega
        go_ret
        exact ⟨rfl, bel⟩
  · obtain rfl : l = [] := List.eq_nil_of_length_eq_zero (by omega)
    obtain ⟨a, cap, rfl⟩ := hl.sliceInts
    go_wp2
    go_rounds 1
    go_ret
    exact ⟨rfl, bel⟩

set_option maxHeartbeats 400000 in
theorem rbelow_any (n : Int) (w : World) :
    Calls Tryd.prog 16 #[.int .i64 n] w fun e w' => e = .returned (.int .u64 (belowS n)) ∧ w' = w := by
  go_enter Tryd.func16, Tryd.ntmps16
  go_wp2
  go_loop [3, 4] (fun x i => ∃ k : Nat, k ≤ 64 ∧ ((k : Int) ≤ n ∨ k = 0) ∧ i = .int .i64 k ∧ x = .int .u64 (belowS k)) (fun _ i => 64 - (intOf i).toNat)
  case atStart => exact ⟨0, Nat.zero_le _, .inr rfl, rfl, rfl⟩
  case round =>
    obtain ⟨k, hk, hkn, rfl, rfl⟩ := hrel
    have hset := belowS_set k
    by_cases hlt : k < 64
    · by_cases hkn2 : (k : Int) < n
      · have hs := below_succ k hlt
        have HS : Hid _ := hs
        clear hs
        go_wp2_with (go_at_call 12; refine (rwith_any _ _ _ hset).mono ?_; rintro e w' ⟨rfl, rfl⟩)
        refine ⟨⟨k + 1, by omega, by omega, by go_num, ?_⟩, by simp [intOf]; omega⟩
        rw [HS.out]
        rfl
      · go_wp2
        go_ret
        exact ⟨ret_int (by rw [below_end n k hk hkn (.inr (by omega))]), rfl⟩
    · go_wp2
      go_ret
      exact ⟨ret_int (by rw [below_end n k hk hkn (.inl (by omega))]), rfl⟩

theorem rrun_any (m : Nat) (w : World) (hm : IsSet m) :
    Calls Tryd.prog 23 #[.int .u64 m] w fun e w' => e = .returned (.int .i64 (runS m)) ∧ w' = w := by
  have hle := runS_le m
  go_enter Tryd.func23, Tryd.ntmps23
  go_wp2
  go_loop [3] (fun i => ∃ k : Nat, k ≤ runS m ∧ i = .int .i64 k) (fun i => 64 - (intOf i).toNat)
  case atStart => exact ⟨0, Nat.zero_le _, rfl⟩
  case round =>
    obtain ⟨k, hk, rfl⟩ := hrel
    by_cases hlt : k < runS m
    · have hh : hasS m k = true := by rw [hasS_test hm]; exact runS_all m k hlt
      go_wp2_with (go_at_call 10; refine (rhas_any _ _ _ hm).mono ?_; rintro e w' ⟨rfl, rfl⟩)
      exact ⟨⟨k + 1, by omega, by go_num⟩, by simp [intOf]; omega⟩
    · obtain rfl : k = runS m := by omega
      have hh : hasS m (runS m) = false := by rw [hasS_test hm]; exact runS_end hm
      go_wp2_with (go_at_call 10; refine (rhas_any _ _ _ hm).mono ?_; rintro e w' ⟨rfl, rfl⟩)
      go_ret
      exact ⟨rfl, rfl⟩

theorem take_step (a b : List Int) (h : a.length = b.length) (k : Nat) (hk : k < a.length) (he : a.take k = b.take k) : (a[k] = b[k]'(by omega)) ↔ a.take (k + 1) = b.take (k + 1) := by
  have e1 := List.take_succ_eq_append_getElem hk
  have e2 := List.take_succ_eq_append_getElem (show k < b.length by omega)
  rw [e1, e2, he]
  exact ⟨fun h => by rw [h], fun h => (List.cons.inj (List.append_cancel_left h)).1⟩

set_option maxHeartbeats 400000 in
theorem ints_any (v u : Value) (a b : List Int) (w : World) (ha : Row w v (icells a)) (hb : Row w u (icells b)) :
    Calls Tryd.prog 19 #[v, u] w fun e w' => e = .returned (.bool (a == b)) ∧ Below w.heap.size w w' := by
  by_cases hl : a.length = b.length
  · by_cases hp : 0 < a.length
    · obtain ⟨g1, o1, c1, rfl, ha1, ha2, hca⟩ := ha.atInts hp
      obtain ⟨g2, o2, c2, rfl, hb1, hb2, hcb⟩ := hb.atInts (by omega)
      unfold maxLen at ha2 hb2
      go_enter Tryd.func19, Tryd.ntmps19
      go_wp2
      go_loopw [13] (fun i wr => ∃ k : Nat, k ≤ a.length ∧ i = .int .i64 k ∧ a.take k = b.take k ∧ Below w.heap.size w wr ∧ w.heap.size ≤ wr.heap.size ∧ (∀ j (hj : j < a.length), wr.cell? ⟨g1, o1 + j, none⟩ = some (.int .i64 a[j])) ∧ (∀ j (hj : j < b.length), wr.cell? ⟨g2, o2 + j, none⟩ = some (.int .i64 b[j]))) (fun i _ => a.length - (intOf i).toNat)
      case atStart => exact ⟨0, Nat.zero_le _, rfl, rfl, Below.refl _ _, Nat.le_refl _, hca, hcb⟩
      case round =>
        obtain ⟨k, hk, rfl, he, bel, sz, hca, hcb⟩ := hrel
        by_cases hlt : k < a.length
        · have h1 := hca k hlt
          have h2 := hcb k (by omega)
          have hstep := take_step a b hl k hlt he
          have HS : Hid _ := hstep
          clear hstep
          go_wp2
          go_region
          by_cases hkb : a[k] = b[k]'(by omega)
          · go_wp2
            go_roundw
            case rel => exact ⟨k + 1, by omega, by go_num, HS.out.1 hkb, bel.drew, sz, hca, hcb⟩
            case measure => simp [intOf]; omega
          · go_wp2
            go_ret
            refine ⟨ret_bool ?_, bel.drew⟩
            symm
            rw [beq_eq_false_iff_ne]
            intro e
            subst e
            exact hkb rfl
        · go_wp2
          obtain rfl : k = a.length := by omega
          go_ret
          refine ⟨ret_bool ?_, bel⟩
          symm
          rw [beq_iff_eq]
          rw [List.take_of_length_le (Nat.le_refl _), List.take_of_length_le (by omega)] at he
          exact he
    · obtain rfl : a = [] := List.eq_nil_of_length_eq_zero (by omega)
      obtain rfl : b = [] := List.eq_nil_of_length_eq_zero (by simpa using hl.symm)
      obtain ⟨a1, c1, rfl⟩ := ha.sliceInts
      obtain ⟨a2, c2, rfl⟩ := hb.sliceInts
      go_enter Tryd.func19, Tryd.ntmps19
      go_wp2
      go_rounds 1
      go_ret
      exact ⟨rfl, Below.refl _ _⟩
  · obtain ⟨a1, c1, rfl⟩ := ha.sliceInts
    obtain ⟨a2, c2, rfl⟩ := hb.sliceInts
    go_enter Tryd.func19, Tryd.ntmps19
    go_wp2
    go_ret
    refine ⟨ret_bool ?_, Below.refl _ _⟩
    symm
    rw [beq_eq_false_iff_ne]
    intro e
    subst e
    exact hl rfl
end Go.Proofs.YtalphedaiehlbaaDoor
