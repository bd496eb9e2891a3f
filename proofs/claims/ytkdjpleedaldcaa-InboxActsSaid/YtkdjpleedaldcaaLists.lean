/-
  THE WALKS of joined, With, Of and of the document's List, Of, Without, Below, Slide, Run and Ints.
-/
import Derived.Test.YtkdjpleedaldcaaWalks
import Derived.Outline
namespace Go.Proofs.Ytkdjpleedaldcaa
open Go.RowKit


/-- A set with all of a list. -/
def foldS (m : Nat) (l : List Int) : Nat := l.foldl withS m

theorem foldS_set (m : Nat) (l : List Int) (h : IsSet m) : IsSet (foldS m l) := foldl_withS_set l m h

theorem foldl_take (l : List Int) (m : Nat) (k : Nat) (h : k < l.length) : foldS m (l.take (k + 1)) = withS (foldS m (l.take k)) l[k] := by
  unfold foldS
  rw [List.take_succ_eq_append_getElem h, List.foldl_append]
  rfl


set_option maxHeartbeats 400000 in
theorem joined_any (m : Nat) (v : Value) (l : List Int) (w : World) (hm : IsSet m) (hl : Row w v (icells l)) :
    Calls Try.prog 36 #[.int .u64 m, v] w fun e w' => e = .returned (.int .u64 (foldS m l)) ∧ w' = w := by
  by_cases hp : 0 < l.length
  · obtain ⟨b, off, cap, rfl, hc1, hc2, hcell⟩ := hl.atInts hp
    unfold maxLen at hc2
    go_enter Try.func36, Try.ntmps36
    go_wp2
    go_loop [0, 9] (fun x i => ∃ k : Nat, k ≤ l.length ∧ i = .int .i64 k ∧ x = .int .u64 (foldS m (l.take k))) (fun _ i => l.length - (intOf i).toNat)
    case atStart => exact ⟨0, Nat.zero_le _, rfl, rfl⟩
    case round =>
      obtain ⟨k, hk, rfl, rfl⟩ := hrel
      by_cases hlt : k < l.length
      · have hc := hcell k hlt
        have hset := foldS_set m (l.take k) hm
        go_wp2_with (go_at_call 37; refine (bit_any _ _).mono ?_; rintro e w' ⟨rfl, rfl⟩)
        refine ⟨⟨k + 1, by omega, by go_num, ?_⟩, by simp [intOf]; omega⟩
        rw [u64_or_nat _ _ hset (bitS_set _), foldl_take l m k hlt]
        rfl
      · go_wp2
        obtain rfl : k = l.length := by omega
        go_ret
        exact ⟨ret_int (by rw [List.take_of_length_le (Nat.le_refl _)]), rfl⟩
  · obtain rfl : l = [] := List.eq_nil_of_length_eq_zero (by omega)
    obtain ⟨a, cap, rfl⟩ := hl.sliceInts
    go_enter Try.func36, Try.ntmps36
    go_wp2
    go_rounds 1
    go_ret
    exact ⟨rfl, rfl⟩


theorem with_any (m : Nat) (n : Int) (w : World) (hm : IsSet m) :
    Calls Try.prog 32 #[.int .u64 m, .int .i64 n] w fun e w' => e = .returned (.int .u64 (withS m n)) ∧ Below w.heap.size w w' := by
  go_enter Try.func32, Try.ntmps32
  go_wp2_with (go_at_call 36; refine (joined_any _ _ [n] _ hm (row_one _ _ _)).mono ?_; rintro e w' ⟨rfl, rfl⟩)
  go_ret
  exact ⟨rfl, (Below.refl _ _).alloc (Nat.le_refl _) _⟩


/-- The numbers of a set below k. -/
def listB (m k : Nat) : List Int := ((List.range k).filter fun i => m.testBit i).map fun i : Nat => (i : Int)

theorem listB_succ (m k : Nat) : listB m (k + 1) = listB m k ++ (if m.testBit k then [(k : Int)] else []) := by
  unfold listB
  rw [List.range_succ, List.filter_append, List.map_append]
  congr 1
  cases h : m.testBit k <;> simp [h]

theorem listB_length (m k : Nat) : (listB m k).length ≤ k := by
  have := List.length_filter_le (fun i => m.testBit i) (List.range k)
  simpa [listB] using this

end Go.Proofs.Ytkdjpleedaldcaa
