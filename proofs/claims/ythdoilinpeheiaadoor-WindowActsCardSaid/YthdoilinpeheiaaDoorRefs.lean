/-
  THE WALKS of the document's Without, Below, Slide, Run and Ints.
-/
import Derived.Test.YthdoilinpeheiaaDoorLists
namespace Go.Proofs.YthdoilinpeheiaaDoor
open Go.RowKit


/-- The document's Without and Slide behind k rounds. -/
def outT (l : List Int) (n : Int) (k : Nat) : Nat := foldS 0 ((l.take k).filter fun x => x != n)

def slideT (l : List Int) (n : Int) (k : Nat) : Nat := foldS 0 ((l.take k).map fun x => x - n)

theorem outT_zero (l : List Int) (n : Int) : outT l n 0 = 0 := rfl

theorem slideT_zero (l : List Int) (n : Int) : slideT l n 0 = 0 := rfl

theorem outT_set (l : List Int) (n : Int) (k : Nat) : IsSet (outT l n k) := foldS_set 0 _ (by decide)

theorem slideT_set (l : List Int) (n : Int) (k : Nat) : IsSet (slideT l n k) := foldS_set 0 _ (by decide)

theorem outT_succ (l : List Int) (n : Int) (k : Nat) (h : k < l.length) : outT l n (k + 1) = if l[k] = n then outT l n k else withS (outT l n k) l[k] := by
  unfold outT
  rw [List.take_succ_eq_append_getElem h, List.filter_append]
  unfold foldS
  rw [List.foldl_append]
  by_cases hk : l[k] = n
  · simp [hk]
  · simp [hk]

theorem slideT_succ (l : List Int) (n : Int) (k : Nat) (h : k < l.length) : slideT l n (k + 1) = withS (slideT l n k) (l[k] - n) := by
  unfold slideT
  rw [List.take_succ_eq_append_getElem h, List.map_append]
  unfold foldS
  rw [List.foldl_append]
  rfl

theorem outT_all (l : List Int) (n : Int) : outT l n l.length = ofS (l.filter fun x => x != n) := by
  unfold outT
  rw [List.take_of_length_le (Nat.le_refl _)]
  rfl

theorem slideT_all (l : List Int) (n : Int) : slideT l n l.length = ofS (l.map fun x => x - n) := by
  unfold slideT
  rw [List.take_of_length_le (Nat.le_refl _)]
  rfl


theorem take_step (a b : List Int) (h : a.length = b.length) (k : Nat) (hk : k < a.length) (he : a.take k = b.take k) : (a[k] = b[k]'(by omega)) ↔ a.take (k + 1) = b.take (k + 1) := by
  have e1 := List.take_succ_eq_append_getElem hk
  have e2 := List.take_succ_eq_append_getElem (show k < b.length by omega)
  rw [e1, e2, he]
  exact ⟨fun h => by rw [h], fun h => (List.cons.inj (List.append_cancel_left h)).1⟩


set_option maxHeartbeats 400000 in
theorem ints_any (v u : Value) (a b : List Int) (w : World) (ha : Row w v (icells a)) (hb : Row w u (icells b)) :
    Calls Tryd.prog 11 #[v, u] w fun e w' => e = .returned (.bool (a == b)) ∧ Below w.heap.size w w' := by
  by_cases hl : a.length = b.length
  · by_cases hp : 0 < a.length
    · obtain ⟨g1, o1, c1, rfl, ha1, ha2, hca⟩ := ha.atInts hp
      obtain ⟨g2, o2, c2, rfl, hb1, hb2, hcb⟩ := hb.atInts (by omega)
      unfold maxLen at ha2 hb2
      go_enter Tryd.func11, Tryd.ntmps11
      go_wp2
      go_loopw [13] (fun i wr => ∃ k : Nat, k ≤ a.length ∧ i = .int .i64 k ∧ a.take k = b.take k ∧ Below w.heap.size w wr ∧ w.heap.size ≤ wr.heap.size ∧ (∀ j (hj : j < a.length), wr.cell? ⟨g1, o1 + j, none⟩ = some (.int .i64 a[j])) ∧ (∀ j (hj : j < b.length), wr.cell? ⟨g2, o2 + j, none⟩ = some (.int .i64 b[j]))) (fun i _ => a.length - (intOf i).toNat)
      case atStart => exact ⟨0, Nat.zero_le _, rfl, rfl, Below.refl _ _, Nat.le_refl _, hca, hcb⟩
      case round =>
        obtain ⟨k, hk, rfl, he, bel, sz, hca, hcb⟩ := hrel
        by_cases hlt : k < a.length
        · have h1 := hca k hlt
          have h2 := hcb k (by omega)
          have hstep := take_step a b hl k hlt he
          have HS : Hid _ := hstep
          clear hstep
          go_wp2
          go_region
          by_cases hkb : a[k] = b[k]'(by omega)
          · go_wp2
            go_roundw
            case rel => exact ⟨k + 1, by omega, by go_num, HS.out.1 hkb, bel.drew, sz, hca, hcb⟩
            case measure => simp [intOf]; omega
          · go_wp2
            go_ret
            refine ⟨ret_bool ?_, bel.drew⟩
            symm
            rw [beq_eq_false_iff_ne]
            intro e
            subst e
            exact hkb rfl
        · go_wp2
          obtain rfl : k = a.length := by omega
          go_ret
          refine ⟨ret_bool ?_, bel⟩
          symm
          rw [beq_iff_eq]
          rw [List.take_of_length_le (Nat.le_refl _), List.take_of_length_le (by omega)] at he
          exact he
    · obtain rfl : a = [] := List.eq_nil_of_length_eq_zero (by omega)
      obtain rfl : b = [] := List.eq_nil_of_length_eq_zero (by simpa using hl.symm)
      obtain ⟨a1, c1, rfl⟩ := ha.sliceInts
      obtain ⟨a2, c2, rfl⟩ := hb.sliceInts
      go_enter Tryd.func11, Tryd.ntmps11
      go_wp2
      go_rounds 1
      go_ret
      exact ⟨rfl, Below.refl _ _⟩
  · obtain ⟨a1, c1, rfl⟩ := ha.sliceInts
    obtain ⟨a2, c2, rfl⟩ := hb.sliceInts
    go_enter Tryd.func11, Tryd.ntmps11
    go_wp2
    go_ret
    refine ⟨ret_bool ?_, Below.refl _ _⟩
    symm
    rw [beq_eq_false_iff_ne]
    intro e
    subst e
    exact hl rfl

end Go.Proofs.YthdoilinpeheiaaDoor
