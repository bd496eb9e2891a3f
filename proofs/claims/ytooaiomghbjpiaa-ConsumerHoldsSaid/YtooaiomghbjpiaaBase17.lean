/-
  made, find, full, has, upTo, New, by their contracts.
-/
import Derived.Test.YtooaiomghbjpiaaMem17
import Derived.Test.YtooaiomghbjpiaaNames
import Derived.WalkSpells
import Derived.Deep.RegionHeld3
namespace Go.Proofs.Ytooaiomghbjpiaa
open Go.RowKit Go.Maps Go.Sort Go.Shelf
set_option maxRecDepth 20000

section
variable {w : World} {p mb : Nat} {v : Value} {X : List Sx}
theorem made_at (h : DkAt w p mb v X) : Calls Try.prog 30 #[.pointer (some ⟨p, 0, none⟩)] w fun e w' => e = .returned (.bool true) ∧ w' = w := by
  obtain ⟨c0, _⟩ := h.cells
  have hnn : ∀ w, (binOp .neq 57 (.map (some mb)) (.map none)).run Try.prog w = .ok (.bool true) w := fun w => run_neq_map_nil w 57 3 78 (some mb) Try.underlying57
  clear h
  go_enter Try.func30, Try.ntmps30
  go_wp2
  go_ret
  exact ⟨rfl, rfl⟩
theorem full_at {x : Sx} (h : SeAt w x) (hm : I64 x.s.m) : Calls Try.prog 40 #[.pointer (some ⟨x.p, 0, none⟩)] w fun e w' => e = .returned (.bool (fullB x.s)) ∧ ∃ n, w' = w.drewN n := by
  obtain ⟨_, _, c2, c3⟩ := h.cells
  have hL : ∀ n ty, (Builtin.len_ #[85] ty #[.map (some x.b)]).run Try.prog (w.drewN n) = .ok (.int .i64 (x.s.t.length : Nat)) (w.drewN n) := fun n ty => TAt.len (h.tags.same (w' := w.drewN n) rfl) ty
  obtain ⟨m1, m2⟩ := hm
  unfold fullB
  generalize x.s.t.length = n at *
  generalize x.s.m = m at *
  generalize x.p = q at *
  clear h
  go_enter Try.func40, Try.ntmps40
  go_wp2
  go_quiet (fail)
  go_wp2
  go_ret
  exact ⟨rfl, _, rfl⟩
theorem has_at {x : Sx} (h : SeAt w x) {t : Int} (ht : U64 t) : Calls Try.prog 43 #[.pointer (some ⟨x.p, 0, none⟩), .int .u64 t] w fun e w' => e = .returned (.bool (hasB x.s t)) ∧ Below w.heap.size w w' := by
  obtain ⟨_, _, _, c3⟩ := h.cells
  have hL := h.tags.look ht
  have e : (x.s.t.any fun u => decide (u = t)) = hasB x.s t := rfl
  rw [e] at hL
  generalize hasB x.s t = r at *
  generalize x.p = q at *
  clear h e ht
  go_enter Try.func43, Try.ntmps43
  go_wp2
  go_ret
  exact ⟨rfl, (Below.refl _ w).alloc (Nat.le_refl _) _⟩
theorem upTo_any (n k : Int) (w : World) : Calls Try.prog 36 #[.int .i64 n, .int .i64 k] w fun e w' => e = .returned (.bool (decide (1 ≤ n ∧ n ≤ k))) ∧ w' = w := by
  go_enter Try.func36, Try.ntmps36
  go_wp2
  all_goals go_ret
  all_goals exact ⟨ret_bool (by simp_all; try omega), rfl⟩
theorem new_any (w : World) : Calls Try.prog 8 #[] w fun e w' => ∃ p F, e = .returned (.pointer (some ⟨p, 0, none⟩)) ∧ Dk w' p F [] ∧ Below w.heap.size w w' ∧ ∀ k, F k → w.heap.size ≤ k := by
  have hmm := @run_makeMap Try.prog
  go_enter Try.func8, Try.ntmps8
  go_wp2
  go_ret
  refine ⟨w.heap.size + 1, _, rfl, ⟨w.heap.size, .slice none 0 0, [], ⟨?_, ?_, own1_nil _ _ _, by simp, List.Pairwise.nil, by simp⟩, rfl, rfl⟩, ?_, ?_⟩
  · have := heap_alloc_new (w.alloc (.map #[] 0)) (.cells #[.map (some w.heap.size), .slice none 0 0] 60)
    simpa using this
  · exact (cAt_new w).same (Below.heap_alloc _ _ _ (by simp))
  · exact ((Below.refl _ w).alloc (Nat.le_refl _) _).alloc (by simp) _
  · rintro k (rfl | rfl | hk | ⟨x, hx, _⟩)
    · omega
    · omega
    · cases hk
    · cases hx
theorem find_at (h : DkAt w p mb v X) (ok : LOk (X.map Sx.s)) {c : Int} (hc : I64 c) : Calls Try.prog 33 #[.pointer (some ⟨p, 0, none⟩), .int .i64 c] w fun e w' => e = .returned (.tuple #[ptrO ((findX X c).map Sx.p), .int .i64 (if (findX X c).isSome then 0 else 3)]) ∧ w' = w := by
  obtain ⟨c0, _⟩ := h.cells
  have hM := made_at h
  have hL := h.mp.look (ccs_cl ok) hc
  rw [findX_p] at hL
  clear h
  cases hf : findX X c with
  | none =>
    rw [hf] at hL
    simp only [Option.map_none, ptrO] at hL ⊢
    go_enter Try.func33, Try.ntmps33
    go_wp2_with (go_at_call 30; refine hM.mono ?_; rintro e w ⟨rfl, rfl⟩)
    go_ret2
    exact ⟨rfl, rfl⟩
  | some x =>
    rw [hf] at hL
    simp only [Option.map_some, ptrO] at hL ⊢
    generalize x.p = q at *
    go_enter Try.func33, Try.ntmps33
    go_wp2_with (go_at_call 30; refine hM.mono ?_; rintro e w ⟨rfl, rfl⟩)
    go_ret2
    exact ⟨rfl, rfl⟩
end
end Go.Proofs.Ytooaiomghbjpiaa
