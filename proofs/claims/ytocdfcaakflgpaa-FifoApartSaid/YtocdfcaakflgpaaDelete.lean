/-
  slices.Delete of the first item, by its contract.
-/
import Derived.Test.YtocdfcaakflgpaaInsert
namespace Go.Proofs.Ytocdfcaakflgpaa
open Go.RowKit

theorem zero8 : ∀ k : Nat, (((Value.agg #[.int .u64 0, .int .i64 0, .int .u64 0, .int .i64 0, .string ⟨#[]⟩, .string ⟨#[]⟩, .string ⟨#[]⟩, .bool false]).cells)[k % ((Value.agg #[.int .u64 0, .int .i64 0, .int .u64 0, .int .i64 0, .string ⟨#[]⟩, .string ⟨#[]⟩, .string ⟨#[]⟩, .bool false]).cells).size]!).oneCell' = true := by
  intro k
  have hk : k % 8 < 8 := Nat.mod_lt _ (by decide)
  show (#[Value.int .u64 0, .int .i64 0, .int .u64 0, .int .i64 0, .string ⟨#[]⟩, .string ⟨#[]⟩, .string ⟨#[]⟩, .bool false][k % 8]!).oneCell' = true
  generalize k % 8 = j at hk
  have : j = 0 ∨ j = 1 ∨ j = 2 ∨ j = 3 ∨ j = 4 ∨ j = 5 ∨ j = 6 ∨ j = 7 := by omega
  rcases this with rfl | rfl | rfl | rfl | rfl | rfl | rfl | rfl <;> rfl

set_option maxRecDepth 10000 in
set_option maxHeartbeats 2000000 in
theorem delete_row (g c : Nat) (x : It) (t : List It) (T : List Value) (w : World) (hg : w.heap[g]? = some (.cells (cellsOf icells (x :: t) ++ T).toArray 38 (0, 0))) (hc : t.length + 1 ≤ c) (hcm : c ≤ maxLen) (hT : T.length = c * 8 - (t.length + 1) * 8) :
    Calls Try.prog 32 #[.slice (some ⟨g, 0, none⟩) (t.length + 1) c, .int .i64 0, .int .i64 1] w fun e w' =>
      e = .returned (.slice (some ⟨g, 0, none⟩) t.length c) ∧ Only g w w' ∧ ∃ T', w'.heap[g]? = some (.cells (cellsOf icells t ++ T').toArray 38 (0, 0)) ∧ T'.length = c * 8 - t.length * 8 := by
  obtain ⟨i0, hi0, hz0, hzs, hzb⟩ := itemInfo
  have hc63 : c ≤ 9223372036854775807 := by unfold maxLen at hcm; omega
  have hlt := cellsOf_length (enc := icells) t
  have hlx : (icells x).length = 8 := rfl
  have S1 : Hid (∀ j v, (cellsOf icells t)[j]? = some v → w.cell? ((⟨g, 8, none⟩ : Addr).add j) = some v) := fun j v hj => by
    rw [Addr.add_lit, cell_of_list hg, cellsOf_cons, List.append_assoc, List.getElem?_append_right (by omega), hlx, Nat.add_sub_cancel_left, List.getElem?_append_left (List.getElem?_eq_some_iff.1 hj).1]
    exact hj
  have HG : Hid (w.heap[g]? = some (.cells (cellsOf icells (x :: t) ++ T).toArray 38 (0, 0)) ∧ (cellsOf icells (x :: t) ++ T).length = c * 8 ∧ (cellsOf icells t).length = t.length * 8 ∧ T.length = c * 8 - (t.length + 1) * 8) := by
    refine ⟨hg, ?_, hlt, hT⟩
    rw [cellsOf_cons, List.length_append, List.length_append, hlx, hlt, hT]; omega
  have HS : Hid (∀ n, n = t.length → splice (cellsOf icells (x :: t) ++ T) (0 * 8) (cellsOf icells t) = cellsOf icells t ++ (cellsOf icells (x :: t) ++ T).drop (t.length * 8)) := fun n _ => by
    unfold splice
    rw [Nat.zero_mul, List.take_zero, hlt]; simp
  clear hg hT hlx hlt
  have hz1 : (t.length : Int) + 1 ≤ (c : Int) := by omega
  have hz2 : (1 : Int) ≤ (t.length : Int) + 1 := by omega
  have hz3 : 1 ≤ t.length + 1 := by omega
  have hz4 : ¬ (c = t.length) := by omega
  have hz5 : t.length ≤ t.length + 1 := by omega
  have hz6 : 1 ≤ c := by omega
  go_enter Try.func32, Try.ntmps32
  by_cases h1 : c = 1
  · obtain ht : t.length = 0 := by omega
    obtain rfl : t = [] := List.eq_nil_of_length_eq_zero ht
    subst h1
    simp only [List.length_nil]
    go_wp2
    go_region_law (refine step_appendK_room rfl (.tmp 22) (.tmp 25) 47 rfl 38 i0 Try.underlying47 hi0 hzs g 0 1 (by simp [Act.eval, Act.put]) (cellsOf icells [x] ++ T) HG.out.1 ⟨g, 0, none⟩ 0 0 (by simp [Act.eval, Act.put]) [] rfl (fun j v hj => by simp at hj) (by simp) (by omega) (by rw [HG.out.2.1]; simp) ?_; intro w1 HG1 only1)
    go_wp2_with (refine wpList_clearK (K := 8) rfl (.tmp 31) 47 rfl 38 Try.underlying47 _ Try.zeroValue38 rfl zero8 (some ⟨g, 0, none⟩) 1 1 rfl g 0 _ 38 HG1.out (fun _ => rfl) (by rw [length_splice _ _ _ (by rw [HG.out.2.1]; simp), HG.out.2.1]; omega) ?_; intro w2 zs hzs2 HG2 only2)
    go_ret
    refine ⟨rfl, (show Only g w w1 from ⟨only1.os, only1.tape, only1.output, only1.size, only1.block⟩).trans only2, _, HG2.out, ?_⟩
    rw [List.length_append, List.length_drop, length_splice _ _ _ (by rw [HG.out.2.1]; simp), HG.out.2.1, hzs2]
  · go_wp2
    go_region_law (refine step_appendK_room rfl (.tmp 22) (.tmp 25) 47 rfl 38 i0 Try.underlying47 hi0 hzs g 0 c (by simp [Act.eval, Act.put]) (cellsOf icells (x :: t) ++ T) HG.out.1 ⟨g, 8, none⟩ t.length (c - 1) (by simp [Act.eval, Act.put]) (cellsOf icells t) HG.out.2.2.1 S1.out (cellsOf_one _) (by omega) (by rw [HG.out.2.1, HG.out.2.2.1]; omega) ?_; intro w1 HG1 only1)
    rw [HS.out t.length rfl] at HG1
    go_wp2_with (refine wpList_clearK (K := 8) rfl (.tmp 31) 47 rfl 38 Try.underlying47 _ Try.zeroValue38 rfl zero8 (some ⟨g, t.length * 8, none⟩) 1 (c - t.length) (by simp [Act.eval]) g (t.length * 8) _ 38 HG1.out (fun _ => rfl) (by rw [List.length_append, List.length_drop, HG.out.2.1, HG.out.2.2.1]; omega) ?_; intro w2 zs hzs2 HG2 only2)
    go_ret
    refine ⟨rfl, (show Only g w w1 from ⟨only1.os, only1.tape, only1.output, only1.size, only1.block⟩).trans only2, zs ++ ((cellsOf icells (x :: t) ++ T).drop (t.length * 8)).drop zs.length, ?_, ?_⟩
    · rw [HG2.out, splice_in _ (cellsOf icells t) _ zs 0 (t.length * 8) rfl (by rw [HG.out.2.2.1]; omega)]
      simp
    · rw [List.length_append, List.length_drop, List.length_drop, hzs2, HG.out.2.1]; omega

/-- slices.Delete(s, 0, 1). -/
theorem delete_any (base : Nat) (v : Value) (x : It) (t : List It) (w : World) (hown : Own8 w base v (x :: t)) :
    Calls Try.prog 32 #[v, .int .i64 0, .int .i64 1] w fun e w' =>
      ∃ v', e = .returned v' ∧ Own8 w' base v' t ∧ w.grownBy w' v.ownBlock ∧ v'.ownBlock = v.ownBlock := by
  rcases hown.split with ⟨_, h⟩ | ⟨g, c, T, rfl, hbg, hg, h1, h2, hT⟩
  · cases h
  · refine (delete_row g c x t T w hg h1 h2 hT).mono ?_
    rintro e w' ⟨rfl, only, T', hg', hT'⟩
    exact ⟨_, rfl, ownOf_mk hbg hg' rfl (by have : t.length + 1 ≤ c := h1; omega) h2 hT', only.grown, rfl⟩
end Go.Proofs.Ytocdfcaakflgpaa
