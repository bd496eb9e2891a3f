/-
  THE STATEMENT ConsumerNone, walked.
-/
import Derived.Test.YtfgedgiihclemaaNone17
import Derived.Test.YtfgedgiihclemaaActs17
namespace Go.Proofs.Ytfgedgiihclemaa
open Go.RowKit Go.Maps Go.Sort Go.Shelf
set_option maxRecDepth 20000

set_option maxHeartbeats 8000000 in
theorem none_law (a : Ac) (w : World) : Calls Try.prog 6 #[acv a] w fun e w' => e = .returned (.bool true) ∧ Below w.heap.size w w' := by
  obtain ⟨W1, fold1⟩ : ∃ W, w.alloc (.cells #[.int .i64 a.kind, .int .i64 a.c, .string a.q, .int .i64 a.n, .int .u64 a.t] 33) = W := ⟨_, rfl⟩
  have hA : W1.heap[w.heap.size]? = some (.cells #[.int .i64 a.kind, .int .i64 a.c, .string a.q, .int .i64 a.n, .int .u64 a.t] 33 (0, 0)) := by rw [← fold1]; exact heap_alloc_new w _
  have b1 : Below w.heap.size w W1 := by rw [← fold1]; exact below_box _ _
  obtain ⟨W, fold⟩ : ∃ W, W1.alloc (.cells #[.map none, .slice none 0 0] 60) = W := ⟨_, rfl⟩
  have b2 : Below W1.heap.size W1 W := by rw [← fold]; exact below_box _ _
  have bW : Below w.heap.size w W := b1.trans (b2.mono b1.size)
  have hz : W.cell? ⟨W1.heap.size, 0, none⟩ = some (.map none) := by rw [← fold]; simp [World.cell?_alloc_at]
  have hAW : W.heap[w.heap.size]? = some (.cells #[.int .i64 a.kind, .int .i64 a.c, .string a.q, .int .i64 a.n, .int .u64 a.t] 33 (0, 0)) := (b2.block _ (Array.getElem?_eq_some_iff.1 hA).1).trans hA
  have HC : Hid (∀ V, Below W.heap.size W V → V.cell? ⟨w.heap.size, 1, none⟩ = some (.int .i64 a.c) ∧ V.cell? ⟨w.heap.size, 2, none⟩ = some (.string a.q) ∧ V.cell? ⟨w.heap.size, 3, none⟩ = some (.int .i64 a.n) ∧ V.cell? ⟨w.heap.size, 4, none⟩ = some (.int .u64 a.t)) := fun V hV => by
    have h := (hV.block _ (Array.getElem?_eq_some_iff.1 hAW).1).trans hAW
    refine ⟨?_, ?_, ?_, ?_⟩ <;> simp [World.cell?, h]
  have HU : Hid (∀ V, Below W.heap.size W V → Un V (.pointer (some ⟨W1.heap.size, 0, none⟩))) := fun V hV => (show Un W _ from .inr ⟨_, rfl, hz⟩).below hV
  have i0 : ∀ X, (Instr.index 61 (.agg #[.pointer none, .pointer (some ⟨W1.heap.size, 0, none⟩)]) (.int .i64 0)).run Try.prog X = .ok (.pointer none) X := fun X => by kernel_rfl
  have i1 : ∀ X, (Instr.index 61 (.agg #[.pointer none, .pointer (some ⟨W1.heap.size, 0, none⟩)]) (.int .i64 1)).run Try.prog X = .ok (.pointer (some ⟨W1.heap.size, 0, none⟩)) X := fun X => by kernel_rfl
  clear hz hAW hA b1 b2
  go_enter Try.func6, Try.ntmps6
  go_wp2
  try rw [fold1]
  try rw [fold]
  clear fold fold1
  go_loopw [5, 6, 7, 8, 9, 10, 11, 12, 13, 15] (fun u5 u6 u7 u8 u9 u10 u11 u12 u13 u15 wr => ∃ k : Nat, u15 = .int .i64 k ∧ k ≤ 2 ∧ Below W.heap.size W wr) (fun u5 u6 u7 u8 u9 u10 u11 u12 u13 u15 wr => 2 - (intOf u15).toNat)
  case atStart => exact ⟨0, rfl, Nat.zero_le _, Below.refl _ _⟩
  case round =>
    obtain ⟨k, rfl, hk, B0⟩ := hrel
    by_cases hlt2 : k < 2
    · rcases (by omega : k = 0 ∨ k = 1) with rfl | rfl
      all_goals (
        obtain ⟨c1, c2, c3, c4⟩ := HC.out wr B0
        go_wp2_with fail
        refine (un_drop _ _ _ (by first | exact .inl rfl | exact HU.out _ B0)).mono ?_
        rintro e w1 ⟨rfl, b1⟩
        have B1 : Below W.heap.size W (w1.alloc (.cells #[.string ⟨#[]⟩, .slice none 0 0] 40)) := (B0.trans (b1.mono B0.size)).alloc (Nat.le_trans B0.size b1.size) _
        have HB1 : Hid _ := B1
        obtain ⟨d1, d2, d3, d4⟩ := HC.out _ B1
        clear c1 c2 c3 c4 B1
        go_wp2_with fail
        refine (un_next _ _ _ (by first | exact .inl rfl | exact HU.out _ HB1.out)).mono ?_
        rintro e w2 ⟨rfl, b2⟩
        have B2 := HB1.out.trans (b2.mono HB1.out.size)
        obtain ⟨e1, e2, e3, e4⟩ := HC.out _ B2
        clear d1 d2 d3 d4
        go_wp2_with fail
        refine (un_settle _ _ _ _ (by first | exact .inl rfl | exact HU.out _ B2)).mono ?_
        rintro e w2 ⟨rfl, rfl⟩
        go_wp2_with fail
        refine (un_hold _ _ _ (by first | exact .inl rfl | exact HU.out _ B2)).mono ?_
        rintro e w3 ⟨rfl, b3⟩
        have B3 : Below W.heap.size W (w3.alloc (.cells #[.string ⟨#[]⟩, .slice none 0 0] 40)) := (B2.trans (b3.mono B2.size)).alloc (Nat.le_trans B2.size b3.size) _
        have HB3 : Hid _ := B3
        obtain ⟨f1, f2, f3, f4⟩ := HC.out _ B3
        clear e1 e2 e3 e4 B3
        go_wp2_with fail
        refine (un_add _ _ _ _ _ (by first | exact .inl rfl | exact HU.out _ HB3.out)).mono ?_
        rintro e V ⟨rfl, rfl⟩
        go_wp2_with fail
        refine (un_took _ _ _ _ (by first | exact .inl rfl | exact HU.out _ HB3.out)).mono ?_
        rintro e V ⟨rfl, rfl⟩
        go_wp2_with fail
        refine (un_forget _ _ _ (by first | exact .inl rfl | exact HU.out _ HB3.out)).mono ?_
        rintro e V ⟨rfl, rfl⟩
        go_wp2_with fail
        refine (un_clients _ _ (by first | exact .inl rfl | exact HU.out _ HB3.out)).mono ?_
        rintro e V ⟨rfl, rfl⟩
        go_wp2
        go_roundw
        case rel => first | exact ⟨1, by go_num, by omega, HB3.out⟩ | exact ⟨2, by go_num, by omega, HB3.out⟩
        case measure => simp [intOf])
    · obtain rfl : k = 2 := by omega
      go_wp2_with fail
      refine (lives_any wr).mono ?_
      rintro e w4 ⟨rfl, b4⟩
      go_wp2
      go_ret
      exact ⟨rfl, bW.trans ((B0.trans (b4.mono B0.size)).mono bW.size)⟩
end Go.Proofs.Ytfgedgiihclemaa
