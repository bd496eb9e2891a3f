/-
  fits, by its contract.
-/
import Derived.Test.YteimdolckhpndaaDoorLetters
namespace Go.Proofs.YteimdolckhpndaaDoor
open Go.RowKit

set_option maxRecDepth 20000 in
set_option maxHeartbeats 4000000 in
theorem fitsA_any (a : Ax) (c : UInt8) (w : World) (ha : a.Fits) : Calls Tryd.prog 28 #[av a, .int .i32 (c.toNat : Int)] w fun e w' => e = .returned (.bool (fitsA a c)) ∧ Below w.heap.size w w' := by
  obtain ⟨W, fold⟩ : ∃ W, w.alloc (.cells #[.int .i64 a.kind, .string a.name, .int .i64 a.n, .int .u64 a.tag, .int .i64 a.to, .string a.xn, .int .i64 a.xk, .bool a.xf, .string a.be, .string a.bq, .string a.bp, .int .i64 a.m.origin, .int .u64 a.m.seq, .int .i64 a.m.hop, .string a.m.ex, .string a.m.key, .string a.m.body] 32) = W := ⟨_, rfl⟩
  have b0 : Below w.heap.size w W := by rw [← fold]; exact box_below w _
  have y0 : W.cell? ⟨w.heap.size, 0, none⟩ = some (.int .i64 a.kind) := by rw [← fold]; exact box_cell w _ _ _ _ rfl
  have y1 : W.cell? ⟨w.heap.size, 1, none⟩ = some (.string a.name) := by rw [← fold]; exact box_cell w _ _ _ _ rfl
  have y2 : W.cell? ⟨w.heap.size, 2, none⟩ = some (.int .i64 a.n) := by rw [← fold]; exact box_cell w _ _ _ _ rfl
  have y3 : W.cell? ⟨w.heap.size, 3, none⟩ = some (.int .u64 a.tag) := by rw [← fold]; exact box_cell w _ _ _ _ rfl
  have y4 : W.cell? ⟨w.heap.size, 4, none⟩ = some (.int .i64 a.to) := by rw [← fold]; exact box_cell w _ _ _ _ rfl
  have y5 : W.cell? ⟨w.heap.size, 5, none⟩ = some (.string a.xn) := by rw [← fold]; exact box_cell w _ _ _ _ rfl
  have y6 : W.cell? ⟨w.heap.size, 6, none⟩ = some (.int .i64 a.xk) := by rw [← fold]; exact box_cell w _ _ _ _ rfl
  have y7 : W.cell? ⟨w.heap.size, 7, none⟩ = some (.bool a.xf) := by rw [← fold]; exact box_cell w _ _ _ _ rfl
  have y8 : W.cell? ⟨w.heap.size, 8, none⟩ = some (.string a.be) := by rw [← fold]; exact box_cell w _ _ _ _ rfl
  have y9 : W.cell? ⟨w.heap.size, 9, none⟩ = some (.string a.bq) := by rw [← fold]; exact box_cell w _ _ _ _ rfl
  have y10 : W.cell? ⟨w.heap.size, 10, none⟩ = some (.string a.bp) := by rw [← fold]; exact box_cell w _ _ _ _ rfl
  have y11 : W.cell? ⟨w.heap.size, 11, none⟩ = some (.int .i64 a.m.origin) := by rw [← fold]; exact box_cell w _ _ _ _ rfl
  have y12 : W.cell? ⟨w.heap.size, 12, none⟩ = some (.int .u64 a.m.seq) := by rw [← fold]; exact box_cell w _ _ _ _ rfl
  have y13 : W.cell? ⟨w.heap.size, 13, none⟩ = some (.int .i64 a.m.hop) := by rw [← fold]; exact box_cell w _ _ _ _ rfl
  have y14 : W.cell? ⟨w.heap.size, 14, none⟩ = some (.string a.m.ex) := by rw [← fold]; exact box_cell w _ _ _ _ rfl
  have y15 : W.cell? ⟨w.heap.size, 15, none⟩ = some (.string a.m.key) := by rw [← fold]; exact box_cell w _ _ _ _ rfl
  have y16 : W.cell? ⟨w.heap.size, 16, none⟩ = some (.string a.m.body) := by rw [← fold]; exact box_cell w _ _ _ _ rfl
  unfold fitsA
  by_cases h110 : c = 110
  · subst h110
    go_enter Tryd.func28, Tryd.ntmps28
    have hc := name_any a.name W ha.nm
    go_wp2_with fail
    try rw [fold]
    refine hc.mono ?_
    rintro e V ⟨rfl, b1⟩
    clear hc
    go_wp2
    go_ret
    exact ⟨rfl, keptW b0 b1⟩
  by_cases h100 : c = 100
  · subst h100
    go_enter Tryd.func28, Tryd.ntmps28
    have hc := within_any a.n 1 1000 W
    go_wp2_with fail
    try rw [fold]
    refine hc.mono ?_
    rintro e V ⟨rfl, rfl⟩
    clear hc
    go_wp2
    go_ret
    exact ⟨rfl, b0⟩
  by_cases h99 : c = 99
  · subst h99
    go_enter Tryd.func28, Tryd.ntmps28
    have hc := within_any a.n 1 200 W
    go_wp2_with fail
    try rw [fold]
    refine hc.mono ?_
    rintro e V ⟨rfl, rfl⟩
    clear hc
    go_wp2
    go_ret
    exact ⟨rfl, b0⟩
  by_cases h116 : c = 116
  · subst h116
    go_enter Tryd.func28, Tryd.ntmps28
    go_wp2
    try rw [fold]
    go_ret
    exact ⟨rfl, b0⟩
  by_cases h115 : c = 115
  · subst h115
    go_enter Tryd.func28, Tryd.ntmps28
    have hc := within_any a.to 1 8 W
    go_wp2_with fail
    try rw [fold]
    refine hc.mono ?_
    rintro e V ⟨rfl, rfl⟩
    clear hc
    go_wp2
    go_ret
    exact ⟨rfl, b0⟩
  by_cases h120 : c = 120
  · subst h120
    go_enter Tryd.func28, Tryd.ntmps28
    have hc := goodX_any a.xn a.xk a.xf W ha.xn
    go_wp2_with fail
    try rw [fold]
    refine hc.mono ?_
    rintro e V ⟨rfl, b1⟩
    clear hc
    go_wp2
    go_ret
    exact ⟨rfl, keptW b0 b1⟩
  by_cases h98 : c = 98
  · subst h98
    go_enter Tryd.func28, Tryd.ntmps28
    have hc := goodBd_any a.be a.bq a.bp W ha.be ha.bq
    go_wp2_with fail
    try rw [fold]
    refine hc.mono ?_
    rintro e V ⟨rfl, b1⟩
    clear hc
    go_wp2
    go_ret
    exact ⟨rfl, keptW b0 b1⟩
  by_cases h109 : c = 109
  · subst h109
    go_enter Tryd.func28, Tryd.ntmps28
    have hc := goodM_any a.m W ha.m
    go_wp2_with fail
    try rw [fold]
    refine hc.mono ?_
    rintro e V ⟨rfl, b1⟩
    clear hc
    go_wp2
    go_ret
    exact ⟨rfl, keptW b0 b1⟩
  have e110 : ((c.toNat : Int) == 110) = false := by rw [beq_eq_false_iff_ne]; intro h; exact h110 (UInt8.toNat_inj.1 (by show c.toNat = 110; omega))
  have e100 : ((c.toNat : Int) == 100) = false := by rw [beq_eq_false_iff_ne]; intro h; exact h100 (UInt8.toNat_inj.1 (by show c.toNat = 100; omega))
  have e99 : ((c.toNat : Int) == 99) = false := by rw [beq_eq_false_iff_ne]; intro h; exact h99 (UInt8.toNat_inj.1 (by show c.toNat = 99; omega))
  have e116 : ((c.toNat : Int) == 116) = false := by rw [beq_eq_false_iff_ne]; intro h; exact h116 (UInt8.toNat_inj.1 (by show c.toNat = 116; omega))
  have e115 : ((c.toNat : Int) == 115) = false := by rw [beq_eq_false_iff_ne]; intro h; exact h115 (UInt8.toNat_inj.1 (by show c.toNat = 115; omega))
  have e120 : ((c.toNat : Int) == 120) = false := by rw [beq_eq_false_iff_ne]; intro h; exact h120 (UInt8.toNat_inj.1 (by show c.toNat = 120; omega))
  have e98 : ((c.toNat : Int) == 98) = false := by rw [beq_eq_false_iff_ne]; intro h; exact h98 (UInt8.toNat_inj.1 (by show c.toNat = 98; omega))
  have e109 : ((c.toNat : Int) == 109) = false := by rw [beq_eq_false_iff_ne]; intro h; exact h109 (UInt8.toNat_inj.1 (by show c.toNat = 109; omega))
  go_enter Tryd.func28, Tryd.ntmps28
  go_wp2
  go_ret
  exact ⟨by first | rfl | (simp [h110, h100, h99, h116, h115, h120, h98, h109]), by first | exact b0 | (rw [fold]; exact b0)⟩
end Go.Proofs.YteimdolckhpndaaDoor
