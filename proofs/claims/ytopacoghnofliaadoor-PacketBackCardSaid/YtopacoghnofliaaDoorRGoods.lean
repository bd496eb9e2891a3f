/-
  The document's GoodMessage and Good of an exchange, by their contracts.
-/
import Derived.Test.YtopacoghnofliaaDoorGoods
namespace Go.Proofs.YtopacoghnofliaaDoor
open Go.RowKit


set_option maxRecDepth 20000 in
theorem rgoodM_any (m : Ms) (w : World) (hm : m.Fits) : Calls Tryd.prog 24 #[mv m] w fun e w' => e = .returned (.bool (goodM m)) ∧ Below w.heap.size w w' := by
  obtain ⟨W, fold⟩ : ∃ W, w.alloc (.cells #[.int .i64 m.origin, .int .u64 m.seq, .int .i64 m.hop, .string m.ex, .string m.key, .string m.body] 27) = W := ⟨_, rfl⟩
  have b0 : Below w.heap.size w W := by rw [← fold]; exact box_below w _
  have y0 : W.cell? ⟨w.heap.size, 0, none⟩ = some (.int .i64 m.origin) := by rw [← fold]; exact box_cell w _ _ _ _ rfl
  have y1 : W.cell? ⟨w.heap.size, 1, none⟩ = some (.int .u64 m.seq) := by rw [← fold]; exact box_cell w _ _ _ _ rfl
  have y2 : W.cell? ⟨w.heap.size, 2, none⟩ = some (.int .i64 m.hop) := by rw [← fold]; exact box_cell w _ _ _ _ rfl
  have y3 : W.cell? ⟨w.heap.size, 3, none⟩ = some (.string m.ex) := by rw [← fold]; exact box_cell w _ _ _ _ rfl
  have y4 : W.cell? ⟨w.heap.size, 4, none⟩ = some (.string m.key) := by rw [← fold]; exact box_cell w _ _ _ _ rfl
  have y5 : W.cell? ⟨w.heap.size, 5, none⟩ = some (.string m.body) := by rw [← fold]; exact box_cell w _ _ _ _ rfl
  unfold goodM inB
  go_enter Tryd.func24, Tryd.ntmps24
  cases e0 : decide (1 ≤ m.origin)
  · go_wp2
    go_ret
    exact ⟨by (try rw [e0]); first | rfl | simp, b0⟩
  cases e1 : decide (m.origin ≤ 8)
  · go_wp2
    go_ret
    exact ⟨by (try rw [e0]); (try rw [e1]); first | rfl | simp, b0⟩
  cases e2 : decide (1 ≤ m.seq)
  · go_wp2
    go_ret
    exact ⟨by (try rw [e0]); (try rw [e1]); (try rw [e2]); first | rfl | simp, b0⟩
  cases e3 : decide (0 ≤ m.hop)
  · go_wp2
    go_ret
    exact ⟨by (try rw [e0]); (try rw [e1]); (try rw [e2]); (try rw [e3]); first | rfl | simp, b0⟩
  cases e4 : decide (m.hop ≤ 8)
  · go_wp2
    go_ret
    exact ⟨by (try rw [e0]); (try rw [e1]); (try rw [e2]); (try rw [e3]); (try rw [e4]); first | rfl | simp, b0⟩
  have hc := rname_any m.ex W hm.e
  go_wp2_with fail
  refine hc.mono ?_
  rintro e V6 ⟨rfl, rfl⟩
  clear hc
  cases e5 : nameB (txt m.ex)
  · go_wp2
    go_ret
    exact ⟨by (try rw [e0]); (try rw [e1]); (try rw [e2]); (try rw [e3]); (try rw [e4]); (try rw [e5]); first | rfl | simp, b0⟩
  have hc := rkey_any m.key V6 hm.k
  go_wp2_with fail
  refine hc.mono ?_
  rintro e V7 ⟨rfl, b7⟩
  have y0 := cell_on b7 y0
  have y1 := cell_on b7 y1
  have y2 := cell_on b7 y2
  have y3 := cell_on b7 y3
  have y4 := cell_on b7 y4
  have y5 := cell_on b7 y5
  clear hc
  cases e6 : keyB (txt m.key)
  · go_wp2
    go_ret
    exact ⟨by (try rw [e0]); (try rw [e1]); (try rw [e2]); (try rw [e3]); (try rw [e4]); (try rw [e5]); (try rw [e6]); first | rfl | simp, keptW b0 b7⟩
  go_wp2
  go_ret
  exact ⟨by (try rw [e0]); (try rw [e1]); (try rw [e2]); (try rw [e3]); (try rw [e4]); (try rw [e5]); (try rw [e6]); first | rfl | simp, keptW b0 b7⟩

end Go.Proofs.YtopacoghnofliaaDoor
