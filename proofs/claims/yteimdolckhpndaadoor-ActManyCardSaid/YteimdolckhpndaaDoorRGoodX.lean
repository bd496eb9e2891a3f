/-
  The document's Good of an exchange, by its contract.
-/
import Derived.Test.YteimdolckhpndaaDoorRGoods
namespace Go.Proofs.YteimdolckhpndaaDoor
open Go.RowKit

set_option maxRecDepth 20000 in
theorem rgoodX_any (n : ByteArray) (k : Int) (f : Bool) (w : World) (hn : n.size ≤ maxLen) : Calls Tryd.prog 31 #[.agg #[.string n, .int .i64 k, .bool f]] w fun e w' => e = .returned (.bool (goodX n k)) ∧ Below w.heap.size w w' := by
  obtain ⟨W, fold⟩ : ∃ W, w.alloc (.cells #[.string n, .int .i64 k, .bool f] 24) = W := ⟨_, rfl⟩
  have b0 : Below w.heap.size w W := by rw [← fold]; exact box_below w _
  have y0 : W.cell? ⟨w.heap.size, 0, none⟩ = some (.string n) := by rw [← fold]; exact box_cell w _ _ _ _ rfl
  have y1 : W.cell? ⟨w.heap.size, 1, none⟩ = some (.int .i64 k) := by rw [← fold]; exact box_cell w _ _ _ _ rfl
  have hc := rname_any n W hn
  have hg : goodX n k = (nameB (txt n) && (decide (1 ≤ k) && decide (k ≤ 3))) := by unfold goodX inB; rw [Bool.and_comm]
  rw [hg]
  go_enter Tryd.func31, Tryd.ntmps31
  go_wp2_with fail
  try rw [fold]
  refine hc.mono ?_
  rintro e V ⟨rfl, rfl⟩
  clear hc
  cases e0 : nameB (txt n)
  · go_wp2
    go_ret
    exact ⟨by (try rw [e0]); first | rfl | simp, b0⟩
  cases e1 : decide (1 ≤ k)
  · go_wp2
    go_ret
    exact ⟨by (try rw [e0]); (try rw [e1]); first | rfl | simp, b0⟩
  go_wp2
  go_ret
  exact ⟨by (try rw [e0]); (try rw [e1]); first | rfl | simp, b0⟩
end Go.Proofs.YteimdolckhpndaaDoor
