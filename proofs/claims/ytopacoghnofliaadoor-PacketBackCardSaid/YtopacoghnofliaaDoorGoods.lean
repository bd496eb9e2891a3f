/-
  within, bind's Good, goodBinding, GoodMessage, and the document's, by their contracts.
-/
import Derived.Test.YtopacoghnofliaaDoorModel13
namespace Go.Proofs.YtopacoghnofliaaDoor
open Go.RowKit


theorem keptW {w W w' : World} (h : Below w.heap.size w W) (b : Below W.heap.size W w') : Below w.heap.size w w' := h.trans (b.mono h.size)

theorem cell_on {w w' : World} {b j : Nat} {v : Value} (hb : Below w.heap.size w w') (h : w.cell? ⟨b, j, none⟩ = some v) : w'.cell? ⟨b, j, none⟩ = some v := (hb.cell (p := ⟨b, j, none⟩) (World.block_lt_of_cell? w _ h)).trans h

theorem box_below (w : World) (o : Obj) : Below w.heap.size w (w.alloc o) := (Below.refl _ _).alloc (Nat.le_refl _) _

theorem box_cell (w : World) (cs : Array Value) (t : TypeId) (j : Nat) (v : Value) (h : cs[j]? = some v) : (w.alloc (.cells cs t)).cell? ⟨w.heap.size, j, none⟩ = some v := by
  have := heap_alloc_new w (.cells cs t)
  simp only [World.cell?]
  rw [this]
  exact h

theorem within_any (n lo hi : Int) (w : World) : Calls Tryd.prog 36 #[.int .i64 n, .int .i64 lo, .int .i64 hi] w fun e w' => e = .returned (.bool (inB n lo hi)) ∧ w' = w := by
  unfold inB
  by_cases h1 : lo ≤ n
  · have e1 : decide (lo ≤ n) = true := by simpa using h1
    go_enter Tryd.func36, Tryd.ntmps36
    go_wp2
    go_ret
    exact ⟨by rw [e1]; simp, rfl⟩
  · have e1 : decide (lo ≤ n) = false := by simpa using h1
    go_enter Tryd.func36, Tryd.ntmps36
    go_wp2
    go_ret
    exact ⟨by first | (rw [e1]; simp) | simp, rfl⟩

set_option maxRecDepth 20000 in
theorem goodM_any (m : Ms) (w : World) (hm : m.Fits) : Calls Tryd.prog 22 #[mv m] w fun e w' => e = .returned (.bool (goodM m)) ∧ Below w.heap.size w w' := by
  obtain ⟨W, fold⟩ : ∃ W, w.alloc (.cells #[.int .i64 m.origin, .int .u64 m.seq, .int .i64 m.hop, .string m.ex, .string m.key, .string m.body] 27) = W := ⟨_, rfl⟩
  have b0 : Below w.heap.size w W := by rw [← fold]; exact box_below w _
  have y0 : W.cell? ⟨w.heap.size, 0, none⟩ = some (.int .i64 m.origin) := by rw [← fold]; exact box_cell w _ _ _ _ rfl
  have y1 : W.cell? ⟨w.heap.size, 1, none⟩ = some (.int .u64 m.seq) := by rw [← fold]; exact box_cell w _ _ _ _ rfl
  have y2 : W.cell? ⟨w.heap.size, 2, none⟩ = some (.int .i64 m.hop) := by rw [← fold]; exact box_cell w _ _ _ _ rfl
  have y3 : W.cell? ⟨w.heap.size, 3, none⟩ = some (.string m.ex) := by rw [← fold]; exact box_cell w _ _ _ _ rfl
  have y4 : W.cell? ⟨w.heap.size, 4, none⟩ = some (.string m.key) := by rw [← fold]; exact box_cell w _ _ _ _ rfl
  have y5 : W.cell? ⟨w.heap.size, 5, none⟩ = some (.string m.body) := by rw [← fold]; exact box_cell w _ _ _ _ rfl
  unfold goodM
  go_enter Tryd.func22, Tryd.ntmps22
  have hc := within_any m.origin 1 8 W
  go_wp2_with fail
  try rw [fold]
  refine hc.mono ?_
  rintro e V1 ⟨rfl, rfl⟩
  clear hc
  cases e0 : inB m.origin 1 8
  · go_wp2
    go_ret
    exact ⟨by (try rw [e0]); first | rfl | simp, b0⟩
  cases e1 : decide (1 ≤ m.seq)
  · go_wp2
    go_ret
    exact ⟨by (try rw [e0]); (try rw [e1]); first | rfl | simp, b0⟩
  have hc := within_any m.hop 0 8 V1
  go_wp2_with fail
  refine hc.mono ?_
  rintro e V3 ⟨rfl, rfl⟩
  clear hc
  cases e2 : inB m.hop 0 8
  · go_wp2
    go_ret
    exact ⟨by (try rw [e0]); (try rw [e1]); (try rw [e2]); first | rfl | simp, b0⟩
  have hc := name_any m.ex V3 hm.e
  go_wp2_with fail
  refine hc.mono ?_
  rintro e V4 ⟨rfl, b4⟩
  have y0 := cell_on b4 y0
  have y1 := cell_on b4 y1
  have y2 := cell_on b4 y2
  have y3 := cell_on b4 y3
  have y4 := cell_on b4 y4
  have y5 := cell_on b4 y5
  clear hc
  cases e3 : nameB (txt m.ex)
  · go_wp2
    go_ret
    exact ⟨by (try rw [e0]); (try rw [e1]); (try rw [e2]); (try rw [e3]); first | rfl | simp, keptW b0 b4⟩
  have hc := key_any m.key V4 hm.k
  go_wp2_with fail
  refine hc.mono ?_
  rintro e V5 ⟨rfl, b5⟩
  have y0 := cell_on b5 y0
  have y1 := cell_on b5 y1
  have y2 := cell_on b5 y2
  have y3 := cell_on b5 y3
  have y4 := cell_on b5 y4
  have y5 := cell_on b5 y5
  clear hc
  cases e4 : keyB (txt m.key)
  · go_wp2
    go_ret
    exact ⟨by (try rw [e0]); (try rw [e1]); (try rw [e2]); (try rw [e3]); (try rw [e4]); first | rfl | simp, keptW (keptW b0 b4) b5⟩
  go_wp2
  go_ret
  exact ⟨by (try rw [e0]); (try rw [e1]); (try rw [e2]); (try rw [e3]); (try rw [e4]); first | rfl | simp, keptW (keptW b0 b4) b5⟩

end Go.Proofs.YtopacoghnofliaaDoor
