/-
  THE STATEMENT FifoNone, walked.
-/
import Derived.Test.YtocdfcaakflgpaaNone
namespace Go.Proofs.Ytocdfcaakflgpaa
open Go.RowKit Go.Sort

set_option maxRecDepth 20000 in
set_option maxHeartbeats 4000000 in
theorem none_law (m : Msg) (tag : Int) (w : World) : Calls Try.prog 7 #[mv m, .int .u64 tag] w fun e w' => e = .returned (.bool true) ∧ Below w.heap.size w w' := by
  obtain ⟨W, fold⟩ : ∃ W, (w.alloc (.cells #[.int .i64 m.o, .int .u64 m.s, .int .i64 m.hop, .string m.ex, .string m.key, .string m.body] 33)).alloc (.cells #[.int .i64 0, .int .u64 0, .slice none 0 0, .map none] 64) = W := ⟨_, rfl⟩
  have bW : Below w.heap.size w W := by rw [← fold]; exact (below_alloc _ _).trans (((Below.refl _ _).alloc (Nat.le_refl _) _).mono (by simp))
  have mW : MsgAt W w.heap.size 0 m := by rw [← fold]; exact (msgAt_new w m _ rfl).same (Below.heap_alloc _ _ _ (by simp))
  have zW : W.heap[w.heap.size + 1]? = some (.cells #[.int .i64 0, .int .u64 0, .slice none 0 0, .map none] 64 (0, 0)) := by
    rw [← fold, ← World.size_alloc w (.cells #[.int .i64 m.o, .int .u64 m.s, .int .i64 m.hop, .string m.ex, .string m.key, .string m.body] 33)]
    exact heap_alloc_new _ _
  have hWs : W.heap.size = w.heap.size + 2 := by rw [← fold]; simp
  have HW : Hid (Below w.heap.size w W ∧ MsgAt W w.heap.size 0 m ∧ W.heap[w.heap.size + 1]? = some (.cells #[.int .i64 0, .int .u64 0, .slice none 0 0, .map none] 64 (0, 0)) ∧ W.heap.size = w.heap.size + 2) := ⟨bW, mW, zW, hWs⟩
  clear bW mW zW hWs
  have i0 : ∀ W, (Instr.index 65 (.agg #[.pointer none, .pointer (some ⟨w.heap.size + 1, 0, none⟩)]) (.int .i64 0)).run Try.prog W = .ok (.pointer none) W := fun W => by kernel_rfl
  have i1 : ∀ W, (Instr.index 65 (.agg #[.pointer none, .pointer (some ⟨w.heap.size + 1, 0, none⟩)]) (.int .i64 1)).run Try.prog W = .ok (.pointer (some ⟨w.heap.size + 1, 0, none⟩)) W := fun W => by kernel_rfl
  go_enter Try.func7, Try.ntmps7
  go_wp2
  go_loopw [7, 8, 9, 11] (fun u7 u8 u9 u11 wr => ∃ k : Nat, u11 = .int .i64 k ∧ k ≤ 2 ∧ Below W.heap.size W wr) (fun u7 u8 u9 u11 wr => 2 - (intOf u11).toNat)
  case atStart => exact ⟨0, rfl, Nat.zero_le _, Below.refl _ _⟩
  case round =>
    obtain ⟨k, rfl, hk, hb⟩ := hrel
    have hmw : w.heap.size < wr.heap.size := by have := hb.size; have := HW.out.2.2.2; omega
    have mr : MsgAt wr w.heap.size 0 m := HW.out.2.1.same (hb.block _ (by have := HW.out.2.2.2; omega))
    have zr : Un wr (.pointer (some ⟨w.heap.size + 1, 0, none⟩)) := .inr ⟨_, rfl, (hb.block _ (by have := HW.out.2.2.2; omega)).trans HW.out.2.2.1⟩
    obtain ⟨m0, m1, m2, m3, m4, m5⟩ := mr
    simp only [Nat.zero_add] at m0 m1 m2 m3 m4 m5
    have hcase : k = 0 ∨ k = 1 ∨ k = 2 := by omega
    clear fold
    rcases hcase with rfl | rfl | rfl
    · have hU : Un wr (.pointer none) := .inl rfl
      clear zr
      go_wp2_with fail
      refine (un_give (.pointer none) wr hU).mono ?_
      rintro e x0 ⟨rfl, y0⟩
      have bel0 : Below wr.heap.size wr (x0.alloc (.cells #[.int .u64 0, .int .i64 0, .int .u64 0, .int .i64 0, .string ⟨#[]⟩, .string ⟨#[]⟩, .string ⟨#[]⟩, .bool false] 38)) := y0.alloc y0.size _
      have hU0 := hU.below bel0
      have g0 := fun o => cell_alloc_r o ((y0.cell (p := ⟨w.heap.size, 0, none⟩) hmw).trans m0)
      have g1 := fun o => cell_alloc_r o ((y0.cell (p := ⟨w.heap.size, 1, none⟩) hmw).trans m1)
      have g2 := fun o => cell_alloc_r o ((y0.cell (p := ⟨w.heap.size, 2, none⟩) hmw).trans m2)
      have g3 := fun o => cell_alloc_r o ((y0.cell (p := ⟨w.heap.size, 3, none⟩) hmw).trans m3)
      have g4 := fun o => cell_alloc_r o ((y0.cell (p := ⟨w.heap.size, 4, none⟩) hmw).trans m4)
      have g5 := fun o => cell_alloc_r o ((y0.cell (p := ⟨w.heap.size, 5, none⟩) hmw).trans m5)
      go_wp2_with fail
      refine (un_push (.pointer none) m (x0.alloc (.cells #[.int .u64 0, .int .i64 0, .int .u64 0, .int .i64 0, .string ⟨#[]⟩, .string ⟨#[]⟩, .string ⟨#[]⟩, .bool false] 38)) hU0).mono ?_
      rintro e x1 ⟨rfl, y1⟩
      have bel1 := bel0.trans (y1.mono bel0.size)
      have hU1 := hU.below bel1
      clear g0 g1 g2 g3 g4 g5
      go_wp2_with fail
      refine (un_done (.pointer none) tag x1 hU1).mono ?_
      rintro e x2 ⟨rfl, y2⟩
      have bel2 := bel1.trans (y2.mono bel1.size)
      have hU2 := hU.below bel2
      go_wp2_with fail
      refine (un_back (.pointer none) tag x2 hU2).mono ?_
      rintro e x3 ⟨rfl, y3⟩
      have bel3 := bel2.trans (y3.mono bel2.size)
      have hU3 := hU.below bel3
      go_wp2_with fail
      refine (un_reset (.pointer none) x3 hU3).mono ?_
      rintro e x4 ⟨rfl, y4⟩
      have bel4 := bel3.trans (y4.mono bel3.size)
      have hU4 := hU.below bel4
      go_wp2_with fail
      refine (un_room (.pointer none) x4 hU4).mono ?_
      rintro e x5 ⟨rfl, y5⟩
      have bel5 := bel4.trans (y5.mono bel4.size)
      have hU5 := hU.below bel5
      go_wp2_with fail
      refine (un_most (.pointer none) x5 hU5).mono ?_
      rintro e x5 ⟨rfl, rfl⟩
      go_wp2_with fail
      refine (un_ready (.pointer none) x5 hU5).mono ?_
      rintro e x7 ⟨v7, rfl, r7, y7⟩
      have bel7 := bel5.trans (y7.mono bel5.size)
      have hU7 := hU.below bel7
      obtain ⟨va7, vc7, rfl⟩ := r7.slice
      simp only [List.length_nil]
      go_wp2_with fail
      refine (un_out (.pointer none) x7 hU7).mono ?_
      rintro e x8 ⟨v8, rfl, r8, y8⟩
      have bel8 := bel7.trans (y8.mono bel7.size)
      have hU8 := hU.below bel8
      obtain ⟨va8, vc8, rfl⟩ := r8.slice
      simp only [List.length_nil]
      go_wp2_with fail
      refine (un_next (.pointer none) x8 hU8).mono ?_
      rintro e x8 ⟨rfl, rfl⟩
      go_wp2_with fail
      refine (un_copy (.pointer none) x8 hU8).mono ?_
      rintro e x8 ⟨rfl, rfl⟩
      go_wp2
      go_roundw
      case rel => exact ⟨1, by go_num, by omega, hb.trans (bel8.mono hb.size)⟩
      case measure => simp [intOf]
    · have hU := zr
      clear zr
      go_wp2_with fail
      refine (un_give (.pointer (some ⟨w.heap.size + 1, 0, none⟩)) wr hU).mono ?_
      rintro e x0 ⟨rfl, y0⟩
      have bel0 : Below wr.heap.size wr (x0.alloc (.cells #[.int .u64 0, .int .i64 0, .int .u64 0, .int .i64 0, .string ⟨#[]⟩, .string ⟨#[]⟩, .string ⟨#[]⟩, .bool false] 38)) := y0.alloc y0.size _
      have hU0 := hU.below bel0
      have g0 := fun o => cell_alloc_r o ((y0.cell (p := ⟨w.heap.size, 0, none⟩) hmw).trans m0)
      have g1 := fun o => cell_alloc_r o ((y0.cell (p := ⟨w.heap.size, 1, none⟩) hmw).trans m1)
      have g2 := fun o => cell_alloc_r o ((y0.cell (p := ⟨w.heap.size, 2, none⟩) hmw).trans m2)
      have g3 := fun o => cell_alloc_r o ((y0.cell (p := ⟨w.heap.size, 3, none⟩) hmw).trans m3)
      have g4 := fun o => cell_alloc_r o ((y0.cell (p := ⟨w.heap.size, 4, none⟩) hmw).trans m4)
      have g5 := fun o => cell_alloc_r o ((y0.cell (p := ⟨w.heap.size, 5, none⟩) hmw).trans m5)
      go_wp2_with fail
      refine (un_push (.pointer (some ⟨w.heap.size + 1, 0, none⟩)) m (x0.alloc (.cells #[.int .u64 0, .int .i64 0, .int .u64 0, .int .i64 0, .string ⟨#[]⟩, .string ⟨#[]⟩, .string ⟨#[]⟩, .bool false] 38)) hU0).mono ?_
      rintro e x1 ⟨rfl, y1⟩
      have bel1 := bel0.trans (y1.mono bel0.size)
      have hU1 := hU.below bel1
      clear g0 g1 g2 g3 g4 g5
      go_wp2_with fail
      refine (un_done (.pointer (some ⟨w.heap.size + 1, 0, none⟩)) tag x1 hU1).mono ?_
      rintro e x2 ⟨rfl, y2⟩
      have bel2 := bel1.trans (y2.mono bel1.size)
      have hU2 := hU.below bel2
      go_wp2_with fail
      refine (un_back (.pointer (some ⟨w.heap.size + 1, 0, none⟩)) tag x2 hU2).mono ?_
      rintro e x3 ⟨rfl, y3⟩
      have bel3 := bel2.trans (y3.mono bel2.size)
      have hU3 := hU.below bel3
      go_wp2_with fail
      refine (un_reset (.pointer (some ⟨w.heap.size + 1, 0, none⟩)) x3 hU3).mono ?_
      rintro e x4 ⟨rfl, y4⟩
      have bel4 := bel3.trans (y4.mono bel3.size)
      have hU4 := hU.below bel4
      go_wp2_with fail
      refine (un_room (.pointer (some ⟨w.heap.size + 1, 0, none⟩)) x4 hU4).mono ?_
      rintro e x5 ⟨rfl, y5⟩
      have bel5 := bel4.trans (y5.mono bel4.size)
      have hU5 := hU.below bel5
      go_wp2_with fail
      refine (un_most (.pointer (some ⟨w.heap.size + 1, 0, none⟩)) x5 hU5).mono ?_
      rintro e x5 ⟨rfl, rfl⟩
      go_wp2_with fail
      refine (un_ready (.pointer (some ⟨w.heap.size + 1, 0, none⟩)) x5 hU5).mono ?_
      rintro e x7 ⟨v7, rfl, r7, y7⟩
      have bel7 := bel5.trans (y7.mono bel5.size)
      have hU7 := hU.below bel7
      obtain ⟨va7, vc7, rfl⟩ := r7.slice
      simp only [List.length_nil]
      go_wp2_with fail
      refine (un_out (.pointer (some ⟨w.heap.size + 1, 0, none⟩)) x7 hU7).mono ?_
      rintro e x8 ⟨v8, rfl, r8, y8⟩
      have bel8 := bel7.trans (y8.mono bel7.size)
      have hU8 := hU.below bel8
      obtain ⟨va8, vc8, rfl⟩ := r8.slice
      simp only [List.length_nil]
      go_wp2_with fail
      refine (un_next (.pointer (some ⟨w.heap.size + 1, 0, none⟩)) x8 hU8).mono ?_
      rintro e x8 ⟨rfl, rfl⟩
      go_wp2_with fail
      refine (un_copy (.pointer (some ⟨w.heap.size + 1, 0, none⟩)) x8 hU8).mono ?_
      rintro e x8 ⟨rfl, rfl⟩
      go_wp2
      go_roundw
      case rel => exact ⟨2, by go_num, by omega, hb.trans (bel8.mono hb.size)⟩
      case measure => simp [intOf]
    · go_wp2_with fail
      refine (lives_any wr).mono ?_
      rintro e w2 ⟨rfl, b2⟩
      go_wp2
      go_ret
      exact ⟨rfl, HW.out.1.trans ((hb.trans (b2.mono hb.size)).mono HW.out.1.size)⟩
end Go.Proofs.Ytocdfcaakflgpaa
