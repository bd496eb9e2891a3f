/-
  THE LAW StateNone.
-/
import Derived.Test.YtjagaankkcbjmaaGreatDoorJ42
import Derived.Test.YtjagaankkcbjmaaGreatDoorJ45
namespace Go.Proofs.YtjagaankkcbjmaaGreatDoor
open Go.RowKit

theorem fitB : (zA 12).Fits := by
  refine ⟨by decide, by unfold maxLen; decide, by decide, by decide, by decide, by unfold maxLen; decide, by decide, by unfold maxLen; decide, by unfold maxLen; decide, by unfold maxLen; decide, ⟨by decide, by decide, by decide, by unfold maxLen; decide, by unfold maxLen; decide, by unfold maxLen; decide⟩⟩
/-- What the law's loop keeps. -/
structure NoneIn (w wr : World) (a : Ax) : Prop where
  un : Un14 wr (.pointer (some ⟨w.heap.size + 1, 0, none⟩))
  box : wr.heap[w.heap.size]? = some (.cells (xcells a).toArray 42 (0, 0))
  bel : Below w.heap.size w wr
theorem NoneIn.go {w wr wr' : World} {a : Ax} (h : NoneIn w wr a) (b : Below wr.heap.size wr wr') : NoneIn w wr' a := ⟨h.un.below b, (b.block _ (Array.getElem?_eq_some_iff.1 h.box).1).trans h.box, keptW h.bel b⟩
set_option maxRecDepth 20000 in
set_option maxHeartbeats 8000000 in
theorem none14_law (a : Ax) (w : World) (he : Kinds w) :
    Calls Tryz.prog 6 #[av a] w fun e w' => e = .returned (.bool true) ∧ Below w.heap.size w w' := by
  have HL : Hid (∀ V, Below w.heap.size w V → Calls Tryz.prog 10 #[] V fun e w' => e = .returned (.bool true) ∧ Below V.heap.size V w') := fun V b => lives14_any V (he.below b)
  have HG : Hid (∀ V : World, Calls Tryz.prog 29 #[av (zA 12)] V fun e w' => e = .returned (.bool true) ∧ Below V.heap.size V w') := fun V => rgoodA_any (zA 12) V fitB
  clear he
  have i0 : ∀ V : World, (Instr.index 97 (.agg #[.pointer none, .pointer (some ⟨w.heap.size + 1, 0, none⟩)]) (.int .i64 0)).run Tryz.prog V = .ok (.pointer none) V := fun V => by first | rfl | simp [Instr.index]
  have i1 : ∀ V : World, (Instr.index 97 (.agg #[.pointer none, .pointer (some ⟨w.heap.size + 1, 0, none⟩)]) (.int .i64 1)).run Tryz.prog V = .ok (.pointer (some ⟨w.heap.size + 1, 0, none⟩)) V := fun V => by first | rfl | simp [Instr.index]
  obtain ⟨W, fold⟩ : ∃ W, (w.alloc (.cells #[.int .i64 a.kind, .string a.name, .int .i64 a.n, .int .u64 a.tag, .int .i64 a.to, .string a.xn, .int .i64 a.xk, .bool a.xf, .string a.be, .string a.bq, .string a.bp, .int .i64 a.m.origin, .int .u64 a.m.seq, .int .i64 a.m.hop, .string a.m.ex, .string a.m.key, .string a.m.body] 42)).alloc (.cells #[.int .i64 0, .int .i64 0, .slice none 0 0, .int .i64 0, .int .u64 0, .int .u64 0, .pointer none, .map none, .pointer none, .map none] 96) = W := ⟨_, rfl⟩
  have HN : Hid (NoneIn w W a) := by
    refine ⟨.inr ⟨_, rfl, ?_⟩, ?_, ?_⟩
    · rw [← fold]
      have h := heap_alloc_new (w.alloc (.cells (xcells a).toArray 42)) (.cells #[.int .i64 0, .int .i64 0, .slice none 0 0, .int .i64 0, .int .u64 0, .int .u64 0, .pointer none, .map none, .pointer none, .map none] 96)
      rw [World.size_alloc] at h
      exact h
    · rw [← fold]; exact heap_alloc2_old w _ _
    · rw [← fold]; exact keptW (box_below w _) (box_below _ _)
  go_enter Tryz.func6, Tryz.ntmps6
  go_wp2
  try rw [fold]
  clear fold
  go_loopg [5, 6, 7, 8, 9, 10, 12] 2 (fun g u5 u6 u7 u8 u9 u10 u12 wr => ∃ k : Nat, u12 = .int .i64 k ∧ k ≤ 2 ∧ g = 2 - k ∧ Hid (NoneIn w wr a))
  case atStart => exact ⟨0, rfl, by omega, rfl, HN⟩
  case round =>
    obtain ⟨k, rfl, hk, rfl, hG⟩ := hrel
    clear HN
    rcases (show k = 0 ∨ k = 1 ∨ k = 2 by omega) with rfl | rfl | rfl
    · have c := un14_apply (.pointer none) a wr (.inl rfl)
      go_wp2_with (refine wpList_load_row rfl 42 _ rfl w.heap.size rfl 42 (xcells a).toArray (0, 0) _ hG.out.box Tryz.underlying42 rfl info17 ?_)
      refine c.mono ?_
      rintro e w1 ⟨rfl, b1⟩
      replace hG : Hid (NoneIn w w1 a) := hG.out.go b1
      clear c b1
      have c := un14_parts (.pointer none) w1 (.inl rfl)
      go_wp2_with fail
      refine c.mono ?_
      rintro e w2 ⟨rfl, b1⟩
      replace hG : Hid (NoneIn w w2 a) := hG.out.go b1
      clear c b1
      obtain ⟨V3, f3⟩ : ∃ X, w2.alloc (.cells #[.int .u64 0, .int .u64 0, .slice none 0 0, .slice none 0 0, .slice none 0 0, .slice none 0 0, .slice none 0 0] 57) = X := ⟨_, rfl⟩
      have z3 : V3.heap[w2.heap.size]? = some (.cells (ptcells zPt).toArray 57 (0, 0)) := by rw [← f3]; exact heap_alloc_new w2 _
      have b3 : Below w2.heap.size w2 V3 := by rw [← f3]; exact box_below w2 _
      obtain ⟨V4, f4⟩ : ∃ X, V3.setRow w2.heap.size (ptcells zPt).toArray = X := ⟨_, rfl⟩
      have b4 : Below w2.heap.size w2 V4 := by rw [← f4]; exact below_setRow b3 (Nat.le_refl _) _
      have x4 : V4.heap[w2.heap.size]? = some (.cells (ptcells zPt).toArray 57 (0, 0)) := by rw [← f4]; exact setRow_heap _ _ _ _ _ _ z3
      have HZ : Hid (V3.heap[w2.heap.size]? = some (.cells (ptcells zPt).toArray 57 (0, 0))) := z3
      replace hG : Hid (NoneIn w V4 a) := hG.out.go b4
      have k1 : V4.cell? ⟨w.heap.size, 1, none⟩ = some (.string a.name) := (cells17 hG.out.box).2.1
      have c := un14_queue (.pointer none) a.name V4 (.inl rfl)
      clear z3 b3 b4
      go_wp2_with (refine wpList_store_row rfl 57 _ _ rfl w2.heap.size (ptcells zPt).toArray rfl rfl 57 (ptcells zPt).toArray (by first | exact HZ.out | (rw [f3]; exact HZ.out)) infoPt rfl (onePt _) ?_; (try rw [f3]); (try rw [f4]))
      refine c.mono ?_
      rintro e w5 ⟨rfl, b5⟩
      obtain ⟨V6, f6⟩ : ∃ X, w5.alloc (.cells #[.string ⟨#[]⟩, .int .i64 0, .int .u64 0, .slice none 0 0, .slice none 0 0] 86) = X := ⟨_, rfl⟩
      have z6 : V6.heap[w5.heap.size]? = some (.cells (qpcells zQp).toArray 86 (0, 0)) := by rw [← f6]; exact heap_alloc_new w5 _
      have b6 : Below w5.heap.size w5 V6 := by rw [← f6]; exact box_below w5 _
      obtain ⟨V7, f7⟩ : ∃ X, V6.setRow w5.heap.size (qpcells zQp).toArray = X := ⟨_, rfl⟩
      have b7 : Below w5.heap.size w5 V7 := by rw [← f7]; exact below_setRow b6 (Nat.le_refl _) _
      have HZ6 : Hid (V6.heap[w5.heap.size]? = some (.cells (qpcells zQp).toArray 86 (0, 0))) := z6
      have b57 := keptW b5 b7
      replace hG : Hid (NoneIn w V7 a) := hG.out.go b57
      have x7 : V7.heap[w2.heap.size]? = some (.cells #[.int .u64 0, .int .u64 0, .slice none 0 0, .slice none 0 0, .slice none 0 0, .slice none 0 0, .slice none 0 0] 57 (0, 0)) := (b57.block _ (Array.getElem?_eq_some_iff.1 x4).1).trans x4
      obtain ⟨p0, p1, p2, p3, p4, p5, p6⟩ := cells7 x7
      obtain ⟨y0, y1, y2, y3, y4, y5, y6, y7, y8, y9, y10, y11, y12, y13, y14, y15, y16⟩ := cells17 hG.out.box
      have c := un14_copy (.pointer none) V7 (.inl rfl)
      clear z6 b6 b7 b57 b5 x4 x7 k1 y0 y1 y2 y3 y5 y6 y7 y8 y9 y10 y13 y14 y15 y16
      go_wp2_with (first | (refine wpList_store_row rfl 86 _ _ rfl w5.heap.size (qpcells zQp).toArray rfl rfl 86 (qpcells zQp).toArray (by first | exact HZ6.out | (rw [f6]; exact HZ6.out)) infoQp rfl (oneQp _) ?_; (try rw [f6]); (try rw [f7])))
      refine c.mono ?_
      rintro e V7 ⟨rfl, rfl⟩
      clear c
      have c := un14_has (.pointer none) a.m.origin a.m.seq V7 (.inl rfl)
      go_wp2_with fail
      refine c.mono ?_
      rintro e w8 ⟨rfl, b8⟩
      replace hG : Hid (NoneIn w w8 a) := hG.out.go b8
      clear c b8 p0 p1 p2 p3 p4 p5 p6
      have k4 : w8.cell? ⟨w.heap.size, 4, none⟩ = some (.int .i64 a.to) := (cells17 hG.out.box).2.2.2.2.1
      have c := un14_link (.pointer none) a.to w8 (.inl rfl)
      go_wp2_with fail
      refine c.mono ?_
      rintro e w8 ⟨rfl, rfl⟩
      clear c
      go_wp2
      go_roundg (2 - 1)
      case measure => omega
      case rel => exact ⟨1, by go_num, by omega, rfl, hG⟩
    · have c := un14_apply (.pointer (some ⟨w.heap.size + 1, 0, none⟩)) a wr hG.out.un
      go_wp2_with (refine wpList_load_row rfl 42 _ rfl w.heap.size rfl 42 (xcells a).toArray (0, 0) _ hG.out.box Tryz.underlying42 rfl info17 ?_)
      refine c.mono ?_
      rintro e w1 ⟨rfl, b1⟩
      replace hG : Hid (NoneIn w w1 a) := hG.out.go b1
      clear c b1
      have c := un14_parts (.pointer (some ⟨w.heap.size + 1, 0, none⟩)) w1 hG.out.un
      go_wp2_with fail
      refine c.mono ?_
      rintro e w2 ⟨rfl, b1⟩
      replace hG : Hid (NoneIn w w2 a) := hG.out.go b1
      clear c b1
      obtain ⟨V3, f3⟩ : ∃ X, w2.alloc (.cells #[.int .u64 0, .int .u64 0, .slice none 0 0, .slice none 0 0, .slice none 0 0, .slice none 0 0, .slice none 0 0] 57) = X := ⟨_, rfl⟩
      have z3 : V3.heap[w2.heap.size]? = some (.cells (ptcells zPt).toArray 57 (0, 0)) := by rw [← f3]; exact heap_alloc_new w2 _
      have b3 : Below w2.heap.size w2 V3 := by rw [← f3]; exact box_below w2 _
      obtain ⟨V4, f4⟩ : ∃ X, V3.setRow w2.heap.size (ptcells zPt).toArray = X := ⟨_, rfl⟩
      have b4 : Below w2.heap.size w2 V4 := by rw [← f4]; exact below_setRow b3 (Nat.le_refl _) _
      have x4 : V4.heap[w2.heap.size]? = some (.cells (ptcells zPt).toArray 57 (0, 0)) := by rw [← f4]; exact setRow_heap _ _ _ _ _ _ z3
      have HZ : Hid (V3.heap[w2.heap.size]? = some (.cells (ptcells zPt).toArray 57 (0, 0))) := z3
      replace hG : Hid (NoneIn w V4 a) := hG.out.go b4
      have k1 : V4.cell? ⟨w.heap.size, 1, none⟩ = some (.string a.name) := (cells17 hG.out.box).2.1
      have c := un14_queue (.pointer (some ⟨w.heap.size + 1, 0, none⟩)) a.name V4 hG.out.un
      clear z3 b3 b4
      go_wp2_with (refine wpList_store_row rfl 57 _ _ rfl w2.heap.size (ptcells zPt).toArray rfl rfl 57 (ptcells zPt).toArray (by first | exact HZ.out | (rw [f3]; exact HZ.out)) infoPt rfl (onePt _) ?_; (try rw [f3]); (try rw [f4]))
      refine c.mono ?_
      rintro e w5 ⟨rfl, b5⟩
      obtain ⟨V6, f6⟩ : ∃ X, w5.alloc (.cells #[.string ⟨#[]⟩, .int .i64 0, .int .u64 0, .slice none 0 0, .slice none 0 0] 86) = X := ⟨_, rfl⟩
      have z6 : V6.heap[w5.heap.size]? = some (.cells (qpcells zQp).toArray 86 (0, 0)) := by rw [← f6]; exact heap_alloc_new w5 _
      have b6 : Below w5.heap.size w5 V6 := by rw [← f6]; exact box_below w5 _
      obtain ⟨V7, f7⟩ : ∃ X, V6.setRow w5.heap.size (qpcells zQp).toArray = X := ⟨_, rfl⟩
      have b7 : Below w5.heap.size w5 V7 := by rw [← f7]; exact below_setRow b6 (Nat.le_refl _) _
      have HZ6 : Hid (V6.heap[w5.heap.size]? = some (.cells (qpcells zQp).toArray 86 (0, 0))) := z6
      have b57 := keptW b5 b7
      replace hG : Hid (NoneIn w V7 a) := hG.out.go b57
      have x7 : V7.heap[w2.heap.size]? = some (.cells #[.int .u64 0, .int .u64 0, .slice none 0 0, .slice none 0 0, .slice none 0 0, .slice none 0 0, .slice none 0 0] 57 (0, 0)) := (b57.block _ (Array.getElem?_eq_some_iff.1 x4).1).trans x4
      obtain ⟨p0, p1, p2, p3, p4, p5, p6⟩ := cells7 x7
      obtain ⟨y0, y1, y2, y3, y4, y5, y6, y7, y8, y9, y10, y11, y12, y13, y14, y15, y16⟩ := cells17 hG.out.box
      have c := un14_copy (.pointer (some ⟨w.heap.size + 1, 0, none⟩)) V7 hG.out.un
      clear z6 b6 b7 b57 b5 x4 x7 k1 y0 y1 y2 y3 y5 y6 y7 y8 y9 y10 y13 y14 y15 y16
      go_wp2_with (first | (refine wpList_store_row rfl 86 _ _ rfl w5.heap.size (qpcells zQp).toArray rfl rfl 86 (qpcells zQp).toArray (by first | exact HZ6.out | (rw [f6]; exact HZ6.out)) infoQp rfl (oneQp _) ?_; (try rw [f6]); (try rw [f7])))
      refine c.mono ?_
      rintro e V7 ⟨rfl, rfl⟩
      clear c
      have c := un14_has (.pointer (some ⟨w.heap.size + 1, 0, none⟩)) a.m.origin a.m.seq V7 hG.out.un
      go_wp2_with fail
      refine c.mono ?_
      rintro e w8 ⟨rfl, b8⟩
      replace hG : Hid (NoneIn w w8 a) := hG.out.go b8
      clear c b8 p0 p1 p2 p3 p4 p5 p6
      have k4 : w8.cell? ⟨w.heap.size, 4, none⟩ = some (.int .i64 a.to) := (cells17 hG.out.box).2.2.2.2.1
      have c := un14_link (.pointer (some ⟨w.heap.size + 1, 0, none⟩)) a.to w8 hG.out.un
      go_wp2_with fail
      refine c.mono ?_
      rintro e w8 ⟨rfl, rfl⟩
      clear c
      go_wp2
      go_roundg (2 - 2)
      case measure => omega
      case rel => exact ⟨2, by go_num, by omega, rfl, hG⟩
    · have c := HG.out wr
      have HL' := HL.out
      go_wp2_with fail
      refine c.mono ?_
      rintro e w1 ⟨rfl, b1⟩
      replace hG : Hid (NoneIn w w1 a) := hG.out.go b1
      clear c b1
      have c := HL.out w1 hG.out.bel
      go_wp2_with (go_at_call 10; refine c.mono ?_; rintro e w2 ⟨rfl, b2⟩)
      go_ret
      exact ⟨rfl, keptW hG.out.bel b2⟩
end Go.Proofs.YtjagaankkcbjmaaGreatDoor
