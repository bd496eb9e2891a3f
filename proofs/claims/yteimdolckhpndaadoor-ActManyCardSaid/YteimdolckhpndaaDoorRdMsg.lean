/-
  THE READER READS A MESSAGE, by its contract.
-/
import Derived.Test.YteimdolckhpndaaDoorTakes13
namespace Go.Proofs.YteimdolckhpndaaDoor
open Go.RowKit

theorem alloc_lt {w : World} {o : Obj} : w.heap.size < (w.alloc o).heap.size := by rw [World.size_alloc]; omega
theorem cells6 {w : World} {g : Nat} {t : TypeId} {v0 v1 v2 v3 v4 v5 : Value} (h : w.heap[g]? = some (.cells [v0, v1, v2, v3, v4, v5].toArray t (0, 0))) : w.cell? ⟨g, 0, none⟩ = some v0 ∧ w.cell? ⟨g, 1, none⟩ = some v1 ∧ w.cell? ⟨g, 2, none⟩ = some v2 ∧ w.cell? ⟨g, 3, none⟩ = some v3 ∧ w.cell? ⟨g, 4, none⟩ = some v4 ∧ w.cell? ⟨g, 5, none⟩ = some v5 :=
  ⟨box_at h rfl, box_at h rfl, box_at h rfl, box_at h rfl, box_at h rfl, box_at h rfl⟩
theorem cells2 {w : World} {g : Nat} {t : TypeId} {v0 v1 : Value} (h : w.heap[g]? = some (.cells [v0, v1].toArray t (0, 0))) : w.cell? ⟨g, 0, none⟩ = some v0 ∧ w.cell? ⟨g, 1, none⟩ = some v1 :=
  ⟨box_at h rfl, box_at h rfl⟩
theorem info6 : (Tryd.prog.info? 30).map (·.size) = some 6 := by kernel_rfl
/-- The list of a message's cells, all nought. -/
abbrev zMsg : List Value := [.int .i64 0, .int .u64 0, .int .i64 0, .string ⟨#[]⟩, .string ⟨#[]⟩, .string ⟨#[]⟩]
theorem noBytes_zMsg : NoBytes zMsg := by
  intro v hv x e
  subst e
  simp at hv
/-- A reader beside the box g of a message and the box i of an id. -/
structure Mid (w U : World) (p g i : Nat) (o sq : Int) (s : Option (List UInt8)) : Prop where
  tab : Tab U
  rd : Rd 77 U p s
  hg : U.heap[g]? = some (.cells zMsg.toArray 30 (0, 0))
  hi : U.heap[i]? = some (.cells [.int .i64 o, .int .u64 sq].toArray 28 (0, 0))
  bar : Bar p w U
  gp : g ≠ p
  ip : i ≠ p
theorem Mid.go {w U V : World} {p g i : Nat} {o sq : Int} {s s' : Option (List UInt8)} (h : Mid w U p g i o sq s) (hr : Rd 77 V p s') (hb : Bar p U V) : Mid w V p g i o sq s' :=
  ⟨h.tab.bar h.rd hb, hr, hb.box h.hg h.gp, hb.box h.hi h.ip, h.bar.trans hb, h.gp, h.ip⟩
theorem Mid.drew {w U : World} {p g i : Nat} {o sq : Int} {s : Option (List UInt8)} (h : Mid w U p g i o sq s) : Mid w U.drew p g i o sq s :=
  ⟨h.tab.below (drew_below U) h.tab.pos, h.rd.kept (drew_below U), h.hg, h.hi, h.bar.trans (Bar.of (drew_below U)), h.gp, h.ip⟩
set_option maxRecDepth 20000 in
set_option maxHeartbeats 4000000 in
theorem msg_any (p : Nat) (s : Option (List UInt8)) (w : World) (ht : Tab w) (hr : Rd 77 w p s) :
    Calls Tryd.prog 50 #[.pointer (some ⟨p, 0, none⟩)] w (MsgPost 77 p s w) := by
  obtain ⟨W, fold⟩ : ∃ W, w.alloc (.cells #[.int .i64 0, .int .u64 0, .int .i64 0, .string ⟨#[]⟩, .string ⟨#[]⟩, .string ⟨#[]⟩] 30) = W := ⟨_, rfl⟩
  have b0 : Below w.heap.size w W := by rw [← fold]; exact box_below w _
  have x0 : W.heap[w.heap.size]? = some (.cells zMsg.toArray 30 (0, 0)) := by rw [← fold]; exact heap_alloc_new w _
  have hlt := hr.lt
  have hC := num1_any p s W (ht.below b0 ht.pos) (hr.kept b0)
  have H0 : Hid (Tab W ∧ Rd 77 W p s ∧ W.heap[w.heap.size]? = some (.cells zMsg.toArray 30 (0, 0)) ∧ Bar p w W ∧ w.heap.size ≠ p) := ⟨ht.below b0 ht.pos, hr.kept b0, x0, Bar.of b0, by omega⟩
  clear ht hr b0 x0 hlt
  go_enter Tryd.func50, Tryd.ntmps50
  go_wp2_with fail
  try rw [fold]
  refine hC.mono ?_
  rintro e w1 ⟨t1, s1, rfl, n1, a1, r1, b1⟩
  clear hC
  have wr1 := wrap_num n1 (by decide)
  have H1 : Hid (Tab w1 ∧ Rd 77 w1 p s1 ∧ w1.heap[w.heap.size]? = some (.cells zMsg.toArray 30 (0, 0)) ∧ Bar p w w1 ∧ w.heap.size ≠ p) := ⟨H0.out.1.bar H0.out.2.1 b1, r1, b1.box H0.out.2.2.1 H0.out.2.2.2.2, H0.out.2.2.2.1.trans b1, H0.out.2.2.2.2⟩
  have N1 : Hid (t1 < 256 ^ 1) := n1
  have A1 : Hid (Aft s (numP 1) t1 s1) := a1
  have hC := num8_any p s1 w1 H1.out.1 H1.out.2.1
  clear n1 a1 r1 b1
  go_wp2_with fail
  refine hC.mono ?_
  rintro e w2 ⟨t2, s2, rfl, n2, a2, r2, b2⟩
  clear hC
  have N2 : Hid (t2 < 256 ^ 8) := n2
  have A2 : Hid (Aft s1 (numP 8) t2 s2) := a2
  have H2 : Hid (Tab w2 ∧ Rd 77 w2 p s2 ∧ w2.heap[w.heap.size]? = some (.cells zMsg.toArray 30 (0, 0)) ∧ Bar p w w2 ∧ w.heap.size ≠ p) := ⟨H1.out.1.bar H1.out.2.1 b2, r2, b2.box H1.out.2.2.1 H1.out.2.2.2.2, H1.out.2.2.2.1.trans b2, H1.out.2.2.2.2⟩
  clear n2 a2 r2 b2
  obtain ⟨U, foldU⟩ : ∃ U, w2.alloc (.cells #[.int .i64 (t1 : Int), .int .u64 (t2 : Int)] 28) = U := ⟨_, rfl⟩
  have bU : Below w2.heap.size w2 U := by rw [← foldU]; exact box_below w2 _
  have M0 : Hid (Mid w U p w.heap.size w2.heap.size t1 t2 s2) := ⟨H2.out.1.below bU H2.out.1.pos, H2.out.2.1.kept bU, (bU.block _ (Array.getElem?_eq_some_iff.1 H2.out.2.2.1).1).trans H2.out.2.2.1, by rw [← foldU]; exact heap_alloc_new w2 _, H2.out.2.2.2.1.trans (Bar.of bU), H2.out.2.2.2.2, by have := H2.out.2.1.lt; omega⟩
  have hs2 : Hid (w.heap.size ≤ w.heap.size) := Nat.le_refl _
  clear bU
  obtain ⟨i, hi⟩ : ∃ z, w2.heap.size = z := ⟨_, rfl⟩
  rw [hi] at M0
  go_wp2
  try rw [foldU]
  try rw [hi]
  obtain ⟨e2, d2⟩ := cells2 M0.out.hi
  first
  | (go_region_law (first
      | (rw [if_pos (by simp [Region.wanted])]; go_simp; refine Calls.mono (text_any p s5 u5 m5.out.tab m5.out.rd) ?_; rintro e u6 ⟨t6, s6, rfl, n6, a6, r6, b6⟩; have m6 : Hid (Mid w u6 p w.heap.size i t1 t2 s6) := m5.out.go r6 b6; have A6 : Hid (Aft s5 textP t6 s6 ∧ t6.size < 65536) := ⟨a6, n6⟩; obtain ⟨e6, d6⟩ := cells2 m6.out.hi; have F6 := fun j => box_free m6.out.hg j; obtain ⟨c60, c61, c62, c63, c64, c65⟩ := cells6 m6.out.hg; clear n6 a6 r6 b6; dsimp only)
      | (rw [if_pos (by simp [Region.wanted])]; go_simp; refine Calls.mono (text_any p s4 u4 m4.out.tab m4.out.rd) ?_; rintro e u5 ⟨t5, s5, rfl, n5, a5, r5, b5⟩; have m5 : Hid (Mid w u5 p w.heap.size i t1 t2 s5) := m4.out.go r5 b5; have A5 : Hid (Aft s4 textP t5 s5 ∧ t5.size < 65536) := ⟨a5, n5⟩; obtain ⟨e5, d5⟩ := cells2 m5.out.hi; have F5 := fun j => box_free m5.out.hg j; obtain ⟨c50, c51, c52, c53, c54, c55⟩ := cells6 m5.out.hg; clear n5 a5 r5 b5; dsimp only)
      | (rw [if_pos (by simp [Region.wanted])]; go_simp; refine Calls.mono (text_any p s3 u3 m3.out.tab m3.out.rd) ?_; rintro e u4 ⟨t4, s4, rfl, n4, a4, r4, b4⟩; have m4 : Hid (Mid w u4 p w.heap.size i t1 t2 s4) := m3.out.go r4 b4; have A4 : Hid (Aft s3 textP t4 s4 ∧ t4.size < 65536) := ⟨a4, n4⟩; obtain ⟨e4, d4⟩ := cells2 m4.out.hi; have F4 := fun j => box_free m4.out.hg j; obtain ⟨c40, c41, c42, c43, c44, c45⟩ := cells6 m4.out.hg; clear n4 a4 r4 b4; dsimp only)
      | (rw [if_pos (by simp [Region.wanted])]; go_simp; refine Calls.mono (num1_any p s2 _ (show Mid w _ p w.heap.size i t1 t2 s2 from by first | exact M0.out | exact M0.out.drew).tab (show Mid w _ p w.heap.size i t1 t2 s2 from by first | exact M0.out | exact M0.out.drew).rd) ?_; rintro e u3 ⟨t3, s3, rfl, n3, a3, r3, b3⟩; have wr3 := wrap_num n3 (by decide); have m3 : Hid (Mid w u3 p w.heap.size i t1 t2 s3) := (show Mid w _ p w.heap.size i t1 t2 s2 from by first | exact M0.out | exact M0.out.drew).go r3 b3; have A3 : Hid (Aft s2 (numP 1) t3 s3 ∧ t3 < 256 ^ 1) := ⟨a3, n3⟩; obtain ⟨e3, d3⟩ := cells2 m3.out.hi; have F3 := fun j => box_free m3.out.hg j; obtain ⟨c30, c31, c32, c33, c34, c35⟩ := cells6 m3.out.hg; clear n3 a3 r3 b3; dsimp only)))
  | fail
  all_goals go_wp2
  all_goals refine bodyPost_ret (results_cell_row rfl _ _ w.heap.size 30 (mcells ⟨t1, t2, t3, t4, t5, t6⟩).toArray (0, 0) _ rfl (set_list (set_list (set_list (set_list (set_list (set_list m6.out.hg _) _) _) _) _) _) Tryd.underlying30 rfl info6) rfl ?_
  all_goals refine ⟨⟨t1, t2, t3, t4, t5, t6⟩, s6, rfl, ?_, aft_msg A1.out A2.out A3.out.1 A4.out.1 A5.out.1 A6.out.1, ?_, ?_⟩
  all_goals first
    | (refine ⟨?_, ?_, ?_, short_max A4.out.2, short_max A5.out.2, short_max A6.out.2⟩
       · have := num_le N1.out (by decide); exact ⟨by show _ ≤ (t1 : Int); omega, by show (t1 : Int) < _; omega⟩
       · have := N2.out; exact ⟨by show _ ≤ (t2 : Int); omega, by show (t2 : Int) < _; omega⟩
       · have := num_le A3.out.2 (by decide); exact ⟨by show _ ≤ (t3 : Int); omega, by show (t3 : Int) < _; omega⟩)
    | exact m6.out.rd.only m6.out.hg noBytes_zMsg (Ne.symm m6.out.gp) (fun k _ hk => by rw [Below.heap_setCell _ _ _ _ hk, Below.heap_setCell _ _ _ _ hk, Below.heap_setCell _ _ _ _ hk, Below.heap_setCell _ _ _ _ hk, Below.heap_setCell _ _ _ _ hk, Below.heap_setCell _ _ _ _ hk])
    | exact (((((m6.out.bar.setNew (Nat.le_refl _) _ _).setNew (Nat.le_refl _) _ _).setNew (Nat.le_refl _) _ _).setNew (Nat.le_refl _) _ _).setNew (Nat.le_refl _) _ _).setNew (Nat.le_refl _) _ _
end Go.Proofs.YteimdolckhpndaaDoor
