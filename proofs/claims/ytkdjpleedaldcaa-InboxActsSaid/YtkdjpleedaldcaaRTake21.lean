/-
  THE DOCUMENT's INBOX: Head, Take, Pop, Reset, by their contracts.
-/
import Derived.Test.YtkdjpleedaldcaaRHeld21
namespace Go.Proofs.Ytkdjpleedaldcaa
open Go.RowKit Go.Maps
set_option maxRecDepth 20000

/-- What a call leaves: the inbox is told by m', and of what was there nothing but its block has changed. -/
def RIPost (B : Nat) (w : World) (p : Nat) (m' : Ib) (w' : World) : Prop := (∃ v', RI B w' p v' m') ∧ Dry p p w w'
section
variable {B : Nat} {w : World} {p : Nat} {v : Value} {m : Ib}
theorem RIPost.of_below {w' : World} (h : RI B w p v m) (b : Below w.heap.size w w') : RIPost B w p m w' := ⟨⟨v, h.go b⟩, Dry.of_below b⟩
set_option maxHeartbeats 600000 in
theorem rihead_at (h : RI B w p v m) (ok : m.Ok) : Calls Try.prog 18 #[.pointer (some ⟨p, 0, none⟩)] w fun e w' =>
    e = .returned (.tuple #[mv ((m.h 0).getD zM), .bool (m.h 0).isSome]) ∧ Below w.heap.size w w' := by
  have hs1 := ok.s1
  have hs2 := ok.s2
  obtain ⟨W, fold⟩ : ∃ W, w.alloc (.cells #[.int .i64 0, .int .u64 0, .int .i64 0, .string ⟨#[]⟩, .string ⟨#[]⟩, .string ⟨#[]⟩] 33) = W := ⟨_, rfl⟩
  have bW : Below w.heap.size w W := by rw [← fold]; exact (Below.refl _ _).alloc (Nat.le_refl _) _
  have hh : W.heap[w.heap.size]? = some (.cells (mcells zM).toArray 33 (0, 0)) := by rw [← fold]; exact heap_alloc_new w _
  have hW := h.go bW
  obtain ⟨_, _, c2⟩ := hW.cells
  obtain ⟨g, c, rfl, hc1, hc2, hP⟩ := hW.cells7 ok
  obtain ⟨p0, p1, p2, p3, p4, p5, p6⟩ := hP 0 (by omega)
  simp only [Nat.zero_mul, Nat.zero_add] at p0 p1 p2 p3 p4 p5 p6
  have h63 : (m.s : Int) ≤ 32 := by omega
  have h0s : (0 : Int) < (m.s : Int) := by omega
  have HB : Hid (Below w.heap.size w W ∧ W.heap[w.heap.size]? = some (.cells (mcells zM).toArray 33 (0, 0)) ∧ w.heap.size < W.heap.size) := ⟨bW, hh, by rw [← fold]; simp⟩
  have hp1 : p ≠ w.heap.size := Nat.ne_of_lt h.lt
  have hg1 : g ≠ w.heap.size := Nat.ne_of_lt (h.row.lt (g := g) rfl).2
  generalize (m.h 0).getD zM = y at *
  generalize (m.h 0).isSome = r at *
  have hgN : g ≠ w.heap.size := hg1
  have hpN : p ≠ w.heap.size := hp1
  clear h hW hP bW hh ok
  go_enter Try.func18, Try.ntmps18
  go_wp2_with fail
  try rw [fold]
  clear fold
  have k0 : W.cell? ⟨w.heap.size, 0, none⟩ = some (.int .i64 0) := cell_of_list21 HB.out.2.1 0 rfl
  have k1 : W.cell? ⟨w.heap.size, 1, none⟩ = some (.int .u64 0) := cell_of_list21 HB.out.2.1 1 rfl
  have k2 : W.cell? ⟨w.heap.size, 2, none⟩ = some (.int .i64 0) := cell_of_list21 HB.out.2.1 2 rfl
  have k3 : W.cell? ⟨w.heap.size, 3, none⟩ = some (.string ⟨#[]⟩) := cell_of_list21 HB.out.2.1 3 rfl
  have k4 : W.cell? ⟨w.heap.size, 4, none⟩ = some (.string ⟨#[]⟩) := cell_of_list21 HB.out.2.1 4 rfl
  have k5 : W.cell? ⟨w.heap.size, 5, none⟩ = some (.string ⟨#[]⟩) := cell_of_list21 HB.out.2.1 5 rfl
  have kf : ∀ j, W.frozen? ⟨w.heap.size, j, none⟩ = false := fun j => by have := HB.out.2.1; simp [World.frozen?, this]
  generalize hN : w.heap.size = N at *
  have HN : Hid (w.heap.size = N) := hN
  clear hN
  go_region
  all_goals go_wp2_with fail
  have h1 := heap_setCell_same W N 0 _ 33 (.int .i64 y.origin) HB.out.2.1
  have h2 := heap_setCell_same _ N 1 _ 33 (.int .u64 y.seq) h1
  have h3 := heap_setCell_same _ N 2 _ 33 (.int .i64 y.hop) h2
  have h4 := heap_setCell_same _ N 3 _ 33 (.string y.ex) h3
  have h5 := heap_setCell_same _ N 4 _ 33 (.string y.key) h4
  have h6 := heap_setCell_same _ N 5 _ 33 (.string y.body) h5
  have h7 := h6.trans (show some (Obj.cells _ _ _) = some (Obj.cells (mcells y).toArray 33 (0, 0)) from by simp [mcells, zM])
  clear h1 h2 h3 h4 h5 h6
  obtain ⟨W6, hW6⟩ : ∃ X, X = (((((W.setCell ⟨N, 0, none⟩ (.int .i64 y.origin)).setCell ⟨N, 1, none⟩ (.int .u64 y.seq)).setCell ⟨N, 2, none⟩ (.int .i64 y.hop)).setCell ⟨N, 3, none⟩ (.string y.ex)).setCell ⟨N, 4, none⟩ (.string y.key)).setCell ⟨N, 5, none⟩ (.string y.body) := ⟨_, rfl⟩
  have hb6 : Below N w W6 := by
    rw [hW6]
    exact (((((HB.out.1.setCell (p := ⟨N, 0, none⟩) (Nat.le_refl _) _).setCell (p := ⟨N, 1, none⟩) (Nat.le_refl _) _).setCell (p := ⟨N, 2, none⟩) (Nat.le_refl _) _).setCell (p := ⟨N, 3, none⟩) (Nat.le_refl _) _).setCell (p := ⟨N, 4, none⟩) (Nat.le_refl _) _).setCell (p := ⟨N, 5, none⟩) (Nat.le_refl _) _
  rw [← hW6] at h7 ⊢
  clear hW6
  have h8 : W6.drew.heap[N]? = some (.cells (mcells y).toArray 33 (0, 0)) := h7
  refine bodyPost_ret (results_cell_tmp rfl _ _ N y rfl h8) rfl ?_
  refine ⟨rfl, ?_⟩
  rw [HN.out]
  exact hb6.drew
theorem rireset_at (h : RI B w p v m) (ok : m.Ok) (hB : B ≤ w.heap.size) : Calls Try.prog 16 #[.pointer (some ⟨p, 0, none⟩)] w fun e w' => e = .returned (.tuple #[]) ∧ RIPost B w p (newI m.s) w' := by
  have hs2 := ok.s2
  have hlt := h.lt
  obtain ⟨c0, c1, c2⟩ := h.cells
  have f1 := h.free 1
  have f2 := h.free 2
  have hmk := fun X => run_make_places X m.s (by omega)
  have HH : Hid (RI B w p v m) := h
  have hl : (cellsOf plcells (List.replicate m.s zeroP)).length = m.s * 7 := by rw [cellsOf_length, List.length_replicate]
  have hpn : p ≠ w.heap.size := by omega
  have ca0 := fun o => cell_alloc21 (w := w) o c0
  have ca1 := fun o => cell_alloc21 (w := w) o c1
  have ca2 := fun o => cell_alloc21 (w := w) o c2
  generalize hC : (cellsOf plcells (List.replicate m.s zeroP)) = C at *
  clear h
  go_enter Try.func16, Try.ntmps16
  go_wp2_with fail
  go_region
  all_goals go_wp2_with fail
  go_end0
  refine ⟨rfl, ?_⟩
  have h1 := heap_setCell_same w p 1 _ 40 (.int .u16 0) HH.out.blk
  have h2 := heap_setCell_same _ p 2 _ 40 (.slice (some ⟨w.heap.size, 0, none⟩) m.s m.s) h1
  obtain ⟨w2, hw2⟩ : ∃ w2, w2 = (w.setCell ⟨p, 1, none⟩ (.int .u16 0)).setCell ⟨p, 2, none⟩ (.slice (some ⟨w.heap.size, 0, none⟩) m.s m.s) := ⟨_, rfl⟩
  have hd : Dry p p w w2 := by rw [hw2]; exact (Dry.set p p w 1 _).trans (Dry.set p p _ 2 _)
  have hsz : w2.heap.size = w.heap.size := by rw [hw2]; simp
  rw [← hw2] at h2 ⊢
  refine ⟨⟨_, ⟨?_, own_made (w := w) m.s B hB hs2 ?_⟩⟩, hd.trans (Dry.of_below ((Below.refl _ w2).alloc (Nat.le_refl _) _).drew)⟩
  · exact (Below.heap_alloc w2 _ p (by omega)).trans h2
  · rw [hC, ← hsz]
    exact heap_alloc_new w2 _
theorem own_set7 {w : World} {T : TypeId} {B g n cap : Nat} {L : List Plc} (h : OwnOf plcells 7 T w B (.slice (some ⟨g, 0, none⟩) n cap) L) : ∃ cur : Array Value, w.heap[g]? = some (.cells cur T (0, 0)) ∧ B ≤ g ∧ L.length ≤ cap ∧ n = L.length ∧ cap ≤ maxLen ∧ cur.size = cap * 7 ∧ cur.toList.take (L.length * 7) = cellsOf plcells L := by
  rcases h.2 with ⟨h1, _⟩ | ⟨g', cap', cur, h1, h2, h3, h4, h5, h6, h7⟩
  · cases h1
  · injection h1 with h1 hn hc
    injection h1 with h1
    injection h1 with h1 _
    subst h1 hc
    exact ⟨cur, h3, h2, h4, hn, h5, h6, h7⟩
end
end Go.Proofs.Ytkdjpleedaldcaa
