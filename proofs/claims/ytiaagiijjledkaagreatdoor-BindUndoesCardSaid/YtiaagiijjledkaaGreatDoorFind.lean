/-
  Find, Forget, Unbind, by their contracts.
-/
import Derived.Test.YtiaagiijjledkaaGreatDoorDrop
import Derived.Laws.ResultCell
import Derived.Laws.Rows
namespace Go.Proofs.YtiaagiijjledkaaGreatDoor
open Go.RowKit Go.Sort Go.Maps Go.Shelf

def Soft3 (w : World) (b : Nat) : Prop := ∃ cs, w.heap[b]? = some (.cells cs 33 (0, 0)) ∧ cs.size = 3
abbrev put3 (w : World) (g : Nat) (v0 v1 v2 : Value) : World := ((w.setCell ⟨g, 0, none⟩ v0).setCell ⟨g, 1, none⟩ v1).setCell ⟨g, 2, none⟩ v2
theorem put3_at {w : World} {g : Nat} (h : Soft3 w g) (v0 v1 v2 : Value) : (put3 w g v0 v1 v2).heap[g]? = some (.cells #[v0, v1, v2] 33 (0, 0)) := by
  obtain ⟨⟨l⟩, h1, h2⟩ := h
  match l, h2 with
  | [a0, a1, a2], _ =>
    have e0 := heap_setCell_same w g 0 _ _ v0 h1
    have e1 := heap_setCell_same _ g 1 _ _ v1 e0
    have e2 := heap_setCell_same _ g 2 _ _ v2 e1
    rw [e2]
    simp
theorem put3_other {w : World} {g k : Nat} (v0 v1 v2 : Value) (h : k ≠ g) : (put3 w g v0 v1 v2).heap[k]? = w.heap[k]? := by
  unfold put3
  rw [heap_setCell_other _ _ _ _ h, heap_setCell_other _ _ _ _ h, heap_setCell_other _ _ _ _ h]
theorem put3_size (w : World) (g : Nat) (v0 v1 v2 : Value) : (put3 w g v0 v1 v2).heap.size = w.heap.size := by simp [put3]
theorem put3_below {w0 w : World} {g : Nat} (v0 v1 v2 : Value) (h : Below w0.heap.size w0 w) (hg : w0.heap.size ≤ g) : Below w0.heap.size w0 (put3 w g v0 v1 v2) :=
  h.trans ⟨rfl, rfl, rfl, Nat.le_of_eq (put3_size w g v0 v1 v2).symm, fun k hk => put3_other v0 v1 v2 (by omega)⟩
theorem ret_x {fn : Func} {R : Ending → World → Prop} {a : Act} {w : World} {p u : Tmp} (h : fn.results = #[.cell p 33, .tmp u]) (g : Nat) {v0 v1 v2 r : Value} (hp : a.tmps.getD p undef = .pointer (some ⟨g, 0, none⟩)) (hu : a.tmps.getD u undef = r) (hd : a.defers = [])
    (hg : w.heap[g]? = some (.cells #[v0, v1, v2] 33 (0, 0))) (hR : R (.returned (.tuple #[.agg #[v0, v1, v2], r])) w) : bodyPost Tryz.prog fn R .ret a w := by
  have hr : (results fn a.tmps).run Tryz.prog w = .ok (.tuple #[.agg #[v0, v1, v2], a.tmps.getD u undef]) w := by
    rw [results_cell_tmp h, hp]
    simp [asAddr, run_loadVar_row w g _ _ _ _ _ hg Tryz.underlying33 rfl xInfo3, Result.andThen]
  exact bodyPost_ret hr hd (by rw [hu]; exact hR)

set_option maxRecDepth 20000 in
set_option maxHeartbeats 2000000 in
theorem find_any (p : Nat) (F : Nat → Prop) (s : Tb) (n : ByteArray) (w : World) (h : T w p F s) (ok : s.Ok) (hs : n.size ≤ maxLen) :
    Calls Tryz.prog 13 #[.pointer (some ⟨p, 0, none⟩), .string n] w fun e w' => e = .returned (.tuple #[xv ((findX s.xs n).getD zeroEx), .bool (findX s.xs n).isSome]) ∧ Below w.heap.size w w' := by
  obtain ⟨W, fold⟩ : ∃ W, w.alloc (.cells #[.string ⟨#[]⟩, .int .i64 0, .bool false] 33) = W := ⟨_, rfl⟩
  have bW : Below w.heap.size w W := by rw [← fold]; exact (Below.refl _ _).alloc (Nat.le_refl _) _
  have hWz : W.heap[w.heap.size]? = some (.cells #[.string ⟨#[]⟩, .int .i64 0, .bool false] 33 (0, 0)) := by rw [← fold]; exact heap_alloc_new w _
  have hM := made_any p F s W (h.kept bW)
  obtain ⟨bx, bb, hq, hF⟩ := h.kept bW
  obtain ⟨c0, c1⟩ := cells2 hq.blk
  have la := hq.x.look ok.xl hs
  generalize (findX s.xs n).getD zeroEx = yy at la ⊢
  generalize (findX s.xs n).isSome = rr at la ⊢
  obtain ⟨W2, fold2⟩ : ∃ W2, W.alloc (.cells #[.string yy.name, .int .i64 yy.kind, .bool yy.fed] 33) = W2 := ⟨_, rfl⟩
  have b2 : Below W.heap.size W W2 := by rw [← fold2]; exact (Below.refl _ _).alloc (Nat.le_refl _) _
  have z0 : W2.cell? ⟨W.heap.size, 0, none⟩ = some (.string yy.name) := by rw [← fold2]; exact cell_of_list (C := xcells yy) (heap_alloc_new W _) 0
  have z1 : W2.cell? ⟨W.heap.size, 1, none⟩ = some (.int .i64 yy.kind) := by rw [← fold2]; exact cell_of_list (C := xcells yy) (heap_alloc_new W _) 1
  have z2 : W2.cell? ⟨W.heap.size, 2, none⟩ = some (.bool yy.fed) := by rw [← fold2]; exact cell_of_list (C := xcells yy) (heap_alloc_new W _) 2
  have hlt : w.heap.size < W.heap.size := (Array.getElem?_eq_some_iff.1 hWz).1
  have hW2z : W2.heap[w.heap.size]? = some (.cells #[.string ⟨#[]⟩, .int .i64 0, .bool false] 33 (0, 0)) := (b2.block _ hlt).trans hWz
  have t0 : W2.cell? ⟨w.heap.size, 0, none⟩ = some (.string ⟨#[]⟩) := cell_of_list (C := [.string ⟨#[]⟩, .int .i64 0, .bool false]) hW2z 0
  have t1 : W2.cell? ⟨w.heap.size, 1, none⟩ = some (.int .i64 0) := cell_of_list (C := [.string ⟨#[]⟩, .int .i64 0, .bool false]) hW2z 1
  have t2 : W2.cell? ⟨w.heap.size, 2, none⟩ = some (.bool false) := cell_of_list (C := [.string ⟨#[]⟩, .int .i64 0, .bool false]) hW2z 2
  have f0 := frozen_of_list hW2z
  have HZ : Hid _ := put3_at (w := W2) ⟨_, hW2z, rfl⟩ (.string yy.name) (.int .i64 yy.kind) (.bool yy.fed)
  have HE : Hid _ := put3_below (w := W2) (.string yy.name) (.int .i64 yy.kind) (.bool yy.fed) (bW.trans (b2.mono bW.size)) (Nat.le_refl _)
  have hne : ¬ w.heap.size = W.heap.size := by omega
  clear hq hF hWz hW2z bW b2 hlt
  go_enter Tryz.func13, Tryz.ntmps13
  go_wp2_with fail
  refine hM.mono ?_
  rintro e W ⟨rfl, rfl⟩
  clear fold
  go_wp2_with (at_lookup; refine wpList_lookup_run _ rfl _ _ _ rfl _ _ _ rfl rfl la ?_)
  refine ret_x (p := 4) (u := 5) (r := .bool rr) rfl w.heap.size rfl rfl rfl HZ.out ?_
  exact ⟨rfl, HE.out⟩

set_option maxRecDepth 20000 in
set_option maxHeartbeats 2000000 in
theorem forget_any (p : Nat) (F : Nat → Prop) (s : Tb) (n : ByteArray) (w : World) (h : T w p F s) (ok : s.Ok) :
    Calls Tryz.prog 26 #[.pointer (some ⟨p, 0, none⟩), .string n] w fun e w' => e = .returned (.int .i64 ((s.bs.length : Int) - ((keepB (fun b => b.que.toList == n.toList) s.bs).length : Int))) ∧ ∃ F', T w' p F' { s with bs := keepB (fun b => b.que.toList == n.toList) s.bs } ∧ Moved w w' F F' := by
  obtain ⟨W, fold⟩ : ∃ W, w.alloc (.cells #[.string n] 9) = W := ⟨_, rfl⟩
  have bW : Below w.heap.size w W := by rw [← fold]; exact (Below.refl _ _).alloc (Nat.le_refl _) _
  have y0 : W.cell? ⟨w.heap.size, 0, none⟩ = some (.string n) := by rw [← fold]; exact cell_of_list (C := [.string n]) (heap_alloc_new w _) 0
  have hM := made_any p F s W (h.kept bW)
  have eg : ∀ args w, (callFunc 47 args).run Tryz.prog w = .ok (.enter 47 args) w := enters_of Tryz.func47 (by kernel_rfl) rfl
  have hSH := shed_any (fun b => b.que.toList == n.toList) 47 #[.pointer (some ⟨w.heap.size, 0, none⟩)] p F s W (h.kept bW) ok.bl (by have := ok.nb; omega) eg (fun V x hk => forget1_any x w.heap.size n V (by
    have := hk w.heap.size (World.block_lt_of_cell? _ _ y0) (fun hf => by have := h.lts _ hf; omega)
    simp only [World.cell?] at y0 ⊢
    rw [this]; exact y0))
  clear eg
  go_enter Tryz.func26, Tryz.ntmps26
  go_wp2_with fail
  refine hM.mono ?_
  rintro e W ⟨rfl, rfl⟩
  go_wp2_with fail
  refine hSH.mono ?_
  rintro e w6 ⟨rfl, F6, t6, m6⟩
  go_wp2
  go_ret
  exact ⟨rfl, F6, t6, (Moved.of_below bW).trans m6⟩
end Go.Proofs.YtiaagiijjledkaaGreatDoor
