/-
  Unbind, by its contract.
-/
import Derived.Test.YtiaagiijjledkaaGreatDoorFind
namespace Go.Proofs.YtiaagiijjledkaaGreatDoor
open Go.RowKit Go.Sort Go.Maps Go.Shelf

def Tb.unbind (s : Tb) (b : Bd) : Int × Tb := if b ∈ s.bs then (0, { s with bs := s.bs.filter fun y => !decide (y = b) }) else (3, s)
theorem Tb.Ok.unbind {s : Tb} (ok : s.Ok) (b : Bd) : (s.unbind b).2.Ok := by
  unfold Tb.unbind
  split
  · exact ⟨ok.ox, ok.ob.filter _, ok.good, fun y hy => ok.fit y (List.mem_filter.1 hy).1, fun y hy => ok.leads y (List.mem_filter.1 hy).1, ok.nx, Nat.le_trans (List.length_filter_le _ _) ok.nb⟩
  · exact ok
set_option maxRecDepth 20000 in
theorem BAt.del {w : World} {b : Nat} {l : List Bd} (h : BAt w b l) (hl : BL l) {x : Bd} (hx : x.Fit) :
    ∃ f : TypeId → World, ∀ ty, (Builtin.delete_ #[51, 35] ty #[.map (some b), bv x]).run Tryz.prog w = .ok (.tuple #[]) (f ty) ∧ BAt (f ty) b (l.filter fun y => !decide (y = x)) ∧ w.grownBy (f ty) (some b) := by
  have each : ∀ ty : TypeId, ∃ w', (Builtin.delete_ #[51, 35] ty #[.map (some b), bv x]).run Tryz.prog w = .ok (.tuple #[]) w' ∧ BAt w' b (l.filter fun y => !decide (y = x)) ∧ w.grownBy w' (some b) := fun ty => by
    obtain ⟨w', h1, h2, h3⟩ := World.ownsMap.drop h bKeyed Tryz.underlying51 (keyOf_bd hx) ty
    refine ⟨w', h1, ?_, h3.grown⟩
    rw [del_DofG bKeyed.one hl.keys hl.diff] at h2
    have e : (l.filter fun y => !(bkl y).sameKey (bkl x)) = l.filter fun y => !decide (y = x) := List.filter_congr fun y hy => by
      congr 1
      rw [Bool.eq_iff_iff, sameKey_iff bKeyed.one ⟨_, keyOf_bd hx⟩, decide_eq_true_iff]
      exact ⟨fun e => bkl_inj (hl.fit y hy) hx e, fun e => by rw [e]⟩
    rw [e] at h2
    exact ownsMapG_fit h2
  obtain ⟨f, hf⟩ := Classical.axiomOfChoice each
  exact ⟨f, hf⟩
set_option maxRecDepth 20000 in
set_option maxHeartbeats 4000000 in
theorem unbind_any (p : Nat) (F : Nat → Prop) (s : Tb) (x : Bd) (w : World) (h : T w p F s) (ok : s.Ok) (hx : x.Fit) :
    Calls Tryz.prog 18 #[.pointer (some ⟨p, 0, none⟩), bv x] w fun e w' => e = .returned (.int .i64 (s.unbind x).1) ∧ ∃ F', T w' p F' (s.unbind x).2 ∧ Moved w w' F F' := by
  obtain ⟨W, fold⟩ : ∃ W, w.alloc (.cells #[.string x.ex, .string x.que, .string x.pat] 35) = W := ⟨_, rfl⟩
  have bW : Below w.heap.size w W := by rw [← fold]; exact (Below.refl _ _).alloc (Nat.le_refl _) _
  have x0 : W.cell? ⟨w.heap.size, 0, none⟩ = some (.string x.ex) := by rw [← fold]; exact cell_of_list (C := bcells x) (heap_alloc_new w _) 0
  have x1 : W.cell? ⟨w.heap.size, 1, none⟩ = some (.string x.que) := by rw [← fold]; exact cell_of_list (C := bcells x) (heap_alloc_new w _) 1
  have x2 : W.cell? ⟨w.heap.size, 2, none⟩ = some (.string x.pat) := by rw [← fold]; exact cell_of_list (C := bcells x) (heap_alloc_new w _) 2
  have hM := made_any p F s W (h.kept bW)
  have hH := has_any p F s x W (h.kept bW) ok hx
  have hWl := World.block_lt_of_cell? _ _ x0
  go_enter Tryz.func18, Tryz.ntmps18
  go_wp2_with fail
  refine hM.mono ?_
  rintro e W ⟨rfl, rfl⟩
  by_cases hin : x ∈ s.bs
  · have hd : Hid (s.unbind x = (0, { s with bs := s.bs.filter fun y => !decide (y = x) })) := by show s.unbind x = _; unfold Tb.unbind; rw [if_pos hin]
    rw [decide_eq_true hin] at hH
    go_wp2_with fail
    refine hH.mono ?_
    rintro e w5 ⟨rfl, b5⟩
    have B5 : Below w.heap.size w w5 := bW.trans (b5.mono bW.size)
    have r0 := (b5.cell (p := ⟨w.heap.size, 0, none⟩) hWl).trans x0
    have r1 := (b5.cell (p := ⟨w.heap.size, 1, none⟩) hWl).trans x1
    have r2 := (b5.cell (p := ⟨w.heap.size, 2, none⟩) hWl).trans x2
    obtain ⟨bx5, bb5, hq5, hF5⟩ := h.kept B5
    obtain ⟨_, d1⟩ := cells2 hq5.blk
    obtain ⟨f, hfx⟩ := BAt.del (w := w5.drew) hq5.b ok.bl hx
    have hrun := fun ty => (hfx ty).1
    have HE : Hid (∀ ty, ∃ F', T (f ty) p F' { s with bs := s.bs.filter fun y => !decide (y = x) } ∧ Moved w (f ty) F F') := fun ty => by
      obtain ⟨_, hb6, gr6⟩ := hfx ty
      have m5 : Moved w w5.drew F F := .of_below B5.drew
      exact ⟨footT p bx5 bb5, ⟨bx5, bb5, (show TAt w5.drew p bx5 bb5 s from ⟨hq5.blk, hq5.x, hq5.b, hq5.ne⟩).setB hb6 gr6, fun _ => Iff.rfl⟩, m5.trans ((moved_setB p bx5 gr6).weak fun k hk => (hF5 k).2 hk)⟩
    clear hfx hq5 hF5 x0 x1 x2 fold
    go_wp2
    go_region
    all_goals go_wp2
    all_goals go_ret
    all_goals (rw [hd.out]; exact ⟨rfl, HE.out _⟩)
  · have hd : Hid (s.unbind x = (3, s)) := by show s.unbind x = _; unfold Tb.unbind; rw [if_neg hin]
    rw [decide_eq_false hin] at hH
    go_wp2_with fail
    refine hH.mono ?_
    rintro e w5 ⟨rfl, b5⟩
    have B5 : Below w.heap.size w w5 := bW.trans (b5.mono bW.size)
    go_wp2
    go_ret
    rw [hd.out]; exact ⟨rfl, F, h.kept B5, .of_below B5⟩
end Go.Proofs.YtiaagiijjledkaaGreatDoor
