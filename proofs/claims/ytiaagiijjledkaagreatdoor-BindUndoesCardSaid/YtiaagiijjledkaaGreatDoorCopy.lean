/-
  Copy, by its contract.
-/
import Derived.Test.YtiaagiijjledkaaGreatDoorFind
import Derived.Test.YtiaagiijjledkaaGreatDoorShelfC
import Derived.Deep.RegionHeld3
namespace Go.Proofs.YtiaagiijjledkaaGreatDoor
open Go.RowKit Go.Sort Go.Maps Go.Shelf

theorem cloneX_any (b : Nat) (l : List Ex) (w : World) (h : XAt w b l) :
    Calls Tryz.prog 38 #[.map (some b)] w fun e w' => e = .returned (.map (some w.heap.size)) ∧ XAt w' w.heap.size l ∧ Below w.heap.size w w' := by
  refine (AnyW.maps_Clone_owns Tryz.cloneX 9 rdEx b l.length (DofG xkl xd l) w h).mono ?_
  rintro e w' ⟨rfl, h1, _, h3⟩
  exact ⟨rfl, h1, h3⟩
theorem cloneB_any (b : Nat) (l : List Bd) (w : World) (h : BAt w b l) :
    Calls Tryz.prog 39 #[.map (some b)] w fun e w' => e = .returned (.map (some w.heap.size)) ∧ BAt w' w.heap.size l ∧ Below w.heap.size w w' := by
  refine (AnyW.maps_Clone_owns Tryz.cloneB 35 unitElem b l.length (DofG bkl bd l) w h).mono ?_
  rintro e w' ⟨rfl, h1, _, h3⟩
  exact ⟨rfl, h1, h3⟩
theorem copy_end {w V : World} {bx bb : Nat} {s : Tb} (hV : Below w.heap.size w V) (hx : XAt V bx s.xs) (hb : BAt V bb s.bs) (h1 : w.heap.size ≤ bx) (h2 : w.heap.size ≤ bb) (hne : bx ≠ bb) :
    ∃ F', T (V.alloc (.cells #[.map (some bx), .map (some bb)] 53)) V.heap.size F' s ∧ (∀ k, F' k → w.heap.size ≤ k) ∧ Below w.heap.size w (V.alloc (.cells #[.map (some bx), .map (some bb)] 53)) := by
  refine ⟨footT V.heap.size bx bb, ⟨bx, bb, ⟨heap_alloc_new V _, hx.same (Below.heap_alloc V _ _ hx.lt), hb.same (Below.heap_alloc V _ _ hb.lt), hne⟩, fun _ => Iff.rfl⟩, ?_, hV.alloc hV.size _⟩
  rintro k (rfl | rfl | rfl)
  · exact hV.size
  · exact h1
  · exact h2

set_option maxRecDepth 20000 in
set_option maxHeartbeats 4000000 in
theorem copy_any (p : Nat) (F : Nat → Prop) (s : Tb) (w : World) (h : T w p F s) :
    Calls Tryz.prog 15 #[.pointer (some ⟨p, 0, none⟩)] w fun e w' => ∃ p', e = .returned (.pointer (some ⟨p', 0, none⟩)) ∧ ∃ F', T w' p' F' s ∧ (∀ k, F' k → w.heap.size ≤ k) ∧ Below w.heap.size w w' := by
  have hM := made_any p F s w h
  obtain ⟨bx, bb, hq, _⟩ := h
  obtain ⟨c0, c1⟩ := cells2 hq.blk
  have hp : p < w.heap.size := (Array.getElem?_eq_some_iff.1 hq.blk).1
  have cX : ∀ V, Below w.heap.size w V → Calls Tryz.prog 38 #[.map (some bx)] V fun e w' => e = .returned (.map (some V.heap.size)) ∧ XAt w' V.heap.size s.xs ∧ Below V.heap.size V w' := fun V hV => cloneX_any bx s.xs V (hq.x.same (hV.block bx hq.x.lt))
  have cB : ∀ V, Below w.heap.size w V → Calls Tryz.prog 39 #[.map (some bb)] V fun e w' => e = .returned (.map (some V.heap.size)) ∧ BAt w' V.heap.size s.bs ∧ Below V.heap.size V w' := fun V hV => cloneB_any bb s.bs V (hq.b.same (hV.block bb hq.b.lt))
  have bD : Below w.heap.size w w.drew := (Below.refl _ _).drew
  have HK : Hid (∀ V, Below w.heap.size w V → V.cell? ⟨p, 0, none⟩ = some (.map (some bx)) ∧ V.cell? ⟨p, 1, none⟩ = some (.map (some bb))) := fun V hV => ⟨(hV.cell (p := ⟨p, 0, none⟩) hp).trans c0, (hV.cell (p := ⟨p, 1, none⟩) hp).trans c1⟩
  clear hq hp
  go_enter Tryz.func15, Tryz.ntmps15
  go_wp2_with fail
  refine hM.mono ?_
  rintro e w ⟨rfl, rfl⟩
  go_wp2
  go_region_held3 (fun w' => w'.cell? ⟨p, 0, none⟩ = some (.map (some bx)) ∧ w'.cell? ⟨p, 1, none⟩ = some (.map (some bb))) (go_keep) (first
    | (go_at_call 38; refine (cX w.drew bD).mono ?_; rintro e wx ⟨rfl, x1, bx1⟩; have bwx : Below w.heap.size w wx := bD.trans bx1; obtain ⟨k0, k1⟩ := HK.out wx bwx)
    | (go_at_call 39; refine (cB w.drew bD).mono ?_; rintro e wb ⟨rfl, y1, by1⟩; have bwb : Below w.heap.size w wb := bD.trans by1; obtain ⟨k0, k1⟩ := HK.out wb bwb)
    | (go_at_call 39; refine (cB wx bwx).mono ?_; rintro e wy ⟨rfl, y2, by2⟩; have bwy : Below w.heap.size w wy := bwx.trans (by2.mono bwx.size); obtain ⟨k2, k3⟩ := HK.out wy bwy)
    | (go_at_call 38; refine (cX wb bwb).mono ?_; rintro e wy ⟨rfl, x2, bx2⟩; have bwy : Below w.heap.size w wy := bwb.trans (bx2.mono bwb.size); obtain ⟨k2, k3⟩ := HK.out wy bwy))
  all_goals go_wp2
  all_goals go_ret
  all_goals first
    | exact ⟨_, rfl, copy_end bwy (x1.same (by2.block _ x1.lt)) y2 (Nat.le_refl _) bwx.size (Nat.ne_of_lt x1.lt)⟩
    | exact ⟨_, rfl, copy_end bwy x2 (y1.same (bx2.block _ y1.lt)) bwb.size (Nat.le_refl _) (Nat.ne_of_gt y1.lt)⟩
end Go.Proofs.YtiaagiijjledkaaGreatDoor
