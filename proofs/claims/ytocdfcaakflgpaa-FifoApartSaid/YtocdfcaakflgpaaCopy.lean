/-
  Copy, by its contract.
-/
import Derived.Test.YtocdfcaakflgpaaReset
import Derived.Deep.RegionHeld3
namespace Go.Proofs.Ytocdfcaakflgpaa
open Go.RowKit Go.Sort Go.Maps Go.Shelf

theorem clone_any (b : Nat) (l : List It) (w : World) (h : OutAt w b l) :
    Calls Try.prog 31 #[.map (some b)] w fun e w' => e = .returned (.map (some w.heap.size)) ∧ OutAt w' w.heap.size l ∧ Below w.heap.size w w' := by
  refine (AnyW.maps_Clone_owns Try.clone 29 rdIt b l.length (Dof l) w h).mono ?_
  rintro e w' ⟨rfl, h1, _, h3⟩
  exact ⟨rfl, h1, h3⟩
theorem copy_end {w V : World} {v : Value} {b : Nat} {s : St} (hV : Below w.heap.size w V) (hx : Own8 V w.heap.size v s.rdy) (hb : OutAt V b s.out) (h2 : w.heap.size ≤ b) :
    ∃ F', Q (V.alloc (.cells #[.int .i64 (s.most : Int), .int .u64 (s.next : Int), v, .map (some b)] 64)) V.heap.size F' s ∧ (∀ k, F' k → w.heap.size ≤ k) ∧ Below w.heap.size w (V.alloc (.cells #[.int .i64 (s.most : Int), .int .u64 (s.next : Int), v, .map (some b)] 64)) := by
  refine ⟨foot V.heap.size v b, ⟨v, b, ⟨heap_alloc_new V _, (hx.alloc _).mono (Nat.zero_le _), hb.same (Below.heap_alloc V _ _ hb.lt)⟩, fun _ => Iff.rfl⟩, ?_, hV.alloc hV.size _⟩
  rintro k (rfl | hk | rfl)
  · exact hV.size
  · exact (hx.lt hk).1
  · exact h2

set_option maxRecDepth 20000 in
set_option maxHeartbeats 4000000 in
theorem copy_any (p : Nat) (F : Nat → Prop) (s : St) (w : World) (h : Q w p F s) (ok : s.Ok) :
    Calls Try.prog 13 #[.pointer (some ⟨p, 0, none⟩)] w fun e w' => ∃ p', e = .returned (.pointer (some ⟨p', 0, none⟩)) ∧ ∃ F', Q w' p' F' s ∧ (∀ k, F' k → w.heap.size ≤ k) ∧ Below w.heap.size w w' := by
  have hM := made_any p F s w h ok.m1
  obtain ⟨v, b, hq, _⟩ := h
  obtain ⟨⟨c0, c1, c2, c3⟩, _⟩ := cells4 hq.blk
  have hp : p < w.heap.size := hq.lt
  have hrr : Rows w v s.rdy := hq.rows.rng
  have hln : s.rdy.length ≤ 1000000 := by have := ok.room; have := ok.m; omega
  have cA : Hid (∀ V, Below w.heap.size w V → Calls Try.prog 30 #[v] V fun e w' => ∃ v', e = .returned v' ∧ Own8 w' V.heap.size v' s.rdy ∧ Below V.heap.size V w') := fun V hV => another_any v s.rdy V (hrr.below hV (Nat.le_refl _)) hln
  have cB : Hid (∀ V, Below w.heap.size w V → Calls Try.prog 31 #[.map (some b)] V fun e w' => e = .returned (.map (some V.heap.size)) ∧ OutAt w' V.heap.size s.out ∧ Below V.heap.size V w') := fun V hV => clone_any b s.out V (hq.out.same (hV.block b hq.out.lt))
  have bD : Below w.heap.size w w.drew := (Below.refl _ _).drew
  have HK : Hid (∀ V, Below w.heap.size w V → V.cell? ⟨p, 0, none⟩ = some (.int .i64 (s.most : Int)) ∧ V.cell? ⟨p, 1, none⟩ = some (.int .u64 (s.next : Int)) ∧ V.cell? ⟨p, 2, none⟩ = some v ∧ V.cell? ⟨p, 3, none⟩ = some (.map (some b))) := fun V hV => ⟨(hV.cell (p := ⟨p, 0, none⟩) hp).trans c0, (hV.cell (p := ⟨p, 1, none⟩) hp).trans c1, (hV.cell (p := ⟨p, 2, none⟩) hp).trans c2, (hV.cell (p := ⟨p, 3, none⟩) hp).trans c3⟩
  obtain ⟨ar, cr, rfl⟩ := hrr.slice
  clear hq hp hrr hln ok
  go_enter Try.func13, Try.ntmps13
  go_wp2_with fail
  refine hM.mono ?_
  rintro e w ⟨rfl, rfl⟩
  go_wp2
  go_region_held3 (fun w' => w'.cell? ⟨p, 0, none⟩ = some (.int .i64 (s.most : Int)) ∧ w'.cell? ⟨p, 1, none⟩ = some (.int .u64 (s.next : Int)) ∧ w'.cell? ⟨p, 2, none⟩ = some (.slice ar s.rdy.length cr) ∧ w'.cell? ⟨p, 3, none⟩ = some (.map (some b))) (go_keep) (first
    | (go_at_call 30; refine (cA.out w.drew bD).mono ?_; rintro e wx ⟨v1, rfl, x1, bx1⟩; have bwx : Below w.heap.size w wx := bD.trans bx1; obtain ⟨k0, k1, k2, k3⟩ := HK.out wx bwx; have X1 : Hid _ := x1; obtain ⟨a1, p1, hv1⟩ := x1.rng.slice; subst hv1; clear x1)
    | (go_at_call 31; refine (cB.out wx bwx).mono ?_; rintro e wy ⟨rfl, y2, by2⟩; have bwy : Below w.heap.size w wy := bwx.trans (by2.mono bwx.size); obtain ⟨l0, l1, l2, l3⟩ := HK.out wy bwy; have Y2 : Hid _ := y2; clear y2))
  all_goals go_wp2
  all_goals go_ret
  all_goals exact ⟨_, rfl, copy_end bwy (show Own8 wy w.heap.size (.slice a1 s.rdy.length p1) s.rdy from OwnOf.kept (w := wx) X1.out by2 (Nat.le_refl _)) Y2.out bwx.size⟩
end Go.Proofs.Ytocdfcaakflgpaa
