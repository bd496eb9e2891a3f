/-
  leave, by its contract.
-/
import Derived.Test.YtooaiomghbjpiaaLeave17
namespace Go.Proofs.Ytooaiomghbjpiaa
open Go.RowKit Go.Maps Go.Sort Go.Shelf
set_option maxRecDepth 20000

theorem SB.same {w w' : World} {b : Nat} (h : SB w b) (hs : w'.heap[b]? = w.heap[b]?) : SB w' b := by
  obtain ⟨c, h⟩ := h
  exact ⟨c, hs.trans h⟩
theorem SB.lt {w : World} {b : Nat} (h : SB w b) : b < w.heap.size := by
  obtain ⟨c, h⟩ := h
  exact (Array.getElem?_eq_some_iff.1 h).1
theorem SeAt.sb {w : World} {x : Sx} (h : SeAt w x) : SB w x.p := ⟨_, h.blk⟩
theorem heap_set2 {w : World} {p : Nat} {a b : Value} {t : TypeId} (h : w.heap[p]? = some (.cells #[a, b] t (0, 0))) (v : Value) : (w.setCell ⟨p, 1, none⟩ v).heap[p]? = some (.cells #[a, v] t (0, 0)) := by
  simp [World.setCell, Array.getElem?_modify, h]
set_option maxHeartbeats 1000000 in
theorem leave_any (p q : Nat) (mv v : Value) (X : List Sx) (w : World) (hp : w.heap[p]? = some (.cells #[mv, v] 60 (0, 0))) (row : Own1 w 0 78 v (pcs X)) (hX : ∀ x ∈ X, SB w x.p) (hq : SB w q) (hl : X.length ≤ 1000000) :
    Calls Try.prog 42 #[.pointer (some ⟨p, 0, none⟩), .pointer (some ⟨q, 0, none⟩)] w fun e w' => e = .returned (.tuple #[]) ∧ ∃ v', w'.heap[p]? = some (.cells #[mv, v'] 60 (0, 0)) ∧ Own1 w' w.heap.size 78 v' (pcs (cutX X q)) ∧ Moved w w' (fun k => k = p) (fun k => k = p) := by
  obtain ⟨W, fold⟩ : ∃ W, w.alloc (.cells #[.pointer (some ⟨q, 0, none⟩)] 78) = W := ⟨_, rfl⟩
  have b0 : Below w.heap.size w W := by rw [← fold]; exact (Below.refl _ w).alloc (Nat.le_refl _) _
  have hsz : W.heap.size = w.heap.size + 1 := by rw [← fold]; simp
  have hB : W.cell? ⟨w.heap.size, 0, none⟩ = some (.pointer (some ⟨q, 0, none⟩)) := by rw [← fold]; simp
  have hpl : p < w.heap.size := (Array.getElem?_eq_some_iff.1 hp).1
  have hpW : W.heap[p]? = some (.cells #[mv, v] 60 (0, 0)) := (b0.block p hpl).trans hp
  have rowW : Own1 W 0 78 v (pcs X) := own1_same row fun g hg => b0.block g (Array.getElem?_eq_some_iff.1 (own1_blk row hg).2.choose_spec).1
  have hC := cloneP_any W v X rowW hl
  have c1 : W.cell? ⟨p, 1, none⟩ = some v := by simp [World.cell?, hpW]
  obtain ⟨va, vc, hv⟩ := own1_slice row
  rw [hv] at c1 hC
  generalize (pcs X).length = n at *
  have H0 : Hid (Below w.heap.size w W ∧ W.heap.size = w.heap.size + 1 ∧ W.cell? ⟨w.heap.size, 0, none⟩ = some (.pointer (some ⟨q, 0, none⟩)) ∧ W.heap[p]? = some (.cells #[mv, v] 60 (0, 0)) ∧ (∀ x ∈ X, SB w x.p) ∧ SB w q ∧ p < w.heap.size) := ⟨b0, hsz, hB, hpW, hX, hq, hpl⟩
  clear b0 hsz hB hpW hX hq hpl hp row rowW hv hl
  go_enter Try.func42, Try.ntmps42
  go_wp2_with fail
  refine hC.mono ?_
  clear hC
  rintro e w2 ⟨v2, rfl, own2, b2⟩
  obtain ⟨a2, cp2, hv2⟩ := own1_slice own2
  have hD := delP_any w2 W.heap.size v2 X q w.heap.size own2 (fun x hx => (H0.out.2.2.2.2.1 x hx).same ((b2.block _ (by have := (H0.out.2.2.2.2.1 x hx).lt; rw [H0.out.2.1]; omega)).trans (H0.out.1.block _ (H0.out.2.2.2.2.1 x hx).lt))) (H0.out.2.2.2.2.2.1.same ((b2.block _ (by have := H0.out.2.2.2.2.2.1.lt; rw [H0.out.2.1]; omega)).trans (H0.out.1.block _ H0.out.2.2.2.2.2.1.lt))) b2.size (by rw [H0.out.2.1]; omega) ((b2.cell (p := ⟨w.heap.size, 0, none⟩) (by show w.heap.size < W.heap.size; rw [H0.out.2.1]; omega)).trans H0.out.2.2.1)
  rw [hv2] at hD
  have H2 : Hid (Below W.heap.size W w2) := b2
  subst hv2
  clear own2 b2
  go_wp2_with fail
  refine hD.mono ?_
  clear hD
  rintro e w3 ⟨v3, rfl, own3, b3⟩
  obtain ⟨a3, cp3, hv3⟩ := own1_slice own3
  subst hv3
  have bW : Below W.heap.size W w3 := H2.out.trans b3
  have hp3 : w3.heap[p]? = some (.cells #[mv, v] 60 (0, 0)) := (bW.block p (by rw [H0.out.2.1]; have := H0.out.2.2.2.2.2.2; omega)).trans H0.out.2.2.2.1
  have c13 : w3.cell? ⟨p, 1, none⟩ = some v := by simp [World.cell?, hp3]
  have f13 : w3.frozen? ⟨p, 1, none⟩ = false := by simp [World.frozen?, hp3]
  have HO : Hid (Own1 w3 W.heap.size 78 (.slice a3 (pcs (cutX X q)).length cp3) (pcs (cutX X q)) ∧ Below W.heap.size W w3 ∧ w3.heap[p]? = some (.cells #[mv, v] 60 (0, 0))) := ⟨own3, bW, hp3⟩
  clear own3 b3 bW hp3
  generalize (pcs (cutX X q)).length = n3 at HO ⊢
  go_wp2
  go_end0
  obtain ⟨own3, bW, hp3⟩ := HO.out
  refine ⟨rfl, _, heap_set2 hp3 _, own1_lower (own1_same own3 fun g hg => Below.heap_setCell _ _ _ _ ?_) (by rw [H0.out.2.1]; omega), ?_⟩
  · have := (own1_blk own3 hg).1
    show g ≠ p
    have := H0.out.2.2.2.2.2.2
    rw [H0.out.2.1] at *
    omega
  · have bb : Below w.heap.size w w3 := H0.out.1.trans (bW.mono (by rw [H0.out.2.1]; omega))
    exact ⟨bb.os, bb.tape, bb.output, by simpa using bb.size, fun k hk hne => (Below.heap_setCell _ _ _ _ hne).trans (bb.block k hk), fun k hk => .inl hk⟩
end Go.Proofs.Ytooaiomghbjpiaa
