/-
  only, by its contract.
-/
import Derived.Test.YteimdolckhpndaaDoorFits13
import Derived.Lib.OthersKept
namespace Go.Proofs.YteimdolckhpndaaDoor
open Go.RowKit

theorem set_list {w : World} {p i : Nat} {C : List Value} {t : TypeId} (h : w.heap[p]? = some (.cells C.toArray t (0, 0))) (v : Value) : (w.setCell ⟨p, i, none⟩ v).heap[p]? = some (.cells (C.set i v).toArray t (0, 0)) := by
  have := heap_setCell_same w p i _ _ v h
  simpa using this
structure OnlyIn (w wr : World) (a : Ax) (L : List Value) (s : ByteArray) (pos : Nat) : Prop where
  x : wr.heap[w.heap.size]? = some (.cells (xcells a).toArray 32 (0, 0))
  r : wr.heap[w.heap.size + 1]? = some (.cells (xcells (zA 0)).toArray 32 (0, 0))
  n : wr.heap[w.heap.size + 2]? = some (.cells L.toArray 32 (0, 0))
  it : wr.heap[w.heap.size + 3]? = some (.stringIter s pos)
  bel : Below w.heap.size w wr
theorem only_start (a : Ax) (s : ByteArray) (w : World) : OnlyIn w ((((w.alloc (.cells (xcells a).toArray 32)).alloc (.cells (xcells (zA 0)).toArray 32)).alloc (.cells (xcells (zA a.kind)).toArray 32)).iter s 0) a (xcells (zA a.kind)) s 0 := by
  obtain ⟨A1, h1⟩ : ∃ z, w.alloc (.cells (xcells a).toArray 32) = z := ⟨_, rfl⟩
  obtain ⟨A2, h2⟩ : ∃ z, A1.alloc (.cells (xcells (zA 0)).toArray 32) = z := ⟨_, rfl⟩
  obtain ⟨A3, h3⟩ : ∃ z, A2.alloc (.cells (xcells (zA a.kind)).toArray 32) = z := ⟨_, rfl⟩
  obtain ⟨A4, h4⟩ : ∃ z, A3.alloc (.stringIter s 0) = z := ⟨_, rfl⟩
  have s1 : A1.heap.size = w.heap.size + 1 := by rw [← h1, World.size_alloc]
  have s2 : A2.heap.size = w.heap.size + 2 := by rw [← h2, World.size_alloc, s1]
  have s3 : A3.heap.size = w.heap.size + 3 := by rw [← h3, World.size_alloc, s2]
  have x1 := heap_alloc_new w (.cells (xcells a).toArray 32)
  have x2 := heap_alloc_new A1 (.cells (xcells (zA 0)).toArray 32)
  have x3 := heap_alloc_new A2 (.cells (xcells (zA a.kind)).toArray 32)
  have x4 := heap_alloc_new A3 (.stringIter s 0)
  rw [h1] at x1
  rw [h2, s1] at x2
  rw [h3, s2] at x3
  rw [h4, s3] at x4
  have k2 : ∀ k, k < w.heap.size + 1 → A2.heap[k]? = A1.heap[k]? := fun k hk => by rw [← h2]; exact Below.heap_alloc _ _ _ (by rw [s1]; exact hk)
  have k3 : ∀ k, k < w.heap.size + 2 → A3.heap[k]? = A2.heap[k]? := fun k hk => by rw [← h3]; exact Below.heap_alloc _ _ _ (by rw [s2]; exact hk)
  have k4 : ∀ k, k < w.heap.size + 3 → A4.heap[k]? = A3.heap[k]? := fun k hk => by rw [← h4]; exact Below.heap_alloc _ _ _ (by rw [s3]; exact hk)
  have hW : (((w.alloc (.cells (xcells a).toArray 32)).alloc (.cells (xcells (zA 0)).toArray 32)).alloc (.cells (xcells (zA a.kind)).toArray 32)).iter s 0 = A4 := by rw [h1, h2, h3]; exact h4
  rw [hW]
  refine ⟨?_, ?_, ?_, x4, ?_⟩
  · rw [k4 _ (by omega), k3 _ (by omega), k2 _ (by omega)]; exact x1
  · rw [k4 _ (by omega), k3 _ (by omega)]; exact x2
  · rw [k4 _ (by omega)]; exact x3
  · have b1 : Below w.heap.size w A1 := by rw [← h1]; exact box_below w _
    have b2 : Below w.heap.size w A2 := by rw [← h2]; exact b1.alloc b1.size _
    have b3 : Below w.heap.size w A3 := by rw [← h3]; exact b2.alloc b2.size _
    rw [← h4]
    exact b3.alloc b3.size _
theorem OnlyIn.set {w wr : World} {a : Ax} {L : List Value} {s : ByteArray} {pos : Nat} (h : OnlyIn w wr a L s pos) (j : Nat) (v : Value) : OnlyIn w (wr.setCell ⟨w.heap.size + 2, j, none⟩ v) a (L.set j v) s pos := by
  have hne : ∀ k, k ≠ w.heap.size + 2 → (wr.setCell ⟨w.heap.size + 2, j, none⟩ v).heap[k]? = wr.heap[k]? := fun k hk => Below.heap_setCell _ _ _ _ hk
  refine ⟨(hne _ (by omega)).trans h.x, (hne _ (by omega)).trans h.r, set_list h.n v, (hne _ (by omega)).trans h.it, ?_⟩
  exact h.bel.setCell (by show w.heap.size ≤ w.heap.size + 2; omega) _
theorem OnlyIn.next {w wr : World} {a : Ax} {L : List Value} {s : ByteArray} {pos : Nat} (h : OnlyIn w wr a L s pos) : OnlyIn w (wr.iterAt (w.heap.size + 3) s (pos + 1)) a L s (pos + 1) := by
  have hne : ∀ k, k ≠ w.heap.size + 3 → (wr.iterAt (w.heap.size + 3) s (pos + 1)).heap[k]? = wr.heap[k]? := fun k hk => by
    unfold World.iterAt
    simp only
    rw [Array.getElem?_setIfInBounds_ne (fun e => hk e.symm)]
  refine ⟨(hne _ (by omega)).trans h.x, (hne _ (by omega)).trans h.r, (hne _ (by omega)).trans h.n, Lib.iterAt_heap _ _ _ _ _ h.it, ⟨h.bel.os, h.bel.tape, h.bel.output, by simp [World.iterAt]; exact h.bel.size, fun k hk => (hne k (by omega)).trans (h.bel.block k hk)⟩⟩
end Go.Proofs.YteimdolckhpndaaDoor
