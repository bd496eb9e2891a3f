/-
  WHAT IS OF NO PROGRAM: the world behind draws and new blocks; an array in a block of its own, told by a function.
-/
import Derived.Test.YtcfagojkeholmaaRow
import Derived.Sort.Grow
import Derived.Shelf.SlSortCmp.QuietGrown
import Derived.BigQuiet
namespace Go.Proofs.Ytcfagojkeholmaa
open Go.RowKit Go.Sort

theorem below_grown_r (B : Nat) (w : World) (q : Nat) (os : Array Obj) (hB : B ≤ w.heap.size) : Below B w (grow (w.drewN q) os) :=
  ⟨rfl, rfl, rfl, by first | (simp [grow]; done) | (simp [grow]; omega), fun i hi => by
    show ((w.drewN q).heap ++ os)[i]? = _
    rw [Array.getElem?_append_left (by show i < w.heap.size; omega)]
    rfl⟩

/-- The world behind draws and with blocks laid behind it. -/
def Grew (w w' : World) : Prop := ∃ q os, w' = grow (w.drewN q) os
theorem Grew.refl (w : World) : Grew w w := ⟨0, #[], by rw [grow_empty]; rfl⟩
theorem Grew.trans {a b c : World} (h : Grew a b) (k : Grew b c) : Grew a c := by
  obtain ⟨q, os, rfl⟩ := h
  obtain ⟨q', os', rfl⟩ := k
  refine ⟨q + q', os ++ os', ?_⟩
  show grow (grow ((a.drewN q).drewN q') os) os' = _
  rw [grow_grow, World.drewN_drewN]
theorem Grew.alloc (w : World) (o : Obj) : Grew w (w.alloc o) := ⟨0, #[o], alloc_eq_grow w o⟩
theorem Grew.drewN (w : World) (q : Nat) : Grew w (w.drewN q) := ⟨q, #[], by rw [grow_empty]⟩
theorem Grew.below {w w' : World} {B : Nat} (h : Grew w w') (hB : B ≤ w.heap.size) : Below B w w' := by
  obtain ⟨q, os, rfl⟩ := h
  exact below_grown_r B w q os hB

/-- Block b is an array of n cells. -/
def Arr (w : World) (b : Nat) (t : TypeId) (n : Nat) (f : Nat → Value) : Prop := w.heap[b]? = some (.cells ((List.range n).map f).toArray t (0, 0))
theorem Arr.cell {w : World} {b : Nat} {t : TypeId} {n : Nat} {f : Nat → Value} (h : Arr w b t n f) {i : Nat} (hi : i < n) : w.cell? ⟨b, i, none⟩ = some (f i) := by
  rw [cell_of_row w b i _ t (0, 0) h]
  simp [hi]
theorem Arr.free {w : World} {b : Nat} {t : TypeId} {n : Nat} {f : Nat → Value} (h : Arr w b t n f) (i : Nat) : w.frozen? ⟨b, i, none⟩ = false := by
  have : w.heap[b]? = some (.cells ((List.range n).map f).toArray t (0, 0)) := h
  simp [World.frozen?, this]
theorem Arr.set {w : World} {b : Nat} {t : TypeId} {n : Nat} {f : Nat → Value} (h : Arr w b t n f) (k : Nat) (v : Value) : Arr (w.setCell ⟨b, k, none⟩ v) b t n (fun i => if i = k then v else f i) := by
  have h1 := heap_setCell_same w b k _ t v h
  unfold Arr
  rw [h1]
  congr 2
  apply Array.ext'
  apply List.ext_getElem?
  intro i
  simp only [Array.toList_setIfInBounds, List.getElem?_set, List.getElem?_map, List.length_map, List.length_range]
  by_cases hi : k = i
  · subst hi
    by_cases hn : k < n
    · simp [hn]
    · simp [hn]
  · rw [if_neg hi]
    by_cases hn : i < n
    · simp only [List.getElem?_range hn, Option.map_some]
      rw [if_neg (fun h : i = k => hi h.symm)]
    · simp [hn]
theorem Arr.same {w w' : World} {b : Nat} {t : TypeId} {n : Nat} {f : Nat → Value} (h : Arr w b t n f) (hs : w'.heap[b]? = w.heap[b]?) : Arr w' b t n f := by unfold Arr; rw [hs]; exact h
theorem Arr.lt {w : World} {b : Nat} {t : TypeId} {n : Nat} {f : Nat → Value} (h : Arr w b t n f) : b < w.heap.size := by
  rcases Nat.lt_or_ge b w.heap.size with hb | hb
  · exact hb
  · have : w.heap[b]? = none := by simpa using hb
    rw [Arr, this] at h; cases h
theorem Arr.below {w w' : World} {b B : Nat} {t : TypeId} {n : Nat} {f : Nat → Value} (h : Arr w b t n f) (hb : Below B w w') (hB : b < B) : Arr w' b t n f := h.same (hb.block b hB)
theorem Arr.congr {w : World} {b : Nat} {t : TypeId} {n : Nat} {f g : Nat → Value} (h : Arr w b t n f) (hg : ∀ i, i < n → g i = f i) : Arr w b t n g := by
  unfold Arr
  rw [show (List.range n).map g = (List.range n).map f from List.map_congr_left fun i hi => hg i (by simpa using hi)]
  exact h
end Go.Proofs.Ytcfagojkeholmaa
