/-
  A TABLE's TWO MAPS in memory, told by lists.
-/
import Derived.Test.YtiaagiijjledkaaGreatDoorOrder
import Derived.RangeFuncNested
import Derived.RangeFuncBound
import Derived.RangeFuncCalls
import Derived.RangeFuncLeaves
import Derived.Shelf.Abstract
import Derived.Shelf.AbstractIn
import Derived.Shelf.RegionOpen
import Derived.Sort.MapsRangeIn
import Derived.Sort.KeysCollected
import Derived.WalkKit
import Derived.OwnWalkIn
import Derived.TacticsInMore
import Derived.RegionIn
import Derived.LoopNIn
import Derived.LoopIn
namespace Go.Proofs.YtiaagiijjledkaaGreatDoor
open Go.RowKit Go.Maps Go.Sort

def xd (x : Ex) : DataW Ex := .held x
def bd (_ : Bd) : DataW Ex := .agg []
/-- Exchanges with other names, names no longer than a text can be. -/
structure XL (l : List Ex) : Prop where
  diff : Diff xkl l
  fit : ∀ x ∈ l, x.name.size ≤ maxLen
structure BL (l : List Bd) : Prop where
  diff : Diff bkl l
  fit : ∀ x ∈ l, x.Fit
def XAt (w : World) (b : Nat) (l : List Ex) : Prop := w.ownsMap Tryz.prog 9 rdEx b l.length (DofG xkl xd l)
def BAt (w : World) (b : Nat) (l : List Bd) : Prop := w.ownsMap Tryz.prog 35 unitElem b l.length (DofG bkl bd l)
theorem XL.keys {l : List Ex} (h : XL l) : ∀ x ∈ l, KeysOf Tryz.prog 9 (xkl x) := fun x hx => ⟨_, keyOf_str (h.fit x hx)⟩
theorem BL.keys {l : List Bd} (h : BL l) : ∀ x ∈ l, KeysOf Tryz.prog 35 (bkl x) := fun x hx => ⟨_, keyOf_bd (h.fit x hx)⟩
/-- The entry that has come is one of the list's. -/
theorem x_entry {l : List Ex} (h : XL l) {s : ByteArray} {c : Ex} {z : Lit} {yd : DataW Ex} {yp : List MemPlace} (hk : keyOf Tryz.prog 9 (.string s) = some z) (hv : rdEx (xv c) = some (yd, yp)) (hat : ∀ zd, (DofG xkl xd l).atKey z zd = yd) : c ∈ l ∧ xkl c = z := by
  rw [rdEx_xv] at hv
  simp at hv
  obtain ⟨rfl, rfl⟩ := hv
  by_cases hn : ∃ y ∈ l, xkl y = z
  · obtain ⟨y, hy, rfl⟩ := hn
    have h1 := hat .nil
    rw [atKey_mem xKeyed.one h.keys h.diff hy] at h1
    injection h1 with h1
    rw [← h1]
    exact ⟨hy, rfl⟩
  · have h1 := hat .nil
    rw [atKey_none (fun y hy e => hn ⟨y, hy, e⟩)] at h1
    cases h1
theorem b_entry {l : List Bd} (h : BL l) {c : Bd} {z : Lit} {yd : DataW Ex} {v : Value} {yp : List MemPlace} (hk : keyOf Tryz.prog 35 (bv c) = some z) (hv : unitElem v = some (yd, yp)) (hat : ∀ zd, (DofG bkl bd l).atKey z zd = yd) : c ∈ l ∧ bkl c = z := by
  obtain ⟨rfl, hz⟩ := unitElem_inv hv
  simp at hz
  obtain ⟨rfl, rfl⟩ := hz
  by_cases hn : ∃ y ∈ l, bkl y = z
  · obtain ⟨y, hy, rfl⟩ := hn
    have := bKeyed.inj hk (keyOf_bd (h.fit y hy))
    have e : c = y := by
      cases c; cases y
      simp at this
      simp [this]
    rw [e]
    exact ⟨hy, rfl⟩
  · have h1 := hat .nil
    rw [atKey_none (fun y hy e => hn ⟨y, hy, e⟩)] at h1
    cases h1
theorem XAt.same {w w' : World} {b : Nat} {l : List Ex} (h : XAt w b l) (hs : w'.heap[b]? = w.heap[b]?) : XAt w' b l := by
  obtain ⟨es, clock, hb, r⟩ := h
  exact ⟨es, clock, by rw [hs]; exact hb, r⟩
theorem BAt.same {w w' : World} {b : Nat} {l : List Bd} (h : BAt w b l) (hs : w'.heap[b]? = w.heap[b]?) : BAt w' b l := by
  obtain ⟨es, clock, hb, r⟩ := h
  exact ⟨es, clock, by rw [hs]; exact hb, r⟩
theorem XAt.lt {w : World} {b : Nat} {l : List Ex} (h : XAt w b l) : b < w.heap.size := World.ownsMap.lt h
theorem BAt.lt {w : World} {b : Nat} {l : List Bd} (h : BAt w b l) : b < w.heap.size := World.ownsMap.lt h
theorem xAt_new (w : World) : XAt (w.alloc (.map #[] 0)) w.heap.size [] := World.ownsMap_made w _ _ _
theorem bAt_new (w : World) : BAt (w.alloc (.map #[] 0)) w.heap.size [] := World.ownsMap_made w _ _ _
abbrev OwnX (w : World) (base : Nat) (v : Value) (l : List Ex) : Prop := OwnOf xcells 3 33 w base v l
abbrev OwnB (w : World) (base : Nat) (v : Value) (l : List Bd) : Prop := OwnOf bcells 3 35 w base v l
end Go.Proofs.YtiaagiijjledkaaGreatDoor
