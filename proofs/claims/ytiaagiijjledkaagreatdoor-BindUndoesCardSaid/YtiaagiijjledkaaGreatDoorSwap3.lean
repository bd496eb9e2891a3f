/-
  TWO NEIGHBOURS CHANGE PLACES, in a row of structs of three cells; one more at its place. Of no program.
-/
import Derived.Test.YtiaagiijjledkaaGreatDoorRFind
namespace Go.Proofs.YtiaagiijjledkaaGreatDoor
open Go.RowKit Go.Sort

theorem insC_mid {α : Type} {c : α → α → Int} (h : Cmp3 c) {x : α} : ∀ {pre suf : List α}, (∀ y ∈ pre, c y x < 0) → (∀ y ∈ suf, c x y < 0) → insC c x (pre ++ suf) = pre ++ x :: suf
  | [], [], _, _ => rfl
  | [], y :: r, _, h2 => by
    show insC c x (y :: r) = x :: y :: r
    unfold insC
    rw [if_neg]
    have := h2 y (by simp)
    have := h.neg x y
    omega
  | z :: pre, suf, h1, h2 => by
    show insC c x (z :: (pre ++ suf)) = z :: (pre ++ x :: suf)
    unfold insC
    rw [if_pos (h1 z (by simp)), insC_mid h (fun y hy => h1 y (by simp [hy])) h2]
theorem pre_all {α : Type} {c : α → α → Int} (h : Cmp3 c) {x y : α} {pre suf : List α} (ho : Ord c (pre ++ y :: suf)) (hy : c y x < 0) : ∀ z ∈ pre ++ [y], c z x < 0 := by
  intro z hz
  rcases List.mem_append.1 hz with hz | hz
  · exact h.trans z y x ((List.pairwise_append.1 ho).2.2 z hz y (by simp)) hy
  · rw [List.mem_singleton.1 hz]; exact hy

/-- Three cells of a block written. -/
abbrev put3o (w : World) (g o : Nat) (v0 v1 v2 : Value) : World := ((w.setCell ⟨g, o, none⟩ v0).setCell ⟨g, o + 1, none⟩ v1).setCell ⟨g, o + 2, none⟩ v2
theorem put3o_other {w : World} {g o k : Nat} (v0 v1 v2 : Value) (h : k ≠ g) : (put3o w g o v0 v1 v2).heap[k]? = w.heap[k]? := by
  unfold put3o
  rw [heap_setCell_other _ _ _ _ h, heap_setCell_other _ _ _ _ h, heap_setCell_other _ _ _ _ h]
theorem put3o_size (w : World) (g o : Nat) (v0 v1 v2 : Value) : (put3o w g o v0 v1 v2).heap.size = w.heap.size := by simp [put3o]
theorem set_at {α : Type} (A M : List α) (k : Nat) (v : α) : (A ++ M).set (A.length + k) v = A ++ M.set k v := by
  rw [List.set_append_right _ _ (by omega), Nat.add_sub_cancel_left]
theorem put3o_at {w : World} {g o : Nat} {t : TypeId} {A M : List Value} {a0 a1 a2 : Value} (v0 v1 v2 : Value) (h : w.heap[g]? = some (.cells (A ++ (a0 :: a1 :: a2 :: M)).toArray t (0, 0))) (ho : o = A.length) :
    (put3o w g o v0 v1 v2).heap[g]? = some (.cells (A ++ (v0 :: v1 :: v2 :: M)).toArray t (0, 0)) := by
  subst ho
  have e0 := heap_setCell_same w g A.length _ _ v0 h
  have e1 := heap_setCell_same _ g (A.length + 1) _ _ v1 e0
  have e2 := heap_setCell_same _ g (A.length + 2) _ _ v2 e1
  rw [e2]
  simp only [List.setIfInBounds_toArray]
  have s0 := set_at A (a0 :: a1 :: a2 :: M) 0 v0
  have s1 := set_at A (v0 :: a1 :: a2 :: M) 1 v1
  have s2 := set_at A (v0 :: v1 :: a2 :: M) 2 v2
  simp only [Nat.add_zero, List.set_cons_zero, List.set_cons_succ] at s0 s1 s2
  rw [s0, s1, s2]

section
variable {α : Type} {enc : α → List Value} {T : TypeId}
theorem own_put [E : Enc enc 3] {w : World} {base g n c : Nat} {pre suf : List α} {y : α} (z : α) {v0 v1 v2 : Value} (hz : enc z = [v0, v1, v2]) (h : OwnOf enc 3 T w base (.slice (some ⟨g, 0, none⟩) n c) (pre ++ y :: suf)) :
    OwnOf enc 3 T (put3o w g (pre.length * 3) v0 v1 v2) base (.slice (some ⟨g, 0, none⟩) n c) (pre ++ z :: suf) := by
  rcases h.split with ⟨hv, _⟩ | ⟨g', c', R, hv, hb, hg, hc, hm, hR⟩
  · cases hv
  · injection hv with h1 h2 h3
    injection h1 with h1
    injection h1 with h1
    subst h1 h3
    have hl : (enc y).length = 3 := E.len y
    obtain ⟨a0, a1, a2, hy⟩ : ∃ a0 a1 a2, enc y = [a0, a1, a2] := by
      match enc y, hl with
      | [a0, a1, a2], _ => exact ⟨_, _, _, rfl⟩
    have e1 : cellsOf enc (pre ++ y :: suf) ++ R = cellsOf enc pre ++ (a0 :: a1 :: a2 :: (cellsOf enc suf ++ R)) := by
      rw [cellsOf_append, cellsOf_cons, hy]; simp
    have e2 : cellsOf enc (pre ++ z :: suf) ++ R = cellsOf enc pre ++ (v0 :: v1 :: v2 :: (cellsOf enc suf ++ R)) := by
      rw [cellsOf_append, cellsOf_cons, hz]; simp
    rw [e1] at hg
    have hg' := put3o_at v0 v1 v2 hg (cellsOf_length (enc := enc) pre).symm
    rw [← e2] at hg'
    have hlen : (pre ++ z :: suf).length = (pre ++ y :: suf).length := by simp
    exact ownOf_mk hb hg' (by rw [hlen]; exact h2) (by rw [hlen]; exact hc) hm (by rw [hlen]; exact hR)
end
/-- Where a new row lies, and is changed: the rest stays. -/
theorem put3o_below {w0 w : World} {base g o : Nat} (v0 v1 v2 : Value) (h : Below base w0 w) (hg : base ≤ g) : Below base w0 (put3o w g o v0 v1 v2) :=
  h.trans ⟨rfl, rfl, rfl, Nat.le_of_eq (put3o_size w g o v0 v1 v2).symm, fun k hk => put3o_other v0 v1 v2 (by omega)⟩

/-- The exchanges of the document's table are a new row. -/
theorem rt_setX {w W : World} {p : Nat} {vx vb v' : Value} {s : Tb} {l : List Ex} {F : Nat → Prop} (hq : RTAt w p vx vb s) (hF : ∀ k, F k ↔ rfootT p vx vb k) (hl : ∀ k, F k → k < w.heap.size) (hW : Below w.heap.size w W) (own : OwnX W w.heap.size v' l) :
    ∃ F', RT (W.setCell ⟨p, 0, none⟩ v') p F' { s with xs := l } ∧ Moved w (W.setCell ⟨p, 0, none⟩ v') F F' := by
  have hp : p < w.heap.size := (Array.getElem?_eq_some_iff.1 hq.blk).1
  have hqW : RTAt W p vx vb s := hq.same fun k hk => hW.block k (hl k ((hF k).2 hk))
  have hne : v'.ownBlock ≠ some p := fun he => by have := (own.lt he).1; omega
  refine ⟨rfootT p v' vb, ⟨v', vb, ⟨?_, own.rng.same fun g hg => heap_setCell_other _ _ _ _ (fun he => hne (by rw [hg, he])), hqW.b.same fun g hg => heap_setCell_other _ _ _ _ (fun he => hq.nb (by rw [hg, he])), hne, hq.nb⟩, fun _ => Iff.rfl, ?_⟩, ?_⟩
  · rw [heap_setCell_same _ _ _ _ _ _ hqW.blk]; simp
  · rintro k (rfl | hk | hk)
    · rw [World.size_setCell]; exact Nat.lt_of_lt_of_le hp hW.size
    · rw [World.size_setCell]; exact (own.lt hk).2
    · rw [World.size_setCell]; exact Nat.lt_of_lt_of_le (hl k ((hF k).2 (.inr (.inr hk)))) hW.size
  · refine ⟨hW.os, hW.tape, hW.output, by rw [World.size_setCell]; exact hW.size, fun k hk hn => ?_, ?_⟩
    · rw [heap_setCell_other _ _ _ _ (fun h => hn ((hF k).2 (.inl h))), hW.block k hk]
    · rintro k (rfl | hk | hk)
      · exact .inl ((hF _).2 (.inl rfl))
      · exact .inr (own.lt hk).1
      · exact .inl ((hF k).2 (.inr (.inr hk)))
/-- The bindings of the document's table are a new row. -/
theorem rt_setB {w W : World} {p : Nat} {vx vb v' : Value} {s : Tb} {l : List Bd} {F : Nat → Prop} (hq : RTAt w p vx vb s) (hF : ∀ k, F k ↔ rfootT p vx vb k) (hl : ∀ k, F k → k < w.heap.size) (hW : Below w.heap.size w W) (own : OwnB W w.heap.size v' l) :
    ∃ F', RT (W.setCell ⟨p, 1, none⟩ v') p F' { s with bs := l } ∧ Moved w (W.setCell ⟨p, 1, none⟩ v') F F' := by
  have hp : p < w.heap.size := (Array.getElem?_eq_some_iff.1 hq.blk).1
  have hqW : RTAt W p vx vb s := hq.same fun k hk => hW.block k (hl k ((hF k).2 hk))
  have hne : v'.ownBlock ≠ some p := fun he => by have := (own.lt he).1; omega
  refine ⟨rfootT p vx v', ⟨vx, v', ⟨?_, hqW.x.same fun g hg => heap_setCell_other _ _ _ _ (fun he => hq.nx (by rw [hg, he])), own.rng.same fun g hg => heap_setCell_other _ _ _ _ (fun he => hne (by rw [hg, he])), hq.nx, hne⟩, fun _ => Iff.rfl, ?_⟩, ?_⟩
  · rw [heap_setCell_same _ _ _ _ _ _ hqW.blk]; simp
  · rintro k (rfl | hk | hk)
    · rw [World.size_setCell]; exact Nat.lt_of_lt_of_le hp hW.size
    · rw [World.size_setCell]; exact Nat.lt_of_lt_of_le (hl k ((hF k).2 (.inr (.inl hk)))) hW.size
    · rw [World.size_setCell]; exact (own.lt hk).2
  · refine ⟨hW.os, hW.tape, hW.output, by rw [World.size_setCell]; exact hW.size, fun k hk hn => ?_, ?_⟩
    · rw [heap_setCell_other _ _ _ _ (fun h => hn ((hF k).2 (.inl h))), hW.block k hk]
    · rintro k (rfl | hk | hk)
      · exact .inl ((hF _).2 (.inl rfl))
      · exact .inl ((hF k).2 (.inr (.inl hk)))
      · exact .inr (own.lt hk).1
end Go.Proofs.YtiaagiijjledkaaGreatDoor
