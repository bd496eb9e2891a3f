/-
  TWO NEIGHBOURS CHANGE PLACES, in a row of structs of eight cells; one more at its place. Of no program.
-/
import Derived.Test.YtocdfcaakflgpaaTake
namespace Go.Proofs.Ytocdfcaakflgpaa
open Go.RowKit Go.Sort

theorem ins_mid {x : It} : ∀ {pre suf : List It}, (∀ y ∈ pre, y.tag < x.tag) → (∀ y ∈ suf, x.tag < y.tag) → ins x (pre ++ suf) = pre ++ x :: suf
  | [], suf, _, h2 => by
    have : lessT suf x.tag = 0 := by
      unfold lessT
      rw [List.countP_eq_zero]
      intro y hy
      have := h2 y hy
      simp; omega
    unfold ins
    rw [List.nil_append, this]; simp
  | z :: pre, suf, h1, h2 => by
    rw [List.cons_append, ins_cons_lt (h1 z (by simp)), ins_mid (fun y hy => h1 y (by simp [hy])) h2]; rfl
theorem pre_rise {x y : It} {pre suf : List It} (ho : Rise (pre ++ y :: suf)) (hy : y.tag < x.tag) : ∀ z ∈ pre ++ [y], z.tag < x.tag := by
  intro z hz
  rcases List.mem_append.1 hz with hz | hz
  · have := (List.pairwise_append.1 ho).2.2 z hz y (by simp)
    omega
  · rw [List.mem_singleton.1 hz]; exact hy

/-- Eight cells of a block written. -/
abbrev put8o (w : World) (g o : Nat) (v0 v1 v2 v3 v4 v5 v6 v7 : Value) : World := (((((((w.setCell ⟨g, o, none⟩ v0).setCell ⟨g, o + 1, none⟩ v1).setCell ⟨g, o + 2, none⟩ v2).setCell ⟨g, o + 3, none⟩ v3).setCell ⟨g, o + 4, none⟩ v4).setCell ⟨g, o + 5, none⟩ v5).setCell ⟨g, o + 6, none⟩ v6).setCell ⟨g, o + 7, none⟩ v7
theorem put8o_other {w : World} {g o k : Nat} (v0 v1 v2 v3 v4 v5 v6 v7 : Value) (h : k ≠ g) : (put8o w g o v0 v1 v2 v3 v4 v5 v6 v7).heap[k]? = w.heap[k]? := by
  unfold put8o
  rw [heap_setCell_other _ _ _ _ h, heap_setCell_other _ _ _ _ h, heap_setCell_other _ _ _ _ h, heap_setCell_other _ _ _ _ h, heap_setCell_other _ _ _ _ h, heap_setCell_other _ _ _ _ h, heap_setCell_other _ _ _ _ h, heap_setCell_other _ _ _ _ h]
theorem put8o_size (w : World) (g o : Nat) (v0 v1 v2 v3 v4 v5 v6 v7 : Value) : (put8o w g o v0 v1 v2 v3 v4 v5 v6 v7).heap.size = w.heap.size := by simp [put8o]
theorem set_at8 {α : Type} (A M : List α) (k : Nat) (v : α) : (A ++ M).set (A.length + k) v = A ++ M.set k v := by
  rw [List.set_append_right _ _ (by omega), Nat.add_sub_cancel_left]
theorem put8o_at {w : World} {g o : Nat} {t : TypeId} {A M : List Value} {a0 a1 a2 a3 a4 a5 a6 a7 : Value} (v0 v1 v2 v3 v4 v5 v6 v7 : Value) (h : w.heap[g]? = some (.cells (A ++ (a0 :: a1 :: a2 :: a3 :: a4 :: a5 :: a6 :: a7 :: M)).toArray t (0, 0))) (ho : o = A.length) :
    (put8o w g o v0 v1 v2 v3 v4 v5 v6 v7).heap[g]? = some (.cells (A ++ (v0 :: v1 :: v2 :: v3 :: v4 :: v5 :: v6 :: v7 :: M)).toArray t (0, 0)) := by
  subst ho
  have e0 := heap_setCell_same w g A.length _ _ v0 h
  have e1 := heap_setCell_same _ g (A.length + 1) _ _ v1 e0
  have e2 := heap_setCell_same _ g (A.length + 2) _ _ v2 e1
  have e3 := heap_setCell_same _ g (A.length + 3) _ _ v3 e2
  have e4 := heap_setCell_same _ g (A.length + 4) _ _ v4 e3
  have e5 := heap_setCell_same _ g (A.length + 5) _ _ v5 e4
  have e6 := heap_setCell_same _ g (A.length + 6) _ _ v6 e5
  have e7 := heap_setCell_same _ g (A.length + 7) _ _ v7 e6
  rw [e7]
  simp only [List.setIfInBounds_toArray]
  have s0 := set_at8 A (a0 :: a1 :: a2 :: a3 :: a4 :: a5 :: a6 :: a7 :: M) 0 v0
  have s1 := set_at8 A (v0 :: a1 :: a2 :: a3 :: a4 :: a5 :: a6 :: a7 :: M) 1 v1
  have s2 := set_at8 A (v0 :: v1 :: a2 :: a3 :: a4 :: a5 :: a6 :: a7 :: M) 2 v2
  have s3 := set_at8 A (v0 :: v1 :: v2 :: a3 :: a4 :: a5 :: a6 :: a7 :: M) 3 v3
  have s4 := set_at8 A (v0 :: v1 :: v2 :: v3 :: a4 :: a5 :: a6 :: a7 :: M) 4 v4
  have s5 := set_at8 A (v0 :: v1 :: v2 :: v3 :: v4 :: a5 :: a6 :: a7 :: M) 5 v5
  have s6 := set_at8 A (v0 :: v1 :: v2 :: v3 :: v4 :: v5 :: a6 :: a7 :: M) 6 v6
  have s7 := set_at8 A (v0 :: v1 :: v2 :: v3 :: v4 :: v5 :: v6 :: a7 :: M) 7 v7
  simp only [Nat.add_zero, List.set_cons_zero, List.set_cons_succ] at s0 s1 s2 s3 s4 s5 s6 s7
  rw [s0, s1, s2, s3, s4, s5, s6, s7]
section
variable {α : Type} {enc : α → List Value} {T : TypeId}
theorem own_put8 [E : Enc enc 8] {w : World} {base g n c : Nat} {pre suf : List α} {y : α} (z : α) {v0 v1 v2 v3 v4 v5 v6 v7 : Value} (hz : enc z = [v0, v1, v2, v3, v4, v5, v6, v7]) (h : OwnOf enc 8 T w base (.slice (some ⟨g, 0, none⟩) n c) (pre ++ y :: suf)) :
    OwnOf enc 8 T (put8o w g (pre.length * 8) v0 v1 v2 v3 v4 v5 v6 v7) base (.slice (some ⟨g, 0, none⟩) n c) (pre ++ z :: suf) := by
  obtain ⟨W, hW⟩ : ∃ W, put8o w g (pre.length * 8) v0 v1 v2 v3 v4 v5 v6 v7 = W := ⟨_, rfl⟩
  rw [hW]
  rcases h.split with ⟨hv, _⟩ | ⟨g', c', R, hv, hb, hg, hc, hm, hR⟩
  · cases hv
  · injection hv with h1 h2 h3
    injection h1 with h1
    injection h1 with h1
    rw [← h1] at hg hb
    rw [← h3] at hc hm hR
    have hl : (enc y).length = 8 := E.len y
    obtain ⟨a0, a1, a2, a3, a4, a5, a6, a7, hy⟩ : ∃ a0 a1 a2 a3 a4 a5 a6 a7, enc y = [a0, a1, a2, a3, a4, a5, a6, a7] := by
      match enc y, hl with
      | [a0, a1, a2, a3, a4, a5, a6, a7], _ => exact ⟨_, _, _, _, _, _, _, _, rfl⟩
    have e1 : cellsOf enc (pre ++ y :: suf) ++ R = cellsOf enc pre ++ (a0 :: a1 :: a2 :: a3 :: a4 :: a5 :: a6 :: a7 :: (cellsOf enc suf ++ R)) := by
      rw [cellsOf_append, cellsOf_cons, hy]; simp
    have e2 : cellsOf enc (pre ++ z :: suf) ++ R = cellsOf enc pre ++ (v0 :: v1 :: v2 :: v3 :: v4 :: v5 :: v6 :: v7 :: (cellsOf enc suf ++ R)) := by
      rw [cellsOf_append, cellsOf_cons, hz]; simp
    rw [e1] at hg
    have hg' := put8o_at v0 v1 v2 v3 v4 v5 v6 v7 hg (cellsOf_length (enc := enc) pre).symm
    rw [← e2, hW] at hg'
    have hlen : (pre ++ z :: suf).length = (pre ++ y :: suf).length := by simp
    exact ownOf_mk hb hg' (by rw [hlen]; exact h2) (by rw [hlen]; exact hc) hm (by rw [hlen]; exact hR)
end
/-- Where a new row lies, and is changed: the rest stays. -/
theorem below_set {w0 w : World} {base g o : Nat} (v : Value) (h : Below base w0 w) (hg : base ≤ g) : Below base w0 (w.setCell ⟨g, o, none⟩ v) :=
  h.trans ⟨rfl, rfl, rfl, Nat.le_of_eq (World.size_setCell _ _ _).symm, fun k hk => heap_setCell_other _ _ _ _ (fun he => by have he2 : k = g := he; omega)⟩
theorem put8o_below {w0 w : World} {base g o : Nat} (v0 v1 v2 v3 v4 v5 v6 v7 : Value) (h : Below base w0 w) (hg : base ≤ g) : Below base w0 (put8o w g o v0 v1 v2 v3 v4 v5 v6 v7) :=
  below_set v7 (below_set v6 (below_set v5 (below_set v4 (below_set v3 (below_set v2 (below_set v1 (below_set v0 h hg) hg) hg) hg) hg) hg) hg) hg
end Go.Proofs.Ytocdfcaakflgpaa
