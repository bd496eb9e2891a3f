/-
  TopoFlows' MEMORY: what is noted of sites and edges, the rows of sites.
-/
import Derived.Test.YtcfagojkeholmaaFlows
import Derived.Test.YtcfagojkeholmaaLawTells
namespace Go.Proofs.Ytcfagojkeholmaa
open Go.RowKit Go.Sort Go.Shelf

def encI (x : Int) : List Value := [.int .i64 x]
instance : Enc encI 1 := ⟨fun _ => rfl, fun m u hu => by simp [encI] at hu; subst hu; rfl, by decide⟩
theorem cellsI_eq (l : List Int) : cellsOf encI l = icells l := by
  induction l with
  | nil => rfl
  | cons x t ih => rw [cellsOf_cons, ih]; rfl
theorem rowI_encI {w : World} {v : Value} {l : List Int} (h : Row w v (icells l)) : RowOf encI w v l := by
  rcases h with ⟨rfl, h⟩ | ⟨a, cap, rfl, h1, h2, h3⟩
  · exact .inl ⟨rfl, by simpa [icells] using h⟩
  · rw [icells_length] at h1
    exact .inr ⟨a, cap, by rw [icells_length], h1, h2, by rw [cellsI_eq]; exact h3⟩
theorem own1_encI {w : World} {base : Nat} {v : Value} {l : List Int} (h : OwnOf encI 1 3 w base v l) : Own1 w base 3 v (icells l) := by
  unfold OwnOf at h
  rw [cellsI_eq] at h
  unfold Own1
  rw [icells_length]
  exact h
theorem intInfo : ∃ i, Try.prog.info? 3 = some i ∧ i.zero = some (.int .i64 0) ∧ i.size = 1 ∧ i.bytes = 8 := by
  have hinfo : (Try.prog.info? 3).map (fun i => (i.zero, i.size, i.bytes)) = some (some (.int .i64 0), 1, 8) := by kernel_rfl
  exact info_parts hinfo

/-- A row of numbers in a block between lo and hi. -/
def RowB (w : World) (lo hi : Nat) (v : Value) (l : List Int) : Prop :=
  (v = .slice none 0 0 ∧ l = []) ∨ ∃ g cap, v = .slice (some ⟨g, 0, none⟩) l.length cap ∧ lo ≤ g ∧ g < hi ∧ l.length ≤ cap ∧ cap ≤ maxLen ∧ Holds (Value.int .i64) w g 0 l.toArray
theorem RowB.same {w w' : World} {lo hi : Nat} {v : Value} {l : List Int} (h : RowB w lo hi v l) (hs : ∀ g, v.ownBlock = some g → lo ≤ g → g < hi → w'.heap[g]? = w.heap[g]?) : RowB w' lo hi v l := by
  rcases h with h | ⟨g, cap, rfl, h1, h2, h3, h4, h5⟩
  · exact .inl h
  · refine .inr ⟨g, cap, rfl, h1, h2, h3, h4, fun j hj => ?_⟩
    have hb := hs g rfl h1 h2
    rw [World.cell?_of_block (a := ⟨g, 0 + j, none⟩) hb, World.frozen?_of_block (a := ⟨g, 0 + j, none⟩) hb]
    exact h5 j hj
theorem RowI.rowB {w : World} {lo : Nat} {v : Value} {l : List Int} (h : RowI w lo v l) : RowB w lo w.heap.size v l := by
  rcases h with h | ⟨g, cap, hv, h1, h2, h3⟩
  · exact .inl h
  · exact .inr ⟨g, cap, hv, h1, h2, h3⟩
theorem RowB.rowI {w : World} {lo hi : Nat} {v : Value} {l : List Int} (h : RowB w lo hi v l) (hh : hi ≤ w.heap.size) : RowI w lo v l := by
  rcases h with h | ⟨g, cap, hv, h1, h2, h3⟩
  · exact .inl h
  · exact .inr ⟨g, cap, hv, h1, by omega, h3⟩
theorem RowB.mono {w : World} {lo lo' hi : Nat} {v : Value} {l : List Int} (h : RowB w lo hi v l) (hh : lo' ≤ lo) : RowB w lo' hi v l := by
  rcases h with h | ⟨g, cap, hv, h1, h2, h3⟩
  · exact .inl h
  · exact .inr ⟨g, cap, hv, by omega, h2, h3⟩

/-- What the law keeps: the topology, what is noted, the row of this level's sites. -/
structure FlowIn (w wr : World) (S : Int) (v : Value) (H : Int) (ga gu : Nat) (f : Int → Int) (u : Nat → Bool) (vn : Value) (now : List Int) (hi : Nat) : Prop where
  bx : Boxed w wr S v H
  at' : Arr wr ga 34 9 (fun i => .int .i64 (f i))
  us : Arr wr gu 36 81 (fun c => .bool (u c))
  g1 : w.heap.size < ga
  g2 : ga < gu
  g3 : gu < hi
  g4 : hi ≤ wr.heap.size
  now : RowB wr (gu + 1) hi vn now
section
variable {w wr wq : World} {S H : Int} {v vn vx vo : Value} {ga gu hi lo : Nat} {f : Int → Int} {u : Nat → Bool} {now nx LO : List Int}
theorem FlowIn.next (h : FlowIn w wr S v H ga gu f u vn now hi) {B : Nat} (hb : Below B wr wq) (hB : hi ≤ B) : FlowIn w wq S v H ga gu f u vn now hi := by
  have h1 := h.g1
  have h2 := h.g2
  have h3 := h.g3
  exact ⟨h.bx.next hb (by omega), h.at'.below hb (by omega), h.us.below hb (by omega), h1, h2, h3, Nat.le_trans h.g4 hb.size, h.now.same fun g _ _ hg => hb.block g (by omega)⟩
theorem FlowIn.used (h : FlowIn w wr S v H ga gu f u vn now hi) (m n : Nat) (hm : m < 9) (hn : n < 9) : wr.cell? ⟨gu, m * 9 + n, none⟩ = some (.bool (u (m * 9 + n))) := h.us.cell (by omega)
theorem FlowIn.putAt (h : FlowIn w wr S v H ga gu f u vn now hi) (m : Nat) (x : Int) (g : Int → Int) (hg : ∀ i : Nat, i < 9 → g i = if (i : Int) = m then x else f i) : FlowIn w (wr.setCell ⟨ga, m, none⟩ (.int .i64 x)) S v H ga gu g u vn now hi := by
  have h1 := h.g1
  have h2 := h.g2
  refine ⟨⟨h.bx.bel.setCell (by show w.heap.size ≤ ga; omega) _, ?_⟩, ?_, h.us.same (heap_setCell_other _ _ _ _ (by show gu ≠ ga; omega)), h1, h2, h.g3, by simpa using h.g4, h.now.same fun g _ hg _ => heap_setCell_other _ _ _ _ (by show g ≠ ga; omega)⟩
  · rw [heap_setCell_other _ _ _ _ (by show w.heap.size ≠ ga; omega)]; exact h.bx.box
  · refine (h.at'.set m (.int .i64 x)).congr fun i hi => ?_
    rw [hg i hi]
    by_cases hc : i = m
    · rw [if_pos hc, if_pos (by omega)]
    · rw [if_neg hc, if_neg (by omega)]
theorem FlowIn.putUs (h : FlowIn w wr S v H ga gu f u vn now hi) (c : Nat) : FlowIn w (wr.setCell ⟨gu, c, none⟩ (.bool true)) S v H ga gu f (fun c' => if c' = c then true else u c') vn now hi := by
  have h1 := h.g1
  have h2 := h.g2
  refine ⟨⟨h.bx.bel.setCell (by show w.heap.size ≤ gu; omega) _, ?_⟩, h.at'.same (heap_setCell_other _ _ _ _ (by show ga ≠ gu; omega)), ?_, h1, h2, h.g3, by simpa using h.g4, h.now.same fun g _ hg _ => heap_setCell_other _ _ _ _ (by show g ≠ gu; omega)⟩
  · rw [heap_setCell_other _ _ _ _ (by show w.heap.size ≠ gu; omega)]; exact h.bx.box
  · refine (h.us.set c (.bool true)).congr fun i hi => ?_
    by_cases hc : i = c
    · rw [if_pos hc, if_pos hc]
    · rw [if_neg hc, if_neg hc]
/-- .. and the row of the next level's. -/
structure Fx (w wr : World) (S : Int) (v : Value) (H : Int) (ga gu : Nat) (f : Int → Int) (u : Nat → Bool) (vn : Value) (now : List Int) (hi : Nat) (vx : Value) (nx : List Int) : Prop where
  fi : FlowIn w wr S v H ga gu f u vn now hi
  own : OwnOf encI 1 3 wr hi vx nx
theorem Fx.next (h : Fx w wr S v H ga gu f u vn now hi vx nx) (hb : Below wr.heap.size wr wq) : Fx w wq S v H ga gu f u vn now hi vx nx := ⟨h.fi.next hb h.fi.g4, h.own.kept hb (Nat.le_refl _)⟩
theorem own_set {c k : Nat} {x : Value} (h : OwnOf encI 1 3 wr hi vx nx) (hc : c < hi) : OwnOf encI 1 3 (wr.setCell ⟨c, k, none⟩ x) hi vx nx := h.same fun g hg => heap_setCell_other _ _ _ _ (by show g ≠ c; have := (h.lt hg).1; omega)
/-- .. and the row of those that one goes onward to. -/
structure Fo (w wr : World) (S : Int) (v : Value) (H : Int) (ga gu : Nat) (f : Int → Int) (u : Nat → Bool) (vn : Value) (now : List Int) (hi : Nat) (vx : Value) (nx : List Int) (lo : Nat) (vo : Value) (LO : List Int) : Prop where
  fx : Fx w wr S v H ga gu f u vn now hi vx nx
  on : RowI wr lo vo LO
  lh : hi ≤ lo
  ne : ∀ g, vx.ownBlock = some g → vo.ownBlock ≠ some g
theorem rowI_same {l : List Int} (h : RowI wr lo v l) (hs : ∀ g, v.ownBlock = some g → lo ≤ g → g < wr.heap.size → wq.heap[g]? = wr.heap[g]?) (hz : wr.heap.size ≤ wq.heap.size) : RowI wq lo v l := by
  have := (h.rowB.same hs)
  rcases this with h | ⟨g, cap, hv, h1, h2, h3⟩
  · exact .inl h
  · exact .inr ⟨g, cap, hv, h1, by omega, h3⟩
theorem Fo.putAt (h : Fo w wr S v H ga gu f u vn now hi vx nx lo vo LO) (m : Nat) (x : Int) (g : Int → Int) (hg : ∀ i : Nat, i < 9 → g i = if (i : Int) = m then x else f i) : Fo w (wr.setCell ⟨ga, m, none⟩ (.int .i64 x)) S v H ga gu g u vn now hi vx nx lo vo LO := by
  have h2 := h.fx.fi.g2
  have h3 := h.fx.fi.g3
  have h4 := h.lh
  exact ⟨⟨h.fx.fi.putAt m x g hg, own_set h.fx.own (by omega)⟩, rowI_same h.on (fun k _ hk _ => heap_setCell_other _ _ _ _ (by show k ≠ ga; omega)) (by simp), h4, h.ne⟩
theorem Fo.putUs (h : Fo w wr S v H ga gu f u vn now hi vx nx lo vo LO) (c : Nat) : Fo w (wr.setCell ⟨gu, c, none⟩ (.bool true)) S v H ga gu f (fun c' => if c' = c then true else u c') vn now hi vx nx lo vo LO := by
  have h3 := h.fx.fi.g3
  have h4 := h.lh
  exact ⟨⟨h.fx.fi.putUs c, own_set h.fx.own (by omega)⟩, rowI_same h.on (fun k _ hk _ => heap_setCell_other _ _ _ _ (by show k ≠ gu; omega)) (by simp), h4, h.ne⟩
theorem Fo.app (h : Fo w wr S v H ga gu f u vn now hi vx nx lo vo LO) (ob : Obj) {w4 : World} {v' : Value} {nx' : List Int} (own : OwnOf encI 1 3 w4 hi v' nx') (gr : (wr.alloc ob).grownBy w4 vx.ownBlock) (nw : NewOr (wr.alloc ob) vx v') : Fo w w4 S v H ga gu f u vn now hi v' nx' lo vo LO := by
  have hb0 : Below wr.heap.size wr (wr.alloc ob) := (Below.refl _ _).alloc (Nat.le_refl _) _
  have hbl : Below hi wr w4 := (h.fx.own.alloc ob).below gr (hb0.mono h.fx.fi.g4) (by have := h.fx.fi.g4; simp; omega) (Nat.le_refl _)
  refine ⟨⟨h.fx.fi.next hbl (Nat.le_refl _), own⟩, rowI_same h.on (fun k hk _ hlt => ?_) hbl.size, h.lh, fun g hg hne => ?_⟩
  · rw [gr.block k (by simp; omega) (fun he => h.ne k he.symm hk), Below.heap_alloc _ _ _ hlt]
  · rcases nw with he | ⟨g', he, hge⟩
    · rw [he] at hg; exact h.ne g hg hne
    · rw [he] at hg
      injection hg with hg
      subst hg
      rcases h.on with ⟨rfl, _⟩ | ⟨b, cap, rfl, _, hb, _⟩
      · cases hne
      · have : b = g' := Option.some.inj hne
        simp at hge
        omega
end
end Go.Proofs.Ytcfagojkeholmaa
