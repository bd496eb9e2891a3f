/-
  A seat comes to the end of the line.
-/
import Derived.Test.YtooaiomghbjpiaaSettle17
import Derived.Maps.AppendAt
namespace Go.Proofs.Ytooaiomghbjpiaa
open Go.RowKit Go.Maps Go.Sort Go.Shelf
set_option maxRecDepth 20000

theorem ptrInfo : ∃ i, Try.prog.info? 78 = some i ∧ i.zero = some (.pointer none) ∧ i.size = 1 ∧ i.bytes = 8 := by
  have h : (Try.prog.info? 78).map (fun i => (i.zero, i.size, i.bytes)) = some (some (.pointer none), 1, 8) := by kernel_rfl
  cases hi : Try.prog.info? 78 with
  | none => rw [hi] at h; cases h
  | some i => rw [hi] at h; injection h with h; injection h with h1 h2; injection h2 with h2 h3; exact ⟨i, rfl, h1, h2, h3⟩
/-- What an append to the line, and its store, leave. -/
structure Pushed (w w' : World) (p : Nat) (mv v v' : Value) (X : List Sx) (q : Nat) : Prop where
  blk : w'.heap[p]? = some (.cells #[mv, v'] 60 (0, 0))
  row : Own1 w' 0 78 v' (pcs X ++ [.pointer (some ⟨q, 0, none⟩)])
  os : w'.os = w.os
  tape : w'.tape = w.tape
  output : w'.output = w.output
  size : w.heap.size ≤ w'.heap.size
  block : ∀ k, k < w.heap.size → k ≠ p → v.ownBlock ≠ some k → w'.heap[k]? = w.heap[k]?
  sub : ∀ k, v'.ownBlock = some k → v.ownBlock = some k ∨ w.heap.size ≤ k
theorem pushed {w w2 : World} {p q : Nat} {mv v v' : Value} {X : List Sx} (hp : w.heap[p]? = some (.cells #[mv, v] 60 (0, 0))) (row : Own1 w 0 78 v (pcs X))
    (own : w2.ownsRow 0 78 1 v' ((pcs X).length + 1) (pcs X ++ [.pointer (some ⟨q, 0, none⟩)])) (gr : (w.alloc (.cells #[.pointer (some ⟨q, 0, none⟩)] 78)).grownBy w2 v.ownBlock) (hat : v'.ownBlock = v.ownBlock ∨ v'.ownBlock = some (w.alloc (.cells #[.pointer (some ⟨q, 0, none⟩)] 78)).heap.size) :
    Pushed w (w2.setCell ⟨p, 1, none⟩ v') p mv v v' X q := by
  have hpl : p < w.heap.size := (Array.getElem?_eq_some_iff.1 hp).1
  have hvp : v.ownBlock ≠ some p := fun e => by
    obtain ⟨_, cur, hc⟩ := own1_blk row e
    rw [hp] at hc; simp at hc
  have hp2 : w2.heap[p]? = some (.cells #[mv, v] 60 (0, 0)) := (gr.block p (by simp; omega) (fun e => hvp e.symm)).trans ((Below.heap_alloc _ _ p hpl).trans hp)
  have own2 : Own1 w2 0 78 v' (pcs X ++ [.pointer (some ⟨q, 0, none⟩)]) := by
    unfold Own1
    rw [List.length_append]
    exact own
  have hv'p : v'.ownBlock ≠ some p := fun e => by
    rcases hat with h | h
    · exact hvp (by rw [← h]; exact e)
    · rw [h] at e; simp at e; omega
  have hs : w.heap.size ≤ w2.heap.size := by have := gr.size; simp at this; omega
  refine ⟨heap_set2 hp2 _, own1_same own2 fun g hg => Below.heap_setCell _ _ _ _ (fun e => hv'p (by rw [hg, e])), gr.os, gr.tape, gr.output, by simpa using hs, fun k hk hne hv => ?_, fun k hk => ?_⟩
  · exact (Below.heap_setCell _ _ _ _ hne).trans ((gr.block k (by simp; omega) (fun e => hv e.symm)).trans (Below.heap_alloc _ _ k hk))
  · rcases hat with h | h
    · exact .inl (by rw [← h]; exact hk)
    · rw [h] at hk
      simp at hk
      exact .inr (by omega)
theorem push_cell {w w2 : World} {p q : Nat} {mv v : Value} {X : List Sx} (hp : w.heap[p]? = some (.cells #[mv, v] 60 (0, 0))) (row : Own1 w 0 78 v (pcs X)) (gr : (w.alloc (.cells #[.pointer (some ⟨q, 0, none⟩)] 78)).grownBy w2 v.ownBlock) : w2.cell? ⟨p, 1, none⟩ = some v ∧ w2.frozen? ⟨p, 1, none⟩ = false := by
  have hpl : p < w.heap.size := (Array.getElem?_eq_some_iff.1 hp).1
  have hvp : v.ownBlock ≠ some p := fun e => by
    obtain ⟨_, cur, hc⟩ := own1_blk row e
    rw [hp] at hc; simp at hc
  have hp2 : w2.heap[p]? = some (.cells #[mv, v] 60 (0, 0)) := (gr.block p (by simp; omega) (fun e => hvp e.symm)).trans ((Below.heap_alloc _ _ p hpl).trans hp)
  exact ⟨by simp [World.cell?, hp2], by simp [World.frozen?, hp2]⟩
section
variable {w w' : World} {p mb : Nat} {v v' : Value} {X Y : List Sx}
theorem pcs_snoc (X : List Sx) (x : Sx) : pcs (X ++ [x]) = pcs X ++ [.pointer (some ⟨x.p, 0, none⟩)] := by simp [pcs]
/-- The same seats, in another order, in another line. -/
theorem DkAt.turn (h : DkAt w p mb v X) (ok : LOk (X.map Sx.s)) (hp : Y.Perm X) (hb : w'.heap[p]? = some (.cells #[.map (some mb), v'] 60 (0, 0))) (hr : Own1 w' 0 78 v' (pcs Y)) (ho : ∀ k, footD p mb v X k → k ≠ p → v.ownBlock ≠ some k → w'.heap[k]? = w.heap[k]?) : DkAt w' p mb v' Y := by
  have hmv : v.ownBlock ≠ some mb := fun e => (h.row_ne e).2.1 rfl
  have hm : CAt w' mb (ccs X) := h.mp.same (ho mb (.inr (.inl rfl)) h.m_ne hmv)
  refine ⟨hb, hm.permTo ((ccs_cl ok).perm (hp.map _)) (hp.map _).symm, hr, fun y hy => ?_, ?_, fun y hy => h.nm y (hp.mem_iff.1 hy)⟩
  · have hx := hp.mem_iff.1 hy
    have n := h.seat_ne hx
    exact (h.seats y hx).same (ho _ (.inr (.inr (.inr ⟨y, hx, .inl rfl⟩))) n.1 (fun e => ((h.row_ne e).2.2 y hx).1 rfl)) (ho _ (.inr (.inr (.inr ⟨y, hx, .inr rfl⟩))) n.2.2.1 (fun e => ((h.row_ne e).2.2 y hx).2 rfl))
  · exact (hp.pairwise_iff (fun {a b} (h : a.p ≠ b.p ∧ a.b ≠ b.b) => ⟨h.1.symm, h.2.symm⟩)).2 h.ap
theorem cut_perm (h : DkAt w p mb v X) {x : Sx} (hx : x ∈ X) : (cutX X x.p ++ [x]).Perm X := by
  have hn : X.Nodup := h.ap.imp fun {a b} hab e => hab.1 (by rw [e])
  have hn2 : (cutX X x.p ++ [x]).Nodup := by
    rw [List.nodup_append]
    refine ⟨hn.filter _, by simp, fun a ha b hb e => ?_⟩
    have := (List.mem_filter.1 ha).2
    rw [List.mem_singleton.1 hb] at e
    rw [e] at this
    simp at this
  rw [List.perm_ext_iff_of_nodup hn2 hn]
  intro y
  rw [List.mem_append, List.mem_singleton]
  constructor
  · rintro (hy | rfl)
    · exact (List.mem_filter.1 hy).1
    · exact hx
  · intro hy
    by_cases e : y.p = x.p
    · exact .inr (h.ptr_inj hy hx e)
    · exact .inl (List.mem_filter.2 ⟨hy, by simpa using e⟩)
theorem cutX_retag (X : List Sx) (x : Sx) (l : List Int) : cutX (retag X x l) x.p = cutX X x.p := by
  unfold cutX retag
  rw [List.filter_map]
  have e : ((fun y : Sx => !decide (y.p = x.p)) ∘ fun y : Sx => if y.p = x.p then { y with s := { y.s with t := l } } else y) = fun y : Sx => !decide (y.p = x.p) := by
    funext y
    show (!decide ((if y.p = x.p then { y with s := { y.s with t := l } } else y).p = x.p)) = _
    by_cases e : y.p = x.p
    · rw [if_pos e]
    · rw [if_neg e]
  rw [e]
  conv => rhs; rw [← List.map_id (X.filter fun y => !decide (y.p = x.p))]
  refine List.map_congr_left fun y hy => ?_
  have := (List.mem_filter.1 hy).2
  simp at this
  rw [if_neg this]; rfl
theorem DkAt.pc (h : DkAt w p mb v X) (ok : LOk (X.map Sx.s)) {x y : Sx} (hx : x ∈ X) (hy : y ∈ X) : y.p = x.p ↔ y.s.c = x.s.c := by
  refine ⟨fun e => by rw [h.ptr_inj hy hx e], fun e => ?_⟩
  have hcl := (ccs_cl ok).diff
  unfold Diff ccs at hcl
  rw [List.pairwise_map] at hcl
  obtain ⟨i, hi, rfl⟩ := List.getElem_of_mem hy
  obtain ⟨j, hj, rfl⟩ := List.getElem_of_mem hx
  rcases Nat.lt_trichotomy i j with hij | rfl | hij
  · exact absurd (by unfold ckl; rw [e]) (List.pairwise_iff_getElem.1 hcl i j hi hj hij)
  · rfl
  · exact absurd (by unfold ckl; rw [e]) (List.pairwise_iff_getElem.1 hcl j i hj hi hij)
theorem cutX_s (h : DkAt w p mb v X) (ok : LOk (X.map Sx.s)) {x : Sx} (hx : x ∈ X) : (cutX X x.p).map Sx.s = cutC (X.map Sx.s) x.s.c := by
  unfold cutX cutC
  rw [List.filter_map]
  congr 1
  refine List.filter_congr fun y hy => ?_
  show (!decide (y.p = x.p)) = !decide (y.s.c = x.s.c)
  congr 1
  rw [Bool.eq_iff_iff, decide_eq_true_iff, decide_eq_true_iff]
  exact h.pc ok hx hy
theorem cutX_c (h : DkAt w p mb v X) (ok : LOk (X.map Sx.s)) {x : Sx} (hx : x ∈ X) : ccs (cutX X x.p) = (ccs X).filter fun y => !decide (y.1 = x.s.c) := by
  unfold cutX ccs
  rw [List.filter_map]
  congr 1
  refine List.filter_congr fun y hy => ?_
  show (!decide (y.p = x.p)) = !decide (y.s.c = x.s.c)
  congr 1
  rw [Bool.eq_iff_iff, decide_eq_true_iff, decide_eq_true_iff]
  exact h.pc ok hx hy
end
end Go.Proofs.Ytooaiomghbjpiaa
