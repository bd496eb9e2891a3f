/-
  PAGES; two books and the document's.
-/
import Derived.Test.YtnlllpgdhnmccaaLawGaps9
namespace Go.Proofs.Ytnlllpgdhnmccaa
open Go.RowKit Go.Sort

/-- A page: an origin, a row's value. -/
structure Pg where
  o : Int
  a : Option Addr
  n : Nat
  c : Nat
def Pg.v (x : Pg) : Value := .slice x.a x.n x.c
def penc (x : Pg) : List Value := [.int .i64 x.o, .slice x.a x.n x.c]
instance : K.Enc penc 2 where
  len _ := rfl
  one r u hu := by
    simp only [penc, List.mem_cons, List.not_mem_nil, or_false] at hu
    rcases hu with rfl | rfl <;> rfl
  pos := by decide
/-- Its row holds ranges. -/
def Pg.Fits (W : World) (x : Pg) : Prop := ∃ l, Rng W x.v l ∧ Upto 18446744073709551616 l ∧ x.n ≤ 140737488355328
theorem Pg.Fits.below {W W' : World} {x : Pg} (h : x.Fits W) (hb : Below W.heap.size W W') : x.Fits W' := by
  obtain ⟨l, h1, h2, h3⟩ := h
  exact ⟨l, h1.below hb (Nat.le_refl _), h2, h3⟩
theorem page_at {w : World} {b off : Nat} {l : List Pg} (h : ∀ j u, (K.cellsOf penc l)[j]? = some u → w.cell? ⟨b, off + j, none⟩ = some u) (i : Nat) (hi : i < l.length) : w.cell? ⟨b, off + i * 2, none⟩ = some (.int .i64 l[i].o) ∧ w.cell? ⟨b, off + i * 2 + 1, none⟩ = some (.slice l[i].a l[i].n l[i].c) :=
  ⟨by simpa using K.row_cell h i hi 0 (by decide) _ rfl, K.row_cell h i hi 1 (by decide) _ rfl⟩
theorem pages_at {w : World} {a : Option Addr} {n cap : Nat} {l : List Pg} (h : K.RowOf penc w (.slice a n cap) l) : n = l.length ∧ l.length ≤ maxLen ∧ ∀ i (hi : i < l.length), ∃ b off, a = some ⟨b, off, none⟩ ∧ w.cell? ⟨b, off + i * 2, none⟩ = some (.int .i64 l[i].o) ∧ w.cell? ⟨b, off + i * 2 + 1, none⟩ = some (.slice l[i].a l[i].n l[i].c) := by
  have hn : n = l.length := by
    obtain ⟨a', cap', hv⟩ := h.slice
    injection hv
  have hcm : l.length ≤ maxLen := by
    rcases h with ⟨hv, rfl⟩ | ⟨_, _, hv, h1, h2, _⟩
    · exact Nat.zero_le _
    · omega
  refine ⟨hn, hcm, fun i hi => ?_⟩
  obtain ⟨b, off, cap', hv, _, _, hc⟩ := h.at (by omega)
  injection hv with hv1 _ _
  exact ⟨b, off, hv1, page_at hc i hi⟩
theorem Pg.Fits.len {W : World} {x : Pg} (h : x.Fits W) : x.n ≤ 140737488355328 := by
  obtain ⟨l, _, _, h⟩ := h
  exact h
theorem page_cells (w : World) (x : Pg) : (w.alloc (.cells #[.int .i64 x.o, .slice x.a x.n x.c] 39)).cell? ⟨w.heap.size, 0, none⟩ = some (.int .i64 x.o) ∧ (w.alloc (.cells #[.int .i64 x.o, .slice x.a x.n x.c] 39)).cell? ⟨w.heap.size, 1, none⟩ = some (.slice x.a x.n x.c) := by
  have := heap_alloc_new w (.cells #[.int .i64 x.o, .slice x.a x.n x.c] 39)
  exact ⟨(cells2 this).1, (cells2 this).2.1⟩
/-- How many there are, of the first pages. -/
def tally (m : Nat) (l : List Pg) : Nat := l.foldl (fun s x => s + (1 + x.n)) m
theorem tally_snoc (m : Nat) (l : List Pg) (k : Nat) (h : k < l.length) : tally m (l.take (k + 1)) = tally m (l.take k) + (1 + l[k].n) := by
  unfold tally
  rw [List.take_succ_eq_append_getElem h, List.foldl_append]
  rfl
theorem tally_ge (l : List Pg) : ∀ m, m ≤ tally m l := by
  induction l with
  | nil => exact fun m => Nat.le_refl _
  | cons x l ih => exact fun m => Nat.le_trans (Nat.le_add_right _ _) (ih (m + (1 + x.n)))
theorem tally_each (l : List Pg) : ∀ m, ∀ x ∈ l, x.n ≤ tally m l := by
  induction l with
  | nil => intro m x h; cases h
  | cons y l ih =>
    intro m x h
    rcases List.mem_cons.1 h with rfl | h
    · exact Nat.le_trans (by omega) (tally_ge l (m + (1 + x.n)))
    · exact ih _ x h
theorem putS_fine {f : Nat → List (Nat × Nat)} {o : Int} {l : List (Nat × Nat)} (hf : FineF f) (hu : Upto 18446744073709551616 l) : FineF (putS f o l) := by
  unfold putS
  split
  · rename_i h
    exact hf.put ⟨(goodB_iff l 1).1 h.2, hu⟩
  · exact hf
theorem putS_len {f : Nat → List (Nat × Nat)} {o : Int} {l : List (Nat × Nat)} {n : Nat} (hf : LenF n f) (hl : l.length ≤ n) : LenF n (putS f o l) := by
  unfold putS
  split
  · exact hf.put (Nat.le_refl _) hl
  · exact hf
/-- The two books beside a box of two cells. -/
structure Sp9 (w wr : World) (p : Nat) (F : Nat → Prop) (f : Nat → List (Nat × Nat)) (r : Nat) (G : Nat → Prop) (g : Nat → List (Nat × Nat)) (bx : Nat) (u0 u1 : Value) : Prop where
  two : Two9 w wr p F f r G g
  nf : ¬ F bx
  ng : ¬ G bx
  c0 : wr.cell? ⟨bx, 0, none⟩ = some u0
  c1 : wr.cell? ⟨bx, 1, none⟩ = some u1
theorem Sp9.goB {w wr wr' : World} {p r bx : Nat} {u0 u1 : Value} {F F' G : Nat → Prop} {f f' g : Nat → List (Nat × Nat)} (h : Sp9 w wr p F f r G g bx u0 u1) (b : Bk wr' p F' f') (m : Moved wr wr' F F') (ff : FineF f') : Sp9 w wr' p F' f' r G g bx u0 u1 := by
  obtain ⟨h1, h2⟩ := m.miss h.nf (World.block_lt_of_cell? _ _ h.c0)
  exact ⟨h.two.goB b m ff, h1, h.ng, (World.cell?_of_block (a := ⟨bx, 0, none⟩) h2).trans h.c0, (World.cell?_of_block (a := ⟨bx, 1, none⟩) h2).trans h.c1⟩
theorem Sp9.goR {w wr wr' : World} {p r bx : Nat} {u0 u1 : Value} {F G G' : Nat → Prop} {f g g' : Nat → List (Nat × Nat)} (h : Sp9 w wr p F f r G g bx u0 u1) (b : Rb wr' r G' g') (m : Moved wr wr' G G') (fg : FineF g') : Sp9 w wr' p F f r G' g' bx u0 u1 := by
  obtain ⟨h1, h2⟩ := m.miss h.ng (World.block_lt_of_cell? _ _ h.c0)
  exact ⟨h.two.goR b m fg, h.nf, h1, (World.cell?_of_block (a := ⟨bx, 0, none⟩) h2).trans h.c0, (World.cell?_of_block (a := ⟨bx, 1, none⟩) h2).trans h.c1⟩
theorem Sp9.go {w wr wr' : World} {p r bx : Nat} {u0 u1 : Value} {F G : Nat → Prop} {f g : Nat → List (Nat × Nat)} (h : Sp9 w wr p F f r G g bx u0 u1) (b : Below wr.heap.size wr wr') : Sp9 w wr' p F f r G g bx u0 u1 := h.goB (h.two.b.kept b) (.of_below b) h.two.ff
theorem Two9.page {w wr X : World} {p r : Nat} {F G : Nat → Prop} {f g : Nat → List (Nat × Nat)} {x : Pg} (h : Two9 w wr p F f r G g) (hX : wr.alloc (.cells #[.int .i64 x.o, .slice x.a x.n x.c] 39) = X) : Sp9 w X p F f r G g wr.heap.size (.int .i64 x.o) (.slice x.a x.n x.c) := by
  have bX : Below wr.heap.size wr X := by rw [← hX]; exact (Below.refl _ _).alloc (Nat.le_refl _) _
  obtain ⟨e0, e1⟩ : X.cell? ⟨wr.heap.size, 0, none⟩ = some (.int .i64 x.o) ∧ X.cell? ⟨wr.heap.size, 1, none⟩ = some (.slice x.a x.n x.c) := by rw [← hX]; exact page_cells wr x
  exact ⟨h.go bX, fun hf => by have := h.b.lts _ hf; omega, fun hg => by have := h.r.lts _ hg; omega, e0, e1⟩
/-- Two books and the document's. -/
structure Tri9 (w wr : World) (p : Nat) (F : Nat → Prop) (f : Nat → List (Nat × Nat)) (r : Nat) (G : Nat → Prop) (g : Nat → List (Nat × Nat)) (q : Nat) (H : Nat → Prop) (h : Nat → List (Nat × Nat)) : Prop where
  two : Two9 w wr p F f r G g
  own : Own9 w wr q H h
  af : ∀ k, H k → ¬ F k
  ag : ∀ k, H k → ¬ G k
theorem Tri9.goC {w wr wr' : World} {p r q : Nat} {F G H H' : Nat → Prop} {f g h h' : Nat → List (Nat × Nat)} (t : Tri9 w wr p F f r G g q H h) (b : Bk wr' q H' h') (m : Moved wr wr' H H') (ff : FineF h') : Tri9 w wr' p F f r G g q H' h' := by
  have ho := t.own.to b m ff
  exact ⟨⟨t.two.b.beside m t.af, t.two.r.beside m t.ag, t.two.ff, t.two.fg, t.two.fb, t.two.fr, t.two.ap, ho.bel⟩, ho, m.apart t.two.b.lts t.af, m.apart t.two.r.lts t.ag⟩
theorem Tri9.go {w wr wr' : World} {p r q : Nat} {F G H : Nat → Prop} {f g h : Nat → List (Nat × Nat)} (t : Tri9 w wr p F f r G g q H h) (b : Below wr.heap.size wr wr') : Tri9 w wr' p F f r G g q H h := ⟨t.two.go b, t.own.go b, t.af, t.ag⟩
/-- All that is in one is in the other. -/
def InF (f g : Nat → List (Nat × Nat)) : Prop := ∀ o m, Mem (ofF f o) m → Mem (ofF g o) m
theorem InF.add {f g : Nat → List (Nat × Nat)} (h : InF f g) (hg : FineF g) (o : Int) (s : Nat) : InF f (addF g o s) := fun y m hm => by
  by_cases e : o = y
  · subst e
    by_cases ho : 1 ≤ o ∧ o ≤ 8
    · rw [ofF_add_eq ho]
      exact (addS_mem (hg.of o).1 m).2 (.inl (h o m hm))
    · rw [addF_out ho]
      exact h o m hm
  · rw [ofF_add_ne e]
    exact h y m hm
theorem InF.has {f g : Nat → List (Nat × Nat)} (h : InF f g) {o : Int} {s : Nat} (hs : memB (ofF g o) s = false) : memB (ofF f o) s = false := by
  rw [memB_false] at hs ⊢
  exact fun hm => hs (h o s hm)
end Go.Proofs.Ytnlllpgdhnmccaa
