/-
  TWO BOOKS of the call's own, the program's and the document's, beside ids in boxes.
-/
import Derived.Test.YtnlllpgdhnmccaaLives9
import Derived.Test.YtnlllpgdhnmccaaRPut
namespace Go.Proofs.Ytnlllpgdhnmccaa
open Go.RowKit Go.Sort

/-- An id's cells. -/
def ienc (x : Int × Nat) : List Value := [.int .i64 x.1, .int .u64 (x.2 : Int)]
instance : K.Enc ienc 2 where
  len _ := rfl
  one r u hu := by
    simp only [ienc, List.mem_cons, List.not_mem_nil, or_false] at hu
    rcases hu with rfl | rfl <;> rfl
  pos := by decide
theorem id_at {w : World} {b off : Nat} {l : List (Int × Nat)} (h : ∀ j u, (K.cellsOf ienc l)[j]? = some u → w.cell? ⟨b, off + j, none⟩ = some u) (i : Nat) (hi : i < l.length) : w.cell? ⟨b, off + i * 2, none⟩ = some (.int .i64 l[i].1) ∧ w.cell? ⟨b, off + i * 2 + 1, none⟩ = some (.int .u64 (l[i].2 : Int)) :=
  ⟨by simpa using K.row_cell h i hi 0 (by decide) _ rfl, K.row_cell h i hi 1 (by decide) _ rfl⟩
theorem ids_at {w : World} {a : Option Addr} {n cap : Nat} {l : List (Int × Nat)} (h : K.RowOf ienc w (.slice a n cap) l) : n = l.length ∧ l.length ≤ maxLen ∧ ∀ i (hi : i < l.length), ∃ b off, a = some ⟨b, off, none⟩ ∧ w.cell? ⟨b, off + i * 2, none⟩ = some (.int .i64 l[i].1) ∧ w.cell? ⟨b, off + i * 2 + 1, none⟩ = some (.int .u64 (l[i].2 : Int)) := by
  have hn : n = l.length := by
    obtain ⟨a', cap', hv⟩ := h.slice
    injection hv
  have hcm : l.length ≤ maxLen := by
    rcases h with ⟨hv, rfl⟩ | ⟨_, _, hv, h1, h2, _⟩
    · exact Nat.zero_le _
    · omega
  refine ⟨hn, hcm, fun i hi => ?_⟩
  obtain ⟨b, off, cap', hv, _, _, hc⟩ := h.at (by omega)
  injection hv with hv1 _ _
  exact ⟨b, off, hv1, id_at hc i hi⟩
theorem Moved.miss {w w' : World} {F F' : Nat → Prop} {b : Nat} (m : Moved w w' F F') (h : ¬ F b) (hb : b < w.heap.size) : ¬ F' b ∧ w'.heap[b]? = w.heap[b]? := ⟨fun hf => (m.sub b hf).elim h (by omega), m.block b hb h⟩
/-- The two books, apart. -/
structure Two9 (w wr : World) (p : Nat) (F : Nat → Prop) (f : Nat → List (Nat × Nat)) (r : Nat) (G : Nat → Prop) (g : Nat → List (Nat × Nat)) : Prop where
  b : Bk wr p F f
  r : Rb wr r G g
  ff : FineF f
  fg : FineF g
  fb : ∀ k, F k → w.heap.size ≤ k
  fr : ∀ k, G k → w.heap.size ≤ k
  ap : ∀ k, F k → ¬ G k
  bel : Below w.heap.size w wr
theorem Two9.goB {w wr wr' : World} {p r : Nat} {F F' G : Nat → Prop} {f f' g : Nat → List (Nat × Nat)} (h : Two9 w wr p F f r G g) (b : Bk wr' p F' f') (m : Moved wr wr' F F') (ff : FineF f') : Two9 w wr' p F' f' r G g :=
  ⟨b, h.r.beside m h.ap, ff, h.fg, m.from h.fb h.bel.size, h.fr, m.apart h.r.lts h.ap, m.below h.fb h.bel h.bel.size⟩
theorem Two9.goR {w wr wr' : World} {p r : Nat} {F G G' : Nat → Prop} {f g g' : Nat → List (Nat × Nat)} (h : Two9 w wr p F f r G g) (b : Rb wr' r G' g') (m : Moved wr wr' G G') (fg : FineF g') : Two9 w wr' p F f r G' g' :=
  ⟨h.b.beside m (fun k hk ht => h.ap k ht hk), b, h.ff, fg, h.fb, m.from h.fr h.bel.size, fun k ht hr => m.apart h.b.lts (fun k hk ht => h.ap k ht hk) k hr ht, m.below h.fr h.bel h.bel.size⟩
theorem Two9.go {w wr wr' : World} {p r : Nat} {F G : Nat → Prop} {f g : Nat → List (Nat × Nat)} (h : Two9 w wr p F f r G g) (b : Below wr.heap.size wr wr') : Two9 w wr' p F f r G g := h.goB (h.b.kept b) (.of_below b) h.ff
/-- A box that is no block of a thing's. -/
structure Box9 (wr : World) (F : Nat → Prop) (bx : Nat) (o : Int) (n : Nat) : Prop where
  no : ¬ F bx
  c0 : wr.cell? ⟨bx, 0, none⟩ = some (.int .i64 o)
  c1 : wr.cell? ⟨bx, 1, none⟩ = some (.int .u64 (n : Int))
theorem Box9.to {wr wr' : World} {F F' : Nat → Prop} {bx : Nat} {o : Int} {n : Nat} (h : Box9 wr F bx o n) (m : Moved wr wr' F F') : Box9 wr' F' bx o n := by
  obtain ⟨h1, h2⟩ := m.miss h.no (World.block_lt_of_cell? _ _ h.c0)
  exact ⟨h1, (World.cell?_of_block (a := ⟨bx, 0, none⟩) h2).trans h.c0, (World.cell?_of_block (a := ⟨bx, 1, none⟩) h2).trans h.c1⟩
/-- The document's book at its beginning. -/
theorem rb_new (w : World) : Rb (w.alloc (.cells #[.slice none 0 0, .slice none 0 0, .slice none 0 0, .slice none 0 0, .slice none 0 0, .slice none 0 0, .slice none 0 0, .slice none 0 0, .slice none 0 0] 33)) w.heap.size (fun k => k = w.heap.size) (fun _ => []) := by
  refine ⟨fun _ => .slice none 0 0, ⟨heap_alloc_new w _, fun _ _ => own2_nil _ _⟩, fun k => ⟨fun h => .inl h, ?_⟩⟩
  rintro (h | ⟨i, _, hk⟩)
  · exact h
  · simp [Value.ownBlock] at hk
theorem two9_new {w w1 W : World} {p : Nat} {F : Nat → Prop} (hb : Bk w1 p F (fun _ => [])) (frm : ∀ k, F k → w.heap.size ≤ k) (bel : Below w.heap.size w w1) (hW : w1.alloc (.cells #[.slice none 0 0, .slice none 0 0, .slice none 0 0, .slice none 0 0, .slice none 0 0, .slice none 0 0, .slice none 0 0, .slice none 0 0, .slice none 0 0] 33) = W) : Two9 w W p F (fun _ => []) w1.heap.size (fun k => k = w1.heap.size) (fun _ => []) := by
  have bW : Below w1.heap.size w1 W := by rw [← hW]; exact (Below.refl _ _).alloc (Nat.le_refl _) _
  exact ⟨hb.kept bW, by rw [← hW]; exact rb_new w1, fineF_nil, fineF_nil, frm, fun k hk => by rw [hk]; exact bel.size, fun k hk he => by have := hb.lts k hk; omega, keptW bel bW⟩
/-- The two books beside an id in a box. -/
structure St9 (w wr : World) (p : Nat) (F : Nat → Prop) (f : Nat → List (Nat × Nat)) (r : Nat) (G : Nat → Prop) (g : Nat → List (Nat × Nat)) (bx : Nat) (o : Int) (n : Nat) : Prop where
  two : Two9 w wr p F f r G g
  nf : ¬ F bx
  ng : ¬ G bx
  c0 : wr.cell? ⟨bx, 0, none⟩ = some (.int .i64 o)
  c1 : wr.cell? ⟨bx, 1, none⟩ = some (.int .u64 (n : Int))
theorem St9.goB {w wr wr' : World} {p r bx n : Nat} {o : Int} {F F' G : Nat → Prop} {f f' g : Nat → List (Nat × Nat)} (h : St9 w wr p F f r G g bx o n) (b : Bk wr' p F' f') (m : Moved wr wr' F F') (ff : FineF f') : St9 w wr' p F' f' r G g bx o n := by
  obtain ⟨h1, h2⟩ := m.miss h.nf (World.block_lt_of_cell? _ _ h.c0)
  exact ⟨h.two.goB b m ff, h1, h.ng, (World.cell?_of_block (a := ⟨bx, 0, none⟩) h2).trans h.c0, (World.cell?_of_block (a := ⟨bx, 1, none⟩) h2).trans h.c1⟩
theorem St9.goR {w wr wr' : World} {p r bx n : Nat} {o : Int} {F G G' : Nat → Prop} {f g g' : Nat → List (Nat × Nat)} (h : St9 w wr p F f r G g bx o n) (b : Rb wr' r G' g') (m : Moved wr wr' G G') (fg : FineF g') : St9 w wr' p F f r G' g' bx o n := by
  obtain ⟨h1, h2⟩ := m.miss h.ng (World.block_lt_of_cell? _ _ h.c0)
  exact ⟨h.two.goR b m fg, h.nf, h1, (World.cell?_of_block (a := ⟨bx, 0, none⟩) h2).trans h.c0, (World.cell?_of_block (a := ⟨bx, 1, none⟩) h2).trans h.c1⟩
theorem St9.go {w wr wr' : World} {p r bx n : Nat} {o : Int} {F G : Nat → Prop} {f g : Nat → List (Nat × Nat)} (h : St9 w wr p F f r G g bx o n) (b : Below wr.heap.size wr wr') : St9 w wr' p F f r G g bx o n := h.goB (h.two.b.kept b) (.of_below b) h.two.ff
theorem Two9.box {w wr X : World} {p r : Nat} {F G : Nat → Prop} {f g : Nat → List (Nat × Nat)} {o : Int} {n : Nat} (h : Two9 w wr p F f r G g) (hX : wr.alloc (.cells #[.int .i64 o, .int .u64 (n : Int)] 25) = X) : St9 w X p F f r G g wr.heap.size o n := by
  have bX : Below wr.heap.size wr X := by rw [← hX]; exact (Below.refl _ _).alloc (Nat.le_refl _) _
  obtain ⟨e0, e1⟩ : X.cell? ⟨wr.heap.size, 0, none⟩ = some (.int .i64 o) ∧ X.cell? ⟨wr.heap.size, 1, none⟩ = some (.int .u64 (n : Int)) := by rw [← hX]; exact id_cells wr o n
  exact ⟨h.go bX, fun hf => by have := h.b.lts _ hf; omega, fun hg => by have := h.r.lts _ hg; omega, e0, e1⟩
end Go.Proofs.Ytnlllpgdhnmccaa
