/-
  AN ITEM in a block of its own: made, written, handed back.
-/
import Derived.Test.YtocdfcaakflgpaaSearch
import Derived.Laws.ResultCell
import Derived.Laws.Rows
namespace Go.Proofs.Ytocdfcaakflgpaa
open Go.RowKit Go.Sort

/-- An item in a block of its own. -/
theorem itAt_new (w : World) (x : It) (n : Nat) (hn : n = w.heap.size) : ItAt (w.alloc (.cells #[.int .u64 (x.tag : Int), .int .i64 x.m.o, .int .u64 x.m.s, .int .i64 x.m.hop, .string x.m.ex, .string x.m.key, .string x.m.body, .bool x.again] 38)) n 0 x := by
  subst hn
  constructor <;> simp [World.cell?_alloc_at]
theorem ItAt.same {w w' : World} {b off : Nat} {x : It} (h : ItAt w b off x) (hs : w'.heap[b]? = w.heap[b]?) : ItAt w' b off x := by
  have e : ∀ o, w'.cell? ⟨b, o, none⟩ = w.cell? ⟨b, o, none⟩ := fun o => by simp [World.cell?, hs]
  exact ⟨(e _).trans h.c0, (e _).trans h.c1, (e _).trans h.c2, (e _).trans h.c3, (e _).trans h.c4, (e _).trans h.c5, (e _).trans h.c6, (e _).trans h.c7⟩
/-- A block of items that may be written. -/
def Soft (w : World) (b : Nat) : Prop := ∃ cs, w.heap[b]? = some (.cells cs 38 (0, 0)) ∧ cs.size = 8
theorem Soft.same {w w' : World} {b : Nat} (h : Soft w b) (hs : w'.heap[b]? = w.heap[b]?) : Soft w' b := by
  obtain ⟨cs, h1, h2⟩ := h
  exact ⟨cs, by rw [hs]; exact h1, h2⟩
theorem Soft.frozen {w : World} {b : Nat} (h : Soft w b) (o : Nat) : w.frozen? ⟨b, o, none⟩ = false := by
  obtain ⟨cs, h1, _⟩ := h
  simp [World.frozen?, h1]
theorem Soft.cell {w : World} {b : Nat} (h : Soft w b) (o : Nat) (ho : o < 8) : ∃ u, w.cell? ⟨b, o, none⟩ = some u := by
  obtain ⟨cs, h1, h2⟩ := h
  exact ⟨cs[o]'(by omega), by simp [World.cell?, h1, h2, ho]⟩
/-- Eight cells are written into a block. -/
abbrev put8 (w : World) (g : Nat) (v0 v1 v2 v3 v4 v5 v6 v7 : Value) : World := (((((((w.setCell ⟨g, 0, none⟩ v0).setCell ⟨g, 1, none⟩ v1).setCell ⟨g, 2, none⟩ v2).setCell ⟨g, 3, none⟩ v3).setCell ⟨g, 4, none⟩ v4).setCell ⟨g, 5, none⟩ v5).setCell ⟨g, 6, none⟩ v6).setCell ⟨g, 7, none⟩ v7
theorem put8_at {w : World} {g : Nat} (h : Soft w g) (v0 v1 v2 v3 v4 v5 v6 v7 : Value) : (put8 w g v0 v1 v2 v3 v4 v5 v6 v7).heap[g]? = some (.cells #[v0, v1, v2, v3, v4, v5, v6, v7] 38 (0, 0)) := by
  obtain ⟨⟨l⟩, h1, h2⟩ := h
  match l, h2 with
  | [a0, a1, a2, a3, a4, a5, a6, a7], _ =>
    have e0 := heap_setCell_same w g 0 _ _ v0 h1
    have e1 := heap_setCell_same _ g 1 _ _ v1 e0
    have e2 := heap_setCell_same _ g 2 _ _ v2 e1
    have e3 := heap_setCell_same _ g 3 _ _ v3 e2
    have e4 := heap_setCell_same _ g 4 _ _ v4 e3
    have e5 := heap_setCell_same _ g 5 _ _ v5 e4
    have e6 := heap_setCell_same _ g 6 _ _ v6 e5
    have e7 := heap_setCell_same _ g 7 _ _ v7 e6
    rw [e7]
    simp
theorem put8_other {w : World} {g k : Nat} (v0 v1 v2 v3 v4 v5 v6 v7 : Value) (h : k ≠ g) : (put8 w g v0 v1 v2 v3 v4 v5 v6 v7).heap[k]? = w.heap[k]? := by
  unfold put8
  rw [heap_setCell_other _ _ _ _ h, heap_setCell_other _ _ _ _ h, heap_setCell_other _ _ _ _ h, heap_setCell_other _ _ _ _ h, heap_setCell_other _ _ _ _ h, heap_setCell_other _ _ _ _ h, heap_setCell_other _ _ _ _ h, heap_setCell_other _ _ _ _ h]
theorem put8_size (w : World) (g : Nat) (v0 v1 v2 v3 v4 v5 v6 v7 : Value) : (put8 w g v0 v1 v2 v3 v4 v5 v6 v7).heap.size = w.heap.size := by simp [put8]
theorem item_of_cells {w : World} {g : Nat} {x : It} (h : w.heap[g]? = some (.cells (icells x).toArray 38 (0, 0))) : ItAt w g 0 x := by
  constructor <;> simp [World.cell?, h, icells]
theorem results_item_tmp {fn : Func} {p u : Tmp} (h : fn.results = #[.cell p 38, .tmp u]) (tmps : Array Value) (w : World) (g : Nat) (v0 v1 v2 v3 v4 v5 v6 v7 : Value) (hp : tmps.getD p undef = .pointer (some ⟨g, 0, none⟩)) (hg : w.heap[g]? = some (.cells #[v0, v1, v2, v3, v4, v5, v6, v7] 38 (0, 0))) :
    (results fn tmps).run Try.prog w = .ok (.tuple #[.agg #[v0, v1, v2, v3, v4, v5, v6, v7], tmps.getD u undef]) w := by
  rw [results_cell_tmp h, hp]
  simp [asAddr, run_loadVar_row w g _ _ _ _ _ hg Try.underlying38 rfl info8, Result.andThen]
theorem ret_item {fn : Func} {R : Ending → World → Prop} {a : Act} {w : World} {p u : Tmp} (h : fn.results = #[.cell p 38, .tmp u]) (g : Nat) {v0 v1 v2 v3 v4 v5 v6 v7 r : Value} (hp : a.tmps.getD p undef = .pointer (some ⟨g, 0, none⟩)) (hu : a.tmps.getD u undef = r) (hd : a.defers = [])
    (hg : w.heap[g]? = some (.cells #[v0, v1, v2, v3, v4, v5, v6, v7] 38 (0, 0))) (hR : R (.returned (.tuple #[.agg #[v0, v1, v2, v3, v4, v5, v6, v7], r])) w) : bodyPost Try.prog fn R .ret a w :=
  bodyPost_ret (results_item_tmp h a.tmps w g v0 v1 v2 v3 v4 v5 v6 v7 hp hg) hd (by rw [hu]; exact hR)
end Go.Proofs.Ytocdfcaakflgpaa
