/-
  WHAT IS OF NO PROGRAM: a slice in memory whose values take one cell each, told by the list of its values.
-/
import Derived.WalkKit
import Derived.WalkLawsBesides
import Derived.Handy
import Derived.Laws.AppendOwnNone
import Derived.Laws.MakeOwn
namespace Go.Proofs.YtdbgojmjjkidbaaGreatDoor
open Go.RowKit


/-- In w the slice v holds just these values. -/
def Row (w : World) (v : Value) (cs : List Value) : Prop :=
  (v = .slice none 0 0 ∧ cs = []) ∨
  ∃ a cap, v = .slice (some a) cs.length cap ∧ cs.length ≤ cap ∧ cap ≤ maxLen ∧ ∀ j u, cs[j]? = some u → w.cell? (a.add j) = some u


theorem Row.below {B : Nat} {w w' : World} {v : Value} {cs : List Value} (h : Row w v cs) (hb : Below B w w') (hB : w.heap.size ≤ B) : Row w' v cs := by
  rcases h with h | ⟨a, cap, hv, h1, h2, h3⟩
  · exact .inl h
  · refine .inr ⟨a, cap, hv, h1, h2, fun j u hj => ?_⟩
    have hc := h3 j u hj
    have hlt := World.block_lt_of_cell? w _ hc
    rw [hb.cell (p := a.add j) (by omega)]
    exact hc


/-- A row of the call's own. -/
theorem row_of_owns {w : World} {base : Nat} {e : TypeId} {v : Value} {cs : List Value} (h : w.ownsRow base e 1 v cs.length cs) : Row w v cs := by
  have h' := h
  rcases h.2 with ⟨rfl, hn⟩ | ⟨g, cap, cur, rfl, _, _, hnc, hcm, _, _⟩
  · exact .inl ⟨rfl, List.eq_nil_of_length_eq_zero hn⟩
  · exact .inr ⟨⟨g, 0, none⟩, cap, rfl, hnc, hcm, fun j u hj => h'.cells (g := g) rfl j u hj⟩


theorem Row.slice {w : World} {v : Value} {cs : List Value} (h : Row w v cs) : ∃ a cap, v = .slice a cs.length cap := by
  rcases h with ⟨rfl, rfl⟩ | ⟨a, cap, rfl, _⟩
  · exact ⟨_, _, rfl⟩
  · exact ⟨_, _, rfl⟩


/-- Values that are there lie at plain addresses. -/
theorem Row.at {w : World} {v : Value} {cs : List Value} (h : Row w v cs) (hp : 0 < cs.length) :
    ∃ b off cap, v = .slice (some ⟨b, off, none⟩) cs.length cap ∧ cs.length ≤ cap ∧ cap ≤ maxLen ∧ ∀ j (hj : j < cs.length), w.cell? ⟨b, off + j, none⟩ = some cs[j] := by
  rcases h with ⟨rfl, rfl⟩ | ⟨a, cap, rfl, h1, h2, h3⟩
  · simp at hp
  · obtain ⟨b, off, spot⟩ := a
    have h0 := h3 0 cs[0] (by simp [hp])
    have hspot : spot = none := by simpa [Addr.add] using World.cell?_spot h0
    subst hspot
    refine ⟨b, off, cap, rfl, h1, h2, fun j hj => ?_⟩
    rw [← Go.WideShapes.add_plain]
    exact h3 j _ (by simp [hj])


/-- The first few of a row are a row. -/
theorem Row.take {w : World} {v : Value} {cs : List Value} (h : Row w v cs) (k : Nat) (hk : k ≤ cs.length) (hp : 0 < cs.length) :
    ∃ a cap, v = .slice (some a) cs.length cap ∧ Row w (.slice (some a) k cap) (cs.take k) := by
  rcases h with ⟨rfl, rfl⟩ | ⟨a, cap, rfl, h1, h2, h3⟩
  · simp at hp
  · refine ⟨a, cap, rfl, .inr ⟨a, cap, by rw [List.length_take, Nat.min_eq_left hk], by rw [List.length_take]; omega, h2, fun j u hj => h3 j u ?_⟩⟩
    rw [List.getElem?_take] at hj
    split at hj
    · exact hj
    · cases hj


/-- t is the type of slices of e, whose values take one cell and 'by' bytes each. -/
structure Elem (P : Program) (t e : TypeId) (z : Value) (bytes : Nat) : Prop where
  ht : P.underlying t = some (.slice e)
  info : ∃ i, P.info? e = some i ∧ i.zero = some z ∧ i.size = 1 ∧ i.bytes = bytes
  one : z.cells.size = 1


/-- The slice v is a row of the call's own, from block number base on, and holds these values. -/
def Own1 (w : World) (base : Nat) (e : TypeId) (v : Value) (cs : List Value) : Prop := w.ownsRow base e 1 v cs.length cs


theorem Own1.row {w : World} {base : Nat} {e : TypeId} {v : Value} {cs : List Value} (h : Own1 w base e v cs) : Row w v cs := row_of_owns h

theorem own1_nil (w : World) (base : Nat) (e : TypeId) : Own1 w base e (.slice none 0 0) [] := World.ownsRow_nil _ _ _ _


theorem Own1.belowGrown {w w' w0 : World} {base : Nat} {e : TypeId} {v : Value} {cs : List Value} (h : Own1 w base e v cs) (hg : w.grownBy w' v.ownBlock) (h0 : Below base w0 w) (hb : base ≤ w.heap.size) : Below base w0 w' :=
  h0.grown hg hb (fun k hk => (h.lt k hk).1)


/-- A new row, written out. -/
theorem own1_new (w : World) (base : Nat) (e : TypeId) (cs : List Value) (hb : base ≤ w.heap.size) (hc : cs.length ≤ maxLen) :
    Own1 (w.alloc (.cells cs.toArray e)) base e (.slice (some ⟨w.heap.size, 0, none⟩) cs.length cs.length) cs :=
  ⟨by simp, .inr ⟨w.heap.size, cs.length, _, rfl, hb, heap_alloc_new w _, Nat.le_refl _, hc, by simp, List.take_of_length_le (by simp)⟩⟩


/-- 'append(v, src...)', v of the call's own, src whatever row. -/
theorem wpList_append_row {P : Program} {w : World} {ops : Array Oper} {rest : List Oper} {o : Oper} {a : Act} {Q : Exit → Act → World → Prop} (hgd : o.guard = none) (s x : Operand) (t e : TypeId) (z : Value) (by' : Nat) (U : Elem P t e z by')
    (ho : o.op = .call { callee := .builtin .append, args := #[s, x], argTypes := #[t, t] }) (base : Nat) (v src : Value) (xs ys : List Value) (hs : a.eval s = v) (hx : a.eval x = src)
    (hown : Own1 w base e v xs) (hy : Row w src ys) (h1 : ∀ u ∈ ys, u.oneCell' = true) (hlen : xs.length + ys.length ≤ 140737488355328) (hlen' : (xs.length + ys.length) * by' ≤ 140737488355328) (hbase : base ≤ w.heap.size)
    (h : ∀ v' w', Own1 w' base e v' (xs ++ ys) → Below base w w' → base ≤ w'.heap.size → wpList P ops Q rest (a.put o.dst v') w') : wpList P ops Q (o :: rest) a w := by
  obtain ⟨i, hi, hz, hsz, hby⟩ := U.info
  rcases hy with ⟨rfl, rfl⟩ | ⟨ad, cap, rfl, h2, h3, h4⟩
  · refine wpList_append_own_none hgd s x t ho base e i 1 U.ht hi v xs.length xs hs hown hx ?_
    exact h v w (by simpa [Own1] using hown) (Below.refl _ _) hbase
  · refine wpList_append_own w hgd s x t ho base e i z 1 by' U.ht hi hz hsz hby U.one (by decide) v xs.length xs hs hown ad ys.length cap ys hx (by simp) h4 h1
      (by unfold maxLen; omega) hlen' hbase ?_
    intro v' w' ho' hg _
    refine h v' w' ?_ (Own1.belowGrown hown hg (Below.refl _ _) hbase) (Nat.le_trans hbase hg.size)
    unfold Own1
    rw [List.length_append]
    exact ho'


theorem ret_bool {a b : Bool} (h : a = b) : Ending.returned (.bool a) = .returned (.bool b) := by rw [h]

theorem ret_int {k : IntKind} {a b : Int} (h : a = b) : Ending.returned (.int k a) = .returned (.int k b) := by rw [h]


/-- The cells of a list of ints. -/
def icells (l : List Int) : List Value := l.map (Value.int .i64)

theorem icells_length (l : List Int) : (icells l).length = l.length := by simp [icells]

theorem icells_append (a b : List Int) : icells (a ++ b) = icells a ++ icells b := by simp [icells]

theorem icells_one (l : List Int) : ∀ u ∈ icells l, u.oneCell' = true := by
  intro u hu
  simp only [icells, List.mem_map] at hu
  obtain ⟨b, _, rfl⟩ := hu
  rfl

/-- Ints that are there lie at plain addresses. -/
theorem Row.atInts {w : World} {v : Value} {l : List Int} (h : Row w v (icells l)) (hp : 0 < l.length) :
    ∃ b off cap, v = .slice (some ⟨b, off, none⟩) l.length cap ∧ l.length ≤ cap ∧ cap ≤ maxLen ∧ ∀ j (hj : j < l.length), w.cell? ⟨b, off + j, none⟩ = some (.int .i64 l[j]) := by
  obtain ⟨b, off, cap, hv, h1, h2, h3⟩ := h.at (by rw [icells_length]; exact hp)
  rw [icells_length] at hv h1
  refine ⟨b, off, cap, hv, h1, h2, fun j hj => ?_⟩
  rw [h3 j (by rw [icells_length]; exact hj)]
  simp [icells]

theorem Row.sliceInts {w : World} {v : Value} {l : List Int} (h : Row w v (icells l)) : ∃ a cap, v = .slice a l.length cap := by
  obtain ⟨a, cap, hv⟩ := h.slice
  rw [icells_length] at hv
  exact ⟨a, cap, hv⟩

theorem row_one (w : World) (e : TypeId) (u : Value) : Row (w.alloc (.cells #[u] e)) (.slice (some ⟨w.heap.size, 0, none⟩) 1 1) [u] :=
  (own1_new w w.heap.size e [u] (Nat.le_refl _) (by simp [maxLen])).row

end Go.Proofs.YtdbgojmjjkidbaaGreatDoor
