/-
  SLICES OF STRUCTS in memory, told by the list of what they hold. Of no program: 'enc' says which cells an element has, K how many.
-/
import Derived.Test.YtkdjpleedaldcaaChecked
import Derived.WalkLawsBesides
import Derived.Handy
import Derived.Laws.AppendOwnNone
import Derived.Laws.MakeOwn
import Derived.ArgAppend
import Derived.OwnWalk
import Derived.BigQuiet
import Derived.Maps.AppendAt
namespace Go.Proofs.Ytkdjpleedaldcaa
open Go.RowKit

/-- An element has K cells. -/
class Enc {α : Type} (enc : α → List Value) (K : outParam Nat) : Prop where
  len : ∀ x, (enc x).length = K
  one : ∀ x, ∀ u ∈ enc x, u.oneCell' = true
  pos : 0 < K

section
variable {α : Type} {enc : α → List Value} {K : Nat} [E : Enc enc K]
/-- The cells that hold these elements. -/
def cellsOf (enc : α → List Value) (l : List α) : List Value := l.flatMap enc
omit E in
theorem cellsOf_nil : cellsOf enc [] = [] := rfl
omit E in
theorem cellsOf_cons (r : α) (l : List α) : cellsOf enc (r :: l) = enc r ++ cellsOf enc l := rfl
omit E in
theorem cellsOf_append (a b : List α) : cellsOf enc (a ++ b) = cellsOf enc a ++ cellsOf enc b := by simp [cellsOf]
theorem cellsOf_length (l : List α) : (cellsOf enc l).length = l.length * K := by
  induction l with
  | nil => simp [cellsOf_nil]
  | cons r t ih => rw [cellsOf_cons, List.length_append, ih, E.len, List.length_cons, Nat.succ_mul, Nat.add_comm]
include E in
theorem cellsOf_one (l : List α) : ∀ u ∈ cellsOf enc l, u.oneCell' = true := by
  intro u hu
  simp only [cellsOf, List.mem_flatMap] at hu
  obtain ⟨r, _, hu⟩ := hu
  exact E.one r u hu
theorem cellsOf_take (l : List α) (k : Nat) : (cellsOf enc l).take (k * K) = cellsOf enc (l.take k) := by
  induction l generalizing k with
  | nil => simp [cellsOf_nil]
  | cons r t ih =>
    cases k with
    | zero => simp [cellsOf_nil]
    | succ k => rw [cellsOf_cons, List.take_append, E.len, List.take_of_length_le (by rw [E.len, Nat.succ_mul]; exact Nat.le_add_left _ _), Nat.succ_mul, Nat.add_sub_cancel, ih, List.take_succ_cons, cellsOf_cons]
theorem cellsOf_drop (l : List α) (k : Nat) : (cellsOf enc l).drop (k * K) = cellsOf enc (l.drop k) := by
  induction l generalizing k with
  | nil => simp [cellsOf_nil]
  | cons r t ih =>
    cases k with
    | zero => simp
    | succ k => rw [cellsOf_cons, List.drop_append, E.len, List.drop_eq_nil_of_le (by rw [E.len, Nat.succ_mul]; exact Nat.le_add_left _ _), Nat.succ_mul, Nat.add_sub_cancel, ih, List.drop_succ_cons, List.nil_append]
theorem cellsOf_get (l : List α) (i j : Nat) (h : i < l.length) (hj : j < K) : (cellsOf enc l)[i * K + j]? = (enc l[i])[j]? := by
  have h1 : (cellsOf enc l)[i * K + j]? = ((cellsOf enc l).drop (i * K))[j]? := by rw [List.getElem?_drop]
  rw [h1, cellsOf_drop, List.drop_eq_getElem_cons h, cellsOf_cons, List.getElem?_append_left (by rw [E.len]; exact hj)]

/-- In w the slice v holds just these elements. -/
def RowOf (enc : α → List Value) (w : World) (v : Value) (l : List α) : Prop :=
  (v = .slice none 0 0 ∧ l = []) ∨
  ∃ a cap, v = .slice (some a) l.length cap ∧ l.length ≤ cap ∧ cap ≤ maxLen ∧ ∀ j u, (cellsOf enc l)[j]? = some u → w.cell? (a.add j) = some u

theorem Addr.block_add (a : Addr) (j : Nat) : (a.add j).block = a.block := by unfold Addr.add; split <;> rfl
omit E in
theorem rowOf_nil (w : World) : RowOf enc w (.slice none 0 0) [] := .inl ⟨rfl, rfl⟩
omit E in
theorem RowOf.below {B : Nat} {w w' : World} {v : Value} {l : List α} (h : RowOf enc w v l) (hb : Below B w w') (hB : w.heap.size ≤ B) : RowOf enc w' v l := by
  rcases h with h | ⟨a, cap, hv, h1, h2, h3⟩
  · exact .inl h
  · refine .inr ⟨a, cap, hv, h1, h2, fun j u hj => ?_⟩
    have hc := h3 j u hj
    have hlt := World.block_lt_of_cell? w _ hc
    rw [hb.cell (p := a.add j) (by omega)]
    exact hc
omit E in
/-- .. whatever else changes, as long as its own block does not. -/
theorem RowOf.same {w w' : World} {v : Value} {l : List α} (h : RowOf enc w v l) (hs : ∀ g, v.ownBlock = some g → w'.heap[g]? = w.heap[g]?) : RowOf enc w' v l := by
  rcases h with h | ⟨a, cap, rfl, h1, h2, h3⟩
  · exact .inl h
  · refine .inr ⟨a, cap, rfl, h1, h2, fun j u hj => ?_⟩
    have hc := h3 j u hj
    have := hs a.block rfl
    simp only [World.cell?, Addr.block_add] at hc ⊢
    rw [this]; exact hc
omit E in
theorem RowOf.slice {w : World} {v : Value} {l : List α} (h : RowOf enc w v l) : ∃ a cap, v = .slice a l.length cap := by
  rcases h with ⟨rfl, rfl⟩ | ⟨a, cap, rfl, _⟩
  · exact ⟨_, _, rfl⟩
  · exact ⟨_, _, rfl⟩
include E in
/-- Elements that are there lie at plain addresses. -/
theorem RowOf.at {w : World} {v : Value} {l : List α} (h : RowOf enc w v l) (hp : 0 < l.length) :
    ∃ b off cap, v = .slice (some ⟨b, off, none⟩) l.length cap ∧ l.length ≤ cap ∧ cap ≤ maxLen ∧ ∀ j u, (cellsOf enc l)[j]? = some u → w.cell? ⟨b, off + j, none⟩ = some u := by
  rcases h with ⟨rfl, rfl⟩ | ⟨a, cap, rfl, h1, h2, h3⟩
  · simp at hp
  · obtain ⟨b, off, spot⟩ := a
    have hl : 0 < (cellsOf enc l).length := by rw [cellsOf_length (enc := enc)]; exact Nat.mul_pos hp E.pos
    have h0 := h3 0 _ (List.getElem?_eq_getElem hl)
    have hspot : spot = none := by simpa [Addr.add] using World.cell?_spot h0
    subst hspot
    refine ⟨b, off, cap, rfl, h1, h2, fun j u hj => ?_⟩
    rw [← Go.WideShapes.add_plain]
    exact h3 j u hj
theorem row_cell {w : World} {b off : Nat} {l : List α} (h : ∀ j u, (cellsOf enc l)[j]? = some u → w.cell? ⟨b, off + j, none⟩ = some u) (i : Nat) (hi : i < l.length) (j : Nat) (hj : j < K) (u : Value) (hu : (enc l[i])[j]? = some u) :
    w.cell? ⟨b, off + i * K + j, none⟩ = some u := by
  rw [Nat.add_assoc]
  exact h _ _ (by rw [cellsOf_get l i j hi hj]; exact hu)

/-- The slice v is a row of the call's own, from block number base on, and holds these elements. -/
def OwnOf (enc : α → List Value) (K : Nat) (T : TypeId) (w : World) (base : Nat) (v : Value) (l : List α) : Prop := w.ownsRow base T K v l.length (cellsOf enc l)
variable {T : TypeId}
omit E in
theorem ownOf_nil (w : World) (base : Nat) : OwnOf enc K T w base (.slice none 0 0) [] := World.ownsRow_nil _ _ _ _
omit E in
theorem OwnOf.rng {w : World} {base : Nat} {v : Value} {l : List α} (h : OwnOf enc K T w base v l) : RowOf enc w v l := by
  have h' := h
  rcases h.2 with ⟨rfl, hn⟩ | ⟨g, cap, cur, rfl, _, _, hnc, hcm, _, _⟩
  · exact .inl ⟨rfl, List.eq_nil_of_length_eq_zero hn⟩
  · exact .inr ⟨⟨g, 0, none⟩, cap, rfl, hnc, hcm, fun j u hj => World.ownsRow.cells h' (g := g) rfl j u hj⟩
omit E in
theorem OwnOf.mono {w : World} {b c : Nat} {v : Value} {l : List α} (h : OwnOf enc K T w b v l) (hc : c ≤ b) : OwnOf enc K T w c v l := by
  refine ⟨h.1, ?_⟩
  rcases h.2 with hn | ⟨g, cap, cur, hv, hbg, hg, rest⟩
  · exact .inl hn
  · exact .inr ⟨g, cap, cur, hv, by omega, hg, rest⟩
omit E in
/-- .. whatever else changes, as long as its own block does not. -/
theorem OwnOf.same {w w' : World} {b : Nat} {v : Value} {l : List α} (h : OwnOf enc K T w b v l) (hs : ∀ g, v.ownBlock = some g → w'.heap[g]? = w.heap[g]?) : OwnOf enc K T w' b v l := by
  refine ⟨h.1, ?_⟩
  rcases h.2 with hn | ⟨g, cap, cur, hv, hbg, hg, rest⟩
  · exact .inl hn
  · exact .inr ⟨g, cap, cur, hv, hbg, by rw [hs g (by rw [hv]; rfl)]; exact hg, rest⟩
omit E in
theorem OwnOf.lt {w : World} {b : Nat} {v : Value} {l : List α} (h : OwnOf enc K T w b v l) {g : Nat} (hg : v.ownBlock = some g) : b ≤ g ∧ g < w.heap.size := World.ownsRow.lt h g hg
omit E in
theorem OwnOf.kept {w w' : World} {b B : Nat} {v : Value} {l : List α} (h : OwnOf enc K T w b v l) (hb : Below B w w') (hB : w.heap.size ≤ B) : OwnOf enc K T w' b v l :=
  h.same fun g hg => hb.block g (by have := (h.lt hg).2; omega)
omit E in
theorem OwnOf.alloc {w : World} {b : Nat} {v : Value} {l : List α} (h : OwnOf enc K T w b v l) (o : Obj) : OwnOf enc K T (w.alloc o) b v l := World.ownsRow.alloc h o
omit E in
theorem OwnOf.below {w w' w0 : World} {base B : Nat} {v : Value} {l : List α} (h : OwnOf enc K T w base v l) (hg : w.grownBy w' v.ownBlock) (h0 : Below B w0 w) (hb : B ≤ w.heap.size) (hB : B ≤ base) : Below B w0 w' :=
  h0.grown hg hb (fun k hk => by have := (World.ownsRow.lt h k hk).1; omega)
/-- One element in a block of its own. -/
theorem ownOf_one (w : World) (base : Nat) (x : α) (hb : base ≤ w.heap.size) :
    OwnOf enc K T (w.alloc (.cells (enc x).toArray T)) base (.slice (some ⟨w.heap.size, 0, none⟩) 1 1) [x] :=
  ⟨by simp [cellsOf_cons, cellsOf_nil, E.len], .inr ⟨w.heap.size, 1, _, rfl, hb, heap_alloc_new w _, Nat.le_refl _, by simp [maxLen], by simp [E.len], by simp [cellsOf_cons, cellsOf_nil]; exact List.take_of_length_le (by simp [E.len])⟩⟩
include E in
theorem rowK_one (w : World) (x : α) (n : Nat) (hn : n = w.heap.size) : RowOf enc (w.alloc (.cells (enc x).toArray T)) (.slice (some ⟨n, 0, none⟩) 1 1) [x] := by
  subst hn
  exact (ownOf_one (T := T) w w.heap.size x (Nat.le_refl _)).rng
omit E in
theorem ownOf_empty (w : World) (base : Nat) (hb : base ≤ w.heap.size) : OwnOf enc K T (w.alloc (.cells #[] T)) base (.slice (some ⟨w.heap.size, 0, none⟩) 0 0) [] :=
  ⟨by simp [cellsOf_nil], .inr ⟨w.heap.size, 0, _, rfl, hb, heap_alloc_new w _, Nat.le_refl _, Nat.zero_le _, by simp, by simp [cellsOf_nil]⟩⟩

/-- The row's block is the elder's, or new. -/
def NewOr (w : World) (v v' : Value) : Prop := v'.ownBlock = v.ownBlock ∨ ∃ g, v'.ownBlock = some g ∧ w.heap.size ≤ g

omit E in
theorem OwnOf.split {w : World} {base : Nat} {v : Value} {l : List α} (h : OwnOf enc K T w base v l) : (v = .slice none 0 0 ∧ l = []) ∨
    ∃ g c R, v = .slice (some ⟨g, 0, none⟩) l.length c ∧ base ≤ g ∧ w.heap[g]? = some (.cells (cellsOf enc l ++ R).toArray T (0, 0)) ∧ l.length ≤ c ∧ c ≤ maxLen ∧ R.length = c * K - l.length * K := by
  rcases h.2 with ⟨rfl, h0⟩ | ⟨g, c, cur, hv, hb, hg, h1, h2, h3, h4⟩
  · exact .inl ⟨rfl, List.eq_nil_of_length_eq_zero h0⟩
  · refine .inr ⟨g, c, cur.toList.drop (l.length * K), hv, hb, ?_, h1, h2, by simp [h3]⟩
    rw [← h4, List.take_append_drop]
    simpa using hg
theorem ownOf_mk {w : World} {base g n c : Nat} {l : List α} {R : List Value} (hb : base ≤ g) (hg : w.heap[g]? = some (.cells (cellsOf enc l ++ R).toArray T (0, 0))) (hn : n = l.length) (hc : l.length ≤ c) (hm : c ≤ maxLen) (hT : R.length = c * K - l.length * K) :
    OwnOf enc K T w base (.slice (some ⟨g, 0, none⟩) n c) l := by
  subst hn
  have hle := Nat.mul_le_mul_right K hc
  refine ⟨cellsOf_length l, .inr ⟨g, c, _, rfl, hb, hg, hc, hm, ?_, ?_⟩⟩
  · have := cellsOf_length (enc := enc) l
    simp [this, hT]; omega
  · rw [← cellsOf_length (enc := enc) l]
    simp

/-- 'append(v, src...)', v of the call's own, src whatever holds such elements. -/
theorem run_append_rows {P : Program} {w : World} (S ty : TypeId) (hS : P.underlying S = some (.slice T)) (i : TypeInfo) (z : Value) (bytes : Nat) (hi : P.info? T = some i) (hz : i.zero = some z) (hsz : i.size = K) (hby : i.bytes = bytes) (hzs : z.cells.size = K)
    (base : Nat) (v src : Value) (xs ys : List α) (hown : OwnOf enc K T w base v xs) (hy : RowOf enc w src ys) (hl : xs.length + ys.length ≤ maxLen) (hlen : (xs.length + ys.length) * bytes ≤ 140737488355328) (hbase : base ≤ w.heap.size) :
    ∃ v' w', (Builtin.append_ #[S, S] ty #[v, src]).run P w = .ok v' w' ∧ OwnOf enc K T w' base v' (xs ++ ys) ∧ w.grownBy w' v.ownBlock ∧ NewOr w v v' := by
  rcases hy with ⟨rfl, rfl⟩ | ⟨ad, cap, rfl, h1, h2, h3⟩
  · exact ⟨v, w, run_append_owned_none (P := P) (w := w) base S ty T i K hS hi v xs.length (cellsOf enc xs) hown, by simpa [OwnOf] using hown, ⟨rfl, rfl, rfl, Nat.le_refl _, fun _ _ _ => rfl⟩, .inl rfl⟩
  · obtain ⟨v', w', hr, ho', hg, _, hloc⟩ := run_append_own_at (P := P) w base S ty T i z K bytes hS hi hz hsz hby hzs E.pos v xs.length (cellsOf enc xs) hown ad ys.length cap (cellsOf enc ys) (cellsOf_length ys) h3 (cellsOf_one ys) hl hlen hbase
    refine ⟨v', w', hr, ?_, hg, hloc.imp id fun h => ⟨_, h, Nat.le_refl _⟩⟩
    unfold OwnOf
    rw [cellsOf_append, List.length_append]
    exact ho'
theorem wpList_append_rows {P : Program} {w : World} {ops : Array Oper} {rest : List Oper} {o : Oper} {a : Act} {Q : Exit → Act → World → Prop} (hgd : o.guard = none) (s x : Operand) (S : TypeId)
    (ho : o.op = .call { callee := .builtin .append, args := #[s, x], argTypes := #[S, S] }) (hS : P.underlying S = some (.slice T)) (i : TypeInfo) (z : Value) (bytes : Nat) (hi : P.info? T = some i) (hz : i.zero = some z) (hsz : i.size = K) (hby : i.bytes = bytes) (hzs : z.cells.size = K)
    (base : Nat) (v src : Value) (xs ys : List α) (hs : a.eval s = v) (hx : a.eval x = src)
    (hown : OwnOf enc K T w base v xs) (hy : RowOf enc w src ys) (hl : xs.length + ys.length ≤ maxLen) (hlen : (xs.length + ys.length) * bytes ≤ 140737488355328) (hbase : base ≤ w.heap.size)
    (h : ∀ v' w', OwnOf enc K T w' base v' (xs ++ ys) → w.grownBy w' v.ownBlock → NewOr w v v' → wpList P ops Q rest (a.put o.dst v') w') : wpList P ops Q (o :: rest) a w := by
  refine wpList_plain hgd fun _ hK => ?_
  obtain ⟨v', w', hr, h2, h3, h4⟩ := run_append_rows (P := P) (w := w) S o.type hS i z bytes hi hz hsz hby hzs base v src xs ys hown hy hl hlen hbase
  unfold Oper.wp execOp
  simp only [ho, resolve, invoke, builtin, Sem.run_bind, Sem.run_pure, Result.andThen_ok, List.map_toArray, List.map_cons, List.map_nil, hs, hx, hr]
  exact hK _ _ (h v' w' h2 h3 h4)
/-- .. as a step of a region. -/
theorem step_append_rows {P : Program} {w : World} {ops : Array Oper} {o : Oper} {a : Act} {J : Act → World → Prop} {Q : Exit → Act → World → Prop} {F : Prop} (hgd : o.guard = none) (s x : Operand) (S : TypeId)
    (ho : o.op = .call { callee := .builtin .append, args := #[s, x], argTypes := #[S, S] }) (hS : P.underlying S = some (.slice T)) (i : TypeInfo) (z : Value) (bytes : Nat) (hi : P.info? T = some i) (hz : i.zero = some z) (hsz : i.size = K) (hby : i.bytes = bytes) (hzs : z.cells.size = K)
    (base : Nat) (v src : Value) (xs ys : List α) (hs : a.eval s = v) (hx : a.eval x = src)
    (hown : OwnOf enc K T w base v xs) (hy : RowOf enc w src ys) (hl : xs.length + ys.length ≤ maxLen) (hlen : (xs.length + ys.length) * bytes ≤ 140737488355328) (hbase : base ≤ w.heap.size)
    (h : ∀ v' w', OwnOf enc K T w' base v' (xs ++ ys) → w.grownBy w' v.ownBlock → NewOr w v v' → J (a.put o.dst v') w') : if Region.wanted o (yielded ops a.tmps) = true then Oper.wp P o a w J Q else F := by
  have hw : Region.wanted o (yielded ops a.tmps) = true := by simp [Region.wanted, hgd]
  rw [if_pos hw]
  obtain ⟨v', w', hr, h2, h3, h4⟩ := run_append_rows (P := P) (w := w) S o.type hS i z bytes hi hz hsz hby hzs base v src xs ys hown hy hl hlen hbase
  unfold Oper.wp execOp
  simp only [ho, resolve, invoke, builtin, Sem.run_bind, Sem.run_pure, Result.andThen_ok, List.map_toArray, List.map_cons, List.map_nil, hs, hx, hr]
  exact h v' w' h2 h3 h4
end
theorem le_alloc {w : World} {n : Nat} (h : n ≤ w.heap.size) (o : Obj) : n ≤ (w.alloc o).heap.size := by rw [World.size_alloc]; omega
theorem retK_bool {a b : Bool} (h : a = b) : Ending.returned (.bool a) = .returned (.bool b) := by rw [h]
theorem retK_int {k : IntKind} {a b : Int} (h : a = b) : Ending.returned (.int k a) = .returned (.int k b) := by rw [h]
theorem drop_more {α : Type} {A M : List α} {n k : Nat} (hA : A.length = n) : (A ++ M).drop (n + k) = M.drop k := by
  rw [List.drop_append, List.drop_eq_nil_of_le (by omega), hA]; simp
end Go.Proofs.Ytkdjpleedaldcaa
