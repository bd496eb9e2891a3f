/-
  SLICES OF RANGES in memory, told by the list of the ranges.
-/
import Derived.Test.YtnlllpgdhnmccaaSpans
import Derived.Test.YtnlllpgdhnmccaaChecked
import Derived.WalkLawsBesides
import Derived.Handy
import Derived.Laws.AppendOwnNone
import Derived.Laws.MakeOwn
import Derived.ArgAppend
import Derived.OwnWalk
import Derived.BigQuiet
namespace Go.Proofs.Ytnlllpgdhnmccaa
open Go.RowKit

/-- The cells that hold these ranges. -/
def rcells (l : List (Nat × Nat)) : List Value := l.flatMap fun r => [.int .u64 (r.1 : Int), .int .u64 (r.2 : Int)]
theorem rcells_nil : rcells [] = [] := rfl
theorem rcells_cons (r : Nat × Nat) (l : List (Nat × Nat)) : rcells (r :: l) = .int .u64 (r.1 : Int) :: .int .u64 (r.2 : Int) :: rcells l := rfl
theorem rcells_append (a b : List (Nat × Nat)) : rcells (a ++ b) = rcells a ++ rcells b := by simp [rcells]
theorem rcells_length (l : List (Nat × Nat)) : (rcells l).length = l.length * 2 := by
  induction l with
  | nil => rfl
  | cons r t ih => rw [rcells_cons, List.length_cons, List.length_cons, ih, List.length_cons]; omega
theorem rcells_one (l : List (Nat × Nat)) : ∀ u ∈ rcells l, u.oneCell' = true := by
  intro u hu
  simp only [rcells, List.mem_flatMap] at hu
  obtain ⟨r, _, hu⟩ := hu
  simp at hu
  rcases hu with rfl | rfl <;> rfl
theorem rcells_take (l : List (Nat × Nat)) (k : Nat) : (rcells l).take (k * 2) = rcells (l.take k) := by
  induction l generalizing k with
  | nil => simp [rcells_nil]
  | cons r t ih =>
    cases k with
    | zero => simp [rcells_nil]
    | succ k => rw [show (k + 1) * 2 = k * 2 + 1 + 1 by omega, rcells_cons, List.take_succ_cons, List.take_succ_cons, ih, List.take_succ_cons, rcells_cons]
theorem rcells_drop (l : List (Nat × Nat)) (k : Nat) : (rcells l).drop (k * 2) = rcells (l.drop k) := by
  induction l generalizing k with
  | nil => simp [rcells_nil]
  | cons r t ih =>
    cases k with
    | zero => simp
    | succ k => rw [show (k + 1) * 2 = k * 2 + 1 + 1 by omega, rcells_cons, List.drop_succ_cons, List.drop_succ_cons, ih, List.drop_succ_cons]
theorem rcells_get (l : List (Nat × Nat)) (i : Nat) (h : i < l.length) : (rcells l)[i * 2]? = some (.int .u64 (l[i].1 : Int)) ∧ (rcells l)[i * 2 + 1]? = some (.int .u64 (l[i].2 : Int)) := by
  induction l generalizing i with
  | nil => simp at h
  | cons r t ih =>
    cases i with
    | zero => simp [rcells_cons]
    | succ i =>
      have := ih i (by simpa using h)
      rw [show (i + 1) * 2 = i * 2 + 1 + 1 by omega, rcells_cons]
      simpa using this
theorem rcells_inj {a b : List (Nat × Nat)} (h : rcells a = rcells b) : a = b := by
  induction a generalizing b with
  | nil => cases b with
    | nil => rfl
    | cons s u => simp [rcells_cons, rcells_nil] at h
  | cons r t ih => cases b with
    | nil => simp [rcells_cons, rcells_nil] at h
    | cons s u =>
      simp only [rcells_cons, List.cons.injEq, Value.int.injEq, true_and] at h
      obtain ⟨h1, h2, h3⟩ := h
      rw [ih h3]
      congr 1
      exact Prod.ext (by omega) (by omega)

/-- In w the slice v holds just these ranges. -/
def Rng (w : World) (v : Value) (l : List (Nat × Nat)) : Prop :=
  (v = .slice none 0 0 ∧ l = []) ∨
  ∃ a cap, v = .slice (some a) l.length cap ∧ l.length ≤ cap ∧ cap ≤ maxLen ∧ ∀ j u, (rcells l)[j]? = some u → w.cell? (a.add j) = some u

theorem Addr.block_add (a : Addr) (j : Nat) : (a.add j).block = a.block := by unfold Addr.add; split <;> rfl
theorem rng_nil (w : World) : Rng w (.slice none 0 0) [] := .inl ⟨rfl, rfl⟩
theorem Rng.below {B : Nat} {w w' : World} {v : Value} {l : List (Nat × Nat)} (h : Rng w v l) (hb : Below B w w') (hB : w.heap.size ≤ B) : Rng w' v l := by
  rcases h with h | ⟨a, cap, hv, h1, h2, h3⟩
  · exact .inl h
  · refine .inr ⟨a, cap, hv, h1, h2, fun j u hj => ?_⟩
    have hc := h3 j u hj
    have hlt := World.block_lt_of_cell? w _ hc
    rw [hb.cell (p := a.add j) (by omega)]
    exact hc
theorem Rng.slice {w : World} {v : Value} {l : List (Nat × Nat)} (h : Rng w v l) : ∃ a cap, v = .slice a l.length cap := by
  rcases h with ⟨rfl, rfl⟩ | ⟨a, cap, rfl, _⟩
  · exact ⟨_, _, rfl⟩
  · exact ⟨_, _, rfl⟩
/-- Ranges that are there lie at plain addresses. -/
theorem Rng.at {w : World} {v : Value} {l : List (Nat × Nat)} (h : Rng w v l) (hp : 0 < l.length) :
    ∃ b off cap, v = .slice (some ⟨b, off, none⟩) l.length cap ∧ l.length ≤ cap ∧ cap ≤ maxLen ∧ ∀ j u, (rcells l)[j]? = some u → w.cell? ⟨b, off + j, none⟩ = some u := by
  rcases h with ⟨rfl, rfl⟩ | ⟨a, cap, rfl, h1, h2, h3⟩
  · simp at hp
  · obtain ⟨b, off, spot⟩ := a
    have h0 := h3 0 _ (rcells_get l 0 hp).1
    have hspot : spot = none := by simpa [Addr.add] using World.cell?_spot h0
    subst hspot
    refine ⟨b, off, cap, rfl, h1, h2, fun j u hj => ?_⟩
    rw [← Go.WideShapes.add_plain]
    exact h3 j u hj
theorem at_cells {w : World} {b off : Nat} {l : List (Nat × Nat)} (h : ∀ j u, (rcells l)[j]? = some u → w.cell? ⟨b, off + j, none⟩ = some u) (i : Nat) (hi : i < l.length) :
    w.cell? ⟨b, off + i * 2, none⟩ = some (.int .u64 (l[i].1 : Int)) ∧ w.cell? ⟨b, off + i * 2 + 1, none⟩ = some (.int .u64 (l[i].2 : Int)) := by
  have := rcells_get l i hi
  exact ⟨h _ _ this.1, by rw [Nat.add_assoc]; exact h _ _ this.2⟩

theorem rngInfo : ∃ i, Try.prog.info? 76 = some i ∧ i.zero = some (.agg #[.int .u64 0, .int .u64 0]) ∧ i.size = 2 ∧ i.bytes = 16 := by
  have hinfo : (Try.prog.info? 76).map (fun i => (i.zero, i.size, i.bytes)) = some (some (.agg #[.int .u64 0, .int .u64 0]), 2, 16) := by kernel_rfl
  exact info_parts hinfo

/-- The slice v is a row of the call's own, from block number base on, and holds these ranges. -/
def Own2 (w : World) (base : Nat) (v : Value) (l : List (Nat × Nat)) : Prop := w.ownsRow base 76 2 v l.length (rcells l)
theorem own2_nil (w : World) (base : Nat) : Own2 w base (.slice none 0 0) [] := World.ownsRow_nil _ _ _ _
theorem Own2.rng {w : World} {base : Nat} {v : Value} {l : List (Nat × Nat)} (h : Own2 w base v l) : Rng w v l := by
  have h' := h
  rcases h.2 with ⟨rfl, hn⟩ | ⟨g, cap, cur, rfl, _, _, hnc, hcm, _, _⟩
  · exact .inl ⟨rfl, List.eq_nil_of_length_eq_zero hn⟩
  · exact .inr ⟨⟨g, 0, none⟩, cap, rfl, hnc, hcm, fun j u hj => World.ownsRow.cells h' (g := g) rfl j u hj⟩
theorem Own2.mono {w : World} {b c : Nat} {v : Value} {l : List (Nat × Nat)} (h : Own2 w b v l) (hc : c ≤ b) : Own2 w c v l := by
  refine ⟨h.1, ?_⟩
  rcases h.2 with hn | ⟨g, cap, cur, hv, hbg, hg, rest⟩
  · exact .inl hn
  · exact .inr ⟨g, cap, cur, hv, by omega, hg, rest⟩
theorem Own2.kept {w w' : World} {b B : Nat} {v : Value} {l : List (Nat × Nat)} (h : Own2 w b v l) (hb : Below B w w') (hB : w.heap.size ≤ B) : Own2 w' b v l := by
  refine ⟨h.1, ?_⟩
  rcases h.2 with hn | ⟨g, cap, cur, hv, hbg, hg, rest⟩
  · exact .inl hn
  · refine .inr ⟨g, cap, cur, hv, hbg, ?_, rest⟩
    rw [hb.block g (by have := (Array.getElem?_eq_some_iff.1 hg).1; omega)]
    exact hg
theorem Own2.alloc {w : World} {b : Nat} {v : Value} {l : List (Nat × Nat)} (h : Own2 w b v l) (o : Obj) : Own2 (w.alloc o) b v l := World.ownsRow.alloc h o
/-- .. whatever else changes, as long as its own block does not. -/
theorem Own2.same {w w' : World} {b : Nat} {v : Value} {l : List (Nat × Nat)} (h : Own2 w b v l) (hs : ∀ g, v.ownBlock = some g → w'.heap[g]? = w.heap[g]?) : Own2 w' b v l := by
  refine ⟨h.1, ?_⟩
  rcases h.2 with hn | ⟨g, cap, cur, hv, hbg, hg, rest⟩
  · exact .inl hn
  · exact .inr ⟨g, cap, cur, hv, hbg, by rw [hs g (by rw [hv]; rfl)]; exact hg, rest⟩
theorem Own2.below {w w' w0 : World} {base B : Nat} {v : Value} {l : List (Nat × Nat)} (h : Own2 w base v l) (hg : w.grownBy w' v.ownBlock) (h0 : Below B w0 w) (hb : B ≤ w.heap.size) (hB : B ≤ base) : Below B w0 w' :=
  h0.grown hg hb (fun k hk => by have := (World.ownsRow.lt h k hk).1; omega)
/-- One range in a block of its own. -/
theorem own2_one (w : World) (base : Nat) (r : Nat × Nat) (hb : base ≤ w.heap.size) :
    Own2 (w.alloc (.cells #[.int .u64 (r.1 : Int), .int .u64 (r.2 : Int)] 76)) base (.slice (some ⟨w.heap.size, 0, none⟩) 1 1) [r] :=
  ⟨by simp [rcells_cons, rcells_nil], .inr ⟨w.heap.size, 1, _, rfl, hb, heap_alloc_new w _, Nat.le_refl _, by simp [maxLen], by simp, by simp [rcells_cons, rcells_nil]⟩⟩

/-- 'append(v, src...)', v of the call's own, src whatever holds ranges. -/
theorem wpList_append_rng {w : World} {ops : Array Oper} {rest : List Oper} {o : Oper} {a : Act} {Q : Exit → Act → World → Prop} (hgd : o.guard = none) (s x : Operand)
    (ho : o.op = .call { callee := .builtin .append, args := #[s, x], argTypes := #[30, 30] }) (base : Nat) (v src : Value) (xs ys : List (Nat × Nat)) (hs : a.eval s = v) (hx : a.eval x = src)
    (hown : Own2 w base v xs) (hy : Rng w src ys) (hlen : xs.length + ys.length ≤ 4398046511104) (hbase : base ≤ w.heap.size)
    (h : ∀ v' w', Own2 w' base v' (xs ++ ys) → w.grownBy w' v.ownBlock → wpList Try.prog ops Q rest (a.put o.dst v') w') : wpList Try.prog ops Q (o :: rest) a w := by
  obtain ⟨i, hi, hz, hsz, hby⟩ := rngInfo
  rcases hy with ⟨rfl, rfl⟩ | ⟨ad, cap, rfl, h1, h2, h3⟩
  · refine wpList_append_own_none hgd s x 30 ho base 76 i 2 Try.underlying30 hi v xs.length (rcells xs) hs hown hx ?_
    exact h v w (by simpa [Own2] using hown) ⟨rfl, rfl, rfl, Nat.le_refl _, fun _ _ _ => rfl⟩
  · refine wpList_append_own w hgd s x 30 ho base 76 i _ 2 16 Try.underlying30 hi hz hsz hby rfl (by decide) v xs.length (rcells xs) hs hown ad ys.length cap (rcells ys) hx (rcells_length ys) h3 (rcells_one ys)
      (by unfold maxLen; omega) (by omega) hbase ?_
    intro v' w' ho' hg _
    refine h v' w' ?_ hg
    unfold Own2
    rw [rcells_append, List.length_append]
    exact ho'
theorem rng_one (w : World) (a b n : Nat) (hn : n = w.heap.size) : Rng (w.alloc (.cells #[.int .u64 (a : Int), .int .u64 (b : Int)] 76)) (.slice (some ⟨n, 0, none⟩) 1 1) [(a, b)] := by
  subst hn
  exact (own2_one w w.heap.size (a, b) (Nat.le_refl _)).rng
theorem Own2.slice1 {w : World} {b : Nat} {v : Value} {l : List (Nat × Nat)} {x : Nat × Nat} (h : Own2 w b v (l ++ [x])) : ∃ a c, v = .slice a (l.length + 1) c := by
  obtain ⟨a, c, h⟩ := h.rng.slice
  exact ⟨a, c, by rw [h, List.length_append]; rfl⟩
theorem own2_empty (w : World) (base : Nat) (hb : base ≤ w.heap.size) : Own2 (w.alloc (.cells #[] 76)) base (.slice (some ⟨w.heap.size, 0, none⟩) 0 0) [] :=
  ⟨by simp [rcells_nil], .inr ⟨w.heap.size, 0, _, rfl, hb, heap_alloc_new w _, Nat.le_refl _, Nat.zero_le _, by simp, by simp [rcells_nil]⟩⟩
theorem le_alloc {w : World} {n : Nat} (h : n ≤ w.heap.size) (o : Obj) : n ≤ (w.alloc o).heap.size := by rw [World.size_alloc]; omega
theorem ret_bool {a b : Bool} (h : a = b) : Ending.returned (.bool a) = .returned (.bool b) := by rw [h]
theorem ret_int {k : IntKind} {a b : Int} (h : a = b) : Ending.returned (.int k a) = .returned (.int k b) := by rw [h]
end Go.Proofs.Ytnlllpgdhnmccaa
