/-
  BOOKS in memory: eight sets behind a pointer, told by a function; the document's, nine rows of ranges.
-/
import Derived.Test.YtnlllpgdhnmccaaMoved
import Derived.Test.YtnlllpgdhnmccaaLawOrder
namespace Go.Proofs.Ytnlllpgdhnmccaa
open Go.RowKit

/-- One place of a function set. -/
def putF {α : Type} (f : Nat → α) (i : Nat) (x : α) : Nat → α := fun j => if j = i then x else f j
theorem putF_at {α : Type} (f : Nat → α) (i : Nat) (x : α) : putF f i x i = x := if_pos rfl
theorem putF_ne {α : Type} (f : Nat → α) {i j : Nat} (x : α) (h : j ≠ i) : putF f i x j = f j := if_neg h
theorem putF_self {α : Type} (f : Nat → α) (i : Nat) : putF f i (f i) = f := by
  funext j
  unfold putF
  split
  · rename_i h; rw [h]
  · rfl
/-- The ranges of an origin. -/
def ofF (f : Nat → List (Nat × Nat)) (o : Int) : List (Nat × Nat) := if 1 ≤ o ∧ o ≤ 8 then f (o - 1).toNat else []
def knownB (o : Int) : Bool := decide (1 ≤ o ∧ o ≤ 8)
theorem ofF_in {f : Nat → List (Nat × Nat)} {o : Int} {i : Nat} (hi : i < 8) (h : o = (i : Int) + 1) : ofF f o = f i := by
  subst h
  unfold ofF
  rw [if_pos (by omega)]
  congr 1
  omega
theorem ofF_out {f : Nat → List (Nat × Nat)} {o : Int} (h : ¬ (1 ≤ o ∧ o ≤ 8)) : ofF f o = [] := if_neg h
theorem known_at {o : Int} (h : 1 ≤ o ∧ o ≤ 8) : ∃ i : Nat, i < 8 ∧ o = (i : Int) + 1 := ⟨(o - 1).toNat, by omega, by omega⟩
def FineF (f : Nat → List (Nat × Nat)) : Prop := ∀ i, i < 8 → Fine (f i)
def LenF (n : Nat) (f : Nat → List (Nat × Nat)) : Prop := ∀ i, i < 8 → (f i).length ≤ n
theorem fineF_nil : FineF (fun _ => []) := fun _ _ => fine_nil
theorem FineF.of {f : Nat → List (Nat × Nat)} (h : FineF f) (o : Int) : Fine (ofF f o) := by
  unfold ofF
  split
  · exact h _ (by omega)
  · exact fine_nil
theorem LenF.of {n : Nat} {f : Nat → List (Nat × Nat)} (h : LenF n f) (o : Int) : (ofF f o).length ≤ n := by
  unfold ofF
  split
  · exact h _ (by omega)
  · exact Nat.zero_le _
theorem FineF.put {f : Nat → List (Nat × Nat)} (h : FineF f) {i : Nat} {l : List (Nat × Nat)} (hl : Fine l) : FineF (putF f i l) := fun j hj => by
  unfold putF
  split
  · exact hl
  · exact h j hj
theorem LenF.put {n m : Nat} {f : Nat → List (Nat × Nat)} (h : LenF n f) {i : Nat} {l : List (Nat × Nat)} (hn : n ≤ m) (hl : l.length ≤ m) : LenF m (putF f i l) := fun j hj => by
  unfold putF
  split
  · exact hl
  · exact Nat.le_trans (h j hj) hn
/-- What an Add does. -/
def addF (f : Nat → List (Nat × Nat)) (o : Int) (n : Nat) : Nat → List (Nat × Nat) := if 1 ≤ o ∧ o ≤ 8 then putF f (o - 1).toNat (addS (f (o - 1).toNat) n) else f
def freshF (f : Nat → List (Nat × Nat)) (o : Int) (n : Nat) : Bool := decide (1 ≤ o ∧ o ≤ 8) && newB (ofF f o) n
theorem addF_in {f : Nat → List (Nat × Nat)} {o : Int} {n i : Nat} (hi : i < 8) (h : o = (i : Int) + 1) : addF f o n = putF f i (addS (f i) n) := by
  subst h
  unfold addF
  rw [if_pos (by omega), show ((i : Int) + 1 - 1).toNat = i by omega]
theorem addF_out {f : Nat → List (Nat × Nat)} {o : Int} {n : Nat} (h : ¬ (1 ≤ o ∧ o ≤ 8)) : addF f o n = f := if_neg h
theorem freshF_in {f : Nat → List (Nat × Nat)} {o : Int} {n i : Nat} (hi : i < 8) (h : o = (i : Int) + 1) : freshF f o n = newB (f i) n := by
  unfold freshF
  rw [ofF_in hi h, decide_eq_true (by omega)]
  rfl
theorem freshF_out {f : Nat → List (Nat × Nat)} {o : Int} {n : Nat} (h : ¬ (1 ≤ o ∧ o ≤ 8)) : freshF f o n = false := by
  unfold freshF
  rw [decide_eq_false h]
  rfl
theorem FineF.add {f : Nat → List (Nat × Nat)} (h : FineF f) (o : Int) {n : Nat} (hn : n < 18446744073709551616) : FineF (addF f o n) := by
  unfold addF
  split
  · exact h.put ((h _ (by omega)).add hn)
  · exact h

/-- A row of cells of a function. -/
def fcells (n : Nat) (s : Nat → Value) : List Value := (List.range n).map s
theorem fcells_get {n i : Nat} (s : Nat → Value) (h : i < n) : (fcells n s)[i]? = some (s i) := by simp [fcells, h]
theorem fcells_len (n : Nat) (s : Nat → Value) : (fcells n s).length = n := by simp [fcells]
theorem fcells_set {n : Nat} (s : Nat → Value) (i : Nat) (x : Value) : (fcells n s).set i x = fcells n (putF s i x) := by
  apply List.ext_getElem
  · simp [fcells]
  · intro j h1 h2
    simp only [fcells, List.getElem_set, List.getElem_map, List.getElem_range, putF]
    by_cases h : i = j
    · subst h; simp
    · rw [if_neg h, if_neg (fun e => h e.symm)]
theorem fcells_congr {n : Nat} {s t : Nat → Value} (h : ∀ i, i < n → s i = t i) : fcells n s = fcells n t := by
  unfold fcells
  exact List.map_congr_left fun i hi => h i (List.mem_range.1 hi)
theorem heap_fset {w : World} {p n i : Nat} {s : Nat → Value} {t : TypeId} (h : w.heap[p]? = some (.cells (fcells n s).toArray t (0, 0))) (x : Value) : (w.setCell ⟨p, i, none⟩ x).heap[p]? = some (.cells (fcells n (putF s i x)).toArray t (0, 0)) := by
  have := heap_setCell_same w p i _ _ x h
  rw [← fcells_set]
  simpa using this

def ptrS (b : Nat) : Value := .pointer (some ⟨b, 0, none⟩)
/-- A book that a call made, in memory: its block, its sets. -/
structure BkAt (w : World) (p : Nat) (S : Nat → Nat) (v : Nat → Value) (f : Nat → List (Nat × Nat)) : Prop where
  blk : w.heap[p]? = some (.cells (fcells 8 fun i => ptrS (S i)).toArray 50 (0, 0))
  set : ∀ i, i < 8 → SetAt w (S i) (v i) (f i)
  inj : ∀ i j, i < 8 → j < 8 → S i = S j → i = j
  ap : ∀ i j, i < 8 → j < 8 → i ≠ j → ∀ g, (v i).ownBlock = some g → (v j).ownBlock ≠ some g
/-- Its blocks. -/
def footB (p : Nat) (S : Nat → Nat) (v : Nat → Value) (k : Nat) : Prop := k = p ∨ ∃ i, i < 8 ∧ (k = S i ∨ (v i).ownBlock = some k)
def Bk (w : World) (p : Nat) (F : Nat → Prop) (f : Nat → List (Nat × Nat)) : Prop := ∃ S v, BkAt w p S v f ∧ ∀ k, F k ↔ footB p S v k
theorem SetAt.row_lt {w : World} {B g : Nat} {v : Value} {l : List (Nat × Nat)} (h : SetAt w B v l) (hg : v.ownBlock = some g) : g < w.heap.size := (World.ownsRow.lt h.own g hg).2
theorem BkAt.lts {w : World} {p : Nat} {S : Nat → Nat} {v : Nat → Value} {f : Nat → List (Nat × Nat)} (h : BkAt w p S v f) : ∀ k, footB p S v k → k < w.heap.size := by
  rintro k (rfl | ⟨i, hi, rfl | hk⟩)
  · exact (Array.getElem?_eq_some_iff.1 h.blk).1
  · exact (h.set i hi).lt
  · exact (h.set i hi).row_lt hk
theorem Bk.lts {w : World} {p : Nat} {F : Nat → Prop} {f : Nat → List (Nat × Nat)} (h : Bk w p F f) : ∀ k, F k → k < w.heap.size := by
  obtain ⟨S, v, hb, hF⟩ := h
  exact fun k hk => hb.lts k ((hF k).1 hk)
theorem BkAt.same {w w' : World} {p : Nat} {S : Nat → Nat} {v : Nat → Value} {f : Nat → List (Nat × Nat)} (h : BkAt w p S v f) (hs : ∀ k, footB p S v k → w'.heap[k]? = w.heap[k]?) : BkAt w' p S v f :=
  ⟨by rw [hs p (.inl rfl)]; exact h.blk, fun i hi => (h.set i hi).same (hs _ (.inr ⟨i, hi, .inl rfl⟩)) fun g hg => hs g (.inr ⟨i, hi, .inr hg⟩), h.inj, h.ap⟩
theorem Bk.same {w w' : World} {p : Nat} {F : Nat → Prop} {f : Nat → List (Nat × Nat)} (h : Bk w p F f) (hs : ∀ k, F k → w'.heap[k]? = w.heap[k]?) : Bk w' p F f := by
  obtain ⟨S, v, hb, hF⟩ := h
  exact ⟨S, v, hb.same fun k hk => hs k ((hF k).2 hk), hF⟩
theorem Bk.kept {w w' : World} {p : Nat} {F : Nat → Prop} {f : Nat → List (Nat × Nat)} (h : Bk w p F f) (hb : Below w.heap.size w w') : Bk w' p F f := h.same fun k hk => hb.block k (h.lts k hk)
theorem Bk.beside {w w' : World} {p : Nat} {F G G' : Nat → Prop} {f : Nat → List (Nat × Nat)} (h : Bk w p F f) (m : Moved w w' G G') (ha : ∀ k, G k → ¬ F k) : Bk w' p F f := h.same fun k hk => m.block k (h.lts k hk) (fun hg => ha k hg hk)
/-- What a set's row is not: the block of a set, or of the book. -/
theorem Own2.block_ty {w : World} {base g : Nat} {v : Value} {l : List (Nat × Nat)} (h : Own2 w base v l) (hg : v.ownBlock = some g) : ∃ c, w.heap[g]? = some (.cells c 76 (0, 0)) := by
  rcases h.2 with ⟨rfl, _⟩ | ⟨g', cap, cur, rfl, _, hgg, _⟩
  · simp [Value.ownBlock] at hg
  · simp only [Value.ownBlock, Option.some.injEq] at hg
    subst hg
    exact ⟨_, hgg⟩
theorem BkAt.row_ne_set {w : World} {p : Nat} {S : Nat → Nat} {v : Nat → Value} {f : Nat → List (Nat × Nat)} (h : BkAt w p S v f) {i j : Nat} (hi : i < 8) (hj : j < 8) : (v i).ownBlock ≠ some (S j) := fun e => by
  obtain ⟨c, hc⟩ := (h.set i hi).own.block_ty e
  rw [(h.set j hj).blk] at hc
  simp at hc
theorem BkAt.row_ne_p {w : World} {p : Nat} {S : Nat → Nat} {v : Nat → Value} {f : Nat → List (Nat × Nat)} (h : BkAt w p S v f) {i : Nat} (hi : i < 8) : (v i).ownBlock ≠ some p := fun e => by
  obtain ⟨c, hc⟩ := (h.set i hi).own.block_ty e
  rw [h.blk] at hc
  simp at hc
theorem BkAt.set_ne_p {w : World} {p : Nat} {S : Nat → Nat} {v : Nat → Value} {f : Nat → List (Nat × Nat)} (h : BkAt w p S v f) {i : Nat} (hi : i < 8) : S i ≠ p := fun e => by
  have := (h.set i hi).blk
  rw [e, h.blk] at this
  simp at this
/-- An Add to one of its sets. -/
theorem BkAt.add {w w' : World} {p : Nat} {S : Nat → Nat} {v : Nat → Value} {f : Nat → List (Nat × Nat)} (h : BkAt w p S v f) {i : Nat} (hi : i < 8) {v' : Value} {l' : List (Nat × Nat)} (hs : SetAt w' (S i) v' l') (t : Turned w w' (S i) (v i)) (nw : NewOr w (v i) v') : BkAt w' p S (putF v i v') (putF f i l') := by
  refine ⟨?_, fun j hj => ?_, h.inj, fun j k hj hk hjk g hg => ?_⟩
  · rw [t.block p (h.lts p (.inl rfl)) (fun e => h.set_ne_p hi e.symm) (h.row_ne_p hi)]
    exact h.blk
  · by_cases e : j = i
    · subst e
      rw [putF_at, putF_at]
      exact hs
    · rw [putF_ne _ _ e, putF_ne _ _ e]
      exact (h.set j hj).turned (h.set i hi) t (fun he => e (h.inj j i hj hi he)) (h.ap j i hj hi e)
  · by_cases e : j = i
    · subst e
      rw [putF_at] at hg
      rw [putF_ne _ _ (fun e => hjk e.symm)]
      exact apart_symm (apart_add (h.set k hk) (h.ap k j hk hj (fun e => hjk e.symm)) nw) g hg
    · rw [putF_ne _ _ e] at hg
      by_cases e2 : k = i
      · subst e2
        rw [putF_at]
        exact apart_add (h.set j hj) (h.ap j k hj hk hjk) nw g hg
      · rw [putF_ne _ _ e2]
        exact h.ap j k hj hk hjk g hg
theorem Turned.moved {w w' : World} {p : Nat} {S : Nat → Nat} {v : Nat → Value} {i : Nat} (hi : i < 8) {v' : Value} (t : Turned w w' (S i) (v i)) (nw : NewOr w (v i) v') : Moved w w' (footB p S v) (footB p S (putF v i v')) := by
  refine ⟨t.os, t.tape, t.output, t.size, fun k hk hn => t.block k hk (fun e => hn (.inr ⟨i, hi, .inl e⟩)) (fun e => hn (.inr ⟨i, hi, .inr e⟩)), ?_⟩
  rintro k (rfl | ⟨j, hj, rfl | hk⟩)
  · exact .inl (.inl rfl)
  · exact .inl (.inr ⟨j, hj, .inl rfl⟩)
  · by_cases e : j = i
    · subst e
      rw [putF_at] at hk
      rcases nw with h | ⟨g, h1, h2⟩
      · exact .inl (.inr ⟨j, hj, .inr (h ▸ hk)⟩)
      · rw [h1] at hk
        injection hk with hk
        exact .inr (hk ▸ h2)
    · rw [putF_ne _ _ e] at hk
      exact .inl (.inr ⟨j, hj, .inr hk⟩)
/-- Another set, new, in the place of one. -/
theorem BkAt.put {w : World} {p : Nat} {S : Nat → Nat} {v : Nat → Value} {f : Nat → List (Nat × Nat)} (h : BkAt w p S v f) {i : Nat} (hi : i < 8) {B base : Nat} {v' : Value} {l' : List (Nat × Nat)} (hs : SetAt w B v' l') (hfr : From0 base B v') (hold : ∀ k, footB p S v k → k < base) : BkAt (w.setCell ⟨p, i, none⟩ (ptrS B)) p (putF S i B) (putF v i v') (putF f i l') := by
  have hp : ∀ k, k ≠ p → (w.setCell ⟨p, i, none⟩ (ptrS B)).heap[k]? = w.heap[k]? := fun k hk => Below.heap_setCell _ _ _ _ hk
  have hpb : p < base := hold p (.inl rfl)
  have hSb : ∀ j, j < 8 → S j < base := fun j hj => hold _ (.inr ⟨j, hj, .inl rfl⟩)
  have hvb : ∀ j g, j < 8 → (v j).ownBlock = some g → g < base := fun j g hj hg => hold g (.inr ⟨j, hj, .inr hg⟩)
  refine ⟨?_, fun j hj => ?_, fun j k hj hk hjk => ?_, fun j k hj hk hjk g hg => ?_⟩
  · rw [heap_fset h.blk, fcells_congr (t := fun j => ptrS (putF S i B j))]
    intro j _
    unfold putF
    split <;> rfl
  · by_cases e : j = i
    · subst e
      rw [putF_at, putF_at, putF_at]
      refine hs.same (hp _ fun e => ?_) fun g hg => hp _ fun e => ?_
      · have := hfr.1; omega
      · have := hfr.2 g hg; omega
    · rw [putF_ne _ _ e, putF_ne _ _ e, putF_ne _ _ e]
      exact (h.set j hj).same (hp _ (h.set_ne_p hj)) fun g hg => hp _ fun e => h.row_ne_p hj (e ▸ hg)
  · unfold putF at hjk
    split at hjk <;> split at hjk
    · omega
    · have := hSb k hk; have := hfr.1; omega
    · have := hSb j hj; have := hfr.1; omega
    · exact h.inj j k hj hk hjk
  · unfold putF at hg ⊢
    split at hg <;> split
    · omega
    · intro e; have := hvb k g hk e; have := hfr.2 g hg; omega
    · intro e; have := hvb j g hj hg; have := hfr.2 g e; omega
    · exact h.ap j k hj hk hjk g hg
/-- What a set that lies there tells, at whichever book. -/
structure Told (w : World) (b : Value) (f : Nat → List (Nat × Nat)) : Prop where
  way : (b = .pointer none ∧ f = fun _ => []) ∨ ∃ p s, b = ptrS p ∧ w.heap[p]? = some (.cells (fcells 8 s).toArray 50 (0, 0)) ∧ ∀ i, i < 8 → Lies w (s i) (f i)
theorem BkAt.told {w : World} {p : Nat} {S : Nat → Nat} {v : Nat → Value} {f : Nat → List (Nat × Nat)} (h : BkAt w p S v f) : Told w (ptrS p) f := ⟨.inr ⟨p, _, rfl, h.blk, fun i hi => (h.set i hi).lies⟩⟩
theorem Bk.told {w : World} {p : Nat} {F : Nat → Prop} {f : Nat → List (Nat × Nat)} (h : Bk w p F f) : Told w (ptrS p) f := by
  obtain ⟨S, v, hb, _⟩ := h
  exact hb.told
theorem Told.below {w w' : World} {b : Value} {f : Nat → List (Nat × Nat)} (h : Told w b f) (hb : Below w.heap.size w w') : Told w' b f := by
  rcases h.way with ⟨h1, h2⟩ | ⟨p, s, h1, h2, h3⟩
  · exact ⟨.inl ⟨h1, h2⟩⟩
  · exact ⟨.inr ⟨p, s, h1, by rw [hb.block p (Array.getElem?_eq_some_iff.1 h2).1]; exact h2, fun i hi => (h3 i hi).below hb (Nat.le_refl _)⟩⟩

/-- The document's book. -/
structure RbAt (w : World) (p : Nat) (v : Nat → Value) (f : Nat → List (Nat × Nat)) : Prop where
  blk : w.heap[p]? = some (.cells (fcells 9 v).toArray 33 (0, 0))
  rows : ∀ i, i < 8 → Own2 w 0 (v (i + 1)) (f i)
def footR (p : Nat) (v : Nat → Value) (k : Nat) : Prop := k = p ∨ ∃ i, i < 8 ∧ (v (i + 1)).ownBlock = some k
def Rb (w : World) (p : Nat) (F : Nat → Prop) (f : Nat → List (Nat × Nat)) : Prop := ∃ v, RbAt w p v f ∧ ∀ k, F k ↔ footR p v k
theorem RbAt.lts {w : World} {p : Nat} {v : Nat → Value} {f : Nat → List (Nat × Nat)} (h : RbAt w p v f) : ∀ k, footR p v k → k < w.heap.size := by
  rintro k (rfl | ⟨i, hi, hk⟩)
  · exact (Array.getElem?_eq_some_iff.1 h.blk).1
  · exact (World.ownsRow.lt (h.rows i hi) k hk).2
theorem Rb.lts {w : World} {p : Nat} {F : Nat → Prop} {f : Nat → List (Nat × Nat)} (h : Rb w p F f) : ∀ k, F k → k < w.heap.size := by
  obtain ⟨v, hb, hF⟩ := h
  exact fun k hk => hb.lts k ((hF k).1 hk)
theorem RbAt.same {w w' : World} {p : Nat} {v : Nat → Value} {f : Nat → List (Nat × Nat)} (h : RbAt w p v f) (hs : ∀ k, footR p v k → w'.heap[k]? = w.heap[k]?) : RbAt w' p v f :=
  ⟨by rw [hs p (.inl rfl)]; exact h.blk, fun i hi => (h.rows i hi).same fun g hg => hs g (.inr ⟨i, hi, hg⟩)⟩
theorem Rb.same {w w' : World} {p : Nat} {F : Nat → Prop} {f : Nat → List (Nat × Nat)} (h : Rb w p F f) (hs : ∀ k, F k → w'.heap[k]? = w.heap[k]?) : Rb w' p F f := by
  obtain ⟨v, hb, hF⟩ := h
  exact ⟨v, hb.same fun k hk => hs k ((hF k).2 hk), hF⟩
theorem Rb.kept {w w' : World} {p : Nat} {F : Nat → Prop} {f : Nat → List (Nat × Nat)} (h : Rb w p F f) (hb : Below w.heap.size w w') : Rb w' p F f := h.same fun k hk => hb.block k (h.lts k hk)
theorem Rb.beside {w w' : World} {p : Nat} {F G G' : Nat → Prop} {f : Nat → List (Nat × Nat)} (h : Rb w p F f) (m : Moved w w' G G') (ha : ∀ k, G k → ¬ F k) : Rb w' p F f := h.same fun k hk => m.block k (h.lts k hk) (fun hg => ha k hg hk)
theorem RbAt.row_ne {w : World} {p : Nat} {v : Nat → Value} {f : Nat → List (Nat × Nat)} (h : RbAt w p v f) {i : Nat} (hi : i < 8) : (v (i + 1)).ownBlock ≠ some p := fun e => by
  obtain ⟨c, hc⟩ := (h.rows i hi).block_ty e
  rw [h.blk] at hc
  simp at hc
/-- A row, old or new, in the place of one. -/
theorem RbAt.put {w : World} {p : Nat} {v : Nat → Value} {f : Nat → List (Nat × Nat)} (h : RbAt w p v f) {i : Nat} {v' : Value} {l' : List (Nat × Nat)} (hs : Own2 w 0 v' l') : RbAt (w.setCell ⟨p, i + 1, none⟩ v') p (putF v (i + 1) v') (putF f i l') := by
  have hp : ∀ k, k ≠ p → (w.setCell ⟨p, i + 1, none⟩ v').heap[k]? = w.heap[k]? := fun k hk => Below.heap_setCell _ _ _ _ hk
  have hty : ∀ {g : Nat} {u : Value} {l : List (Nat × Nat)}, Own2 w 0 u l → u.ownBlock = some g → g ≠ p := fun ho hg e => by
    obtain ⟨c, hc⟩ := ho.block_ty hg
    rw [e, h.blk] at hc
    simp at hc
  refine ⟨heap_fset h.blk _, fun j hj => ?_⟩
  by_cases e : j = i
  · subst e
    rw [putF_at, putF_at]
    exact hs.same fun g hg => hp g (hty hs hg)
  · rw [putF_ne _ _ e, putF_ne _ _ (by omega)]
    exact (h.rows j hj).same fun g hg => hp g (hty (h.rows j hj) hg)
theorem RbAt.moved {w w1 : World} {p : Nat} {v : Nat → Value} {i : Nat} (hi : i < 8) {v' : Value} (b : Below w.heap.size w w1) (nw : NewOr w (v (i + 1)) v') : Moved w (w1.setCell ⟨p, i + 1, none⟩ v') (footR p v) (footR p (putF v (i + 1) v')) := by
  refine ⟨b.os, b.tape, b.output, by simpa using b.size, fun k hk hn => ?_, ?_⟩
  · rw [Below.heap_setCell _ _ _ _ (fun e => hn (.inl e)), b.block k hk]
  · rintro k (rfl | ⟨j, hj, hk⟩)
    · exact .inl (.inl rfl)
    · by_cases e : j = i
      · subst e
        rw [putF_at] at hk
        rcases nw with h | ⟨g, h1, h2⟩
        · exact .inl (.inr ⟨j, hj, h ▸ hk⟩)
        · rw [h1] at hk
          injection hk with hk
          exact .inr (hk ▸ h2)
      · rw [putF_ne _ _ (by omega)] at hk
        exact .inl (.inr ⟨j, hj, hk⟩)
theorem Rb.row {w : World} {p : Nat} {F : Nat → Prop} {f : Nat → List (Nat × Nat)} (h : Rb w p F f) {i : Nat} (hi : i < 8) : ∃ u, w.cell? ⟨p, i + 1, none⟩ = some u ∧ Rng w u (f i) := by
  obtain ⟨v, hb, _⟩ := h
  exact ⟨v (i + 1), by rw [cell_of_list hb.blk]; exact fcells_get _ (by omega), (hb.rows i hi).rng⟩
theorem cell_on {w w' : World} {b j : Nat} {v : Value} (hb : Below w.heap.size w w') (h : w.cell? ⟨b, j, none⟩ = some v) : w'.cell? ⟨b, j, none⟩ = some v :=
  (hb.cell (p := ⟨b, j, none⟩) (World.block_lt_of_cell? _ _ h)).trans h
theorem keptW {w w1 w2 : World} (h : Below w.heap.size w w1) (b : Below w1.heap.size w1 w2) : Below w.heap.size w w2 := h.trans (b.mono h.size)
end Go.Proofs.Ytnlllpgdhnmccaa
