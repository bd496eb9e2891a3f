/-
  BOOKS in memory: eight sets behind a pointer, told by a function; the document's, nine rows of ranges.
-/
import Derived.Test.YtjagaankkcbjmaaGreatDoorJ6
import Derived.Test.YtjagaankkcbjmaaGreatDoorJ16
import Derived.Test.YtjagaankkcbjmaaGreatDoorJ1
namespace Go.Proofs.YtjagaankkcbjmaaGreatDoor.S
open Go.RowKit
set_option maxRecDepth 20000

/-- One place of a function set. -/
def putF {α : Type} (f : Nat → α) (i : Nat) (x : α) : Nat → α := fun j => if j = i then x else f j
theorem putF_at {α : Type} (f : Nat → α) (i : Nat) (x : α) : putF f i x i = x := if_pos rfl
theorem putF_ne {α : Type} (f : Nat → α) {i j : Nat} (x : α) (h : j ≠ i) : putF f i x j = f j := if_neg h
/-- The ranges of an origin. -/
def ofF (f : Nat → List (Nat × Nat)) (o : Int) : List (Nat × Nat) := if 1 ≤ o ∧ o ≤ 8 then f (o - 1).toNat else []
def knownB (o : Int) : Bool := decide (1 ≤ o ∧ o ≤ 8)
theorem ofF_in {f : Nat → List (Nat × Nat)} {o : Int} {i : Nat} (hi : i < 8) (h : o = (i : Int) + 1) : ofF f o = f i := by
  subst h
  unfold ofF
  rw [if_pos (by omega)]
  congr 1
  omega
theorem ofF_out {f : Nat → List (Nat × Nat)} {o : Int} (h : ¬ (1 ≤ o ∧ o ≤ 8)) : ofF f o = [] := if_neg h
theorem known_at {o : Int} (h : 1 ≤ o ∧ o ≤ 8) : ∃ i : Nat, i < 8 ∧ o = (i : Int) + 1 := ⟨(o - 1).toNat, by omega, by omega⟩
def FineF (f : Nat → List (Nat × Nat)) : Prop := ∀ i, i < 8 → Fine (f i)
def LenF (n : Nat) (f : Nat → List (Nat × Nat)) : Prop := ∀ i, i < 8 → (f i).length ≤ n
theorem fineF_nil : FineF (fun _ => []) := fun _ _ => fine_nil
theorem FineF.of {f : Nat → List (Nat × Nat)} (h : FineF f) (o : Int) : Fine (ofF f o) := by
  unfold ofF
  split
  · exact h _ (by omega)
  · exact fine_nil
theorem LenF.of {n : Nat} {f : Nat → List (Nat × Nat)} (h : LenF n f) (o : Int) : (ofF f o).length ≤ n := by
  unfold ofF
  split
  · exact h _ (by omega)
  · exact Nat.zero_le _
theorem FineF.put {f : Nat → List (Nat × Nat)} (h : FineF f) {i : Nat} {l : List (Nat × Nat)} (hl : Fine l) : FineF (putF f i l) := fun j hj => by
  unfold putF
  split
  · exact hl
  · exact h j hj
theorem LenF.put {n m : Nat} {f : Nat → List (Nat × Nat)} (h : LenF n f) {i : Nat} {l : List (Nat × Nat)} (hn : n ≤ m) (hl : l.length ≤ m) : LenF m (putF f i l) := fun j hj => by
  unfold putF
  split
  · exact hl
  · exact Nat.le_trans (h j hj) hn
/-- What an Add does. -/
def addF (f : Nat → List (Nat × Nat)) (o : Int) (n : Nat) : Nat → List (Nat × Nat) := if 1 ≤ o ∧ o ≤ 8 then putF f (o - 1).toNat (addS (f (o - 1).toNat) n) else f
def freshF (f : Nat → List (Nat × Nat)) (o : Int) (n : Nat) : Bool := decide (1 ≤ o ∧ o ≤ 8) && newB (ofF f o) n
theorem addF_in {f : Nat → List (Nat × Nat)} {o : Int} {n i : Nat} (hi : i < 8) (h : o = (i : Int) + 1) : addF f o n = putF f i (addS (f i) n) := by
  subst h
  unfold addF
  rw [if_pos (by omega), show ((i : Int) + 1 - 1).toNat = i by omega]
theorem addF_out {f : Nat → List (Nat × Nat)} {o : Int} {n : Nat} (h : ¬ (1 ≤ o ∧ o ≤ 8)) : addF f o n = f := if_neg h
theorem freshF_in {f : Nat → List (Nat × Nat)} {o : Int} {n i : Nat} (hi : i < 8) (h : o = (i : Int) + 1) : freshF f o n = newB (f i) n := by
  unfold freshF
  rw [ofF_in hi h, decide_eq_true (by omega)]
  rfl
theorem freshF_out {f : Nat → List (Nat × Nat)} {o : Int} {n : Nat} (h : ¬ (1 ≤ o ∧ o ≤ 8)) : freshF f o n = false := by
  unfold freshF
  rw [decide_eq_false h]
  rfl
theorem FineF.add {f : Nat → List (Nat × Nat)} (h : FineF f) (o : Int) {n : Nat} (hn : n < 18446744073709551616) : FineF (addF f o n) := by
  unfold addF
  split
  · exact h.put ((h _ (by omega)).add hn)
  · exact h

/-- A row of cells of a function. -/
def fcells (n : Nat) (s : Nat → Value) : List Value := (List.range n).map s
theorem fcells_get {n i : Nat} (s : Nat → Value) (h : i < n) : (fcells n s)[i]? = some (s i) := by simp [fcells, h]
theorem fcells_set {n : Nat} (s : Nat → Value) (i : Nat) (x : Value) : (fcells n s).set i x = fcells n (putF s i x) := by
  apply List.ext_getElem
  · simp [fcells]
  · intro j h1 h2
    simp only [fcells, List.getElem_set, List.getElem_map, List.getElem_range, putF]
    by_cases h : i = j
    · subst h; simp
    · rw [if_neg h, if_neg (fun e => h e.symm)]
theorem fcells_congr {n : Nat} {s t : Nat → Value} (h : ∀ i, i < n → s i = t i) : fcells n s = fcells n t := by
  unfold fcells
  exact List.map_congr_left fun i hi => h i (List.mem_range.1 hi)
theorem heap_fset {w : World} {p n i : Nat} {s : Nat → Value} {t : TypeId} (h : w.heap[p]? = some (.cells (fcells n s).toArray t (0, 0))) (x : Value) : (w.setCell ⟨p, i, none⟩ x).heap[p]? = some (.cells (fcells n (putF s i x)).toArray t (0, 0)) := by
  have := heap_setCell_same w p i _ _ x h
  rw [← fcells_set]
  simpa using this

def ptrS (b : Nat) : Value := .pointer (some ⟨b, 0, none⟩)
/-- A book that a call made, in memory: its block, its sets. -/
structure BkAt (w : World) (p : Nat) (S : Nat → Nat) (v : Nat → Value) (f : Nat → List (Nat × Nat)) : Prop where
  blk : w.heap[p]? = some (.cells (fcells 8 fun i => ptrS (S i)).toArray 175 (0, 0))
  set : ∀ i, i < 8 → SetAt w (S i) (v i) (f i)
  inj : ∀ i j, i < 8 → j < 8 → S i = S j → i = j
  ap : ∀ i j, i < 8 → j < 8 → i ≠ j → ∀ g, (v i).ownBlock = some g → (v j).ownBlock ≠ some g
/-- Its blocks. -/
def footB (p : Nat) (S : Nat → Nat) (v : Nat → Value) (k : Nat) : Prop := k = p ∨ ∃ i, i < 8 ∧ (k = S i ∨ (v i).ownBlock = some k)
def Bk (w : World) (p : Nat) (F : Nat → Prop) (f : Nat → List (Nat × Nat)) : Prop := ∃ S v, BkAt w p S v f ∧ ∀ k, F k ↔ footB p S v k
theorem SetAt.row_lt {w : World} {B g : Nat} {v : Value} {l : List (Nat × Nat)} (h : SetAt w B v l) (hg : v.ownBlock = some g) : g < w.heap.size := (World.ownsRow.lt h.own g hg).2
theorem BkAt.lts {w : World} {p : Nat} {S : Nat → Nat} {v : Nat → Value} {f : Nat → List (Nat × Nat)} (h : BkAt w p S v f) : ∀ k, footB p S v k → k < w.heap.size := by
  rintro k (rfl | ⟨i, hi, rfl | hk⟩)
  · exact (Array.getElem?_eq_some_iff.1 h.blk).1
  · exact (h.set i hi).lt
  · exact (h.set i hi).row_lt hk
theorem Bk.lts {w : World} {p : Nat} {F : Nat → Prop} {f : Nat → List (Nat × Nat)} (h : Bk w p F f) : ∀ k, F k → k < w.heap.size := by
  obtain ⟨S, v, hb, hF⟩ := h
  exact fun k hk => hb.lts k ((hF k).1 hk)
theorem BkAt.same {w w' : World} {p : Nat} {S : Nat → Nat} {v : Nat → Value} {f : Nat → List (Nat × Nat)} (h : BkAt w p S v f) (hs : ∀ k, footB p S v k → w'.heap[k]? = w.heap[k]?) : BkAt w' p S v f :=
  ⟨by rw [hs p (.inl rfl)]; exact h.blk, fun i hi => (h.set i hi).same (hs _ (.inr ⟨i, hi, .inl rfl⟩)) fun g hg => hs g (.inr ⟨i, hi, .inr hg⟩), h.inj, h.ap⟩
theorem Bk.same {w w' : World} {p : Nat} {F : Nat → Prop} {f : Nat → List (Nat × Nat)} (h : Bk w p F f) (hs : ∀ k, F k → w'.heap[k]? = w.heap[k]?) : Bk w' p F f := by
  obtain ⟨S, v, hb, hF⟩ := h
  exact ⟨S, v, hb.same fun k hk => hs k ((hF k).2 hk), hF⟩
theorem Bk.kept {w w' : World} {p : Nat} {F : Nat → Prop} {f : Nat → List (Nat × Nat)} (h : Bk w p F f) (hb : Below w.heap.size w w') : Bk w' p F f := h.same fun k hk => hb.block k (h.lts k hk)
theorem Bk.beside {w w' : World} {p : Nat} {F G G' : Nat → Prop} {f : Nat → List (Nat × Nat)} (h : Bk w p F f) (m : Moved w w' G G') (ha : ∀ k, G k → ¬ F k) : Bk w' p F f := h.same fun k hk => m.block k (h.lts k hk) (fun hg => ha k hg hk)
/-- What a set's row is not: the block of a set, or of the book. -/
theorem Own2.block_ty {w : World} {base g : Nat} {v : Value} {l : List (Nat × Nat)} (h : Own2 w base v l) (hg : v.ownBlock = some g) : ∃ c, w.heap[g]? = some (.cells c 150 (0, 0)) := by
  rcases h.2 with ⟨rfl, _⟩ | ⟨g', cap, cur, rfl, _, hgg, _⟩
  · simp [Value.ownBlock] at hg
  · simp only [Value.ownBlock, Option.some.injEq] at hg
    subst hg
    exact ⟨_, hgg⟩
theorem BkAt.row_ne_p {w : World} {p : Nat} {S : Nat → Nat} {v : Nat → Value} {f : Nat → List (Nat × Nat)} (h : BkAt w p S v f) {i : Nat} (hi : i < 8) : (v i).ownBlock ≠ some p := fun e => by
  obtain ⟨c, hc⟩ := (h.set i hi).own.block_ty e
  rw [h.blk] at hc
  simp at hc
theorem BkAt.set_ne_p {w : World} {p : Nat} {S : Nat → Nat} {v : Nat → Value} {f : Nat → List (Nat × Nat)} (h : BkAt w p S v f) {i : Nat} (hi : i < 8) : S i ≠ p := fun e => by
  have := (h.set i hi).blk
  rw [e, h.blk] at this
  simp at this
/-- An Add to one of its sets. -/
theorem BkAt.add {w w' : World} {p : Nat} {S : Nat → Nat} {v : Nat → Value} {f : Nat → List (Nat × Nat)} (h : BkAt w p S v f) {i : Nat} (hi : i < 8) {v' : Value} {l' : List (Nat × Nat)} (hs : SetAt w' (S i) v' l') (t : Turned w w' (S i) (v i)) (nw : NewOr w (v i) v') : BkAt w' p S (putF v i v') (putF f i l') := by
  refine ⟨?_, fun j hj => ?_, h.inj, fun j k hj hk hjk g hg => ?_⟩
  · rw [t.block p (h.lts p (.inl rfl)) (fun e => h.set_ne_p hi e.symm) (h.row_ne_p hi)]
    exact h.blk
  · by_cases e : j = i
    · subst e
      rw [putF_at, putF_at]
      exact hs
    · rw [putF_ne _ _ e, putF_ne _ _ e]
      exact (h.set j hj).turned (h.set i hi) t (fun he => e (h.inj j i hj hi he)) (h.ap j i hj hi e)
  · by_cases e : j = i
    · subst e
      rw [putF_at] at hg
      rw [putF_ne _ _ (fun e => hjk e.symm)]
      exact apart_symm (apart_add (h.set k hk) (h.ap k j hk hj (fun e => hjk e.symm)) nw) g hg
    · rw [putF_ne _ _ e] at hg
      by_cases e2 : k = i
      · subst e2
        rw [putF_at]
        exact apart_add (h.set j hj) (h.ap j k hj hk hjk) nw g hg
      · rw [putF_ne _ _ e2]
        exact h.ap j k hj hk hjk g hg
theorem Turned.moved {w w' : World} {p : Nat} {S : Nat → Nat} {v : Nat → Value} {i : Nat} (hi : i < 8) {v' : Value} (t : Turned w w' (S i) (v i)) (nw : NewOr w (v i) v') : Moved w w' (footB p S v) (footB p S (putF v i v')) := by
  refine ⟨t.os, t.tape, t.output, t.size, fun k hk hn => t.block k hk (fun e => hn (.inr ⟨i, hi, .inl e⟩)) (fun e => hn (.inr ⟨i, hi, .inr e⟩)), ?_⟩
  rintro k (rfl | ⟨j, hj, rfl | hk⟩)
  · exact .inl (.inl rfl)
  · exact .inl (.inr ⟨j, hj, .inl rfl⟩)
  · by_cases e : j = i
    · subst e
      rw [putF_at] at hk
      rcases nw with h | ⟨g, h1, h2⟩
      · exact .inl (.inr ⟨j, hj, .inr (h ▸ hk)⟩)
      · rw [h1] at hk
        injection hk with hk
        exact .inr (hk ▸ h2)
    · rw [putF_ne _ _ e] at hk
      exact .inl (.inr ⟨j, hj, .inr hk⟩)
/-- Another set, new, in the place of one. -/
theorem BkAt.put {w : World} {p : Nat} {S : Nat → Nat} {v : Nat → Value} {f : Nat → List (Nat × Nat)} (h : BkAt w p S v f) {i : Nat} (hi : i < 8) {B base : Nat} {v' : Value} {l' : List (Nat × Nat)} (hs : SetAt w B v' l') (hfr : From0 base B v') (hold : ∀ k, footB p S v k → k < base) : BkAt (w.setCell ⟨p, i, none⟩ (ptrS B)) p (putF S i B) (putF v i v') (putF f i l') := by
  have hp : ∀ k, k ≠ p → (w.setCell ⟨p, i, none⟩ (ptrS B)).heap[k]? = w.heap[k]? := fun k hk => Below.heap_setCell _ _ _ _ hk
  have hpb : p < base := hold p (.inl rfl)
  have hSb : ∀ j, j < 8 → S j < base := fun j hj => hold _ (.inr ⟨j, hj, .inl rfl⟩)
  have hvb : ∀ j g, j < 8 → (v j).ownBlock = some g → g < base := fun j g hj hg => hold g (.inr ⟨j, hj, .inr hg⟩)
  refine ⟨?_, fun j hj => ?_, fun j k hj hk hjk => ?_, fun j k hj hk hjk g hg => ?_⟩
  · rw [heap_fset h.blk, fcells_congr (t := fun j => ptrS (putF S i B j))]
    intro j _
    unfold putF
    split <;> rfl
  · by_cases e : j = i
    · subst e
      rw [putF_at, putF_at, putF_at]
      refine hs.same (hp _ fun e => ?_) fun g hg => hp _ fun e => ?_
      · have := hfr.1; omega
      · have := hfr.2 g hg; omega
    · rw [putF_ne _ _ e, putF_ne _ _ e, putF_ne _ _ e]
      exact (h.set j hj).same (hp _ (h.set_ne_p hj)) fun g hg => hp _ fun e => h.row_ne_p hj (e ▸ hg)
  · unfold putF at hjk
    split at hjk <;> split at hjk
    · omega
    · have := hSb k hk; have := hfr.1; omega
    · have := hSb j hj; have := hfr.1; omega
    · exact h.inj j k hj hk hjk
  · unfold putF at hg ⊢
    split at hg <;> split
    · omega
    · intro e; have := hvb k g hk e; have := hfr.2 g hg; omega
    · intro e; have := hvb j g hj hg; have := hfr.2 g e; omega
    · exact h.ap j k hj hk hjk g hg
/-- What a set that lies there tells, at whichever book. -/
structure Told (w : World) (b : Value) (f : Nat → List (Nat × Nat)) : Prop where
  way : (b = .pointer none ∧ f = fun _ => []) ∨ ∃ p s, b = ptrS p ∧ w.heap[p]? = some (.cells (fcells 8 s).toArray 175 (0, 0)) ∧ ∀ i, i < 8 → Lies w (s i) (f i)
theorem BkAt.told {w : World} {p : Nat} {S : Nat → Nat} {v : Nat → Value} {f : Nat → List (Nat × Nat)} (h : BkAt w p S v f) : Told w (ptrS p) f := ⟨.inr ⟨p, _, rfl, h.blk, fun i hi => (h.set i hi).lies⟩⟩
theorem Bk.told {w : World} {p : Nat} {F : Nat → Prop} {f : Nat → List (Nat × Nat)} (h : Bk w p F f) : Told w (ptrS p) f := by
  obtain ⟨S, v, hb, _⟩ := h
  exact hb.told
theorem Told.below {w w' : World} {b : Value} {f : Nat → List (Nat × Nat)} (h : Told w b f) (hb : Below w.heap.size w w') : Told w' b f := by
  rcases h.way with ⟨h1, h2⟩ | ⟨p, s, h1, h2, h3⟩
  · exact ⟨.inl ⟨h1, h2⟩⟩
  · exact ⟨.inr ⟨p, s, h1, by rw [hb.block p (Array.getElem?_eq_some_iff.1 h2).1]; exact h2, fun i hi => (h3 i hi).below hb (Nat.le_refl _)⟩⟩

/-- The document's book. -/
structure RbAt (w : World) (p : Nat) (v : Nat → Value) (f : Nat → List (Nat × Nat)) : Prop where
  blk : w.heap[p]? = some (.cells (fcells 9 v).toArray 66 (0, 0))
  rows : ∀ i, i < 8 → Own2 w 0 (v (i + 1)) (f i)
def footR (p : Nat) (v : Nat → Value) (k : Nat) : Prop := k = p ∨ ∃ i, i < 8 ∧ (v (i + 1)).ownBlock = some k
def Rb (w : World) (p : Nat) (F : Nat → Prop) (f : Nat → List (Nat × Nat)) : Prop := ∃ v, RbAt w p v f ∧ ∀ k, F k ↔ footR p v k
theorem RbAt.lts {w : World} {p : Nat} {v : Nat → Value} {f : Nat → List (Nat × Nat)} (h : RbAt w p v f) : ∀ k, footR p v k → k < w.heap.size := by
  rintro k (rfl | ⟨i, hi, hk⟩)
  · exact (Array.getElem?_eq_some_iff.1 h.blk).1
  · exact (World.ownsRow.lt (h.rows i hi) k hk).2
theorem Rb.lts {w : World} {p : Nat} {F : Nat → Prop} {f : Nat → List (Nat × Nat)} (h : Rb w p F f) : ∀ k, F k → k < w.heap.size := by
  obtain ⟨v, hb, hF⟩ := h
  exact fun k hk => hb.lts k ((hF k).1 hk)
theorem RbAt.same {w w' : World} {p : Nat} {v : Nat → Value} {f : Nat → List (Nat × Nat)} (h : RbAt w p v f) (hs : ∀ k, footR p v k → w'.heap[k]? = w.heap[k]?) : RbAt w' p v f :=
  ⟨by rw [hs p (.inl rfl)]; exact h.blk, fun i hi => (h.rows i hi).same fun g hg => hs g (.inr ⟨i, hi, hg⟩)⟩
theorem Rb.same {w w' : World} {p : Nat} {F : Nat → Prop} {f : Nat → List (Nat × Nat)} (h : Rb w p F f) (hs : ∀ k, F k → w'.heap[k]? = w.heap[k]?) : Rb w' p F f := by
  obtain ⟨v, hb, hF⟩ := h
  exact ⟨v, hb.same fun k hk => hs k ((hF k).2 hk), hF⟩
theorem Rb.kept {w w' : World} {p : Nat} {F : Nat → Prop} {f : Nat → List (Nat × Nat)} (h : Rb w p F f) (hb : Below w.heap.size w w') : Rb w' p F f := h.same fun k hk => hb.block k (h.lts k hk)
theorem Rb.beside {w w' : World} {p : Nat} {F G G' : Nat → Prop} {f : Nat → List (Nat × Nat)} (h : Rb w p F f) (m : Moved w w' G G') (ha : ∀ k, G k → ¬ F k) : Rb w' p F f := h.same fun k hk => m.block k (h.lts k hk) (fun hg => ha k hg hk)
/-- A row, old or new, in the place of one. -/
theorem RbAt.put {w : World} {p : Nat} {v : Nat → Value} {f : Nat → List (Nat × Nat)} (h : RbAt w p v f) {i : Nat} {v' : Value} {l' : List (Nat × Nat)} (hs : Own2 w 0 v' l') : RbAt (w.setCell ⟨p, i + 1, none⟩ v') p (putF v (i + 1) v') (putF f i l') := by
  have hp : ∀ k, k ≠ p → (w.setCell ⟨p, i + 1, none⟩ v').heap[k]? = w.heap[k]? := fun k hk => Below.heap_setCell _ _ _ _ hk
  have hty : ∀ {g : Nat} {u : Value} {l : List (Nat × Nat)}, Own2 w 0 u l → u.ownBlock = some g → g ≠ p := fun ho hg e => by
    obtain ⟨c, hc⟩ := ho.block_ty hg
    rw [e, h.blk] at hc
    simp at hc
  refine ⟨heap_fset h.blk _, fun j hj => ?_⟩
  by_cases e : j = i
  · subst e
    rw [putF_at, putF_at]
    exact hs.same fun g hg => hp g (hty hs hg)
  · rw [putF_ne _ _ e, putF_ne _ _ (by omega)]
    exact (h.rows j hj).same fun g hg => hp g (hty (h.rows j hj) hg)
theorem RbAt.moved {w w1 : World} {p : Nat} {v : Nat → Value} {i : Nat} (hi : i < 8) {v' : Value} (b : Below w.heap.size w w1) (nw : NewOr w (v (i + 1)) v') : Moved w (w1.setCell ⟨p, i + 1, none⟩ v') (footR p v) (footR p (putF v (i + 1) v')) := by
  refine ⟨b.os, b.tape, b.output, by simpa using b.size, fun k hk hn => ?_, ?_⟩
  · rw [Below.heap_setCell _ _ _ _ (fun e => hn (.inl e)), b.block k hk]
  · rintro k (rfl | ⟨j, hj, hk⟩)
    · exact .inl (.inl rfl)
    · by_cases e : j = i
      · subst e
        rw [putF_at] at hk
        rcases nw with h | ⟨g, h1, h2⟩
        · exact .inl (.inr ⟨j, hj, h ▸ hk⟩)
        · rw [h1] at hk
          injection hk with hk
          exact .inr (hk ▸ h2)
      · rw [putF_ne _ _ (by omega)] at hk
        exact .inl (.inr ⟨j, hj, hk⟩)
theorem Rb.row {w : World} {p : Nat} {F : Nat → Prop} {f : Nat → List (Nat × Nat)} (h : Rb w p F f) {i : Nat} (hi : i < 8) : ∃ u, w.cell? ⟨p, i + 1, none⟩ = some u ∧ Rng w u (f i) := by
  obtain ⟨v, hb, _⟩ := h
  exact ⟨v (i + 1), by rw [cell_of_list hb.blk]; exact fcells_get _ (by omega), (hb.rows i hi).rng⟩
theorem cell_on {w w' : World} {b j : Nat} {v : Value} (hb : Below w.heap.size w w') (h : w.cell? ⟨b, j, none⟩ = some v) : w'.cell? ⟨b, j, none⟩ = some v :=
  (hb.cell (p := ⟨b, j, none⟩) (World.block_lt_of_cell? _ _ h)).trans h
theorem keptW {w w1 w2 : World} (h : Below w.heap.size w w1) (b : Below w1.heap.size w1 w2) : Below w.heap.size w w2 := h.trans (b.mono h.size)
end Go.Proofs.YtjagaankkcbjmaaGreatDoor.S

/-
  TOPOLOGIES: edges between sites, how far it is, who is within. Of no program.
-/
namespace Go.Proofs.YtjagaankkcbjmaaGreatDoor.K
end Go.Proofs.YtjagaankkcbjmaaGreatDoor.K
namespace Go.Proofs.YtjagaankkcbjmaaGreatDoor.O
open Go.Proofs.YtjagaankkcbjmaaGreatDoor.K

/-- The sites 1 to S. -/
def sites (S : Int) : List Int := (List.range S.toNat).map fun i : Nat => (i : Int) + 1
theorem mem_sites {S n : Int} : n ∈ sites S ↔ 1 ≤ n ∧ n ≤ S := by
  simp only [sites, List.mem_map, List.mem_range]
  constructor
  · rintro ⟨i, hi, rfl⟩; omega
  · rintro ⟨h1, h2⟩; exact ⟨(n - 1).toNat, by omega, by omega⟩
theorem sites_lt (S : Int) : (sites S).Pairwise (· < ·) := by
  unfold sites
  rw [List.pairwise_map]
  exact List.Pairwise.imp (fun h => by omega) List.pairwise_lt_range
theorem nodup_of_lt {l : List Int} (h : l.Pairwise (· < ·)) : l.Nodup := h.imp fun h => by omega

/-- An edge leads from a site to another one. -/
def EdgeOk (S : Int) (e : Int × Int) : Prop := (1 ≤ e.1 ∧ e.1 ≤ S) ∧ (1 ≤ e.2 ∧ e.2 ≤ S) ∧ e.1 ≠ e.2
instance (S : Int) (e : Int × Int) : Decidable (EdgeOk S e) := by unfold EdgeOk; infer_instance
/-- A topology that may be. -/
def GoodT (S : Int) (E : List (Int × Int)) (H : Int) : Prop := (1 ≤ S ∧ S ≤ 8 ∧ 0 ≤ H ∧ H ≤ 8) ∧ (∀ e ∈ E, EdgeOk S e) ∧ E.Nodup
instance (S : Int) (E : List (Int × Int)) (H : Int) : Decidable (GoodT S E H) := by unfold GoodT; infer_instance
def goodB (S : Int) (E : List (Int × Int)) (H : Int) : Bool := decide (GoodT S E H)
theorem goodB_true {S : Int} {E : List (Int × Int)} {H : Int} (h : GoodT S E H) : goodB S E H = true := decide_eq_true h
theorem goodB_false {S : Int} {E : List (Int × Int)} {H : Int} (h : ¬ GoodT S E H) : goodB S E H = false := decide_eq_false h

/-- Who is in a list of no two alike, all of them in another: it is no longer than that. -/
theorem nodup_le {α : Type} [DecidableEq α] : ∀ {l m : List α}, l.Nodup → (∀ x ∈ l, x ∈ m) → l.length ≤ m.length
  | [], _, _, _ => Nat.zero_le _
  | x :: l, m, hn, hs => by
    obtain ⟨hx, hl⟩ := List.nodup_cons.1 hn
    have hm : x ∈ m := hs x (by simp)
    have := nodup_le (l := l) (m := m.erase x) hl fun y hy => by
      refine (List.mem_erase_of_ne ?_).2 (hs y (by simp [hy]))
      rintro rfl; exact hx hy
    rw [List.length_erase_of_mem hm] at this
    have := List.length_pos_of_mem hm
    simp only [List.length_cons]; omega
/-- A good topology has no more edges than there are pairs of sites. -/
theorem GoodT.few {S : Int} {E : List (Int × Int)} {H : Int} (h : GoodT S E H) : E.length ≤ 64 := by
  have hm : ∀ e ∈ E, e ∈ (sites 8).flatMap fun a => (sites 8).map fun b => (a, b) := by
    rintro ⟨a, b⟩ he
    have hok := h.2.1 _ he
    have := h.1
    simp only [EdgeOk] at hok
    simp only [List.mem_flatMap, List.mem_map, mem_sites]
    exact ⟨a, by omega, b, by omega, rfl⟩
  exact Nat.le_trans (nodup_le h.2.2 hm) (by decide)

/-- Who is there behind n edges at most, from a on. -/
def R (E : List (Int × Int)) (a : Int) : Nat → Int → Bool
  | 0, x => x == a
  | n + 1, x => R E a n x || E.any fun e => R E a n e.1 && e.2 == x
theorem R_succ {E : List (Int × Int)} {a : Int} {n : Nat} {x : Int} : R E a (n + 1) x = true ↔ R E a n x = true ∨ ∃ e ∈ E, R E a n e.1 = true ∧ e.2 = x := by
  simp only [R, Bool.or_eq_true, List.any_eq_true, Bool.and_eq_true, beq_iff_eq]
theorem R_mono {E : List (Int × Int)} {a x : Int} {n m : Nat} (h : n ≤ m) (hr : R E a n x = true) : R E a m x = true := by
  induction m with
  | zero => obtain rfl : n = 0 := by omega
            exact hr
  | succ m ih =>
    by_cases hn : n = m + 1
    · subst hn; exact hr
    · exact R_succ.2 (.inl (ih (by omega)))
theorem R_site {S : Int} {E : List (Int × Int)} {a : Int} (hE : ∀ e ∈ E, EdgeOk S e) (ha : 1 ≤ a ∧ a ≤ S) : ∀ (n : Nat) (x : Int), R E a n x = true → 1 ≤ x ∧ x ≤ S
  | 0, x, h => by simp only [R, beq_iff_eq] at h; subst h; exact ha
  | n + 1, x, h => by
    rcases R_succ.1 h with h | ⟨e, he, _, rfl⟩
    · exact R_site hE ha n x h
    · exact (hE e he).2.1
/-- If a step brings nobody new, none does. -/
theorem R_stay {E : List (Int × Int)} {a : Int} {n : Nat} (h : ∀ x, R E a (n + 1) x = true → R E a n x = true) : ∀ k x, R E a (n + k) x = true → R E a n x = true
  | 0, _, hx => hx
  | k + 1, x, hx => by
    rcases R_succ.1 (show R E a (n + k + 1) x = true from hx) with h' | ⟨e, he, h1, rfl⟩
    · exact R_stay h k x h'
    · exact h _ (R_succ.2 (.inr ⟨e, he, R_stay h k _ h1, rfl⟩))
theorem countP_lt {p q : Int → Bool} : ∀ {l : List Int} {x : Int}, (∀ y, p y = true → q y = true) → x ∈ l → q x = true → p x = false → l.countP p < l.countP q
  | y :: l, x, hpq, hx, hq, hp => by
    rw [List.countP_cons, List.countP_cons]
    have hle : l.countP p ≤ l.countP q := List.countP_mono_left fun z _ => hpq z
    rcases List.mem_cons.1 hx with rfl | hx
    · rw [hq, hp]; simp; omega
    · have := countP_lt hpq hx hq hp
      have : (if p y = true then 1 else 0) ≤ (if q y = true then 1 else 0) := by
        by_cases h : p y = true
        · rw [if_pos h, if_pos (hpq y h)]; exact Nat.le_refl _
        · rw [if_neg h]; exact Nat.zero_le _
      omega
/-- All that are ever reached are reached by fewer edges than there are sites. -/
theorem R_all {S : Int} {E : List (Int × Int)} {a : Int} (hE : ∀ e ∈ E, EdgeOk S e) (ha : 1 ≤ a ∧ a ≤ S) (n : Nat) (x : Int) (h : R E a n x = true) : R E a (S.toNat - 1) x = true := by
  by_cases hst : ∃ k, k < S.toNat ∧ ∀ x, R E a (k + 1) x = true → R E a k x = true
  · obtain ⟨k, hk, hs⟩ := hst
    have : R E a k x = true := R_stay hs n x (R_mono (by omega) h)
    exact R_mono (by omega) this
  · exfalso
    have hgrow : ∀ k, k ≤ S.toNat → k + 1 ≤ (sites S).countP (R E a k) := by
      intro k
      induction k with
      | zero =>
        intro _
        exact List.countP_pos_iff.2 ⟨a, mem_sites.2 ha, by simp [R]⟩
      | succ k ih =>
        intro hk
        have h1 := ih (by omega)
        obtain ⟨x, hx1, hx2⟩ : ∃ x, R E a (k + 1) x = true ∧ R E a k x = false := by
          apply Classical.byContradiction
          intro hn
          apply hst
          refine ⟨k, by omega, fun x hx => ?_⟩
          cases hr : R E a k x
          · exact absurd ⟨x, hx, hr⟩ hn
          · rfl
        have := countP_lt (p := R E a k) (q := R E a (k + 1)) (l := sites S) (fun y hy => R_mono (by omega) hy) (mem_sites.2 (R_site hE ha _ _ hx1)) hx1 hx2
        omega
    have h1 := hgrow S.toNat (Nat.le_refl _)
    have h2 : (sites S).countP (R E a S.toNat) ≤ (sites S).length := List.countP_le_length
    simp [sites] at h1 h2
    omega

/-- The first number from n on, of k ones, of which p holds; -1 if there is none. -/
def first (p : Nat → Bool) : Nat → Nat → Int
  | _, 0 => -1
  | n, k + 1 => if p n then (n : Int) else first p (n + 1) k
theorem first_none {p : Nat → Bool} : ∀ {n k : Nat}, (∀ m, n ≤ m → m < n + k → p m = false) → first p n k = -1
  | _, 0, _ => rfl
  | n, k + 1, h => by
    rw [first, if_neg (by rw [h n (Nat.le_refl _) (by omega)]; simp)]
    exact first_none fun m h1 h2 => h m (by omega) (by omega)
theorem first_some {p : Nat → Bool} : ∀ {n k m : Nat}, n ≤ m → m < n + k → p m = true → (∀ j, n ≤ j → j < m → p j = false) → first p n k = m
  | n, 0, m, h1, h2, _, _ => by omega
  | n, k + 1, m, h1, h2, hp, ha => by
    rw [first]
    by_cases hn : n = m
    · subst hn; rw [if_pos hp]
    · rw [if_neg (by rw [ha n (Nat.le_refl _) (by omega)]; simp)]
      exact first_some (by omega) (by omega) hp fun j h1 h2 => ha j (by omega) h2
theorem first_cases (p : Nat → Bool) (k : Nat) : (first p 0 k = -1 ∧ ∀ m, m < k → p m = false) ∨ ∃ m, m < k ∧ first p 0 k = (m : Int) ∧ p m = true ∧ ∀ j, j < m → p j = false := by
  by_cases h : ∃ m, m < k ∧ p m = true
  · right
    have key : ∀ m, m < k → p m = true → ∃ m, m < k ∧ p m = true ∧ ∀ j, j < m → p j = false := by
      intro m
      induction m using Nat.strongRecOn with
      | ind m ih =>
        intro hm hp
        by_cases h' : ∃ j, j < m ∧ p j = true
        · obtain ⟨j, hj, hpj⟩ := h'; exact ih j hj (by omega) hpj
        · refine ⟨m, hm, hp, fun j hj => ?_⟩
          cases hpj : p j
          · rfl
          · exact absurd ⟨j, hj, hpj⟩ h'
    obtain ⟨m, hm, hp⟩ := h
    obtain ⟨m, hm, hp, ha⟩ := key m hm hp
    exact ⟨m, hm, first_some (Nat.zero_le _) (by omega) hp fun j _ hj => ha j hj, hp, ha⟩
  · left
    have : ∀ m, m < k → p m = false := fun m hm => by
      cases hp : p m
      · rfl
      · exact absurd ⟨m, hm, hp⟩ h
    exact ⟨first_none fun m _ hm => this m (by omega), this⟩

/-- How far it is from a to x, if that is at most L. -/
def upto (E : List (Int × Int)) (a : Int) (L : Nat) (x : Int) : Int := first (fun n => R E a n x) 0 (L + 1)
/-- How far it is from a to x: two sites of a good topology. -/
def far (E : List (Int × Int)) (a x : Int) : Int := upto E a 8 x
theorem upto_cases (E : List (Int × Int)) (a : Int) (L : Nat) (x : Int) : (upto E a L x = -1 ∧ ∀ m, m ≤ L → R E a m x = false) ∨ ∃ m, m ≤ L ∧ upto E a L x = (m : Int) ∧ R E a m x = true ∧ ∀ j, j < m → R E a j x = false := by
  rcases first_cases (fun n => R E a n x) (L + 1) with ⟨h1, h2⟩ | ⟨m, hm, h⟩
  · exact .inl ⟨h1, fun m hm => h2 m (by omega)⟩
  · exact .inr ⟨m, by omega, h⟩
theorem upto_range (E : List (Int × Int)) (a : Int) (L : Nat) (x : Int) : -1 ≤ upto E a L x ∧ upto E a L x ≤ L := by
  rcases upto_cases E a L x with ⟨h, _⟩ | ⟨m, hm, h, _⟩ <;> omega
theorem upto_le {E : List (Int × Int)} {a x : Int} {L n : Nat} (hn : n ≤ L) : R E a n x = true ↔ 0 ≤ upto E a L x ∧ upto E a L x ≤ n := by
  rcases upto_cases E a L x with ⟨h, ha⟩ | ⟨m, hm, h, hr, ha⟩
  · rw [h, ha n hn]; simp
  · rw [h]
    constructor
    · intro hrn
      refine ⟨by omega, ?_⟩
      by_cases hlt : n < m
      · rw [ha n hlt] at hrn; exact absurd hrn (by simp)
      · omega
    · rintro ⟨_, h2⟩; exact R_mono (by omega) hr
theorem upto_eq {E : List (Int × Int)} {a x : Int} {L : Nat} {d : Int} (hd : -1 ≤ d) (hdL : d ≤ L) (h : ∀ n, n ≤ L → (R E a n x = true ↔ 0 ≤ d ∧ d ≤ n)) : upto E a L x = d := by
  have hr := upto_range E a L x
  by_cases hd0 : 0 ≤ d
  · have h1 := (h d.toNat (by omega)).2 (by omega)
    have h2 := (upto_le (L := L) (by omega)).1 h1
    have h3 := (upto_le (L := L) (E := E) (a := a) (x := x) (n := (upto E a L x).toNat) (by omega)).2 (by omega)
    have h4 := (h _ (by omega)).1 h3
    omega
  · by_cases hu : 0 ≤ upto E a L x
    · have h3 := (upto_le (L := L) (E := E) (a := a) (x := x) (n := (upto E a L x).toNat) (by omega)).2 (by omega)
      have h4 := (h _ (by omega)).1 h3
      omega
    · omega
/-- Where nobody is farther than L, that is how far it is. -/
theorem upto_same {E : List (Int × Int)} {a x : Int} {L M : Nat} (h : ∀ n, R E a n x = true → R E a L x = true) (h' : ∀ n, R E a n x = true → R E a M x = true) : upto E a L x = upto E a M x := by
  have hr := upto_range E a M x
  by_cases hm : 0 ≤ upto E a M x
  · have h3 := (upto_le (L := M) (E := E) (a := a) (x := x) (n := (upto E a M x).toNat) (by omega)).2 (by omega)
    have hL := h _ h3
    have hl := (upto_le (L := L) (E := E) (a := a) (x := x) (n := L) (by omega)).1 hL
    have hl2 := (upto_le (L := L) (E := E) (a := a) (x := x) (n := (upto E a L x).toNat) (by omega)).2 (by omega)
    by_cases hlt : upto E a L x < upto E a M x
    · have := (upto_le (L := M) (E := E) (a := a) (x := x) (n := (upto E a L x).toNat) (by omega)).1 hl2; omega
    · by_cases hgt : upto E a M x < upto E a L x
      · have := (upto_le (L := L) (E := E) (a := a) (x := x) (n := (upto E a M x).toNat) (by omega)).1 h3; omega
      · omega
  · have hl := upto_range E a L x
    by_cases hu : 0 ≤ upto E a L x
    · have h3 := (upto_le (L := L) (E := E) (a := a) (x := x) (n := (upto E a L x).toNat) (by omega)).2 (by omega)
      have h4 := (upto_le (L := M) (E := E) (a := a) (x := x) (n := M) (by omega)).1 (h' _ h3)
      omega
    · omega
theorem far_range (E : List (Int × Int)) (a x : Int) : -1 ≤ far E a x ∧ far E a x ≤ 8 := upto_range E a 8 x
end Go.Proofs.YtjagaankkcbjmaaGreatDoor.O
