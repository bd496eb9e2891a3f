/-
  leave: a seat goes out of the line: the line's clone, cut.
-/
import Derived.Test.YtooaiomghbjpiaaBase17
import Derived.LaidEqlPtr
namespace Go.Proofs.Ytooaiomghbjpiaa
open Go.RowKit Go.Maps Go.Sort Go.Shelf
set_option maxRecDepth 20000

/-- A block of a seat. -/
def SB (w : World) (b : Nat) : Prop := ∃ c, w.heap[b]? = some (.cells c 87 (0, 0))
/-- A pointer to a seat that is there, or nil. -/
structure Pt (w : World) where
  o : Option Nat
  h : ∀ b, o = some b → SB w b
instance (w : World) : Inhabited (Pt w) := ⟨⟨none, by simp⟩⟩
def encP {w : World} (x : Pt w) : Value := ptrO x.o
theorem holds_own {w : World} {base g cap : Nat} {e : TypeId} {d : List (Pt w)} (h : Own1 w base e (.slice (some ⟨g, 0, none⟩) d.length cap) (d.map encP)) : Go.Sort.Holds encP w g 0 d.toArray := fun j hj => by
  have hj' : j < d.length := by simpa using hj
  obtain ⟨_, cur, hb⟩ := own1_blk h rfl
  refine ⟨?_, by simp [World.frozen?, hb]⟩
  have := World.ownsRow.cells h (g := g) rfl j (encP d[j]) (by simp [hj'])
  rw [Go.WideShapes.add_plain] at this
  rw [this, getElem!_pos d.toArray j hj]
  simp
theorem seatInfo : ∃ i, Try.prog.info? 87 = some i ∧ i.size ≠ 0 := by
  have h : (Try.prog.info? 87).map (fun i => i.size) = some 4 := by kernel_rfl
  cases hi : Try.prog.info? 87 with
  | none => rw [hi] at h; cases h
  | some i => rw [hi] at h; injection h with h; exact ⟨i, rfl, by rw [show i.size = 4 from h]; decide⟩
theorem eql_ptr {W : World} {x : Option Nat} {q : Nat} (hx : ∀ b, x = some b → SB W b) (hq : SB W q) : (binOp .eql 78 (ptrO x) (.pointer (some ⟨q, 0, none⟩))).run Try.prog W = .ok (.bool (decide (x = some q))) W := by
  obtain ⟨i, hi, hs⟩ := seatInfo
  cases x with
  | none =>
    have h : ∀ d : Nat, (Op.equalIn (d + 1) 78 (.pointer none) (.pointer (some ⟨q, 0, none⟩))).run Try.prog W = .ok false W := fun d => by
      simp [Op.equalIn, run_underlying Try.underlying78]
    simp only [binOp, ptrO]
    simp [Op.equal, Op.maxDepth, h 9999]
  | some b =>
    by_cases e : b = q
    · subst e
      rw [decide_eq_true rfl]
      exact run_eql_ptr_same W ⟨b, 0, none⟩ Try.underlying78 hi
    · obtain ⟨cb, hb⟩ := hx b rfl
      obtain ⟨cq, hq⟩ := hq
      rw [decide_eq_false (by simpa using e)]
      exact run_eql_ptr_other W Try.underlying78 hi hs (fun h => e (by injection h)) hb hq
theorem leave1 (q : Nat) (x : Option Nat) (B : Nat) (W : World) (hx : ∀ b, x = some b → SB W b) (hq : SB W q) (hc : W.cell? ⟨B, 0, none⟩ = some (.pointer (some ⟨q, 0, none⟩))) :
    FnGives Try.prog 56 #[.pointer (some ⟨B, 0, none⟩)] #[ptrO x] (.bool (decide (x = some q))) W := by
  show Calls Try.prog 56 #[ptrO x, .pointer (some ⟨B, 0, none⟩)] W _
  have hE := eql_ptr hx hq
  generalize decide (x = some q) = r at hE ⊢
  cases x with
  | none =>
    unfold ptrO at hE ⊢
    go_enter Try.func56, Try.ntmps56
    go_wp2
    go_ret
    exact ⟨rfl, 0, rfl⟩
  | some b =>
    unfold ptrO at hE ⊢
    go_enter Try.func56, Try.ntmps56
    go_wp2
    go_ret
    exact ⟨rfl, 0, rfl⟩
/-- The line's pointers. -/
def ptOf {w : World} (X : List Sx) (h : ∀ x ∈ X, SB w x.p) (x : { x // x ∈ X }) : Pt w := ⟨some x.1.p, fun b e => by injection e with e; rw [← e]; exact h x.1 x.2⟩
def pts {w : World} (X : List Sx) (h : ∀ x ∈ X, SB w x.p) : List (Pt w) := X.attach.map (ptOf X h)
theorem pts_cells {w : World} (X : List Sx) (h : ∀ x ∈ X, SB w x.p) : (pts X h).map encP = pcs X := by
  unfold pts pcs
  rw [List.map_map]
  conv => rhs; rw [← List.attach_map_subtype_val X]
  rw [List.map_map]
  rfl
def cutX (X : List Sx) (q : Nat) : List Sx := X.filter fun x => !decide (x.p = q)
theorem pts_filter {w : World} (X : List Sx) (h : ∀ x ∈ X, SB w x.p) (q : Nat) : ((pts X h).filter fun x => !decide (x.o = some q)).map encP = pcs (cutX X q) := by
  unfold pts pcs cutX
  rw [List.filter_map, List.map_map]
  conv => rhs; rw [← List.attach_map_subtype_val X]
  rw [List.filter_map, List.map_map]
  have : ((fun x : Pt w => !decide (x.o = some q)) ∘ ptOf X h) = ((fun x : Sx => !decide (x.p = q)) ∘ Subtype.val) := by
    funext x
    simp [ptOf]
  rw [this]
  rfl

set_option maxHeartbeats 1000000 in
theorem delP_any (w : World) (base : Nat) (v : Value) (X : List Sx) (q B : Nat) (hr : Own1 w base 78 v (pcs X)) (hX : ∀ x ∈ X, SB w x.p) (hq : SB w q) (hbs : base ≤ w.heap.size) (hB : B < base) (hc : w.cell? ⟨B, 0, none⟩ = some (.pointer (some ⟨q, 0, none⟩))) :
    Calls Try.prog 55 #[v, .func (.func 56) #[] #[.pointer (some ⟨B, 0, none⟩)]] w fun e w' => ∃ v', e = .returned v' ∧ Own1 w' base 78 v' (pcs (cutX X q)) ∧ Below base w w' := by
  have eg : ∀ args w, (callFunc 56 args).run Try.prog w = .ok (.enter 56 args) w := enters_of Try.func56 (by kernel_rfl) rfl
  rw [← pts_filter X hX q]
  rw [← pts_cells X hX] at hr
  generalize pts X hX = l at hr
  have hr' := hr
  rcases hr.2 with ⟨rfl, hn⟩ | ⟨g, cap, cur, rfl, h1, h2, h3, h4, h5, h6⟩
  · obtain rfl : l = [] := by simpa using hn
    have hI := AnyE.slices_IndexFunc_empty (P := Try.prog) { Try.delF with } none 0 (.func (.func 56) #[] #[.pointer (some ⟨B, 0, none⟩)]) w
    change Calls Try.prog 38 _ _ _ at hI
    go_enter Try.func55, Try.ntmps55
    go_wp2_with (go_at_call 38; refine hI.mono ?_; rintro e w' ⟨rfl, rfl⟩)
    go_ret
    exact ⟨_, rfl, own1_nil _ _ _, Below.refl _ _⟩
  · have hll : (l.map encP).length = l.length := by simp
    rw [hll] at hr' h3 ⊢
    have hg : g < w.heap.size := (Array.getElem?_eq_some_iff.1 h2).1
    have hH := holds_own hr'
    have lts : ∀ b, SB w b → b < w.heap.size ∧ b ≠ g := fun b ⟨c, h⟩ => ⟨(Array.getElem?_eq_some_iff.1 h).1, fun e => by rw [e, h2] at h; simp at h⟩
    have far : ∀ (n : Nat) (os : Array Obj) (dk : Array (Pt w)) (b : Nat), SB w b → SB (sortWorld encP w g 0 n dk os) b := fun n os dk b hb => by
      obtain ⟨l1, l2⟩ := lts b hb
      obtain ⟨c, h⟩ := hb
      refine ⟨c, ?_⟩
      unfold sortWorld
      rw [heap_grow_old _ _ (by rw [size_putRow]; exact l1)]
      simp only [putRow, mapBlock, Array.getElem?_modify]
      rw [if_neg (by omega)]
      exact h
    have hcon := AnyE.slices_DeleteFunc Try.delF encP (fun x => by obtain ⟨o, _⟩ := x; cases o <;> rfl) (fun x : Pt w => decide (x.o = some q)) 56 #[.pointer (some ⟨B, 0, none⟩)] eg default Try.zeroValue78 g 0 cap l.toArray w
      (fun W x hb => leave1 q x.o B W (fun b e => by obtain ⟨c, h⟩ := x.h b e; exact ⟨c, (hb.block b (lts b ⟨c, h⟩).1).trans h⟩) (by obtain ⟨c, h⟩ := hq; exact ⟨c, (hb.block q (lts q ⟨c, h⟩).1).trans h⟩) ((hb.cell (p := ⟨B, 0, none⟩) (Nat.lt_of_lt_of_le hB hbs)).trans hc))
      (fun n os dk x _ => leave1 q x.o B _ (fun b e => far n os dk b (x.h b e)) (far n os dk q hq) (by
        unfold sortWorld
        rw [cell?_grow _ _ _ (by show B < (putRow _ _ _ _ _).heap.size; rw [size_putRow]; exact Nat.lt_of_lt_of_le hB hbs), cell?_putRow_other _ _ g 0 _ _ (Or.inl (by show B ≠ g; omega))]
        exact hc)) hH (by unfold maxLen at h4; simp; omega) (by simpa using h3)
    refine hcon.mono ?_
    rintro e w' ⟨rfl, n, rfl⟩
    have hf : (l.filter fun x : Pt w => !decide (x.o = some q)).length ≤ l.length := List.length_filter_le _ _
    refine ⟨_, rfl, ?_, ?_⟩
    · have := own_putRow (q := n) (k := (l.filter fun x : Pt w => !decide (x.o = some q)).length) (d := l.toArray) (d' := ((l.filter fun x : Pt w => !decide (x.o = some q)) ++ List.replicate (l.toArray.size - (l.filter fun x : Pt w => !decide (x.o = some q)).length) default).toArray) (enc := encP) (by simpa using hr') hH (by simp; omega) (by simpa using hf)
      simpa using this
    · refine ⟨rfl, rfl, rfl, by rw [size_putRow]; exact Nat.le_refl _, fun k hk => ?_⟩
      simp only [putRow, mapBlock, Array.getElem?_modify]
      rw [if_neg (by omega)]
      rfl
set_option maxHeartbeats 1000000 in
theorem cloneP_any (w : World) (v : Value) (X : List Sx) (hr : Own1 w 0 78 v (pcs X)) (hl : X.length ≤ 1000000) :
    Calls Try.prog 54 #[v] w fun e w' => ∃ v', e = .returned v' ∧ Own1 w' w.heap.size 78 v' (pcs X) ∧ Below w.heap.size w w' := by
  rcases hr.2 with ⟨rfl, hn⟩ | ⟨g, cap, cur, rfl, h1, h2, h3, h4, h5, h6⟩
  · obtain rfl : X = [] := by simpa [pcs] using hn
    refine (AnyE.slices_Clone_nil Try.cloneP 0 0 w).mono ?_
    rintro e w' ⟨rfl, rfl⟩
    exact ⟨_, rfl, own1_nil _ _ _, Below.refl _ _⟩
  · obtain ⟨i, hi, hz0, hz1, hz2⟩ : ∃ i, Try.prog.info? 78 = some i ∧ i.zero = some (.pointer none) ∧ i.size = 1 ∧ i.bytes = 8 := by
      have h : (Try.prog.info? 78).map (fun i => (i.zero, i.size, i.bytes)) = some (some (.pointer none), 1, 8) := by kernel_rfl
      cases hi : Try.prog.info? 78 with
      | none => rw [hi] at h; cases h
      | some i => rw [hi] at h; injection h with h; injection h with h1 h2; injection h2 with h2 h3; exact ⟨i, rfl, h1, h2, h3⟩
    rw [pcs_length] at hr ⊢
    refine (AnyE.slices_Clone Try.cloneP i (.pointer none) 1 8 hi hz0 hz1 hz2 rfl (by decide) Try.sizeOf78 g 0 X.length cap (pcs X) w (by rw [pcs_length]; simp) (by unfold maxLen; omega) (by omega) (fun j u hj => ?_) (fun u hu => ?_)).mono ?_
    · have := World.ownsRow.cells hr (g := g) rfl j u hj
      rw [Go.WideShapes.add_plain] at this
      exact this
    · obtain ⟨o, _, rfl⟩ := List.mem_map.1 hu
      rfl
    · rintro e w' ⟨v', rfl, ho, _, b⟩
      refine ⟨v', rfl, ?_, b⟩
      show w'.ownsRow _ _ 1 v' (pcs X).length (pcs X)
      rw [pcs_length]
      exact ho
end Go.Proofs.Ytooaiomghbjpiaa
