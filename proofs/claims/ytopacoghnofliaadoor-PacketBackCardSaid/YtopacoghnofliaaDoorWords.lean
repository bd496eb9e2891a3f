/-
  THE WALK of Words, the program's and the document's.
-/
import Derived.Test.YtopacoghnofliaaDoorSplits
namespace Go.Proofs.YtopacoghnofliaaDoor
open Go.RowKit Go.Shelf

attribute [local go_sem] Oper.semAt_some


/-- The cells that hold these texts. -/
def scells (l : List ByteArray) : List Value := l.map Value.string

theorem scells_length (l : List ByteArray) : (scells l).length = l.length := by simp [scells]

theorem scells_append (a b : List ByteArray) : scells (a ++ b) = scells a ++ scells b := by simp [scells]

theorem scells_one (l : List ByteArray) : ∀ u ∈ scells l, u.oneCell' = true := by
  intro u hu
  simp only [scells, List.mem_map] at hu
  obtain ⟨b, _, rfl⟩ := hu
  rfl


theorem elemS : Elem Tryd.prog 84 9 (.string ⟨#[]⟩) 16 :=
  ⟨Tryd.underlying84, by
    have h : (Tryd.prog.info? 9).map (fun i => (i.zero, i.size, i.bytes)) = some (some (.string ⟨#[]⟩), 1, 16) := by kernel_rfl
    cases hi : Tryd.prog.info? 9 with
    | none => rw [hi] at h; cases h
    | some i => rw [hi] at h; simp at h; exact ⟨i, rfl, h.1, h.2.1, h.2.2⟩, rfl⟩


/-- 'make([]T, n, c)'. -/
theorem run_make1 {P : Program} (w : World) (t e : TypeId) (z : Value) (by' : Nat) (U : Elem P t e z by') (k c : Nat) (hk : k ≤ c) (hc : c ≤ 1000000000) (hb : by' ≤ 16) :
    ∃ C : Array Value, (Instr.makeSlice t (.int .i64 (k : Int)) (.int .i64 (c : Int))).run P w = .ok (.slice (some ⟨w.heap.size, 0, none⟩) k c) (w.alloc (.cells C e)) ∧ C.size = c := by
  obtain ⟨i, hi, hz, hsz, hby⟩ := U.info
  have hr := run_make (P := P) w t e i z U.ht hi hz .i64 .i64 k c (by omega) (by omega) (by rw [hby]; have h1 : by' * c ≤ 16 * 1000000000 := Nat.mul_le_mul hb hc; have h2 : ((by' * c : Nat) : Int) = (by' : Int) * (c : Int) := Int.natCast_mul _ _; omega) (by omega)
  simp only [Int.toNat_natCast] at hr
  exact ⟨_, hr, by rw [size_madeCells, hsz]; omega⟩


set_option maxRecDepth 100000 in
set_option maxHeartbeats 2000000 in
theorem words_in (s : ByteArray) (w : World) (hs : s.size ≤ 1000000) (hs0 : s ≠ ⟨#[]⟩) :
    CallsIn Fence.wide 3 Tryd.prog 60 #[.string s] w fun e W' => ∃ v, e = .returned v ∧ Own1 W' w.heap.size 9 v (scells (strs (pieces (txt s)))) ∧ Below w.heap.size w W' := by
  have hcn : (txt s).count 46 ≤ 1000000 := Nat.le_trans List.count_le_length (by rw [txt_length]; exact hs)
  have hpc := pieces_count (txt s)
  have hne : s.toList.isEmpty = false := by
    rw [ByteArray.toList_eq]
    cases h : s.data.toList with
    | nil => exact absurd (txt_inj (show txt s = txt ⟨#[]⟩ from h)) hs0
    | cons b l => rfl
  obtain ⟨C, hmk, hC⟩ := run_make1 (P := Tryd.prog) w 84 9 _ 16 elemS 0 ((txt s).count 46 + 1) (by omega) (by omega) (by omega)
  have hmk' : (Instr.makeSlice 84 (.int .i64 0) (.int .i64 (((txt s).count 46 : Nat) + 1 : Int))).run Tryd.prog w = _ := hmk
  clear hmk
  refine callsIn_of_wp_marks Tryd.func60 rfl trivial ?_ rfl
  simp only [Tryd.ntmps60, List.size_toArray, List.length_cons, List.length_nil, Nat.reduceAdd, Nat.reduceSub, Array.replicate_succ, Array.replicate_zero, List.push_toArray, List.append_toArray, List.nil_append, List.cons_append]
  gi_wp2_with (first
    | (refine ⟨trivial, ?_⟩; gi_at_call 66; refine (callsIn_wide.2 (count_dot s _)).mono ?_; rintro e w ⟨rfl, rfl⟩)
    | (refine ⟨trivial, ?_⟩; gi_at_call 67; refine (callsIn_wide.2 (splitSeq_any s _)).mono ?_; rintro e w' ⟨rfl, rfl⟩))
  obtain ⟨W0, hW0⟩ : ∃ W0, ((((w.alloc (.cells C 9)).alloc (.cells #[.slice (some ⟨w.heap.size, 0, none⟩) 0 ((txt s).count 46 + 1)] 84)).alloc (.cells #[.string s] 9)).alloc (.cells #[.string ⟨#[46]⟩] 9)).alloc (.cells #[.int .i64 0] 3) = W0 := ⟨_, rfl⟩
  have hsz : W0.heap.size = w.heap.size + 5 := by rw [← hW0]; simp
  have hbx : Boxed W0 (w.heap.size + 1) 84 (.slice (some ⟨w.heap.size, 0, none⟩) 0 ((txt s).count 46 + 1)) := by
    have := ((Boxed.new (w.alloc (.cells C 9)) 84 (.slice (some ⟨w.heap.size, 0, none⟩) 0 ((txt s).count 46 + 1))).alloc (.cells #[.string s] 9)).alloc (.cells #[.string ⟨#[46]⟩] 9) |>.alloc (.cells #[.int .i64 0] 3)
    rw [hW0, World.size_alloc] at this
    exact this
  have hb0 : Boxed W0 (w.heap.size + 2) 9 (.string s) := by
    have := ((Boxed.new ((w.alloc (.cells C 9)).alloc (.cells #[.slice (some ⟨w.heap.size, 0, none⟩) 0 ((txt s).count 46 + 1)] 84)) 9 (.string s)).alloc (.cells #[.string ⟨#[46]⟩] 9)).alloc (.cells #[.int .i64 0] 3)
    rw [hW0, World.size_alloc, World.size_alloc] at this
    exact this
  have hb1 : Boxed W0 (w.heap.size + 3) 9 (.string ⟨#[46]⟩) := by
    have := (Boxed.new (((w.alloc (.cells C 9)).alloc (.cells #[.slice (some ⟨w.heap.size, 0, none⟩) 0 ((txt s).count 46 + 1)] 84)).alloc (.cells #[.string s] 9)) 9 (.string ⟨#[46]⟩)).alloc (.cells #[.int .i64 0] 3)
    rw [hW0, World.size_alloc, World.size_alloc, World.size_alloc] at this
    exact this
  have hb2 : Boxed W0 (w.heap.size + 4) 3 (.int .i64 0) := by
    have := Boxed.new ((((w.alloc (.cells C 9)).alloc (.cells #[.slice (some ⟨w.heap.size, 0, none⟩) 0 ((txt s).count 46 + 1)] 84)).alloc (.cells #[.string s] 9)).alloc (.cells #[.string ⟨#[46]⟩] 9)) 3 (.int .i64 0)
    rw [hW0, World.size_alloc, World.size_alloc, World.size_alloc, World.size_alloc] at this
    exact this
  have hrow0 : W0.ownsRow w.heap.size 9 1 (.slice (some ⟨w.heap.size, 0, none⟩) 0 ((txt s).count 46 + 1)) 0 [] := by
    have := World.ownsRow_made (base := w.heap.size) (e := 9) (size := 1) w C ((txt s).count 46 + 1) (Nat.le_refl _) (by unfold maxLen; omega) (by omega)
    have := (((this.alloc (.cells #[.slice (some ⟨w.heap.size, 0, none⟩) 0 ((txt s).count 46 + 1)] 84)).alloc (.cells #[.string s] 9)).alloc (.cells #[.string ⟨#[46]⟩] 9)).alloc (.cells #[.int .i64 0] 3)
    rw [hW0] at this
    exact this
  have hbel : Below w.heap.size w W0 := by
    rw [← hW0]
    exact (((((Below.refl _ w).alloc (Nat.le_refl _) _).alloc (by simp) _).alloc (by simp; omega) _).alloc (by simp; omega) _).alloc (by simp; omega) _
  rw [hW0]
  clear hW0
  refine wpIn_range_box rfl (by decide) (gf := 75) (lb := #[.pointer (some ⟨w.heap.size + 2 + 1, 0, none⟩), .pointer (some ⟨w.heap.size + 2, 0, none⟩), .pointer (some ⟨w.heap.size + 2 + 2, 0, none⟩)]) rfl trivial (enters_of Tryd.func75 (by kernel_rfl) rfl)
    (Bs := w.heap.size + 2) (lo := w.heap.size + 2) (by omega) (split_seq _ (by decide) (w.heap.size + 2) s hs W0 (by omega) hb0.cell hb0.frozen hb1.cell hb2.cell) (fun _ => rfl)
    (fun pre W => (pre.length ≤ (txt s).count 46 + 1 ∧ w.heap.size + 5 ≤ W.heap.size) ∧ Boxed W (w.heap.size + 1) 84 (.slice (some ⟨w.heap.size, 0, none⟩) pre.length ((txt s).count 46 + 1)) ∧ W.ownsRow w.heap.size 9 1 (.slice (some ⟨w.heap.size, 0, none⟩) pre.length ((txt s).count 46 + 1)) pre.length (scells pre) ∧ Below w.heap.size w W)
    ?own ⟨⟨by simp, by omega⟩, hbx, hrow0, hbel⟩
    (fun x => { tmps := #[.string s, undef, .slice none 0 0, .pointer (some ⟨w.heap.size + 1, 0, none⟩), .string x, .string s, .bool false, .string s, .int .i64 ((txt s).count 46 : Nat), .int .i64 (((txt s).count 46 : Nat) + 1), .slice (some ⟨w.heap.size, 0, none⟩) 0 ((txt s).count 46 + 1), .string s,
      .func (.func 75) #[] #[.pointer (some ⟨w.heap.size + 2 + 1, 0, none⟩), .pointer (some ⟨w.heap.size + 2, 0, none⟩), .pointer (some ⟨w.heap.size + 2 + 2, 0, none⟩)], .string x, undef, undef, undef, undef, undef], defers := [] }) ?assign ?body ?done
  case own =>
    rintro pre A B row ⟨hle, hv, hr, hB⟩ hg hrow
    have n0 : some w.heap.size ≠ row := by
      intro e
      rcases hrow _ e.symm with h | ⟨h, _⟩ <;> omega
    have n1 : some (w.heap.size + 1) ≠ row := by
      intro e
      rcases hrow _ e.symm with h | ⟨h, _⟩ <;> omega
    refine ⟨⟨hle.1, Nat.le_trans hle.2 hg.size⟩, hv.kept hg n1, hr.kept hg (.inr (by simpa [Value.ownBlock] using n0)), hB.grown hg hB.size (fun k e => ?_)⟩
    rcases hrow _ e with h | ⟨h, _⟩ <;> omega
  case assign =>
    intro l x W K hK
    gi_wp2
    exact hK
  case body =>
    rintro l pre x W ⟨hle, hv, hrow, hB⟩ hlt
    have hl2 : pre.length < (txt s).count 46 + 1 := by omega
    have hc := hv.cell
    have hsW : w.heap.size + 5 ≤ W.heap.size := hle.2
    obtain ⟨i0, hi, hz0, hz1, hz2⟩ := elemS.info
    gi_wp2_with (gi_at_builtin; refine wpListIn_append_fits _ rfl _ _ 84 rfl w.heap.size 9 i0 1 Tryd.underlying84 hi hz1 w.heap.size pre.length _ (scells pre) rfl (hrow.alloc _) ⟨W.heap.size, 0, none⟩ 1 1 [.string x] rfl rfl (cell_one_new _ _ _) (by simp [Value.oneCell']) (by omega) ?_; intro w1 hown' hgrow; have hv1 := (hv.alloc (.cells #[.string x] 9)).kept hgrow (by simp; try omega); have hc1 := hv1.cell; have hf1 := hv1.frozen)
    have hw1 := hgrow.size
    simp at hw1
    refine ⟨((KeepsOthers.alloc W _).from _).trans ((KeepsFrom.of_grownBy hgrow (fun j e => by cases e; omega)).trans ((KeepsOthers.setCell _ _ _).from _)), ?_, ⟨by omega, by omega⟩, hv1.set _, ?_, ?_⟩
    · intro b h1 h2
      rw [(grownBy_setCell' w1 (w.heap.size + 1) _).block b (by omega) (by simp; omega), hgrow.block b (by simp; omega) (by simp; omega)]
      exact Below.heap_alloc W _ b (by omega)
    · rw [scells_append]
      exact hown'.kept (grownBy_setCell' w1 _ _) (.inr (by simp [Value.ownBlock]))
    · exact ((hB.alloc hB.size _).grown hgrow (by simp; omega) (fun k e => by cases e; exact Nat.le_refl _)).setCell (p := ⟨w.heap.size + 1, 0, none⟩) (by show w.heap.size ≤ w.heap.size + 1; omega) _
  case done =>
    rintro D ys W hD rfl ⟨hle, hv, hrow, hB⟩ hK
    have hc := hv.cell
    gi_wp2
    refine ⟨by simp, .inl ⟨_, _, rfl, run_takeDeferred hK, ?_⟩⟩
    refine ⟨_, results_tmp rfl _ _ _, _, rfl, ?_, hB.trans (belowK_b (w := w) (Nat.le_refl _) W D _ _ (by omega) hK rfl rfl)⟩
    have := ownsRow_putObj hrow (.deferred none) hK rfl
    unfold Own1
    rw [scells_length]
    exact this


theorem wordsL_txt (s : ByteArray) (h : s ≠ ⟨#[]⟩) : wordsL (txt s) = pieces (txt s) := by
  unfold wordsL
  rw [if_neg]
  intro e
  apply h
  apply txt_inj
  rw [List.isEmpty_iff.1 e]; rfl

theorem wordsL_none : wordsL (txt ⟨#[]⟩) = [] := rfl


/-- Words: what stands between dots. -/
theorem words_any (s : ByteArray) (w : World) (hs : s.size ≤ 1000000) :
    Calls Tryd.prog 60 #[.string s] w fun e W' => ∃ v, e = .returned v ∧ Own1 W' w.heap.size 9 v (scells (strs (wordsL (txt s)))) ∧ Below w.heap.size w W' := by
  by_cases h : s = ⟨#[]⟩
  · subst h
    go_enter Tryd.func60, Tryd.ntmps60
    go_wp2
    go_ret
    exact ⟨_, rfl, own1_nil _ _ _, Below.refl _ _⟩
  · rw [wordsL_txt s h]
    exact callsIn_wide.1 (words_in s w hs h)


/-- The pieces of a beginning, and the piece that is not at its end yet. -/
def cutP : Txt → List Txt × Txt
  | [] => ([], [])
  | b :: l => let r := cutP l; if b = 46 then ([] :: r.1, r.2) else match r.1 with
    | [] => ([], b :: r.2)
    | p :: ps => ((b :: p) :: ps, r.2)

theorem pieces_cut (l : Txt) : pieces l = (cutP l).1 ++ [(cutP l).2] := by
  induction l with
  | nil => rfl
  | cons b l ih =>
    unfold pieces cutP
    rw [ih]
    split
    · simp
    · cases h : (cutP l).1 with
      | nil => simp [h]
      | cons p ps => simp [h]

theorem cutP_dot (l : Txt) : cutP (l ++ [46]) = ((cutP l).1 ++ [(cutP l).2], []) := by
  induction l with
  | nil => rfl
  | cons b l ih =>
    rw [List.cons_append, cutP, cutP, ih]
    by_cases hb : b = 46
    · simp [hb]
    · cases h : (cutP l).1 with
      | nil => simp [hb]
      | cons p ps => simp [hb]

theorem cutP_snoc (l : Txt) (c : UInt8) (hc : c ≠ 46) : cutP (l ++ [c]) = ((cutP l).1, (cutP l).2 ++ [c]) := by
  induction l with
  | nil => simp [cutP, hc]
  | cons b l ih =>
    rw [List.cons_append, cutP, cutP, ih]
    by_cases hb : b = 46
    · simp [hb]
    · cases h : (cutP l).1 with
      | nil => simp [hb]
      | cons p ps => simp [hb]

theorem cutP_len (l : Txt) : (cutP l).1.length ≤ l.length ∧ (cutP l).2.length ≤ l.length := by
  induction l with
  | nil => simp [cutP]
  | cons b l ih =>
    unfold cutP
    by_cases hb : b = 46
    · simp [hb]; omega
    · cases h : (cutP l).1 with
      | nil => simp [hb, h]; omega
      | cons p ps => simp [hb, h] at ih ⊢; omega

end Go.Proofs.YtopacoghnofliaaDoor
