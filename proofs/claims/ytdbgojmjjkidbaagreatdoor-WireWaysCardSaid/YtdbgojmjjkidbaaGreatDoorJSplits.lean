/-
  THE WALK of strings.SplitSeq at one dot: the pieces between dots, one by one.
-/
import Derived.Test.YtdbgojmjjkidbaaGreatDoorJTexts
import Derived.Test.YtdbgojmjjkidbaaGreatDoorJLoops
import Derived.Test.YtdbgojmjjkidbaaGreatDoorJShelf
import Derived.Laws.DeepStrings4
import Derived.Laws.Concat
namespace Go.Proofs.YtdbgojmjjkidbaaGreatDoor
open Go.RowKit Go.Shelf

attribute [local go_sem] Oper.semAt_some


/-- A text of these bytes. -/
def str (l : Txt) : ByteArray := ⟨l.toArray⟩

theorem txt_str (l : Txt) : txt (str l) = l := by simp [txt, str]

theorem str_txt (s : ByteArray) : str (txt s) = s := txt_inj (txt_str _)


theorem txt_extract (t : ByteArray) (a b : Nat) : txt (t.extract a b) = ((txt t).drop a).take (b - a) := by
  unfold txt
  rw [ByteArray.data_extract, Array.toList_extract, List.extract_eq_take_drop]


theorem index_none (l : Txt) (h : Lib.indexByte l 46 = -1) : ∀ b ∈ l, b ≠ 46 := by
  induction l with
  | nil => simp
  | cons b l ih =>
    unfold Lib.indexByte at h
    split at h
    · cases h
    · rename_i hb
      split at h
      · rename_i hi
        intro c hc
        rcases List.mem_cons.1 hc with rfl | hc
        · simpa using hb
        · exact ih (by simpa using hi) c hc
      · have := Lib.indexByte_ge l 46
        omega

theorem index_some (l : Txt) (i : Nat) (h : Lib.indexByte l 46 = i) : i < l.length ∧ l = l.take i ++ 46 :: l.drop (i + 1) ∧ ∀ b ∈ l.take i, b ≠ 46 := by
  induction l generalizing i with
  | nil => exact absurd h (by unfold Lib.indexByte; omega)
  | cons b l ih =>
    unfold Lib.indexByte at h
    split at h
    · rename_i hb
      have : b = 46 := by simpa using hb
      subst this
      have hi : i = 0 := by omega
      subst hi
      simp
    · rename_i hb
      split at h
      · exact absurd h (by omega)
      · have hge := Lib.indexByte_ge l 46
        rename_i hne
        have hne' : Lib.indexByte l 46 ≠ -1 := by simpa using hne
        obtain ⟨j, hj⟩ : ∃ j : Nat, Lib.indexByte l 46 = j := ⟨(Lib.indexByte l 46).toNat, by omega⟩
        have hij : i = j + 1 := by omega
        subst hij
        obtain ⟨h1, h2, h3⟩ := ih j hj
        refine ⟨by simp; omega, ?_, ?_⟩
        · rw [List.take_succ_cons, List.drop_succ_cons, List.cons_append, ← h2]
        · intro c hc
          rw [List.take_succ_cons] at hc
          rcases List.mem_cons.1 hc with rfl | hc
          · simpa using hb
          · exact h3 c hc


/-- The length of the text in a box: for the loop's measure. -/
def boxLen (W : World) (B : Nat) : Nat := match W.cell? ⟨B, 0, none⟩ with | some (.string t) => t.size | _ => 0

theorem boxLen_eq {W : World} {B : Nat} {t : ByteArray} (h : W.cell? ⟨B, 0, none⟩ = some (.string t)) : boxLen W B = t.size := by
  unfold boxLen; rw [h]


def strs (l : List Txt) : List ByteArray := l.map str


theorem index_dot (t : ByteArray) (w : World) : Calls Tryz.prog 131 #[.string t, .string ⟨#[46]⟩] w fun e w' => e = .returned (.int .i64 (Lib.indexByte (txt t) 46)) ∧ w' = w :=
  Any.strings_Index_one Tryz.lays143 t 46 w

theorem count_dot (t : ByteArray) (w : World) : Calls Tryz.prog 124 #[.string t, .string ⟨#[46]⟩] w fun e w' => e = .returned (.int .i64 ((txt t).count 46 : Nat)) ∧ w' = w :=
  Any.strings_Count_one Tryz.lays138 t 46 w


set_option maxRecDepth 100000 in
set_option maxHeartbeats 1000000 in
theorem split1_in (n : Nat) (_hn : 1 ≤ n) (l Bs : Nat) (s : ByteArray) (hs : s.size ≤ 1000000) (J : List ByteArray → World → Prop)
    (hJ : ∀ pre A B row, J pre A → A.grownBy B row → (∀ r, row = some r → r = Bs) → J pre B)
    (hY : ∀ pre x W1, J pre W1 → pre.length < (pieces (txt s)).length → YieldAt Fence.wide (n - 1) Tryz.prog l #[.string x] W1 fun e W' => e = .returned (.bool true) ∧ J (pre ++ [x]) W' ∧ Kept Bs (Bs + 3) W1 W')
    (W : World) (hc0 : W.cell? ⟨Bs, 0, none⟩ = some (.string s)) (hf0 : W.frozen? ⟨Bs, 0, none⟩ = false) (hc1 : W.cell? ⟨Bs + 1, 0, none⟩ = some (.string ⟨#[46]⟩)) (hc2 : W.cell? ⟨Bs + 2, 0, none⟩ = some (.int .i64 0)) (h0 : J [] W) :
    CallsIn Fence.wide n Tryz.prog 134 #[.func (.yield l) #[] #[], .pointer (some ⟨Bs + 1, 0, none⟩), .pointer (some ⟨Bs, 0, none⟩), .pointer (some ⟨Bs + 2, 0, none⟩)] W fun e W' => (∃ v, e = .returned v) ∧ ∃ xs, xs = strs (pieces (txt s)) ∧ J xs W' := by
  refine callsIn_of_wp Tryz.func134 rfl trivial ?_ rfl
  simp only [Tryz.ntmps134, List.size_toArray, List.length_cons, List.length_nil, Nat.reduceAdd, Nat.reduceSub, Array.replicate_succ, Array.replicate_zero, List.push_toArray, List.append_toArray, List.nil_append, List.cons_append]
  have hlen1 : ∀ q : ByteArray, q.size ≤ 1000000 → (q.size : Int) ≤ 1000000 := fun q h => by omega
  gi_wp2
  gi_loopw [] (fun wr => ∃ (pre : List ByteArray) (t : ByteArray), strs (pieces (txt s)) = pre ++ strs (pieces (txt t)) ∧ t.size ≤ 1000000 ∧ wr.cell? ⟨Bs, 0, none⟩ = some (.string t) ∧ wr.frozen? ⟨Bs, 0, none⟩ = false ∧ wr.cell? ⟨Bs + 1, 0, none⟩ = some (.string ⟨#[46]⟩) ∧ wr.cell? ⟨Bs + 2, 0, none⟩ = some (.int .i64 0) ∧ J pre wr)
    (fun wr => boxLen wr Bs)
  case atStart => exact ⟨[], s, rfl, hs, hc0, hf0, hc1, hc2, h0⟩
  case round =>
    clear hc0 hf0 hc1 hc2 h0
    obtain ⟨pre, t, hx, ht, hc0, hf0, hc1, hc2, hJp⟩ := hrel
    have hge := Lib.indexByte_ge (txt t) 46
    have HX : Hid _ := hx
    clear hx
    by_cases hi : Lib.indexByte (txt t) 46 = -1
    · obtain ⟨fn, tmps, assign, body, hy, hR⟩ := hY pre t wr hJp (by
        have := congrArg List.length HX.out
        have h1 := pieces_count (txt t)
        simp [strs] at this
        omega)
      gi_wp2_with (refine ⟨trivial, ?_⟩; gi_at_call 131; refine (callsIn_wide.2 (index_dot t _)).mono ?_; rintro e w' ⟨rfl, rfl⟩)
      refine hR.mono ?_
      rintro e W3 ⟨rfl, hJ3, hk3⟩
      gi_wp2
      go_end0
      refine ⟨⟨_, rfl⟩, _, ?_, hJ3⟩
      rw [HX.out, pieces_none _ (index_none _ hi)]
      simp [strs, str_txt]
    · obtain ⟨i, hii⟩ : ∃ i : Nat, Lib.indexByte (txt t) 46 = i := ⟨(Lib.indexByte (txt t) 46).toNat, by omega⟩
      obtain ⟨hlt, heq, hno⟩ := index_some _ _ hii
      rw [txt_length] at hlt
      have HE : Hid _ := heq
      clear hge hi heq
      have hcnt : pre.length < (pieces (txt s)).length := by
        have := congrArg List.length HX.out
        have h1 := pieces_count (txt t)
        simp [strs] at this
        omega
      have hnext : strs (pieces (txt s)) = (pre ++ [t.extract 0 i]) ++ strs (pieces (txt (t.extract (i + 1) t.size))) := by
        rw [HX.out]
        have e0 : t.extract 0 i = str ((txt t).take i) := txt_inj (by rw [txt_str, txt_extract]; simp)
        have e1 : txt (t.extract (i + 1) t.size) = (txt t).drop (i + 1) := by
          rw [txt_extract, List.take_of_length_le (by rw [List.length_drop, txt_length]; exact Nat.le_refl _)]
        rw [e1, e0]
        have h2 := pieces_dot ((txt t).take i) ((txt t).drop (i + 1)) hno
        rw [← HE.out] at h2
        rw [h2]
        simp [strs]
      have HN : Hid _ := hnext
      clear hnext
      obtain ⟨fn, tmps, assign, body, hy, hR⟩ := hY pre (t.extract 0 i) wr hJp hcnt
      gi_wp2_with (refine ⟨trivial, ?_⟩; gi_at_call 131; refine (callsIn_wide.2 (index_dot t _)).mono ?_; rintro e w' ⟨rfl, rfl⟩)
      refine hR.mono ?_
      rintro e W3 ⟨rfl, hJ3, hk3⟩
      have d0 := (hk3.cell Bs 0 (by omega) (by omega)).trans hc0
      have d1 := (hk3.cell (Bs + 1) 0 (by omega) (by omega)).trans hc1
      have d2 := (hk3.cell (Bs + 2) 0 (by omega) (by omega)).trans hc2
      have df := (hk3.frozen Bs 0 (by omega) (by omega)).trans hf0
      gi_wp2
      go_roundw
      case rel =>
        have oth : ∀ b, b ≠ Bs → ∀ v, (W3.setCell ⟨Bs, 0, none⟩ v).cell? ⟨b, 0, none⟩ = W3.cell? ⟨b, 0, none⟩ := fun b hb v => by
          by_cases hlt' : b < W3.heap.size
          · exact World.cell?_of_block (a := ⟨b, 0, none⟩) ((grownBy_setCell' W3 Bs v).block b hlt' (fun e => hb (by cases e; rfl)))
          · rw [World.cell?_setCell_other]; intro e; apply hb; cases e; rfl
        refine ⟨pre ++ [t.extract 0 i], t.extract (i + 1) t.size, HN.out, ?_, ?_, by rw [World.frozen?_setCell]; exact df, (oth _ (by omega) _).trans d1, (oth _ (by omega) _).trans d2, hJ _ _ _ _ hJ3 (grownBy_setCell' W3 Bs _) (fun r e => by cases e; rfl)⟩
        · rw [ByteArray.size_extract]; omega
        · exact World.cell?_setCell_same' _ _ _ (by rw [d0]; rfl)
      case measure =>
        rw [boxLen_eq hc0, boxLen_eq (t := t.extract (i + 1) t.size) (World.cell?_setCell_same' _ _ _ (by rw [d0]; rfl)), ByteArray.size_extract]
        omega


/-- SplitSeq(s, "."): the pieces of s, if nobody else writes its boxes. -/
theorem splitSeq_any (s : ByteArray) (w : World) :
    Calls Tryz.prog 125 #[.string s, .string ⟨#[46]⟩] w fun e w' =>
      e = .returned (.func (.func 134) #[] #[.pointer (some ⟨w.heap.size + 1, 0, none⟩), .pointer (some ⟨w.heap.size, 0, none⟩), .pointer (some ⟨w.heap.size + 2, 0, none⟩)]) ∧
      w' = ((w.alloc (.cells #[.string s] 9)).alloc (.cells #[.string ⟨#[46]⟩] 9)).alloc (.cells #[.int .i64 0] 3) := by
  go_enter Tryz.func125, Tryz.ntmps125
  go_wp2
  go_ret
  exact ⟨rfl, rfl⟩


theorem split_seq (n : Nat) (hn : 1 ≤ n) (Bs : Nat) (s : ByteArray) (hs : s.size ≤ 1000000) (w : World) (hw : Bs + 3 = w.heap.size) (hc0 : w.cell? ⟨Bs, 0, none⟩ = some (.string s)) (hf0 : w.frozen? ⟨Bs, 0, none⟩ = false)
    (hc1 : w.cell? ⟨Bs + 1, 0, none⟩ = some (.string ⟨#[46]⟩)) (hc2 : w.cell? ⟨Bs + 2, 0, none⟩ = some (.int .i64 0)) :
    SeqBox Fence.wide n Tryz.prog 134 #[.pointer (some ⟨Bs + 1, 0, none⟩), .pointer (some ⟨Bs, 0, none⟩), .pointer (some ⟨Bs + 2, 0, none⟩)] (fun x : ByteArray => #[Value.string x]) Bs Bs w.heap.size (fun xs => xs = strs (pieces (txt s))) (pieces (txt s)).length w := by
  intro l J W hW hJ hY h0
  rw [← hw] at hY
  exact split1_in n hn l Bs s hs J hJ hY W ((hW.cell (p := ⟨Bs, 0, none⟩) (by show Bs < _; omega)).trans hc0) ((hW.frozen (p := ⟨Bs, 0, none⟩) (by show Bs < _; omega)).trans hf0)
    ((hW.cell (p := ⟨Bs + 1, 0, none⟩) (by show Bs + 1 < _; omega)).trans hc1) ((hW.cell (p := ⟨Bs + 2, 0, none⟩) (by show Bs + 2 < _; omega)).trans hc2) h0

end Go.Proofs.YtdbgojmjjkidbaaGreatDoor

/-
  THE WALK of Words, the program's and the document's.
-/
namespace Go.Proofs.YtdbgojmjjkidbaaGreatDoor
open Go.RowKit Go.Shelf

attribute [local go_sem] Oper.semAt_some


/-- The cells that hold these texts. -/
def scells (l : List ByteArray) : List Value := l.map Value.string

theorem scells_length (l : List ByteArray) : (scells l).length = l.length := by simp [scells]

theorem scells_append (a b : List ByteArray) : scells (a ++ b) = scells a ++ scells b := by simp [scells]

theorem scells_one (l : List ByteArray) : ∀ u ∈ scells l, u.oneCell' = true := by
  intro u hu
  simp only [scells, List.mem_map] at hu
  obtain ⟨b, _, rfl⟩ := hu
  rfl


theorem elemS : Elem Tryz.prog 141 9 (.string ⟨#[]⟩) 16 :=
  ⟨Tryz.underlying141, by
    have h : (Tryz.prog.info? 9).map (fun i => (i.zero, i.size, i.bytes)) = some (some (.string ⟨#[]⟩), 1, 16) := by kernel_rfl
    cases hi : Tryz.prog.info? 9 with
    | none => rw [hi] at h; cases h
    | some i => rw [hi] at h; simp at h; exact ⟨i, rfl, h.1, h.2.1, h.2.2⟩, rfl⟩


/-- 'make([]T, n, c)'. -/
theorem run_make1 {P : Program} (w : World) (t e : TypeId) (z : Value) (by' : Nat) (U : Elem P t e z by') (k c : Nat) (hk : k ≤ c) (hc : c ≤ 1000000000) (hb : by' ≤ 16) :
    ∃ C : Array Value, (Instr.makeSlice t (.int .i64 (k : Int)) (.int .i64 (c : Int))).run P w = .ok (.slice (some ⟨w.heap.size, 0, none⟩) k c) (w.alloc (.cells C e)) ∧ C.size = c := by
  obtain ⟨i, hi, hz, hsz, hby⟩ := U.info
  have hr := run_make (P := P) w t e i z U.ht hi hz .i64 .i64 k c (by omega) (by omega) (by rw [hby]; have h1 : by' * c ≤ 16 * 1000000000 := Nat.mul_le_mul hb hc; have h2 : ((by' * c : Nat) : Int) = (by' : Int) * (c : Int) := Int.natCast_mul _ _; omega) (by omega)
  simp only [Int.toNat_natCast] at hr
  exact ⟨_, hr, by rw [size_madeCells, hsz]; omega⟩


set_option maxRecDepth 100000 in
set_option maxHeartbeats 2000000 in
theorem words_in (s : ByteArray) (w : World) (hs : s.size ≤ 1000000) (hs0 : s ≠ ⟨#[]⟩) :
    CallsIn Fence.wide 3 Tryz.prog 114 #[.string s] w fun e W' => ∃ v, e = .returned v ∧ Own1 W' w.heap.size 9 v (scells (strs (pieces (txt s)))) ∧ Below w.heap.size w W' := by
  have hcn : (txt s).count 46 ≤ 1000000 := Nat.le_trans List.count_le_length (by rw [txt_length]; exact hs)
  have hpc := pieces_count (txt s)
  have hne : s.toList.isEmpty = false := by
    rw [ByteArray.toList_eq]
    cases h : s.data.toList with
    | nil => exact absurd (txt_inj (show txt s = txt ⟨#[]⟩ from h)) hs0
    | cons b l => rfl
  obtain ⟨C, hmk, hC⟩ := run_make1 (P := Tryz.prog) w 141 9 _ 16 elemS 0 ((txt s).count 46 + 1) (by omega) (by omega) (by omega)
  have hmk' : (Instr.makeSlice 141 (.int .i64 0) (.int .i64 (((txt s).count 46 : Nat) + 1 : Int))).run Tryz.prog w = _ := hmk
  clear hmk
  refine callsIn_of_wp_marks Tryz.func114 rfl trivial ?_ rfl
  simp only [Tryz.ntmps114, List.size_toArray, List.length_cons, List.length_nil, Nat.reduceAdd, Nat.reduceSub, Array.replicate_succ, Array.replicate_zero, List.push_toArray, List.append_toArray, List.nil_append, List.cons_append]
  gi_wp2_with (first
    | (refine ⟨trivial, ?_⟩; gi_at_call 124; refine (callsIn_wide.2 (count_dot s _)).mono ?_; rintro e w ⟨rfl, rfl⟩)
    | (refine ⟨trivial, ?_⟩; gi_at_call 125; refine (callsIn_wide.2 (splitSeq_any s _)).mono ?_; rintro e w' ⟨rfl, rfl⟩))
  obtain ⟨W0, hW0⟩ : ∃ W0, ((((w.alloc (.cells C 9)).alloc (.cells #[.slice (some ⟨w.heap.size, 0, none⟩) 0 ((txt s).count 46 + 1)] 141)).alloc (.cells #[.string s] 9)).alloc (.cells #[.string ⟨#[46]⟩] 9)).alloc (.cells #[.int .i64 0] 3) = W0 := ⟨_, rfl⟩
  have hsz : W0.heap.size = w.heap.size + 5 := by rw [← hW0]; simp
  have hbx : Boxed W0 (w.heap.size + 1) 141 (.slice (some ⟨w.heap.size, 0, none⟩) 0 ((txt s).count 46 + 1)) := by
    have := ((Boxed.new (w.alloc (.cells C 9)) 141 (.slice (some ⟨w.heap.size, 0, none⟩) 0 ((txt s).count 46 + 1))).alloc (.cells #[.string s] 9)).alloc (.cells #[.string ⟨#[46]⟩] 9) |>.alloc (.cells #[.int .i64 0] 3)
    rw [hW0, World.size_alloc] at this
    exact this
  have hb0 : Boxed W0 (w.heap.size + 2) 9 (.string s) := by
    have := ((Boxed.new ((w.alloc (.cells C 9)).alloc (.cells #[.slice (some ⟨w.heap.size, 0, none⟩) 0 ((txt s).count 46 + 1)] 141)) 9 (.string s)).alloc (.cells #[.string ⟨#[46]⟩] 9)).alloc (.cells #[.int .i64 0] 3)
    rw [hW0, World.size_alloc, World.size_alloc] at this
    exact this
  have hb1 : Boxed W0 (w.heap.size + 3) 9 (.string ⟨#[46]⟩) := by
    have := (Boxed.new (((w.alloc (.cells C 9)).alloc (.cells #[.slice (some ⟨w.heap.size, 0, none⟩) 0 ((txt s).count 46 + 1)] 141)).alloc (.cells #[.string s] 9)) 9 (.string ⟨#[46]⟩)).alloc (.cells #[.int .i64 0] 3)
    rw [hW0, World.size_alloc, World.size_alloc, World.size_alloc] at this
    exact this
  have hb2 : Boxed W0 (w.heap.size + 4) 3 (.int .i64 0) := by
    have := Boxed.new ((((w.alloc (.cells C 9)).alloc (.cells #[.slice (some ⟨w.heap.size, 0, none⟩) 0 ((txt s).count 46 + 1)] 141)).alloc (.cells #[.string s] 9)).alloc (.cells #[.string ⟨#[46]⟩] 9)) 3 (.int .i64 0)
    rw [hW0, World.size_alloc, World.size_alloc, World.size_alloc, World.size_alloc] at this
    exact this
  have hrow0 : W0.ownsRow w.heap.size 9 1 (.slice (some ⟨w.heap.size, 0, none⟩) 0 ((txt s).count 46 + 1)) 0 [] := by
    have := World.ownsRow_made (base := w.heap.size) (e := 9) (size := 1) w C ((txt s).count 46 + 1) (Nat.le_refl _) (by unfold maxLen; omega) (by omega)
    have := (((this.alloc (.cells #[.slice (some ⟨w.heap.size, 0, none⟩) 0 ((txt s).count 46 + 1)] 141)).alloc (.cells #[.string s] 9)).alloc (.cells #[.string ⟨#[46]⟩] 9)).alloc (.cells #[.int .i64 0] 3)
    rw [hW0] at this
    exact this
  have hbel : Below w.heap.size w W0 := by
    rw [← hW0]
    exact (((((Below.refl _ w).alloc (Nat.le_refl _) _).alloc (by simp) _).alloc (by simp; omega) _).alloc (by simp; omega) _).alloc (by simp; omega) _
  rw [hW0]
  clear hW0
  refine wpIn_range_box rfl (by decide) (gf := 134) (lb := #[.pointer (some ⟨w.heap.size + 2 + 1, 0, none⟩), .pointer (some ⟨w.heap.size + 2, 0, none⟩), .pointer (some ⟨w.heap.size + 2 + 2, 0, none⟩)]) rfl trivial (enters_of Tryz.func134 (by kernel_rfl) rfl)
    (Bs := w.heap.size + 2) (lo := w.heap.size + 2) (by omega) (split_seq _ (by decide) (w.heap.size + 2) s hs W0 (by omega) hb0.cell hb0.frozen hb1.cell hb2.cell) (fun _ => rfl)
    (fun pre W => (pre.length ≤ (txt s).count 46 + 1 ∧ w.heap.size + 5 ≤ W.heap.size) ∧ Boxed W (w.heap.size + 1) 141 (.slice (some ⟨w.heap.size, 0, none⟩) pre.length ((txt s).count 46 + 1)) ∧ W.ownsRow w.heap.size 9 1 (.slice (some ⟨w.heap.size, 0, none⟩) pre.length ((txt s).count 46 + 1)) pre.length (scells pre) ∧ Below w.heap.size w W)
    ?own ⟨⟨by simp, by omega⟩, hbx, hrow0, hbel⟩
    (fun x => { tmps := #[.string s, undef, .slice none 0 0, .pointer (some ⟨w.heap.size + 1, 0, none⟩), .string x, .string s, .bool false, .string s, .int .i64 ((txt s).count 46 : Nat), .int .i64 (((txt s).count 46 : Nat) + 1), .slice (some ⟨w.heap.size, 0, none⟩) 0 ((txt s).count 46 + 1), .string s,
      .func (.func 134) #[] #[.pointer (some ⟨w.heap.size + 2 + 1, 0, none⟩), .pointer (some ⟨w.heap.size + 2, 0, none⟩), .pointer (some ⟨w.heap.size + 2 + 2, 0, none⟩)], .string x, undef, undef, undef, undef, undef], defers := [] }) ?assign ?body ?done
  case own =>
    rintro pre A B row ⟨hle, hv, hr, hB⟩ hg hrow
    have n0 : some w.heap.size ≠ row := by
      intro e
      rcases hrow _ e.symm with h | ⟨h, _⟩ <;> omega
    have n1 : some (w.heap.size + 1) ≠ row := by
      intro e
      rcases hrow _ e.symm with h | ⟨h, _⟩ <;> omega
    refine ⟨⟨hle.1, Nat.le_trans hle.2 hg.size⟩, hv.kept hg n1, hr.kept hg (.inr (by simpa [Value.ownBlock] using n0)), hB.grown hg hB.size (fun k e => ?_)⟩
    rcases hrow _ e with h | ⟨h, _⟩ <;> omega
  case assign =>
    intro l x W K hK
    gi_wp2
    exact hK
  case body =>
    rintro l pre x W ⟨hle, hv, hrow, hB⟩ hlt
    have hl2 : pre.length < (txt s).count 46 + 1 := by omega
    have hc := hv.cell
    have hsW : w.heap.size + 5 ≤ W.heap.size := hle.2
    obtain ⟨i0, hi, hz0, hz1, hz2⟩ := elemS.info
    gi_wp2_with (gi_at_builtin; refine wpListIn_append_fits _ rfl _ _ 141 rfl w.heap.size 9 i0 1 Tryz.underlying141 hi hz1 w.heap.size pre.length _ (scells pre) rfl (hrow.alloc _) ⟨W.heap.size, 0, none⟩ 1 1 [.string x] rfl rfl (cell_one_new _ _ _) (by simp [Value.oneCell']) (by omega) ?_; intro w1 hown' hgrow; have hv1 := (hv.alloc (.cells #[.string x] 9)).kept hgrow (by simp; try omega); have hc1 := hv1.cell; have hf1 := hv1.frozen)
    have hw1 := hgrow.size
    simp at hw1
    refine ⟨((KeepsOthers.alloc W _).from _).trans ((KeepsFrom.of_grownBy hgrow (fun j e => by cases e; omega)).trans ((KeepsOthers.setCell _ _ _).from _)), ?_, ⟨by omega, by omega⟩, hv1.set _, ?_, ?_⟩
    · intro b h1 h2
      rw [(grownBy_setCell' w1 (w.heap.size + 1) _).block b (by omega) (by simp; omega), hgrow.block b (by simp; omega) (by simp; omega)]
      exact Below.heap_alloc W _ b (by omega)
    · rw [scells_append]
      exact hown'.kept (grownBy_setCell' w1 _ _) (.inr (by simp [Value.ownBlock]))
    · exact ((hB.alloc hB.size _).grown hgrow (by simp; omega) (fun k e => by cases e; exact Nat.le_refl _)).setCell (p := ⟨w.heap.size + 1, 0, none⟩) (by show w.heap.size ≤ w.heap.size + 1; omega) _
  case done =>
    rintro D ys W hD rfl ⟨hle, hv, hrow, hB⟩ hK
    have hc := hv.cell
    gi_wp2
    refine ⟨by simp, .inl ⟨_, _, rfl, run_takeDeferred hK, ?_⟩⟩
    refine ⟨_, results_tmp rfl _ _ _, _, rfl, ?_, hB.trans (belowK_b (w := w) (Nat.le_refl _) W D _ _ (by omega) hK rfl rfl)⟩
    have := ownsRow_putObj hrow (.deferred none) hK rfl
    unfold Own1
    rw [scells_length]
    exact this


theorem wordsL_txt (s : ByteArray) (h : s ≠ ⟨#[]⟩) : wordsL (txt s) = pieces (txt s) := by
  unfold wordsL
  rw [if_neg]
  intro e
  apply h
  apply txt_inj
  rw [List.isEmpty_iff.1 e]; rfl

theorem wordsL_none : wordsL (txt ⟨#[]⟩) = [] := rfl


/-- Words: what stands between dots. -/
theorem words_any (s : ByteArray) (w : World) (hs : s.size ≤ 1000000) :
    Calls Tryz.prog 114 #[.string s] w fun e W' => ∃ v, e = .returned v ∧ Own1 W' w.heap.size 9 v (scells (strs (wordsL (txt s)))) ∧ Below w.heap.size w W' := by
  by_cases h : s = ⟨#[]⟩
  · subst h
    go_enter Tryz.func114, Tryz.ntmps114
    go_wp2
    go_ret
    exact ⟨_, rfl, own1_nil _ _ _, Below.refl _ _⟩
  · rw [wordsL_txt s h]
    exact callsIn_wide.1 (words_in s w hs h)


/-- The pieces of a beginning, and the piece that is not at its end yet. -/
def cutP : Txt → List Txt × Txt
  | [] => ([], [])
  | b :: l => let r := cutP l; if b = 46 then ([] :: r.1, r.2) else match r.1 with
    | [] => ([], b :: r.2)
    | p :: ps => ((b :: p) :: ps, r.2)

theorem pieces_cut (l : Txt) : pieces l = (cutP l).1 ++ [(cutP l).2] := by
  induction l with
  | nil => rfl
  | cons b l ih =>
    unfold pieces cutP
    rw [ih]
    split
    · simp
    · cases h : (cutP l).1 with
      | nil => simp [h]
      | cons p ps => simp [h]

theorem cutP_dot (l : Txt) : cutP (l ++ [46]) = ((cutP l).1 ++ [(cutP l).2], []) := by
  induction l with
  | nil => rfl
  | cons b l ih =>
    rw [List.cons_append, cutP, cutP, ih]
    by_cases hb : b = 46
    · simp [hb]
    · cases h : (cutP l).1 with
      | nil => simp [hb]
      | cons p ps => simp [hb]

theorem cutP_snoc (l : Txt) (c : UInt8) (hc : c ≠ 46) : cutP (l ++ [c]) = ((cutP l).1, (cutP l).2 ++ [c]) := by
  induction l with
  | nil => simp [cutP, hc]
  | cons b l ih =>
    rw [List.cons_append, cutP, cutP, ih]
    by_cases hb : b = 46
    · simp [hb]
    · cases h : (cutP l).1 with
      | nil => simp [hb]
      | cons p ps => simp [hb]

theorem cutP_len (l : Txt) : (cutP l).1.length ≤ l.length ∧ (cutP l).2.length ≤ l.length := by
  induction l with
  | nil => simp [cutP]
  | cons b l ih =>
    unfold cutP
    by_cases hb : b = 46
    · simp [hb]; omega
    · cases h : (cutP l).1 with
      | nil => simp [hb, h]; omega
      | cons p ps => simp [hb, h] at ih ⊢; omega

end Go.Proofs.YtdbgojmjjkidbaaGreatDoor

/-
  THE WALK of the document's Words.
-/
namespace Go.Proofs.YtdbgojmjjkidbaaGreatDoor
open Go.RowKit Go.Shelf


theorem strs_append (a b : List Txt) : strs (a ++ b) = strs a ++ strs b := by simp [strs]

theorem strs_length (a : List Txt) : (strs a).length = a.length := by simp [strs]


/-- 's[i:j]'. -/
theorem run_sub {P : Program} (W : World) (t : TypeId) (h : P.underlying t = some .string) (s : ByteArray) (i j : Nat) (hij : i ≤ j) (hj : j ≤ s.size) (i' j' : Int) (hi' : i' = i) (hj' : j' = j) :
    (Instr.slice t (.string s) (some (.int .i64 i')) (some (.int .i64 j')) none).run P W = .ok (.string (s.extract i j)) W := by
  subst hi' hj'
  rw [run_slice_string_if W t s .i64 .i64 i j h, if_pos (by omega), if_pos (by omega)]
  simp

/-- 'a + b'. -/
theorem run_plus {P : Program} (W : World) (a b : ByteArray) (ha : a.size ≤ 8388608) (hb : b.size ≤ 8388608) :
    (Op.stringOp .add a b).run P W = .ok (.string (str (txt a ++ txt b))) W := by
  rw [run_string_add W a b (by omega) (by omega)]
  congr 2


set_option maxHeartbeats 1000000 in
theorem rwords_in (s : ByteArray) (w : World) (hs : s.size ≤ 1000000) (hs0 : s ≠ ⟨#[]⟩) :
    Calls Tryz.prog 112 #[.string s] w fun e W' => ∃ v, e = .returned v ∧ Own1 W' w.heap.size 9 v (scells (strs (pieces (txt s)))) ∧ Below w.heap.size w W' := by
  have hne : s.toList.isEmpty = false := by
    rw [ByteArray.toList_eq]
    cases h : s.data.toList with
    | nil => exact absurd (txt_inj (show txt s = txt ⟨#[]⟩ from h)) hs0
    | cons b l => rfl
  have hpc := pieces_cut (txt s)
  go_enter Tryz.func112, Tryz.ntmps112
  go_wp2
  go_loopw [3, 4, 5] (fun l p i wr => ∃ k : Nat, k ≤ s.size ∧ i = .int .i64 k ∧ p = .string (str (cutP ((txt s).take k)).2) ∧ Own1 wr w.heap.size 9 l (scells (strs (cutP ((txt s).take k)).1)) ∧ Below w.heap.size w wr) (fun _ _ i _ => s.size - (intOf i).toNat)
  case atStart => exact ⟨0, Nat.zero_le _, rfl, rfl, own1_nil _ _ _, Below.refl _ _⟩
  case round =>
    obtain ⟨k, hk, rfl, rfl, hown, hB⟩ := hrel
    have hln := cutP_len ((txt s).take k)
    have hlk : ((txt s).take k).length ≤ k := List.length_take_le _ _
    have hsl := hB.size
    by_cases hlt : k < s.size
    · have hsn := txt_snoc s k hlt
      by_cases hd : s[k] = 46
      · have hcd := cutP_dot ((txt s).take k)
        rw [hd] at hsn
        rw [← hsn] at hcd
        have HC : Hid _ := hcd
        clear hcd hsn
        go_wp2_with (at_builtin; refine wpList_append_row rfl _ _ 141 9 (.string ⟨#[]⟩) 16 elemS rfl w.heap.size _ _ (scells (strs (cutP ((txt s).take k)).1)) [.string (str (cutP ((txt s).take k)).2)] rfl rfl (hown.alloc _) (row_one _ _ _) (by simp [Value.oneCell']) (by simp [scells, strs]; omega) (by simp [scells, strs]; omega) (by simp; omega) ?_; intro v' w1 hown' hb1 hs1)
        go_roundw
        case rel =>
          refine ⟨k + 1, by omega, by go_num, by rw [HC.out]; rfl, ?_, ((hB.alloc hsl _).trans (hb1.mono (by omega)))⟩
          rw [HC.out, strs_append, scells_append]
          exact hown'
        case measure => simp [intOf]; omega
      · have hd' : ¬ ((s[k].toNat : Int) = 46) := fun e => hd (UInt8.toNat_inj.1 (show s[k].toNat = 46 by omega))
        have hcd := cutP_snoc ((txt s).take k) s[k] hd
        rw [← hsn] at hcd
        have HC : Hid _ := hcd
        clear hcd hsn
        have hsub : ∀ W, (Instr.slice 9 (.string s) (some (.int .i64 (k : Int))) (some (.int .i64 ((k : Int) + 1))) none).run Tryz.prog W = .ok (.string (s.extract k (k + 1))) W := fun W => run_sub W 9 Tryz.underlying9 s k (k + 1) (by omega) (by omega) _ _ rfl (by omega)
        have hadd : ∀ W, (Op.stringOp .add (str (cutP ((txt s).take k)).2) (s.extract k (k + 1))).run Tryz.prog W = .ok (.string (str ((cutP ((txt s).take k)).2 ++ [s[k]]))) W := fun W => by
          rw [run_plus W _ _ (by rw [← txt_length, txt_str]; omega) (by rw [ByteArray.size_extract]; omega), txt_str, txt_extract]
          congr 4
          rw [show k + 1 - k = 1 by omega, List.drop_eq_getElem_cons (by rw [txt_length]; omega), List.take_succ_cons, List.take_zero]
          rfl
        go_wp2
        go_roundw
        case rel =>
          refine ⟨k + 1, by omega, by go_num, ?_, by rw [HC.out]; exact hown, hB⟩
          rw [HC.out]
        case measure => simp [intOf]; omega
    · have htk : (txt s).take k = txt s := List.take_of_length_le (by rw [txt_length]; omega)
      rw [htk] at hown hln ⊢
      clear htk hlk
      rw [txt_length] at hln
      have HP : Hid _ := hpc
      clear hpc
      go_wp2_with (at_builtin; refine wpList_append_row rfl _ _ 141 9 (.string ⟨#[]⟩) 16 elemS rfl w.heap.size _ _ (scells (strs (cutP (txt s)).1)) [.string (str (cutP (txt s)).2)] rfl rfl (hown.alloc _) (row_one _ _ _) (by simp [Value.oneCell']) (by simp [scells, strs]; omega) (by simp [scells, strs]; omega) (by simp; omega) ?_; intro v' w1 hown' hb1 hs1)
      go_ret
      refine ⟨_, rfl, ?_, (hB.alloc hsl _).trans hb1⟩
      rw [HP.out, strs_append, scells_append]
      exact hown'


theorem rwords_any (s : ByteArray) (w : World) (hs : s.size ≤ 1000000) :
    Calls Tryz.prog 112 #[.string s] w fun e W' => ∃ v, e = .returned v ∧ Own1 W' w.heap.size 9 v (scells (strs (wordsL (txt s)))) ∧ Below w.heap.size w W' := by
  by_cases h : s = ⟨#[]⟩
  · subst h
    go_enter Tryz.func112, Tryz.ntmps112
    go_wp2
    go_ret
    exact ⟨_, rfl, own1_nil _ _ _, Below.refl _ _⟩
  · rw [wordsL_txt s h]
    exact rwords_in s w hs h

end Go.Proofs.YtdbgojmjjkidbaaGreatDoor

/-
  THE WALKS of Key and Pattern, the program's closures and the document's loop; two lists of texts compared.
-/
namespace Go.Proofs.YtdbgojmjjkidbaaGreatDoor
open Go.RowKit Go.Shelf


/-- Texts that are there lie at plain addresses. -/
theorem Row.atStrs {w : World} {v : Value} {l : List ByteArray} (h : Row w v (scells l)) (hp : 0 < l.length) :
    ∃ b off cap, v = .slice (some ⟨b, off, none⟩) l.length cap ∧ l.length ≤ cap ∧ cap ≤ maxLen ∧ ∀ j (hj : j < l.length), w.cell? ⟨b, off + j, none⟩ = some (.string l[j]) := by
  obtain ⟨b, off, cap, hv, h1, h2, h3⟩ := h.at (by rw [scells_length]; exact hp)
  rw [scells_length] at hv h1
  refine ⟨b, off, cap, hv, h1, h2, fun j hj => ?_⟩
  rw [h3 j (by rw [scells_length]; exact hj)]
  simp [scells]

theorem Row.sliceStrs {w : World} {v : Value} {l : List ByteArray} (h : Row w v (scells l)) : ∃ a cap, v = .slice a l.length cap := by
  obtain ⟨a, cap, hv⟩ := h.slice
  rw [scells_length] at hv
  exact ⟨a, cap, hv⟩


theorem contains_any (w : World) (v : Value) (l : List ByteArray) (x : ByteArray) (h : Row w v (scells l)) (hl : l.length ≤ 1000000) :
    Calls Tryz.prog 116 #[v, .string x] w fun e w' => e = .returned (.bool (l.any fun y => txt y == txt x)) ∧ w' = w := by
  have hspec : ∀ l : List ByteArray, Lib.containsS l x = l.any fun y => txt y == txt x := fun l => by
    rw [Bool.eq_iff_iff, Lib.containsS_iff, List.any_eq_true]
    constructor
    · intro hx
      exact ⟨x, hx, by simp⟩
    · rintro ⟨y, hy, e⟩
      rw [← txt_inj (beq_iff_eq.1 e)]
      exact hy
  by_cases h0 : l.length = 0
  · have : l = [] := List.eq_nil_of_length_eq_zero h0
    subst this
    obtain ⟨a, cap, rfl⟩ := h.sliceStrs
    exact Any.slices_Contains_string_empty Tryz.lays110 a cap x w
  · obtain ⟨b, off, cap, rfl, h1, h2, h3⟩ := h.atStrs (by omega)
    have := Any.slices_Contains_string Tryz.lays110 b off l.length cap l x w (Nat.le_refl _) (by omega) (fun j hj => by rw [h3 j hj]; simp [List.getD, hj])
    rw [List.take_length, hspec] at this
    exact this


/-- The closure of plainOr. -/
theorem or1_any (w : World) (b : Nat) (v : Value) (l : List ByteArray) (x : ByteArray) (hb : w.cell? ⟨b, 0, none⟩ = some v) (h : Row w v (scells l)) (hl : l.length ≤ 1000000) :
    Calls Tryz.prog 115 #[.string x, .pointer (some ⟨b, 0, none⟩)] w fun e w' => e = .returned (.bool (lettersB (txt x) || l.any fun y => txt y == txt x)) ∧ Below w.heap.size w w' := by
  have hlt := World.block_lt_of_cell? w _ hb
  cases hL : lettersB (txt x)
  all_goals go_enter Tryz.func115, Tryz.ntmps115
  all_goals go_wp2_with (first
    | (go_at_call 98; refine (plain_any x _).mono ?_; rintro e w1 ⟨rfl, hb1⟩; have hc1 := (hb1.cell (p := ⟨b, 0, none⟩) hlt).trans hb; have hr1 := h.below hb1 (Nat.le_refl _))
    | (go_at_call 116; refine (contains_any _ _ l x hr1 hl).mono ?_; rintro e w2 ⟨rfl, rfl⟩))
  all_goals go_ret
  · exact ⟨ret_bool (by simp), by assumption⟩
  · exact ⟨ret_bool (by simp), by assumption⟩


theorem strs_get (l : List Txt) (k : Nat) (h : k < (strs l).length) : txt (strs l)[k] = l[k]'(by rw [strs_length] at h; exact h) := by
  simp [strs, txt_str]

theorem all_take (may : Txt → Bool) (l : List Txt) (k : Nat) (h : k < l.length) : (l.take (k + 1)).all may = ((l.take k).all may && may l[k]) := by
  rw [List.take_succ_eq_append_getElem h, List.all_append]
  simp

theorem all_bad (may : Txt → Bool) (l : List Txt) (k : Nat) (h : k < l.length) (hb : may l[k] = false) : l.all may = false := by
  rw [Bool.eq_false_iff]
  intro ha
  rw [List.all_eq_true] at ha
  rw [ha _ (List.getElem_mem h)] at hb
  cases hb


/-- What may be a word, if it may be one of some others too. -/
def mayB (l : List ByteArray) (x : Txt) : Bool := lettersB x || l.any fun y => txt y == x


set_option maxHeartbeats 1000000 in
theorem isOf_any (s : ByteArray) (w : World) (b : Nat) (v : Value) (l : List ByteArray) (hs : s.size ≤ maxLen) (hb : w.cell? ⟨b, 0, none⟩ = some v) (h : Row w v (scells l)) (hl : l.length ≤ 1000000) :
    Calls Tryz.prog 99 #[.string s, .func (.func 115) #[] #[.pointer (some ⟨b, 0, none⟩)]] w fun e w' => e = .returned (.bool (ofB (mayB l) (txt s))) ∧ Below w.heap.size w w' := by
  unfold maxLen at hs
  have hlt := World.block_lt_of_cell? w _ hb
  have hof : ofB (mayB l) (txt s) = (decide (s.size ≤ 60) && (wordsL (txt s)).all (mayB l) && decide ((wordsL (txt s)).length ≤ 12)) := by unfold ofB; rw [txt_length]
  by_cases h60 : s.size ≤ 60
  · have hwl := wordsL_le (txt s)
    rw [txt_length] at hwl
    have hln : (strs (wordsL (txt s))).length = (wordsL (txt s)).length := strs_length _
    rw [hof, decide_eq_true h60, Bool.true_and]
    clear hof
    go_enter Tryz.func99, Tryz.ntmps99
    go_wp2_with (go_at_call 114; refine (words_any s _ (by omega)).mono ?_; rintro e w1 ⟨vw, rfl, hown, hb1⟩; have hrow := hown.row; obtain ⟨aw, cw, hvw⟩ := hrow.sliceStrs; rw [hln] at hvw; subst hvw)
    have hc1 := (hb1.cell (p := ⟨b, 0, none⟩) hlt).trans hb
    have hr1 := h.below hb1 (Nat.le_refl _)
    go_loopw [15] (fun i wr => ∃ k : Nat, k ≤ (wordsL (txt s)).length ∧ i = .int .i64 k ∧ ((wordsL (txt s)).take k).all (mayB l) = true ∧ Below w1.heap.size w1 wr) (fun i _ => (wordsL (txt s)).length - (intOf i).toNat)
    case atStart => exact ⟨0, Nat.zero_le _, rfl, rfl, Below.refl _ _⟩
    case round =>
      obtain ⟨k, hk, rfl, ha, hB⟩ := hrel
      have hbl := World.block_lt_of_cell? w1 _ hc1
      have hc2 := (hB.cell (p := ⟨b, 0, none⟩) hbl).trans hc1
      have hr2 := hr1.below hB (Nat.le_refl _)
      have HA : Hid _ := ha
      clear ha
      by_cases hkl : k < (wordsL (txt s)).length
      · obtain ⟨bw, ow, cw', hv, _, _, hcells⟩ := (hrow.below hB (Nat.le_refl _)).atStrs (by rw [hln]; omega)
        rw [hln] at hv
        injection hv with hv1 _ hv3
        subst hv1 hv3
        have hcell := hcells k (by rw [hln]; exact hkl)
        have hg := strs_get (wordsL (txt s)) k (by rw [hln]; exact hkl)
        have hor := or1_any wr b v l ((strs (wordsL (txt s)))[k]'(by rw [hln]; exact hkl)) hc2 hr2 hl
        rw [hg] at hor
        have hmay : (lettersB (wordsL (txt s))[k] || l.any fun y => txt y == (wordsL (txt s))[k]) = mayB l (wordsL (txt s))[k] := rfl
        rw [hmay] at hor
        generalize (strs (wordsL (txt s)))[k]'(by rw [hln]; exact hkl) = x at hcell hor
        clear hmay hg hcells
        cases hm : mayB l (wordsL (txt s))[k]
        · have HM : Hid _ := all_bad (mayB l) _ k hkl hm
          rw [hm] at hor
          go_wp2_with (go_at_call 115; refine hor.mono ?_; rintro e w3 ⟨rfl, hb3⟩)
          go_ret
          refine ⟨ret_bool (by rw [HM.out]; rfl), (hb1.trans (hB.mono hb1.size)).trans (hb3.mono (Nat.le_trans hb1.size hB.size))⟩
        · have HM : Hid _ := all_take (mayB l) _ k hkl
          rw [hm] at hor
          go_wp2_with (go_at_call 115; refine hor.mono ?_; rintro e w3 ⟨rfl, hb3⟩)
          go_roundw
          case rel => exact ⟨k + 1, by omega, by go_num, by rw [HM.out, HA.out, hm]; rfl, hB.trans (hb3.mono hB.size)⟩
          case measure => simp [intOf]; omega
      · have HT : Hid ((wordsL (txt s)).all (mayB l) = true) := by
          have := HA.out
          rw [List.take_of_length_le (by omega)] at this
          exact this
        go_wp2
        go_ret
        refine ⟨ret_bool ?_, hb1.trans (hB.mono hb1.size)⟩
        rw [HT.out]
        go_light
        rw [Bool.true_and, Bool.eq_iff_iff, decide_eq_true_eq, decide_eq_true_eq]
        omega
  · rw [hof, decide_eq_false h60]
    go_enter Tryz.func99, Tryz.ntmps99
    go_wp2
    go_ret
    exact ⟨rfl, Below.refl _ _⟩


theorem mayB_nil : mayB [] = lettersB := by funext x; simp [mayB]

theorem mayB_wild : mayB [⟨#[42]⟩, ⟨#[35]⟩] = fun x => lettersB x || wildB x := by
  funext x
  unfold mayB wildB
  congr 1
  show ([42] == x || ([35] == x || false)) = _
  rw [Bool.or_false]
  congr 1 <;> (rw [Bool.eq_iff_iff, beq_iff_eq, beq_iff_eq]; exact eq_comm)


theorem key_any (s : ByteArray) (w : World) (hs : s.size ≤ maxLen) :
    Calls Tryz.prog 80 #[.string s] w fun e w' => e = .returned (.bool (keyB (txt s))) ∧ Below w.heap.size w w' := by
  unfold keyB
  rw [← mayB_nil]
  go_enter Tryz.func80, Tryz.ntmps80
  go_wp2_with (first
    | (go_at_call 99; refine (isOf_any s _ w.heap.size (.slice none 0 0) [] hs (by rw [World.cell?_alloc_at _ _ _ _ (by simp)]; rfl) (.inl ⟨rfl, rfl⟩) (by simp)).mono ?_; rintro e w' ⟨rfl, hb⟩)
    | go_in)
  go_ret
  exact ⟨rfl, ((Below.refl _ _).alloc (Nat.le_refl _) _).trans (hb.mono (by simp))⟩


set_option maxHeartbeats 1000000 in
/-- The document's all. -/
theorem all_any (s : ByteArray) (wild : Bool) (w : World) (hs : s.size ≤ maxLen) :
    Calls Tryz.prog 97 #[.string s, .bool wild] w fun e w' => e = .returned (.bool (ofB (fun x => lettersB x || (wild && wildB x)) (txt s))) ∧ Below w.heap.size w w' := by
  unfold maxLen at hs
  have hof : ofB (fun x => lettersB x || (wild && wildB x)) (txt s) = (decide (s.size ≤ 60) && (wordsL (txt s)).all (fun x => lettersB x || (wild && wildB x)) && decide ((wordsL (txt s)).length ≤ 12)) := by unfold ofB; rw [txt_length]
  by_cases h60 : s.size ≤ 60
  · have hwl := wordsL_le (txt s)
    rw [txt_length] at hwl
    have hln : (strs (wordsL (txt s))).length = (wordsL (txt s)).length := strs_length _
    rw [hof, decide_eq_true h60, Bool.true_and]
    clear hof
    go_enter Tryz.func97, Tryz.ntmps97
    go_wp2_with (go_at_call 112; refine (rwords_any s _ (by omega)).mono ?_; rintro e w1 ⟨vw, rfl, hown, hb1⟩; have hrow := hown.row; obtain ⟨aw, cw, hvw⟩ := hrow.sliceStrs; rw [hln] at hvw; subst hvw)
    go_loop [15] (fun i => ∃ k : Nat, k ≤ (wordsL (txt s)).length ∧ i = .int .i64 k ∧ ((wordsL (txt s)).take k).all (fun x => lettersB x || (wild && wildB x)) = true) (fun i => (wordsL (txt s)).length - (intOf i).toNat)
    case atStart => exact ⟨0, Nat.zero_le _, rfl, rfl⟩
    case round =>
      obtain ⟨k, hk, rfl, ha⟩ := hrel
      have HA : Hid _ := ha
      clear ha
      by_cases hkl : k < (wordsL (txt s)).length
      · obtain ⟨bw, ow, cw', hv, _, _, hcells⟩ := hrow.atStrs (by rw [hln]; omega)
        rw [hln] at hv
        injection hv with hv1 _ hv3
        subst hv1 hv3
        have hcell := hcells k (by rw [hln]; exact hkl)
        have hg := strs_get (wordsL (txt s)) k (by rw [hln]; exact hkl)
        have hsx : ((strs (wordsL (txt s)))[k]'(by rw [hln]; exact hkl)).size ≤ maxLen := by
          rw [← txt_length, hg]
          have := wordsL_len (txt s) _ (List.getElem_mem hkl)
          rw [txt_length] at this
          unfold maxLen
          omega
        generalize (strs (wordsL (txt s)))[k]'(by rw [hln]; exact hkl) = x at hcell hg hsx
        have HW : Hid ((lettersB (wordsL (txt s))[k] || (wild && wildB (wordsL (txt s))[k])) = (lettersB (txt x) || (wild && (x.toList == [42] || x.toList == [35])))) := by
          show _ = _
          rw [← hg, ByteArray.toList_eq]
          rfl
        have HT : Hid _ := all_take (fun x => lettersB x || (wild && wildB x)) _ k hkl
        have HF : Hid _ := all_bad (fun x => lettersB x || (wild && wildB x)) _ k hkl
        clear hcells hg
        cases wild <;> cases hm : lettersB (txt x) <;> cases h42 : (x.toList == [42]) <;> cases h35 : (x.toList == [35])
        all_goals go_wp2_with (go_at_call 96; refine (letters_any x _ hsx).mono ?_; rintro e w3 ⟨rfl, rfl⟩)
        all_goals first
          | (go_round
             case rel => exact ⟨k + 1, by omega, by go_num, by rw [HT.out, HA.out, HW.out, hm, h42, h35]; rfl⟩
             case measure => simp [intOf]; omega)
          | (go_ret
             exact ⟨ret_bool (by rw [HF.out (by rw [HW.out, hm, h42, h35]; rfl)]; rfl), hb1⟩)
      · have HT : Hid ((wordsL (txt s)).all (fun x => lettersB x || (wild && wildB x)) = true) := by
          have := HA.out
          rw [List.take_of_length_le (by omega)] at this
          exact this
        go_wp2
        go_ret
        refine ⟨ret_bool ?_, hb1⟩
        rw [HT.out]
        go_light
        rw [Bool.true_and, Bool.eq_iff_iff, decide_eq_true_eq, decide_eq_true_eq]
        omega
  · rw [hof, decide_eq_false h60]
    go_enter Tryz.func97, Tryz.ntmps97
    go_wp2
    go_ret
    exact ⟨rfl, Below.refl _ _⟩


theorem rkey_any (s : ByteArray) (w : World) (hs : s.size ≤ maxLen) :
    Calls Tryz.prog 77 #[.string s] w fun e w' => e = .returned (.bool (keyB (txt s))) ∧ Below w.heap.size w w' := by
  have he : (fun x => lettersB x || (false && wildB x)) = lettersB := by funext x; simp
  have h := all_any s false
  rw [he] at h
  go_enter Tryz.func77, Tryz.ntmps77
  go_wp2_with (go_at_call 97; refine (h _ hs).mono ?_; rintro e w' ⟨rfl, hb⟩)
  go_ret
  exact ⟨rfl, hb⟩

end Go.Proofs.YtdbgojmjjkidbaaGreatDoor
