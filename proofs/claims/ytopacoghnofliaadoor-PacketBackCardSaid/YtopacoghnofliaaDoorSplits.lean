/-
  THE WALK of strings.SplitSeq at one dot: the pieces between dots, one by one.
-/
import Derived.Test.YtopacoghnofliaaDoorNames
import Derived.Test.YtopacoghnofliaaDoorLoops
import Derived.Test.YtopacoghnofliaaDoorShelf
namespace Go.Proofs.YtopacoghnofliaaDoor
open Go.RowKit Go.Shelf

attribute [local go_sem] Oper.semAt_some


/-- A text of these bytes. -/
def str (l : Txt) : ByteArray := ⟨l.toArray⟩

theorem txt_str (l : Txt) : txt (str l) = l := by simp [txt, str]

theorem str_txt (s : ByteArray) : str (txt s) = s := txt_inj (txt_str _)


theorem txt_extract (t : ByteArray) (a b : Nat) : txt (t.extract a b) = ((txt t).drop a).take (b - a) := by
  unfold txt
  rw [ByteArray.data_extract, Array.toList_extract, List.extract_eq_take_drop]


theorem index_none (l : Txt) (h : Lib.indexByte l 46 = -1) : ∀ b ∈ l, b ≠ 46 := by
  induction l with
  | nil => simp
  | cons b l ih =>
    unfold Lib.indexByte at h
    split at h
    · cases h
    · rename_i hb
      split at h
      · rename_i hi
        intro c hc
        rcases List.mem_cons.1 hc with rfl | hc
        · simpa using hb
        · exact ih (by simpa using hi) c hc
      · have := Lib.indexByte_ge l 46
        omega

theorem index_some (l : Txt) (i : Nat) (h : Lib.indexByte l 46 = i) : i < l.length ∧ l = l.take i ++ 46 :: l.drop (i + 1) ∧ ∀ b ∈ l.take i, b ≠ 46 := by
  induction l generalizing i with
  | nil => exact absurd h (by unfold Lib.indexByte; omega)
  | cons b l ih =>
    unfold Lib.indexByte at h
    split at h
    · rename_i hb
      have : b = 46 := by simpa using hb
      subst this
      have hi : i = 0 := by omega
      subst hi
      simp
    · rename_i hb
      split at h
      · exact absurd h (by omega)
      · have hge := Lib.indexByte_ge l 46
        rename_i hne
        have hne' : Lib.indexByte l 46 ≠ -1 := by simpa using hne
        obtain ⟨j, hj⟩ : ∃ j : Nat, Lib.indexByte l 46 = j := ⟨(Lib.indexByte l 46).toNat, by omega⟩
        have hij : i = j + 1 := by omega
        subst hij
        obtain ⟨h1, h2, h3⟩ := ih j hj
        refine ⟨by simp; omega, ?_, ?_⟩
        · rw [List.take_succ_cons, List.drop_succ_cons, List.cons_append, ← h2]
        · intro c hc
          rw [List.take_succ_cons] at hc
          rcases List.mem_cons.1 hc with rfl | hc
          · simpa using hb
          · exact h3 c hc


/-- The length of the text in a box: for the loop's measure. -/
def boxLen (W : World) (B : Nat) : Nat := match W.cell? ⟨B, 0, none⟩ with | some (.string t) => t.size | _ => 0

theorem boxLen_eq {W : World} {B : Nat} {t : ByteArray} (h : W.cell? ⟨B, 0, none⟩ = some (.string t)) : boxLen W B = t.size := by
  unfold boxLen; rw [h]


def strs (l : List Txt) : List ByteArray := l.map str


theorem index_dot (t : ByteArray) (w : World) : Calls Tryd.prog 72 #[.string t, .string ⟨#[46]⟩] w fun e w' => e = .returned (.int .i64 (Lib.indexByte (txt t) 46)) ∧ w' = w :=
  Any.strings_Index_one Tryd.lays143 t 46 w

theorem count_dot (t : ByteArray) (w : World) : Calls Tryd.prog 66 #[.string t, .string ⟨#[46]⟩] w fun e w' => e = .returned (.int .i64 ((txt t).count 46 : Nat)) ∧ w' = w :=
  Any.strings_Count_one Tryd.lays138 t 46 w


set_option maxRecDepth 100000 in
set_option maxHeartbeats 1000000 in
theorem split1_in (n : Nat) (_hn : 1 ≤ n) (l Bs : Nat) (s : ByteArray) (hs : s.size ≤ 1000000) (J : List ByteArray → World → Prop)
    (hJ : ∀ pre A B row, J pre A → A.grownBy B row → (∀ r, row = some r → r = Bs) → J pre B)
    (hY : ∀ pre x W1, J pre W1 → pre.length < (pieces (txt s)).length → YieldAt Fence.wide (n - 1) Tryd.prog l #[.string x] W1 fun e W' => e = .returned (.bool true) ∧ J (pre ++ [x]) W' ∧ Kept Bs (Bs + 3) W1 W')
    (W : World) (hc0 : W.cell? ⟨Bs, 0, none⟩ = some (.string s)) (hf0 : W.frozen? ⟨Bs, 0, none⟩ = false) (hc1 : W.cell? ⟨Bs + 1, 0, none⟩ = some (.string ⟨#[46]⟩)) (hc2 : W.cell? ⟨Bs + 2, 0, none⟩ = some (.int .i64 0)) (h0 : J [] W) :
    CallsIn Fence.wide n Tryd.prog 75 #[.func (.yield l) #[] #[], .pointer (some ⟨Bs + 1, 0, none⟩), .pointer (some ⟨Bs, 0, none⟩), .pointer (some ⟨Bs + 2, 0, none⟩)] W fun e W' => (∃ v, e = .returned v) ∧ ∃ xs, xs = strs (pieces (txt s)) ∧ J xs W' := by
  refine callsIn_of_wp Tryd.func75 rfl trivial ?_ rfl
  simp only [Tryd.ntmps75, List.size_toArray, List.length_cons, List.length_nil, Nat.reduceAdd, Nat.reduceSub, Array.replicate_succ, Array.replicate_zero, List.push_toArray, List.append_toArray, List.nil_append, List.cons_append]
  have hlen1 : ∀ q : ByteArray, q.size ≤ 1000000 → (q.size : Int) ≤ 1000000 := fun q h => by omega
  gi_wp2
  gi_loopw [] (fun wr => ∃ (pre : List ByteArray) (t : ByteArray), strs (pieces (txt s)) = pre ++ strs (pieces (txt t)) ∧ t.size ≤ 1000000 ∧ wr.cell? ⟨Bs, 0, none⟩ = some (.string t) ∧ wr.frozen? ⟨Bs, 0, none⟩ = false ∧ wr.cell? ⟨Bs + 1, 0, none⟩ = some (.string ⟨#[46]⟩) ∧ wr.cell? ⟨Bs + 2, 0, none⟩ = some (.int .i64 0) ∧ J pre wr)
    (fun wr => boxLen wr Bs)
  case atStart => exact ⟨[], s, rfl, hs, hc0, hf0, hc1, hc2, h0⟩
  case round =>
    clear hc0 hf0 hc1 hc2 h0
    obtain ⟨pre, t, hx, ht, hc0, hf0, hc1, hc2, hJp⟩ := hrel
    have hge := Lib.indexByte_ge (txt t) 46
    have HX : Hid _ := hx
    clear hx
    by_cases hi : Lib.indexByte (txt t) 46 = -1
    · obtain ⟨fn, tmps, assign, body, hy, hR⟩ := hY pre t wr hJp (by
        have := congrArg List.length HX.out
        have h1 := pieces_count (txt t)
        simp [strs] at this
        omega)
      gi_wp2_with (refine ⟨trivial, ?_⟩; gi_at_call 72; refine (callsIn_wide.2 (index_dot t _)).mono ?_; rintro e w' ⟨rfl, rfl⟩)
      refine hR.mono ?_
      rintro e W3 ⟨rfl, hJ3, hk3⟩
      gi_wp2
      go_end0
      refine ⟨⟨_, rfl⟩, _, ?_, hJ3⟩
      rw [HX.out, pieces_none _ (index_none _ hi)]
      simp [strs, str_txt]
    · obtain ⟨i, hii⟩ : ∃ i : Nat, Lib.indexByte (txt t) 46 = i := ⟨(Lib.indexByte (txt t) 46).toNat, by omega⟩
      obtain ⟨hlt, heq, hno⟩ := index_some _ _ hii
      rw [txt_length] at hlt
      have HE : Hid _ := heq
      clear hge hi heq
      have hcnt : pre.length < (pieces (txt s)).length := by
        have := congrArg List.length HX.out
        have h1 := pieces_count (txt t)
        simp [strs] at this
        omega
      have hnext : strs (pieces (txt s)) = (pre ++ [t.extract 0 i]) ++ strs (pieces (txt (t.extract (i + 1) t.size))) := by
        rw [HX.out]
        have e0 : t.extract 0 i = str ((txt t).take i) := txt_inj (by rw [txt_str, txt_extract]; simp)
        have e1 : txt (t.extract (i + 1) t.size) = (txt t).drop (i + 1) := by
          rw [txt_extract, List.take_of_length_le (by rw [List.length_drop, txt_length]; exact Nat.le_refl _)]
        rw [e1, e0]
        have h2 := pieces_dot ((txt t).take i) ((txt t).drop (i + 1)) hno
        rw [← HE.out] at h2
        rw [h2]
        simp [strs]
      have HN : Hid _ := hnext
      clear hnext
      obtain ⟨fn, tmps, assign, body, hy, hR⟩ := hY pre (t.extract 0 i) wr hJp hcnt
      gi_wp2_with (refine ⟨trivial, ?_⟩; gi_at_call 72; refine (callsIn_wide.2 (index_dot t _)).mono ?_; rintro e w' ⟨rfl, rfl⟩)
      refine hR.mono ?_
      rintro e W3 ⟨rfl, hJ3, hk3⟩
      have d0 := (hk3.cell Bs 0 (by omega) (by omega)).trans hc0
      have d1 := (hk3.cell (Bs + 1) 0 (by omega) (by omega)).trans hc1
      have d2 := (hk3.cell (Bs + 2) 0 (by omega) (by omega)).trans hc2
      have df := (hk3.frozen Bs 0 (by omega) (by omega)).trans hf0
      gi_wp2
      go_roundw
      case rel =>
        have oth : ∀ b, b ≠ Bs → ∀ v, (W3.setCell ⟨Bs, 0, none⟩ v).cell? ⟨b, 0, none⟩ = W3.cell? ⟨b, 0, none⟩ := fun b hb v => by
          by_cases hlt' : b < W3.heap.size
          · exact World.cell?_of_block (a := ⟨b, 0, none⟩) ((grownBy_setCell' W3 Bs v).block b hlt' (fun e => hb (by cases e; rfl)))
          · rw [World.cell?_setCell_other]; intro e; apply hb; cases e; rfl
        refine ⟨pre ++ [t.extract 0 i], t.extract (i + 1) t.size, HN.out, ?_, ?_, by rw [World.frozen?_setCell]; exact df, (oth _ (by omega) _).trans d1, (oth _ (by omega) _).trans d2, hJ _ _ _ _ hJ3 (grownBy_setCell' W3 Bs _) (fun r e => by cases e; rfl)⟩
        · rw [ByteArray.size_extract]; omega
        · exact World.cell?_setCell_same' _ _ _ (by rw [d0]; rfl)
      case measure =>
        rw [boxLen_eq hc0, boxLen_eq (t := t.extract (i + 1) t.size) (World.cell?_setCell_same' _ _ _ (by rw [d0]; rfl)), ByteArray.size_extract]
        omega


/-- SplitSeq(s, "."): the pieces of s, if nobody else writes its boxes. -/
theorem splitSeq_any (s : ByteArray) (w : World) :
    Calls Tryd.prog 67 #[.string s, .string ⟨#[46]⟩] w fun e w' =>
      e = .returned (.func (.func 75) #[] #[.pointer (some ⟨w.heap.size + 1, 0, none⟩), .pointer (some ⟨w.heap.size, 0, none⟩), .pointer (some ⟨w.heap.size + 2, 0, none⟩)]) ∧
      w' = ((w.alloc (.cells #[.string s] 9)).alloc (.cells #[.string ⟨#[46]⟩] 9)).alloc (.cells #[.int .i64 0] 3) := by
  go_enter Tryd.func67, Tryd.ntmps67
  go_wp2
  go_ret
  exact ⟨rfl, rfl⟩


theorem split_seq (n : Nat) (hn : 1 ≤ n) (Bs : Nat) (s : ByteArray) (hs : s.size ≤ 1000000) (w : World) (hw : Bs + 3 = w.heap.size) (hc0 : w.cell? ⟨Bs, 0, none⟩ = some (.string s)) (hf0 : w.frozen? ⟨Bs, 0, none⟩ = false)
    (hc1 : w.cell? ⟨Bs + 1, 0, none⟩ = some (.string ⟨#[46]⟩)) (hc2 : w.cell? ⟨Bs + 2, 0, none⟩ = some (.int .i64 0)) :
    SeqBox Fence.wide n Tryd.prog 75 #[.pointer (some ⟨Bs + 1, 0, none⟩), .pointer (some ⟨Bs, 0, none⟩), .pointer (some ⟨Bs + 2, 0, none⟩)] (fun x : ByteArray => #[Value.string x]) Bs Bs w.heap.size (fun xs => xs = strs (pieces (txt s))) (pieces (txt s)).length w := by
  intro l J W hW hJ hY h0
  rw [← hw] at hY
  exact split1_in n hn l Bs s hs J hJ hY W ((hW.cell (p := ⟨Bs, 0, none⟩) (by show Bs < _; omega)).trans hc0) ((hW.frozen (p := ⟨Bs, 0, none⟩) (by show Bs < _; omega)).trans hf0)
    ((hW.cell (p := ⟨Bs + 1, 0, none⟩) (by show Bs + 1 < _; omega)).trans hc1) ((hW.cell (p := ⟨Bs + 2, 0, none⟩) (by show Bs + 2 < _; omega)).trans hc2) h0

end Go.Proofs.YtopacoghnofliaaDoor
