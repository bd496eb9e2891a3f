/-
  THE WALKS of Key and Pattern, the program's closures and the document's loop; two lists of texts compared.
-/
import Derived.Test.YtopacoghnofliaaDoorRWords
namespace Go.Proofs.YtopacoghnofliaaDoor
open Go.RowKit Go.Shelf


/-- Texts that are there lie at plain addresses. -/
theorem Row.atStrs {w : World} {v : Value} {l : List ByteArray} (h : Row w v (scells l)) (hp : 0 < l.length) :
    ∃ b off cap, v = .slice (some ⟨b, off, none⟩) l.length cap ∧ l.length ≤ cap ∧ cap ≤ maxLen ∧ ∀ j (hj : j < l.length), w.cell? ⟨b, off + j, none⟩ = some (.string l[j]) := by
  obtain ⟨b, off, cap, hv, h1, h2, h3⟩ := h.at (by rw [scells_length]; exact hp)
  rw [scells_length] at hv h1
  refine ⟨b, off, cap, hv, h1, h2, fun j hj => ?_⟩
  rw [h3 j (by rw [scells_length]; exact hj)]
  simp [scells]

theorem Row.sliceStrs {w : World} {v : Value} {l : List ByteArray} (h : Row w v (scells l)) : ∃ a cap, v = .slice a l.length cap := by
  obtain ⟨a, cap, hv⟩ := h.slice
  rw [scells_length] at hv
  exact ⟨a, cap, hv⟩


theorem contains_any (w : World) (v : Value) (l : List ByteArray) (x : ByteArray) (h : Row w v (scells l)) (hl : l.length ≤ 1000000) :
    Calls Tryd.prog 62 #[v, .string x] w fun e w' => e = .returned (.bool (l.any fun y => txt y == txt x)) ∧ w' = w := by
  have hspec : ∀ l : List ByteArray, Lib.containsS l x = l.any fun y => txt y == txt x := fun l => by
    rw [Bool.eq_iff_iff, Lib.containsS_iff, List.any_eq_true]
    constructor
    · intro hx
      exact ⟨x, hx, by simp⟩
    · rintro ⟨y, hy, e⟩
      rw [← txt_inj (beq_iff_eq.1 e)]
      exact hy
  by_cases h0 : l.length = 0
  · have : l = [] := List.eq_nil_of_length_eq_zero h0
    subst this
    obtain ⟨a, cap, rfl⟩ := h.sliceStrs
    exact Any.slices_Contains_string_empty Tryd.lays110 a cap x w
  · obtain ⟨b, off, cap, rfl, h1, h2, h3⟩ := h.atStrs (by omega)
    have := Any.slices_Contains_string Tryd.lays110 b off l.length cap l x w (Nat.le_refl _) (by omega) (fun j hj => by rw [h3 j hj]; simp [List.getD, hj])
    rw [List.take_length, hspec] at this
    exact this


/-- The closure of plainOr. -/
theorem or1_any (w : World) (b : Nat) (v : Value) (l : List ByteArray) (x : ByteArray) (hb : w.cell? ⟨b, 0, none⟩ = some v) (h : Row w v (scells l)) (hl : l.length ≤ 1000000) :
    Calls Tryd.prog 61 #[.string x, .pointer (some ⟨b, 0, none⟩)] w fun e w' => e = .returned (.bool (lettersB (txt x) || l.any fun y => txt y == txt x)) ∧ Below w.heap.size w w' := by
  have hlt := World.block_lt_of_cell? w _ hb
  cases hL : lettersB (txt x)
  all_goals go_enter Tryd.func61, Tryd.ntmps61
  all_goals go_wp2_with (first
    | (go_at_call 53; refine (plain_any x _).mono ?_; rintro e w1 ⟨rfl, hb1⟩; have hc1 := (hb1.cell (p := ⟨b, 0, none⟩) hlt).trans hb; have hr1 := h.below hb1 (Nat.le_refl _))
    | (go_at_call 62; refine (contains_any _ _ l x hr1 hl).mono ?_; rintro e w2 ⟨rfl, rfl⟩))
  all_goals go_ret
  · exact ⟨ret_bool (by simp), by assumption⟩
  · exact ⟨ret_bool (by simp), by assumption⟩


theorem strs_get (l : List Txt) (k : Nat) (h : k < (strs l).length) : txt (strs l)[k] = l[k]'(by rw [strs_length] at h; exact h) := by
  simp [strs, txt_str]

theorem all_take (may : Txt → Bool) (l : List Txt) (k : Nat) (h : k < l.length) : (l.take (k + 1)).all may = ((l.take k).all may && may l[k]) := by
  rw [List.take_succ_eq_append_getElem h, List.all_append]
  simp

theorem all_bad (may : Txt → Bool) (l : List Txt) (k : Nat) (h : k < l.length) (hb : may l[k] = false) : l.all may = false := by
  rw [Bool.eq_false_iff]
  intro ha
  rw [List.all_eq_true] at ha
  rw [ha _ (List.getElem_mem h)] at hb
  cases hb


/-- What may be a word, if it may be one of some others too. -/
def mayB (l : List ByteArray) (x : Txt) : Bool := lettersB x || l.any fun y => txt y == x


set_option maxHeartbeats 1000000 in
theorem isOf_any (s : ByteArray) (w : World) (b : Nat) (v : Value) (l : List ByteArray) (hs : s.size ≤ maxLen) (hb : w.cell? ⟨b, 0, none⟩ = some v) (h : Row w v (scells l)) (hl : l.length ≤ 1000000) :
    Calls Tryd.prog 54 #[.string s, .func (.func 61) #[] #[.pointer (some ⟨b, 0, none⟩)]] w fun e w' => e = .returned (.bool (ofB (mayB l) (txt s))) ∧ Below w.heap.size w w' := by
  unfold maxLen at hs
  have hlt := World.block_lt_of_cell? w _ hb
  have hof : ofB (mayB l) (txt s) = (decide (s.size ≤ 60) && (wordsL (txt s)).all (mayB l) && decide ((wordsL (txt s)).length ≤ 12)) := by unfold ofB; rw [txt_length]
  by_cases h60 : s.size ≤ 60
  · have hwl := wordsL_le (txt s)
    rw [txt_length] at hwl
    have hln : (strs (wordsL (txt s))).length = (wordsL (txt s)).length := strs_length _
    rw [hof, decide_eq_true h60, Bool.true_and]
    clear hof
    go_enter Tryd.func54, Tryd.ntmps54
    go_wp2_with (go_at_call 60; refine (words_any s _ (by omega)).mono ?_; rintro e w1 ⟨vw, rfl, hown, hb1⟩; have hrow := hown.row; obtain ⟨aw, cw, hvw⟩ := hrow.sliceStrs; rw [hln] at hvw; subst hvw)
    have hc1 := (hb1.cell (p := ⟨b, 0, none⟩) hlt).trans hb
    have hr1 := h.below hb1 (Nat.le_refl _)
    go_loopw [15] (fun i wr => ∃ k : Nat, k ≤ (wordsL (txt s)).length ∧ i = .int .i64 k ∧ ((wordsL (txt s)).take k).all (mayB l) = true ∧ Below w1.heap.size w1 wr) (fun i _ => (wordsL (txt s)).length - (intOf i).toNat)
    case atStart => exact ⟨0, Nat.zero_le _, rfl, rfl, Below.refl _ _⟩
    case round =>
      obtain ⟨k, hk, rfl, ha, hB⟩ := hrel
      have hbl := World.block_lt_of_cell? w1 _ hc1
      have hc2 := (hB.cell (p := ⟨b, 0, none⟩) hbl).trans hc1
      have hr2 := hr1.below hB (Nat.le_refl _)
      have HA : Hid _ := ha
      clear ha
      by_cases hkl : k < (wordsL (txt s)).length
      · obtain ⟨bw, ow, cw', hv, _, _, hcells⟩ := (hrow.below hB (Nat.le_refl _)).atStrs (by rw [hln]; omega)
        rw [hln] at hv
        injection hv with hv1 _ hv3
        subst hv1 hv3
        have hcell := hcells k (by rw [hln]; exact hkl)
        have hg := strs_get (wordsL (txt s)) k (by rw [hln]; exact hkl)
        have hor := or1_any wr b v l ((strs (wordsL (txt s)))[k]'(by rw [hln]; exact hkl)) hc2 hr2 hl
        rw [hg] at hor
        have hmay : (lettersB (wordsL (txt s))[k] || l.any fun y => txt y == (wordsL (txt s))[k]) = mayB l (wordsL (txt s))[k] := rfl
        rw [hmay] at hor
        generalize (strs (wordsL (txt s)))[k]'(by rw [hln]; exact hkl) = x at hcell hor
        clear hmay hg hcells
        cases hm : mayB l (wordsL (txt s))[k]
        · have HM : Hid _ := all_bad (mayB l) _ k hkl hm
          rw [hm] at hor
          go_wp2_with (go_at_call 61; refine hor.mono ?_; rintro e w3 ⟨rfl, hb3⟩)
          go_ret
          refine ⟨ret_bool (by rw [HM.out]; rfl), (hb1.trans (hB.mono hb1.size)).trans (hb3.mono (Nat.le_trans hb1.size hB.size))⟩
        · have HM : Hid _ := all_take (mayB l) _ k hkl
          rw [hm] at hor
          go_wp2_with (go_at_call 61; refine hor.mono ?_; rintro e w3 ⟨rfl, hb3⟩)
          go_roundw
          case rel => exact ⟨k + 1, by omega, by go_num, by rw [HM.out, HA.out, hm]; rfl, hB.trans (hb3.mono hB.size)⟩
          case measure => simp [intOf]; omega
      · have HT : Hid ((wordsL (txt s)).all (mayB l) = true) := by
          have := HA.out
          rw [List.take_of_length_le (by omega)] at this
          exact this
        go_wp2
        go_ret
        refine ⟨ret_bool ?_, hb1.trans (hB.mono hb1.size)⟩
        rw [HT.out]
        go_light
        rw [Bool.true_and, Bool.eq_iff_iff, decide_eq_true_eq, decide_eq_true_eq]
        omega
  · rw [hof, decide_eq_false h60]
    go_enter Tryd.func54, Tryd.ntmps54
    go_wp2
    go_ret
    exact ⟨rfl, Below.refl _ _⟩


theorem mayB_nil : mayB [] = lettersB := by funext x; simp [mayB]

theorem mayB_wild : mayB [⟨#[42]⟩, ⟨#[35]⟩] = fun x => lettersB x || wildB x := by
  funext x
  unfold mayB wildB
  congr 1
  show ([42] == x || ([35] == x || false)) = _
  rw [Bool.or_false]
  congr 1 <;> (rw [Bool.eq_iff_iff, beq_iff_eq, beq_iff_eq]; exact eq_comm)


theorem key_any (s : ByteArray) (w : World) (hs : s.size ≤ maxLen) :
    Calls Tryd.prog 38 #[.string s] w fun e w' => e = .returned (.bool (keyB (txt s))) ∧ Below w.heap.size w w' := by
  unfold keyB
  rw [← mayB_nil]
  go_enter Tryd.func38, Tryd.ntmps38
  go_wp2_with (first
    | (go_at_call 54; refine (isOf_any s _ w.heap.size (.slice none 0 0) [] hs (by rw [World.cell?_alloc_at _ _ _ _ (by simp)]; rfl) (.inl ⟨rfl, rfl⟩) (by simp)).mono ?_; rintro e w' ⟨rfl, hb⟩)
    | go_in)
  go_ret
  exact ⟨rfl, ((Below.refl _ _).alloc (Nat.le_refl _) _).trans (hb.mono (by simp))⟩


set_option maxHeartbeats 1000000 in
/-- The document's all. -/
theorem all_any (s : ByteArray) (wild : Bool) (w : World) (hs : s.size ≤ maxLen) :
    Calls Tryd.prog 57 #[.string s, .bool wild] w fun e w' => e = .returned (.bool (ofB (fun x => lettersB x || (wild && wildB x)) (txt s))) ∧ Below w.heap.size w w' := by
  unfold maxLen at hs
  have hof : ofB (fun x => lettersB x || (wild && wildB x)) (txt s) = (decide (s.size ≤ 60) && (wordsL (txt s)).all (fun x => lettersB x || (wild && wildB x)) && decide ((wordsL (txt s)).length ≤ 12)) := by unfold ofB; rw [txt_length]
  by_cases h60 : s.size ≤ 60
  · have hwl := wordsL_le (txt s)
    rw [txt_length] at hwl
    have hln : (strs (wordsL (txt s))).length = (wordsL (txt s)).length := strs_length _
    rw [hof, decide_eq_true h60, Bool.true_and]
    clear hof
    go_enter Tryd.func57, Tryd.ntmps57
    go_wp2_with (go_at_call 63; refine (rwords_any s _ (by omega)).mono ?_; rintro e w1 ⟨vw, rfl, hown, hb1⟩; have hrow := hown.row; obtain ⟨aw, cw, hvw⟩ := hrow.sliceStrs; rw [hln] at hvw; subst hvw)
    go_loop [15] (fun i => ∃ k : Nat, k ≤ (wordsL (txt s)).length ∧ i = .int .i64 k ∧ ((wordsL (txt s)).take k).all (fun x => lettersB x || (wild && wildB x)) = true) (fun i => (wordsL (txt s)).length - (intOf i).toNat)
    case atStart => exact ⟨0, Nat.zero_le _, rfl, rfl⟩
    case round =>
      obtain ⟨k, hk, rfl, ha⟩ := hrel
      have HA : Hid _ := ha
      clear ha
      by_cases hkl : k < (wordsL (txt s)).length
      · obtain ⟨bw, ow, cw', hv, _, _, hcells⟩ := hrow.atStrs (by rw [hln]; omega)
        rw [hln] at hv
        injection hv with hv1 _ hv3
        subst hv1 hv3
        have hcell := hcells k (by rw [hln]; exact hkl)
        have hg := strs_get (wordsL (txt s)) k (by rw [hln]; exact hkl)
        have hsx : ((strs (wordsL (txt s)))[k]'(by rw [hln]; exact hkl)).size ≤ maxLen := by
          rw [← txt_length, hg]
          have := wordsL_len (txt s) _ (List.getElem_mem hkl)
          rw [txt_length] at this
          unfold maxLen
          omega
        generalize (strs (wordsL (txt s)))[k]'(by rw [hln]; exact hkl) = x at hcell hg hsx
        have HW : Hid ((lettersB (wordsL (txt s))[k] || (wild && wildB (wordsL (txt s))[k])) = (lettersB (txt x) || (wild && (x.toList == [42] || x.toList == [35])))) := by
          show _ = _
          rw [← hg, ByteArray.toList_eq]
          rfl
        have HT : Hid _ := all_take (fun x => lettersB x || (wild && wildB x)) _ k hkl
        have HF : Hid _ := all_bad (fun x => lettersB x || (wild && wildB x)) _ k hkl
        clear hcells hg
        cases wild <;> cases hm : lettersB (txt x) <;> cases h42 : (x.toList == [42]) <;> cases h35 : (x.toList == [35])
        all_goals go_wp2_with (go_at_call 56; refine (letters_any x _ hsx).mono ?_; rintro e w3 ⟨rfl, rfl⟩)
        all_goals first
          | (go_round
             case rel => exact ⟨k + 1, by omega, by go_num, by rw [HT.out, HA.out, HW.out, hm, h42, h35]; rfl⟩
             case measure => simp [intOf]; omega)
          | (go_ret
             exact ⟨ret_bool (by rw [HF.out (by rw [HW.out, hm, h42, h35]; rfl)]; rfl), hb1⟩)
      · have HT : Hid ((wordsL (txt s)).all (fun x => lettersB x || (wild && wildB x)) = true) := by
          have := HA.out
          rw [List.take_of_length_le (by omega)] at this
          exact this
        go_wp2
        go_ret
        refine ⟨ret_bool ?_, hb1⟩
        rw [HT.out]
        go_light
        rw [Bool.true_and, Bool.eq_iff_iff, decide_eq_true_eq, decide_eq_true_eq]
        omega
  · rw [hof, decide_eq_false h60]
    go_enter Tryd.func57, Tryd.ntmps57
    go_wp2
    go_ret
    exact ⟨rfl, Below.refl _ _⟩


theorem rkey_any (s : ByteArray) (w : World) (hs : s.size ≤ maxLen) :
    Calls Tryd.prog 40 #[.string s] w fun e w' => e = .returned (.bool (keyB (txt s))) ∧ Below w.heap.size w w' := by
  have he : (fun x => lettersB x || (false && wildB x)) = lettersB := by funext x; simp
  have h := all_any s false
  rw [he] at h
  go_enter Tryd.func40, Tryd.ntmps40
  go_wp2_with (go_at_call 57; refine (h _ hs).mono ?_; rintro e w' ⟨rfl, hb⟩)
  go_ret
  exact ⟨rfl, hb⟩

end Go.Proofs.YtopacoghnofliaaDoor
