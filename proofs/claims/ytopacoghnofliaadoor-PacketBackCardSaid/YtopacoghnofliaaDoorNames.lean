/-
  THE WALKS of the signs of a name: the program's range over a string, the document's loop.
-/
import Derived.Test.YtopacoghnofliaaDoorProg
import Derived.Test.YtopacoghnofliaaDoorTexts
import Derived.Test.YtopacoghnofliaaDoorRow
import Derived.Laws.RangeAny
import Derived.Deep.Light
namespace Go.Proofs.YtopacoghnofliaaDoor
open Go.RowKit


/-- A text's bytes. -/
def txt (s : ByteArray) : Txt := s.data.toList

theorem txt_length (s : ByteArray) : (txt s).length = s.size := by simp [txt]

theorem txt_inj {s t : ByteArray} (h : txt s = txt t) : s = t := by
  cases s; cases t
  simpa [txt] using h

theorem txt_eq (s t : ByteArray) : (s == t) = (txt s == txt t) := by
  show (s.data == t.data) = (s.data.toList == t.data.toList)
  rw [Bool.eq_iff_iff, beq_iff_eq, beq_iff_eq]
  exact ⟨fun h => by rw [h], fun h => Array.toList_inj.1 h⟩

theorem txt_snoc (s : ByteArray) (k : Nat) (h : k < s.size) : (txt s).take (k + 1) = (txt s).take k ++ [s[k]] := by
  unfold txt
  rw [List.take_succ_eq_append_getElem (by simpa using h)]; rfl

theorem txt_mem (s : ByteArray) (k : Nat) (h : k < s.size) : s[k] ∈ txt s := by
  have : (txt s)[k]'(by rw [txt_length]; exact h) = s[k] := rfl
  rw [← this]
  exact List.getElem_mem _


/-- A rune that is a sign. -/
def signI (r : Int) : Bool := decide (97 ≤ r ∧ r ≤ 122) || decide (48 ≤ r ∧ r ≤ 57) || r == 45 || r == 95

theorem signI_byte (b : UInt8) : signI (b.toNat : Int) = signB b := by
  unfold signI signB
  rw [Bool.eq_iff_iff]
  simp
  omega

theorem signI_high {r : Int} (h : 128 ≤ r) : signI r = false := by
  unfold signI
  rw [Bool.eq_false_iff]
  simp
  omega


theorem sign_any (r : Int) (w : World) :
    Calls Tryd.prog 59 #[.int .i32 r] w fun e w' => e = .returned (.bool (signI r)) ∧ w' = w := by
  go_enter Tryd.func59, Tryd.ntmps59
  go_wp2
  all_goals go_ret
  all_goals refine ⟨ret_bool ?_, rfl⟩
  all_goals go_light
  all_goals unfold signI
  all_goals rw [Bool.eq_iff_iff]
  all_goals simp only [Bool.or_eq_true, decide_eq_true_eq, beq_iff_eq, true_iff]
  all_goals first | omega | simp


theorem letters_take (s : ByteArray) (k : Nat) (h : k < s.size) : ((txt s).take (k + 1)).all signB = (((txt s).take k).all signB && signB s[k]) := by
  rw [txt_snoc s k h, List.all_append]
  simp

theorem letters_bad (s : ByteArray) (k : Nat) (h : k < s.size) (hb : signB s[k] = false) : lettersB (txt s) = false := by
  unfold lettersB
  have : (txt s).all signB = false := by
    rw [Bool.eq_false_iff]
    intro ha
    rw [List.all_eq_true] at ha
    rw [ha _ (txt_mem s k h)] at hb
    cases hb
  rw [this]; rfl

theorem letters_good (s : ByteArray) (k : Nat) (h : ¬ k < s.size) (ha : ((txt s).take k).all signB = true) : lettersB (txt s) = !(txt s).isEmpty := by
  rw [List.take_of_length_le (by rw [txt_length]; omega)] at ha
  unfold lettersB
  rw [ha]; rfl

theorem txt_empty (s : ByteArray) : (txt s).isEmpty = (s == ⟨#[]⟩) := by
  rw [txt_eq]
  show _ = (txt s == [])
  cases txt s <;> rfl


/-- plain: every byte is a sign, and there is one. -/
theorem plain_any (s : ByteArray) (w : World) :
    Calls Tryd.prog 53 #[.string s] w fun e w' => e = .returned (.bool (lettersB (txt s))) ∧ Below w.heap.size w w' := by
  go_enter Tryd.func53, Tryd.ntmps53
  go_wp2
  go_loopw [] (fun w' => ∃ pos : Nat, w' = w.iter s pos ∧ ((txt s).take pos).all signB = true) (fun w' => s.size - w'.iterPos w.heap.size)
  case atStart => exact ⟨0, rfl, rfl⟩
  case round =>
    obtain ⟨pos, rfl, ha⟩ := hrel
    have hbel : Below w.heap.size w (w.iter s pos) := (Below.refl _ w).alloc (Nat.le_refl _) _
    have HA : Hid _ := ha
    clear ha
    by_cases hp : pos < s.size
    · by_cases hr : signB s[pos] = true
      · have h128 : (s[pos]'hp).toNat < 128 := by
          unfold signB at hr
          simp at hr
          omega
        have hsg : signI ((s[pos]'hp).toNat : Int) = true := by rw [signI_byte]; exact hr
        have hnx : ∀ ty, (Instr.next (.pointer (some ⟨w.heap.size, 0, none⟩)) true ty).run Tryd.prog (w.iter s pos) = _ := fun ty => run_next_ascii w s pos ty hp h128
        go_wp2_with (go_at_call 59; refine (sign_any _ _).mono ?_; rintro e w' ⟨rfl, rfl⟩)
        go_roundw
        case rel => exact ⟨pos + 1, rfl, by rw [letters_take s pos hp, HA.out, hr]; rfl⟩
        case measure => simp; omega
      · have hr' : signB s[pos] = false := by simpa using hr
        have hbad := letters_bad s pos hp hr'
        have hdec : signI ((Utf8.decode s pos).1 : Int) = false := by
          by_cases h128 : (s[pos]'hp).toNat < 128
          · rw [decode_ascii s pos hp h128, signI_byte]; exact hr'
          · exact signI_high (by have := (decode_high s pos hp (by omega)).1; omega)
        have hnx : ∀ ty, (Instr.next (.pointer (some ⟨w.heap.size, 0, none⟩)) true ty).run Tryd.prog (w.iter s pos) = _ := fun ty => run_next_any w s pos ty hp
        go_wp2_with (go_at_call 59; refine (sign_any _ _).mono ?_; rintro e w' ⟨rfl, rfl⟩)
        go_ret
        exact ⟨ret_bool hbad.symm, (Below.refl _ w).alloc (Nat.le_refl _) _⟩
    · have hnx : ∀ ty, (Instr.next (.pointer (some ⟨w.heap.size, 0, none⟩)) true ty).run Tryd.prog (w.iter s pos) = _ := fun ty => run_next_end w s pos ty hp
      go_wp2
      go_ret
      refine ⟨ret_bool ?_, hbel⟩
      rw [letters_good s pos hp HA.out, ByteArray.toList_eq]
      rfl


/-- The document's letters. -/
theorem letters_any (s : ByteArray) (w : World) (hs : s.size ≤ maxLen) :
    Calls Tryd.prog 56 #[.string s] w fun e w' => e = .returned (.bool (lettersB (txt s))) ∧ w' = w := by
  unfold maxLen at hs
  go_enter Tryd.func56, Tryd.ntmps56
  go_wp2
  go_loop [3] (fun i => ∃ k : Nat, k ≤ s.size ∧ i = .int .i64 k ∧ ((txt s).take k).all signB = true) (fun i => s.size - (intOf i).toNat)
  case atStart => exact ⟨0, Nat.zero_le _, rfl, rfl⟩
  case round =>
    obtain ⟨k, hk, rfl, ha⟩ := hrel
    have HA : Hid _ := ha
    clear ha
    by_cases hlt : k < s.size
    · have HB : Hid (signB s[k] = signI (s[k].toNat : Int)) := (signI_byte _).symm
      go_wp2
      all_goals first
        | (go_round
           case rel =>
             refine ⟨k + 1, by omega, by go_num, ?_⟩
             rw [letters_take s k hlt, HA.out, HB.out]
             go_light
             simp only [Bool.not_eq_false', decide_eq_true_eq, beq_iff_eq] at *
             simp only [signI, Bool.true_and, Bool.or_eq_true, decide_eq_true_eq, beq_iff_eq]
             omega
           case measure => simp [intOf]; omega)
        | (go_ret
           refine ⟨ret_bool (letters_bad s k hlt ?_).symm, rfl⟩
           rw [HB.out]
           go_light
           simp only [Bool.not_eq_true', decide_eq_false_iff_not, beq_eq_false_iff_ne, ne_eq] at *
           rw [Bool.eq_false_iff]
           simp only [signI, ne_eq, Bool.or_eq_true, decide_eq_true_eq, beq_iff_eq]
           omega)
    · go_wp2
      all_goals go_ret
      all_goals refine ⟨ret_bool ?_, rfl⟩
      all_goals rw [letters_good s k hlt HA.out]
      all_goals rw [show (txt s).isEmpty = decide (s.size = 0) from by rw [← txt_length]; cases txt s <;> simp]
      all_goals go_light
      all_goals rw [Bool.eq_iff_iff]
      all_goals simp only [decide_eq_true_eq, Bool.not_eq_true', decide_eq_false_iff_not]
      all_goals omega


theorem name_any (s : ByteArray) (w : World) (hs : s.size ≤ maxLen) :
    Calls Tryd.prog 37 #[.string s] w fun e w' => e = .returned (.bool (nameB (txt s))) ∧ Below w.heap.size w w' := by
  unfold maxLen at hs
  have hn : nameB (txt s) = (decide (s.size ≤ 20) && lettersB (txt s)) := by unfold nameB; rw [txt_length]
  rw [hn]
  by_cases h20 : s.size ≤ 20
  all_goals go_enter Tryd.func37, Tryd.ntmps37
  all_goals go_wp2_with (go_at_call 53; refine (plain_any s _).mono ?_; rintro e w' ⟨rfl, hb⟩)
  all_goals go_ret
  · exact ⟨ret_bool (by rw [decide_eq_true h20]; rfl), by assumption⟩
  · exact ⟨rfl, Below.refl _ _⟩


theorem rname_any (s : ByteArray) (w : World) (hs : s.size ≤ maxLen) :
    Calls Tryd.prog 39 #[.string s] w fun e w' => e = .returned (.bool (nameB (txt s))) ∧ w' = w := by
  have hs' := hs
  unfold maxLen at hs
  have hn : nameB (txt s) = (decide (s.size ≤ 20) && lettersB (txt s)) := by unfold nameB; rw [txt_length]
  rw [hn]
  by_cases h20 : s.size ≤ 20
  all_goals go_enter Tryd.func39, Tryd.ntmps39
  all_goals go_wp2_with (go_at_call 56; refine (letters_any s _ hs').mono ?_; rintro e w' ⟨rfl, rfl⟩)
  all_goals go_ret
  all_goals exact ⟨ret_bool (by simp [h20]), rfl⟩

end Go.Proofs.YtopacoghnofliaaDoor
