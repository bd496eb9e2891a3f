/-
  NAMES: letter, digit, Good, and the document's Good, by their contracts.
-/
import Derived.Test.YtjgdmbfkondakaaGreatDoorJMoved
import Derived.Test.YtjgdmbfkondakaaGreatDoorJRow
import Derived.Deep.Light
namespace Go.Proofs.YtjgdmbfkondakaaGreatDoor
open Go.RowKit

theorem letter_any (c : UInt8) (w : World) : Calls Tryz.prog 58 #[.int .u8 (c.toNat : Int)] w fun e w' => e = .returned (.bool (letterB c)) ∧ w' = w := by
  go_enter Tryz.func58, Tryz.ntmps58
  go_wp2
  all_goals go_ret
  all_goals refine ⟨ret_bool ?_, rfl⟩
  all_goals go_light
  all_goals unfold letterB
  all_goals rw [Bool.eq_iff_iff]
  all_goals simp
  all_goals omega
theorem digit_any (c : UInt8) (w : World) : Calls Tryz.prog 59 #[.int .u8 (c.toNat : Int)] w fun e w' => e = .returned (.bool (digitB c)) ∧ w' = w := by
  go_enter Tryz.func59, Tryz.ntmps59
  go_wp2
  all_goals go_ret
  all_goals refine ⟨ret_bool ?_, rfl⟩
  all_goals go_light
  all_goals unfold digitB
  all_goals rw [Bool.eq_iff_iff]
  all_goals simp
  all_goals omega

theorem txt_snoc (s : ByteArray) (k : Nat) (h : k < s.size) : (txt s).take (k + 1) = (txt s).take k ++ [s[k]] := by
  unfold txt
  rw [List.take_succ_eq_append_getElem (by simpa using h)]; rfl
theorem txt_mem (s : ByteArray) (k : Nat) (h : k < s.size) : s[k] ∈ txt s := by
  have : (txt s)[k]'(by rw [txt_length]; exact h) = s[k] := rfl
  rw [← this]
  exact List.getElem_mem _
theorem sign_take (s : ByteArray) (k : Nat) (h : k < s.size) : ((txt s).take (k + 1)).all signB = (((txt s).take k).all signB && signB s[k]) := by
  rw [txt_snoc s k h, List.all_append]
  simp
theorem sign_bad (s : ByteArray) (k : Nat) (h : k < s.size) (hb : signB s[k] = false) : goodN s = false := by
  unfold goodN
  have : (txt s).all signB = false := by
    rw [Bool.eq_false_iff]
    intro ha
    rw [List.all_eq_true] at ha
    rw [ha _ (txt_mem s k h)] at hb
    cases hb
  rw [this]; simp
theorem first_byte (s : ByteArray) (h : 0 < s.size) : s.data.getD 0 0 = s[0] := by
  rw [show s.data.getD 0 0 = (s.data[0]?).getD 0 from by simp [Array.getD_eq_getD_getElem?]]
  rw [Array.getElem?_eq_getElem (by exact h)]
  rfl
theorem good_end (s : ByteArray) (k : Nat) (h : ¬ k < s.size) (ha : ((txt s).take k).all signB = true) (h0 : 0 < s.size) (h1 : s.size ≤ 30) (hl : letterB s[0] = true) : goodN s = true := by
  rw [List.take_of_length_le (by rw [txt_length]; omega)] at ha
  unfold goodN
  rw [ha, first_byte s h0, hl]
  simp; omega

set_option maxHeartbeats 1000000 in
theorem good_any (s : ByteArray) (w : World) (hs : s.size ≤ maxLen) : Calls Tryz.prog 22 #[.string s] w fun e w' => e = .returned (.bool (goodN s)) ∧ w' = w := by
  unfold maxLen at hs
  by_cases h0 : s.size = 0
  · have hg : goodN s = false := by unfold goodN; simp [h0]
    rw [hg]
    go_enter Tryz.func22, Tryz.ntmps22
    go_wp2
    go_ret
    exact ⟨rfl, rfl⟩
  · by_cases h30 : 30 < s.size
    · have hg : goodN s = false := by unfold goodN; simp; omega
      rw [hg]
      go_enter Tryz.func22, Tryz.ntmps22
      go_wp2
      go_ret
      exact ⟨rfl, rfl⟩
    · have hp : 0 < s.size := by omega
      have h0' : ¬ (s.size : Int) = 0 := by omega
      have h30' : ¬ (30 : Int) < (s.size : Int) := by omega
      have hd0 : ((s.size : Int) == 0) = false := beq_eq_false_iff_ne.2 h0'
      have hl0 := letter_any s[0] w
      cases hl : letterB s[0] with
      | false =>
        have hg : goodN s = false := by unfold goodN; rw [first_byte s hp, hl]; simp
        rw [hg]
        rw [hl] at hl0
        go_enter Tryz.func22, Tryz.ntmps22
        go_wp2_with (go_at_call 58; refine hl0.mono ?_; rintro e w ⟨rfl, rfl⟩)
        go_ret
        exact ⟨rfl, rfl⟩
      | true =>
        rw [hl] at hl0
        have HL : Hid (letterB s[0] = true) := hl
        go_enter Tryz.func22, Tryz.ntmps22
        go_wp2_with (go_at_call 58; refine hl0.mono ?_; rintro e w ⟨rfl, rfl⟩)
        clear hl0 hl
        go_loop [3, 4, 21] (fun u3 u4 u21 => ∃ k : Nat, k ≤ s.size ∧ u21 = .int .i64 k ∧ ((txt s).take k).all signB = true) (fun u3 u4 u21 => s.size - (intOf u21).toNat)
        case atStart => exact ⟨0, Nat.zero_le _, rfl, rfl⟩
        case round =>
          obtain ⟨k, hk, rfl, ha⟩ := hrel
          have HA : Hid _ := ha
          clear ha
          by_cases hlt : k < s.size
          · have hL := letter_any s[k] w
            have hD := digit_any s[k] w
            have HS : Hid (signB s[k] = (letterB s[k] || digitB s[k] || decide (s[k].toNat = 46))) := rfl
            generalize letterB s[k] = bl at *
            generalize digitB s[k] = bd at *
            have hlt' : (k : Int) < (s.size : Int) := by omega
            cases bl <;> cases bd
            · by_cases h46 : s[k].toNat = 46
              · rw [h46] at hL hD
                go_wp2_with (first | (go_at_call 58; refine hL.mono ?_; rintro e w ⟨rfl, rfl⟩) | (go_at_call 59; refine hD.mono ?_; rintro e w ⟨rfl, rfl⟩))
                go_round
                case rel => exact ⟨k + 1, by omega, by go_num, by rw [sign_take s k hlt, HA.out, HS.out]; simp [h46]⟩
                case measure => simp [intOf]; omega
              · have h46' : ((s[k].toNat : Int) == 46) = false := beq_eq_false_iff_ne.2 (by omega)
                go_wp2_with (first | (go_at_call 58; refine hL.mono ?_; rintro e w ⟨rfl, rfl⟩) | (go_at_call 59; refine hD.mono ?_; rintro e w ⟨rfl, rfl⟩))
                go_ret
                exact ⟨ret_bool (sign_bad s k hlt (by rw [HS.out]; simp [h46])).symm, rfl⟩
            all_goals go_wp2_with (first | (go_at_call 58; refine hL.mono ?_; rintro e w ⟨rfl, rfl⟩) | (go_at_call 59; refine hD.mono ?_; rintro e w ⟨rfl, rfl⟩))
            all_goals go_round
            all_goals first
              | exact ⟨k + 1, by omega, by go_num, by rw [sign_take s k hlt, HA.out, HS.out]; simp⟩
              | (simp [intOf]; omega)
          · have hlt' : ¬ (k : Int) < (s.size : Int) := by omega
            go_wp2
            go_ret
            exact ⟨ret_bool (good_end s k hlt HA.out hp (by omega) HL.out).symm, rfl⟩

end Go.Proofs.YtjgdmbfkondakaaGreatDoor
