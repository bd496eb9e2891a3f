/-
  THE WALKS of Sum and of the document's Sum.
-/
import Derived.Test.YtopacoghnofliaaDoorCrc
import Derived.Laws.BitsAllLaws
namespace Go.Proofs.YtopacoghnofliaaDoor
open Go.RowKit


theorem sums_take (r : Rest) (bs : List UInt8) (k : Nat) (h : k < bs.length) : sums r (bs.take (k + 1)) = sum1 (sums r (bs.take k)) bs[k] := by
  rw [List.take_succ_eq_append_getElem h, sums_append]; rfl


theorem zed_nat (r : Rest) : ((r.toNat * 2 % 4294967296) ^^^ (r.toNat / 2147483648 * 1947962583)) = (zed r).toNat := by
  have hr := r.isLt
  unfold zed
  rw [BitVec.toNat_xor, BitVec.toNat_shiftLeft, Nat.shiftLeft_eq]
  congr 1
  rw [BitVec.msb_eq_decide]
  by_cases h : 2147483648 ≤ r.toNat
  · have h1 : r.toNat / 2147483648 = 1 := by omega
    simp [h, h1, poly]
  · have h1 : r.toNat / 2147483648 = 0 := by omega
    simp [h, h1]

theorem zed_int (r : Rest) : bits .xor .u32 ((r.toNat : Int) * 2 % 4294967296) ((r.toNat : Int) / 2147483648 * 1947962583) = ((zed r).toNat : Int) := by
  have hr := r.isLt
  have e1 : ((r.toNat : Int) * 2 % 4294967296) = ((r.toNat * 2 % 4294967296 : Nat) : Int) := by omega
  have e2 : ((r.toNat : Int) / 2147483648 * 1947962583) = ((r.toNat / 2147483648 * 1947962583 : Nat) : Int) := by omega
  rw [e1, e2]
  have := u32_xor_nat (r.toNat * 2 % 4294967296) (r.toNat / 2147483648 * 1947962583) (by omega) (by omega)
  rw [this, zed_nat]

theorem byte_in (r : Rest) (b : UInt8) : bits .xor .u32 (r.toNat : Int) ((b.toNat : Int) % 4294967296 * 16777216 % 4294967296) = ((r ^^^ byteTop b).toNat : Int) := by
  have hr := r.isLt
  have hb := b.toNat_lt
  have e1 : ((b.toNat : Int) % 4294967296 * 16777216 % 4294967296) = ((b.toNat * 16777216 : Nat) : Int) := by omega
  have e2 : (byteTop b).toNat = b.toNat * 16777216 := by
    unfold byteTop
    rw [BitVec.toNat_shiftLeft, Nat.shiftLeft_eq, BitVec.toNat_ofNat]
    omega
  rw [e1, u32_xor_nat _ _ (by omega) (by omega), BitVec.toNat_xor, e2]


set_option maxRecDepth 20000 in
set_option maxHeartbeats 400000 in
theorem sum_any (s : Value) (bs : List UInt8) (w : World) (hs : Holds w s bs) :
    Calls Tryd.prog 43 #[s] w fun e w' => e = .returned (.int .u32 (crc bs)) ∧ w' = w := by
  by_cases hp : 0 < bs.length
  · obtain ⟨b, off, cap, rfl, hc1, hc2, hcell⟩ := hs.at hp
    unfold maxLen at hc2
    go_enter Tryd.func43, Tryd.ntmps43
    go_wp2_with fail
    go_loop [3, 8] (fun x i => ∃ k : Nat, k ≤ bs.length ∧ i = .int .i64 k ∧ x = .int .u32 ((sums 0xffffffff#32 (bs.take k)).toNat : Int)) (fun _ i => bs.length - (intOf i).toNat)
    case atStart => exact ⟨0, Nat.zero_le _, rfl, rfl⟩
    case round =>
      obtain ⟨k, hk, rfl, rfl⟩ := hrel
      by_cases hlt : k < bs.length
      · have hc := hcell k hlt
        go_wp2_with fail
        rw [byte_in]
        generalize hR : sums 0xffffffff#32 (bs.take k) ^^^ byteTop bs[k] = R
        have hnext : sums 0xffffffff#32 (bs.take (k + 1)) = zeds 8 R := by rw [sums_take _ _ _ hlt, ← hR]; rfl
        have HN : Hid _ := hnext
        clear hnext hR
        go_loop [3, 17] (fun x i => ∃ j : Nat, j ≤ 8 ∧ i = .int .i64 j ∧ x = .int .u32 ((zeds j R).toNat : Int)) (fun _ i => 8 - (intOf i).toNat)
        case atStart => exact ⟨0, Nat.zero_le _, rfl, rfl⟩
        case round =>
          obtain ⟨j, hj, rfl, rfl⟩ := hrel
          by_cases hj8 : j < 8
          · go_wp2
            refine ⟨⟨j + 1, by omega, by go_num, ?_⟩, by simp [intOf]; omega⟩
            rw [zeds_succ, zed_int]
          · go_wp2
            obtain rfl : j = 8 := by omega
            refine ⟨⟨k + 1, by omega, by go_num, ?_⟩, by simp [intOf]; omega⟩
            rw [HN.out]
      · go_wp2
        obtain rfl : k = bs.length := by omega
        go_ret
        exact ⟨by rw [List.take_of_length_le (Nat.le_refl _)]; rfl, rfl⟩
  · obtain rfl : bs = [] := List.eq_nil_of_length_eq_zero (by omega)
    obtain ⟨a, cap, rfl⟩ := hs.slice
    clear hs hp
    simp only [List.length_nil]
    go_enter Tryd.func43, Tryd.ntmps43
    go_wp2
    go_rounds 1
    go_ret
    exact ⟨rfl, rfl⟩


theorem step_take (R : Rest) (B : UInt8) (m : Nat) (hm : m < 8) : turns R ((byteBits B).take (m + 1)) = turn (turns R ((byteBits B).take m)) (B.toNat.testBit (7 - m)) := by
  obtain rfl | rfl | rfl | rfl | rfl | rfl | rfl | rfl : m = 0 ∨ m = 1 ∨ m = 2 ∨ m = 3 ∨ m = 4 ∨ m = 5 ∨ m = 6 ∨ m = 7 := by omega
  all_goals rfl

theorem other_is (r : Rest) (B : UInt8) (i : Nat) (d : Int) (hd : d = ((2 ^ i : Nat) : Int)) :
    ((r.toNat : Int) / 2147483648 != bits .and .u32 ((B.toNat : Int) / d % 4294967296) 1) = (r.msb != B.toNat.testBit i) := by
  have hr := r.isLt
  have hb := B.toNat_lt
  have e0 : ((B.toNat : Int) / d) = ((B.toNat / 2 ^ i : Nat) : Int) := by rw [hd]; exact (Int.natCast_ediv _ _).symm
  have hq : B.toNat / 2 ^ i < 256 := Nat.lt_of_le_of_lt (Nat.div_le_self _ _) hb
  have e1 : (((B.toNat / 2 ^ i : Nat) : Int) % 4294967296) = ((B.toNat / 2 ^ i : Nat) : Int) := by generalize B.toNat / 2 ^ i = q at hq; omega
  have e2 : (1 : Int) = ((1 : Nat) : Int) := rfl
  have e3 : ((r.toNat : Int) / 2147483648) = ((r.toNat / 2147483648 : Nat) : Int) := by omega
  rw [e0, e1, e2, u32_and_nat _ _ (by omega) (by omega), e3, Nat.and_one_is_mod, Nat.testBit_eq_decide_div_mod_eq, BitVec.msb_eq_decide]
  generalize B.toNat / 2 ^ i = q
  rw [Bool.eq_iff_iff]
  have h31 : (2 : Nat) ^ (32 - 1) = 2147483648 := by decide
  rw [h31]
  by_cases h1 : 2147483648 ≤ r.toNat <;> by_cases h2 : q % 2 = 1 <;> simp [h1, h2] <;> omega

theorem step_yes (R : Rest) (B : UInt8) (m : Nat) (d : Int) (hm : m < 8) (hd : d = ((2 ^ (7 - m) : Nat) : Int))
    (h : (((turns R ((byteBits B).take m)).toNat : Int) / 2147483648 != bits .and .u32 ((B.toNat : Int) / d % 4294967296) 1) = true) :
    Value.int .u32 (bits .xor .u32 (((turns R ((byteBits B).take m)).toNat : Int) * 2 % 4294967296) 1947962583) = Value.int .u32 ((turns R ((byteBits B).take (m + 1))).toNat : Int) := by
  rw [other_is _ _ (7 - m) d hd] at h
  rw [step_take _ _ _ hm]
  generalize turns R ((byteBits B).take m) = r at h
  unfold turn
  rw [h]
  have e1 : ((r.toNat : Int) * 2 % 4294967296) = ((r.toNat * 2 % 4294967296 : Nat) : Int) := by omega
  rw [e1, show (1947962583 : Int) = ((1947962583 : Nat) : Int) from rfl, u32_xor_nat _ _ (by omega) (by omega), BitVec.toNat_xor, BitVec.toNat_shiftLeft, Nat.shiftLeft_eq]
  rfl

theorem step_no (R : Rest) (B : UInt8) (m : Nat) (d : Int) (hm : m < 8) (hd : d = ((2 ^ (7 - m) : Nat) : Int))
    (h : (((turns R ((byteBits B).take m)).toNat : Int) / 2147483648 != bits .and .u32 ((B.toNat : Int) / d % 4294967296) 1) = false) :
    Value.int .u32 (((turns R ((byteBits B).take m)).toNat : Int) * 2 % 4294967296) = Value.int .u32 ((turns R ((byteBits B).take (m + 1))).toNat : Int) := by
  rw [other_is _ _ (7 - m) d hd] at h
  rw [step_take _ _ _ hm]
  generalize turns R ((byteBits B).take m) = r at h
  unfold turn
  rw [h]
  have e1 : ((r.toNat : Int) * 2 % 4294967296) = ((r.toNat * 2 % 4294967296 : Nat) : Int) := by omega
  rw [e1]
  simp [Nat.shiftLeft_eq]


set_option maxHeartbeats 1000000 in
theorem rsum_any (s : Value) (bs : List UInt8) (w : World) (hs : Holds w s bs) :
    Calls Tryd.prog 46 #[s] w fun e w' => e = .returned (.int .u32 (crc bs)) ∧ w' = w := by
  by_cases hp : 0 < bs.length
  · obtain ⟨b, off, cap, rfl, hc1, hc2, hcell⟩ := hs.at hp
    unfold maxLen at hc2
    go_enter Tryd.func46, Tryd.ntmps46
    go_wp2_with fail
    go_loop [3, 10] (fun x i => ∃ k : Nat, k ≤ bs.length ∧ i = .int .i64 k ∧ x = .int .u32 ((sums 0xffffffff#32 (bs.take k)).toNat : Int)) (fun _ i => bs.length - (intOf i).toNat)
    case atStart => exact ⟨0, Nat.zero_le _, rfl, rfl⟩
    case round =>
      obtain ⟨k, hk, rfl, rfl⟩ := hrel
      by_cases hlt : k < bs.length
      · have hc := hcell k hlt
        go_wp2_with fail
        generalize hR : sums 0xffffffff#32 (bs.take k) = R
        generalize hB : bs[k] = B
        have hnext : sums 0xffffffff#32 (bs.take (k + 1)) = turns R (byteBits B) := by rw [sums_take _ _ _ hlt, hR, hB, sum1_turns]
        have HN : Hid _ := hnext
        clear hnext hR hB
        go_loop [3, 6] (fun x i => ∃ m : Nat, m ≤ 8 ∧ i = .int .i64 (7 - m) ∧ x = .int .u32 ((turns R ((byteBits B).take m)).toNat : Int)) (fun _ i => (intOf i + 1).toNat)
        case atStart => exact ⟨0, Nat.zero_le _, rfl, rfl⟩
        case round =>
          obtain ⟨m, hm, rfl, rfl⟩ := hrel
          by_cases hm8 : m < 8
          · have hr := (turns R ((byteBits B).take m)).isLt
            obtain rfl | rfl | rfl | rfl | rfl | rfl | rfl | rfl : m = 0 ∨ m = 1 ∨ m = 2 ∨ m = 3 ∨ m = 4 ∨ m = 5 ∨ m = 6 ∨ m = 7 := by omega
            · go_wp2
              · rename_i h
                exact ⟨⟨1, by decide, rfl, step_yes R B 0 128 (by decide) rfl h⟩, by decide⟩
              · rename_i h
                exact ⟨⟨1, by decide, rfl, step_no R B 0 128 (by decide) rfl h⟩, by decide⟩
            · go_wp2
              · rename_i h
                exact ⟨⟨2, by decide, rfl, step_yes R B 1 64 (by decide) rfl h⟩, by decide⟩
              · rename_i h
                exact ⟨⟨2, by decide, rfl, step_no R B 1 64 (by decide) rfl h⟩, by decide⟩
            · go_wp2
              · rename_i h
                exact ⟨⟨3, by decide, rfl, step_yes R B 2 32 (by decide) rfl h⟩, by decide⟩
              · rename_i h
                exact ⟨⟨3, by decide, rfl, step_no R B 2 32 (by decide) rfl h⟩, by decide⟩
            · go_wp2
              · rename_i h
                exact ⟨⟨4, by decide, rfl, step_yes R B 3 16 (by decide) rfl h⟩, by decide⟩
              · rename_i h
                exact ⟨⟨4, by decide, rfl, step_no R B 3 16 (by decide) rfl h⟩, by decide⟩
            · go_wp2
              · rename_i h
                exact ⟨⟨5, by decide, rfl, step_yes R B 4 8 (by decide) rfl h⟩, by decide⟩
              · rename_i h
                exact ⟨⟨5, by decide, rfl, step_no R B 4 8 (by decide) rfl h⟩, by decide⟩
            · go_wp2
              · rename_i h
                exact ⟨⟨6, by decide, rfl, step_yes R B 5 4 (by decide) rfl h⟩, by decide⟩
              · rename_i h
                exact ⟨⟨6, by decide, rfl, step_no R B 5 4 (by decide) rfl h⟩, by decide⟩
            · go_wp2
              · rename_i h
                exact ⟨⟨7, by decide, rfl, step_yes R B 6 2 (by decide) rfl h⟩, by decide⟩
              · rename_i h
                exact ⟨⟨7, by decide, rfl, step_no R B 6 2 (by decide) rfl h⟩, by decide⟩
            · go_wp2
              · rename_i h
                exact ⟨⟨8, by decide, rfl, step_yes R B 7 1 (by decide) rfl (by rw [Int.ediv_one]; exact h)⟩, by decide⟩
              · rename_i h
                exact ⟨⟨8, by decide, rfl, step_no R B 7 1 (by decide) rfl (by rw [Int.ediv_one]; exact h)⟩, by decide⟩
          · go_wp2
            obtain rfl : m = 8 := by omega
            refine ⟨⟨k + 1, by omega, by go_num, ?_⟩, by simp [intOf]; omega⟩
            rw [HN.out]
            rfl
      · go_wp2
        obtain rfl : k = bs.length := by omega
        go_ret
        exact ⟨by rw [List.take_of_length_le (Nat.le_refl _)]; rfl, rfl⟩
  · obtain rfl : bs = [] := List.eq_nil_of_length_eq_zero (by omega)
    obtain ⟨a, cap, rfl⟩ := hs.slice
    clear hs hp
    simp only [List.length_nil]
    go_enter Tryd.func46, Tryd.ntmps46
    go_wp2
    go_rounds 1
    go_ret
    exact ⟨rfl, rfl⟩

end Go.Proofs.YtopacoghnofliaaDoor
