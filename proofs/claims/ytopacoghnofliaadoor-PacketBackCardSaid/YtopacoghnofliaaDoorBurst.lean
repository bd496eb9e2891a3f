/-
  WHAT IS OF NO PROGRAM: up to 32 bits in a row that are changed behind the count are seen.
-/
import Derived.Test.YtopacoghnofliaaDoorFacts
namespace Go.Proofs.YtopacoghnofliaaDoor


/-- A bit of bytes, the highest of each first. -/
def bitAt (bs : List UInt8) (p : Nat) : Bool := ((bs[p / 8]?.getD 0).toNat).testBit (7 - p % 8)

theorem byteBits_get (b : UInt8) (p : Nat) (h : p < 8) : (byteBits b)[p]? = some (b.toNat.testBit (7 - p)) := by
  obtain rfl | rfl | rfl | rfl | rfl | rfl | rfl | rfl : p = 0 ∨ p = 1 ∨ p = 2 ∨ p = 3 ∨ p = 4 ∨ p = 5 ∨ p = 6 ∨ p = 7 := by omega
  all_goals rfl

theorem bitsOf_get : ∀ (bs : List UInt8) (p : Nat), p < 8 * bs.length → (bitsOf bs)[p]? = some (bitAt bs p)
  | [], p, h => by simp at h
  | b :: bs, p, h => by
    have h2 : bitsOf (b :: bs) = byteBits b ++ bitsOf bs := by simp [bitsOf]
    have hl : (byteBits b).length = 8 := rfl
    rw [h2]
    by_cases hp : p < 8
    · rw [List.getElem?_append_left (by omega), byteBits_get b p hp]
      have h0 : p / 8 = 0 := by omega
      have h1 : p % 8 = p := by omega
      simp [bitAt, h0, h1]
    · rw [List.getElem?_append_right (by omega), hl, bitsOf_get bs (p - 8) (by simp at h; omega)]
      obtain ⟨q, rfl⟩ : ∃ q, p = q + 8 := ⟨p - 8, by omega⟩
      have h0 : (q + 8) / 8 = q / 8 + 1 := by omega
      have h1 : (q + 8) % 8 = q % 8 := by omega
      simp [bitAt, h0, h1]


/-- One bit changed. -/
def flipAt (bs : List UInt8) (q : Nat) : List UInt8 := bs.set (q / 8) (UInt8.ofNat ((bs[q / 8]?.getD 0).toNat ^^^ 2 ^ (7 - q % 8)))

theorem flipAt_length (bs : List UInt8) (q : Nat) : (flipAt bs q).length = bs.length := by simp [flipAt]

theorem flipAt_byte (x : UInt8) (m : Nat) (h : m < 8) : (UInt8.ofNat (x.toNat ^^^ 2 ^ m)).toNat = x.toNat ^^^ 2 ^ m := by
  rw [UInt8.toNat_ofNat']
  refine Nat.mod_eq_of_lt (Nat.xor_lt_two_pow (n := 8) x.toNat_lt ?_)
  exact Nat.pow_lt_pow_right (by decide) h

theorem bitAt_flip (bs : List UInt8) (q p : Nat) (hq : q < 8 * bs.length) : bitAt (flipAt bs q) p = (bitAt bs p ^^ decide (p = q)) := by
  have hq8 : q / 8 < bs.length := by omega
  unfold bitAt flipAt
  by_cases h : p / 8 = q / 8
  · rw [h, List.getElem?_set_self hq8, Option.getD_some, flipAt_byte _ _ (by omega), Nat.testBit_xor, Nat.testBit_two_pow]
    congr 1
    rw [decide_eq_decide]
    omega
  · rw [List.getElem?_set_ne (by omega)]
    have : ¬ p = q := fun e => h (by rw [e])
    simp [this]

theorem flipAt_take (bs : List UInt8) (q j : Nat) (h : j ≤ q / 8) : (flipAt bs q).take j = bs.take j := by
  unfold flipAt
  rw [List.take_set, List.set_eq_of_length_le (by rw [List.length_take]; omega)]


/-- So many bits gone over, from q0 on; those that u names are changed. -/
def burstB (bs : List UInt8) (q0 u : Nat) : Nat → List UInt8
  | 0 => bs
  | n + 1 => if u.testBit n then flipAt (burstB bs q0 u n) (q0 + n) else burstB bs q0 u n

theorem burstB_length (bs : List UInt8) (q0 u : Nat) : ∀ n, (burstB bs q0 u n).length = bs.length
  | 0 => rfl
  | n + 1 => by
    unfold burstB
    split
    · rw [flipAt_length]; exact burstB_length bs q0 u n
    · exact burstB_length bs q0 u n

theorem burstB_take (bs : List UInt8) (q0 u j : Nat) (h : j ≤ q0 / 8) : ∀ n, (burstB bs q0 u n).take j = bs.take j
  | 0 => rfl
  | n + 1 => by
    unfold burstB
    split
    · rw [flipAt_take _ _ _ (by omega)]; exact burstB_take bs q0 u j h n
    · exact burstB_take bs q0 u j h n

theorem bitAt_burst (bs : List UInt8) (q0 u p : Nat) : ∀ n, q0 + n ≤ 8 * bs.length → bitAt (burstB bs q0 u n) p = (bitAt bs p ^^ (decide (q0 ≤ p ∧ p < q0 + n) && u.testBit (p - q0)))
  | 0, _ => by
    have : ¬ (q0 ≤ p ∧ p < q0 + 0) := by omega
    rw [decide_eq_false this]
    simp [burstB]
  | n + 1, h => by
    have ih := bitAt_burst bs q0 u p n (by omega)
    unfold burstB
    by_cases hp : p = q0 + n
    · have h1 : ¬ (q0 ≤ p ∧ p < q0 + n) := by omega
      have h2 : q0 ≤ p ∧ p < q0 + (n + 1) := by omega
      have h3 : p - q0 = n := by omega
      rw [decide_eq_false h1] at ih
      rw [decide_eq_true h2, h3]
      split
      · rename_i hu
        rw [bitAt_flip _ _ _ (by rw [burstB_length]; omega), ih, hu, decide_eq_true hp]; simp
      · rename_i hu
        rw [ih]; simp at hu; simp [hu]
    · have h1 : (q0 ≤ p ∧ p < q0 + n) ↔ (q0 ≤ p ∧ p < q0 + (n + 1)) := by omega
      rw [← decide_eq_decide.2 h1]
      split
      · rw [bitAt_flip _ _ _ (by rw [burstB_length]; omega), ih, decide_eq_false hp]; simp
      · exact ih


/-- The bits that are changed. -/
def errBits (q0 n r u : Nat) : List Bool := List.replicate q0 false ++ (List.range n).map u.testBit ++ List.replicate r false

theorem errBits_length (q0 n r u : Nat) : (errBits q0 n r u).length = q0 + n + r := by simp [errBits]; omega

theorem errBits_get (q0 n r u p : Nat) (h : p < q0 + n + r) : (errBits q0 n r u)[p]? = some (decide (q0 ≤ p ∧ p < q0 + n) && u.testBit (p - q0)) := by
  unfold errBits
  by_cases h1 : p < q0
  · have h3 : ¬ (q0 ≤ p ∧ p < q0 + n) := by omega
    rw [List.append_assoc, List.getElem?_append_left (by simpa using h1), List.getElem?_replicate, if_pos h1]
    simp [h3]
  · by_cases h2 : p < q0 + n
    · have h3 : q0 ≤ p ∧ p < q0 + n := by omega
      rw [List.getElem?_append_left (by simp; omega), List.getElem?_append_right (by simp; omega)]
      rw [List.getElem?_map, List.length_replicate, List.getElem?_range (by omega)]
      simp [h3]
    · have h3 : ¬ (q0 ≤ p ∧ p < q0 + n) := by omega
      rw [List.getElem?_append_right (by simp; omega), List.getElem?_replicate, if_pos (by simp; omega)]
      simp [h3]

theorem bits_burst (bs : List UInt8) (q0 u n r : Nat) (h : q0 + n + r = 8 * bs.length) : bitsOf (burstB bs q0 u n) = List.zipWith (· ^^ ·) (bitsOf bs) (errBits q0 n r u) := by
  apply List.ext_getElem?
  intro p
  by_cases hp : p < 8 * bs.length
  · rw [bitsOf_get _ p (by rw [burstB_length]; exact hp), List.getElem?_zipWith, bitsOf_get _ p hp, errBits_get _ _ _ _ _ (by omega), bitAt_burst _ _ _ _ _ (by omega)]
  · rw [List.getElem?_eq_none (by rw [bitsOf_length, burstB_length]; omega), List.getElem?_eq_none (by rw [List.length_zipWith, bitsOf_length]; omega)]

theorem errBits_seen (q0 n r u : Nat) (h1 : 1 ≤ n) (h2 : n ≤ 32) (hu : u.testBit 0 = true) : turns 0#32 (errBits q0 n r u) ≠ 0#32 := by
  obtain ⟨m, rfl⟩ : ∃ m, n = m + 1 := ⟨n - 1, by omega⟩
  unfold errBits
  rw [List.range_succ_eq_map, List.map_cons, hu]
  exact burst_seen _ _ _ (by simp) (by simp) (by simp; omega)


/-- The bits on top, one by one. -/
theorem top_get : ∀ (bs : List Bool) (j : Nat), j < 32 → (top bs).getLsbD (31 - j) = bs[j]?.getD false
  | [], _, _ => by simp [top]
  | b :: bs, 0, _ => by
    have h1 : (topBit b).getLsbD 31 = b := by cases b <;> decide
    simp only [top, BitVec.getLsbD_xor, BitVec.getLsbD_ushiftRight, h1]
    simp
  | b :: bs, j + 1, h => by
    have ih := top_get bs j (by omega)
    have hk : ∀ i : Fin 31, (topBit b).getLsbD i.val = false := by cases b <;> decide
    have h1 := hk ⟨31 - (j + 1), by omega⟩
    simp only at h1
    simp only [top, BitVec.getLsbD_xor, BitVec.getLsbD_ushiftRight, h1]
    rw [show 1 + (31 - (j + 1)) = 31 - j by omega, ih]
    simp

theorem getN_four (a b c d : UInt8) : getN [a, b, c, d] = ((a.toNat * 256 + b.toNat) * 256 + c.toNat) * 256 + d.toNat := by simp [getN]

theorem split8 (x : Nat) (b : UInt8) (i : Nat) : (x * 256 + b.toNat).testBit i = if i < 8 then b.toNat.testBit i else x.testBit (i - 8) := by
  have := Nat.testBit_two_pow_mul_add (i := 8) (b := b.toNat) x b.toNat_lt i
  rw [show x * 256 = 2 ^ 8 * x by omega]
  exact this

theorem top_four (a b c d : UInt8) : top (bitsOf [a, b, c, d]) = BitVec.ofNat 32 (getN [a, b, c, d]) := by
  apply BitVec.eq_of_getLsbD_eq
  intro i hi
  rw [show i = 31 - (31 - i) by omega, top_get _ _ (by omega), bitsOf_get _ _ (by simp; omega), Option.getD_some, BitVec.getLsbD_ofNat, getN_four, split8, split8, split8]
  obtain ⟨j, hj⟩ : ∃ j, j = 31 - i := ⟨_, rfl⟩
  rw [← hj]
  have hj32 : j < 32 := by omega
  simp only [bitAt]
  obtain h | h | h | h : j / 8 = 0 ∨ j / 8 = 1 ∨ j / 8 = 2 ∨ j / 8 = 3 := by omega
  all_goals rw [decide_eq_true (show 31 - j < 32 by omega), Bool.true_and, h]
  · rw [if_neg (by omega), if_neg (by omega), if_neg (by omega), show 31 - j - 8 - 8 - 8 = 7 - j % 8 by omega]; rfl
  · rw [if_neg (by omega), if_neg (by omega), if_pos (by omega), show 31 - j - 8 - 8 = 7 - j % 8 by omega]; rfl
  · rw [if_neg (by omega), if_pos (by omega), show 31 - j - 8 = 7 - j % 8 by omega]; rfl
  · rw [if_pos (by omega), show 31 - j = 7 - j % 8 by omega]; rfl

/-- A remainder with itself behind it leaves nothing. -/
theorem turns_self (r : Rest) (l : List UInt8) (hl : l.length = 4) (h : getN l = r.toNat) : turns r (bitsOf l) = 0#32 := by
  match l, hl with
  | [a, b, c, d], _ =>
    rw [turns_top _ _ (by rw [bitsOf_length]; simp), top_four, h]
    have : BitVec.ofNat 32 r.toNat = r := by simp
    rw [this, BitVec.xor_self, zeds_zero]


theorem sums_zero (bs : List UInt8) (n : Nat) (hl : bs.length = 4 + n + 4) (h : getN (bs.drop (4 + n)) = crc (bs.take (4 + n))) : turns 0xffffffff#32 (bitsOf bs) = 0#32 := by
  rw [← List.take_append_drop (4 + n) bs, bitsOf_append, turns_append, ← sums_turns (bs.take (4 + n))]
  exact turns_self _ _ (by rw [List.length_drop]; omega) h

/-- The damage is seen. -/
theorem burst_open (b : List UInt8) (k u : Nat) (hb : b.length ≤ 1048576) (hu : u.testBit 0 = true) (n : Nat) (hn1 : 1 ≤ n) (hn2 : n ≤ 32) (hn3 : k + n ≤ 8 * (b.length + 4)) : errO (burstB (sealL b) (32 + k) u n) = 7 := by
  have hl := sealL_length b hb
  have hl' : (burstB (sealL b) (32 + k) u n).length = b.length + 8 := by rw [burstB_length, hl]
  have hc : cntO (burstB (sealL b) (32 + k) u n) = b.length := by
    unfold cntO
    rw [burstB_take _ _ _ 4 (by omega)]
    have := cnt_seal b [] hb
    rwa [List.append_nil] at this
  refine errO_sum _ (by omega) (by omega) (by omega) ?_
  intro hbad
  have h0 : turns 0xffffffff#32 (bitsOf (sealL b)) = 0#32 := by
    refine sums_zero _ b.length (by omega) ?_
    have h1 := born_seal b [] hb
    have h2 := cnt_seal b [] hb
    rw [List.append_nil] at h1 h2
    unfold bornO at h1
    rw [h2] at h1
    rw [List.take_of_length_le (by rw [List.length_drop]; omega)] at h1
    rw [h1, sealL_eq b hb, List.take_left' (by rw [headL_length]; omega)]
  have h3 : turns 0xffffffff#32 (bitsOf (burstB (sealL b) (32 + k) u n)) = 0#32 := by
    refine sums_zero _ b.length (by omega) ?_
    unfold bornO at hbad
    rw [hc] at hbad
    rw [List.take_of_length_le (by rw [List.length_drop]; omega)] at hbad
    exact hbad
  rw [bits_burst (sealL b) (32 + k) u n (8 * (b.length + 4) - (k + n)) (by rw [hl]; omega)] at h3
  have h4 := turns_xor (bitsOf (sealL b)) (errBits (32 + k) n (8 * (b.length + 4) - (k + n)) u) 0xffffffff#32 0#32 (by rw [bitsOf_length, errBits_length, hl]; omega)
  rw [BitVec.xor_zero, h3, h0, BitVec.zero_xor] at h4
  exact errBits_seen _ _ _ _ hn1 hn2 hu h4.symm

end Go.Proofs.YtopacoghnofliaaDoor
