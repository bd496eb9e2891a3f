/-
  WHAT IS OF NO PROGRAM: a remainder by a polynomial, bit by bit and byte by byte; what a burst of changed bits does to it.
-/
import Derived.Test.YtdbgojmjjkidbaaGreatDoorJWalks
import Derived.Laws.BitsAllLaws
namespace Go.Proofs.YtdbgojmjjkidbaaGreatDoor


abbrev Rest := BitVec 32

def poly : Rest := 0x741b8cd7#32

/-- One turn with a bit 0. -/
def zed (r : Rest) : Rest := r <<< 1 ^^^ (if r.msb then poly else 0#32)

def zeds : Nat → Rest → Rest
  | 0, r => r
  | n + 1, r => zeds n (zed r)

def topBit (b : Bool) : Rest := if b then 0x80000000#32 else 0#32

/-- One turn with a bit. -/
def turn (r : Rest) (b : Bool) : Rest := r <<< 1 ^^^ (if r.msb != b then poly else 0#32)

/-- All turns. -/
def turns (r : Rest) (bs : List Bool) : Rest := bs.foldl turn r

theorem turns_nil (r : Rest) : turns r [] = r := rfl

theorem turns_cons (r : Rest) (b : Bool) (bs : List Bool) : turns r (b :: bs) = turns (turn r b) bs := rfl

theorem turns_append (r : Rest) (a b : List Bool) : turns r (a ++ b) = turns (turns r a) b := by simp [turns]


theorem zed_xor (r s : Rest) : zed (r ^^^ s) = zed r ^^^ zed s := by
  unfold zed
  rw [BitVec.shiftLeft_xor_distrib, BitVec.msb_xor]
  cases r.msb <;> cases s.msb <;> simp
  · ac_rfl
  · ac_rfl
  · have : r <<< 1 ^^^ poly ^^^ (s <<< 1 ^^^ poly) = r <<< 1 ^^^ s <<< 1 ^^^ (poly ^^^ poly) := by ac_rfl
    rw [this]; simp

theorem zed_zero : zed 0#32 = 0#32 := by decide

theorem turn_eq (r : Rest) (b : Bool) : turn r b = zed (r ^^^ topBit b) := by
  unfold turn zed topBit
  rw [BitVec.shiftLeft_xor_distrib, BitVec.msb_xor]
  have h1 : (2147483648#32).msb = true := by decide
  have h2 : (2147483648#32) <<< 1 = 0#32 := by decide
  cases b <;> cases r.msb <;> simp [h1, h2]

theorem turn_xor (r s : Rest) (a b : Bool) : turn (r ^^^ s) (a ^^ b) = turn r a ^^^ turn s b := by
  rw [turn_eq, turn_eq, turn_eq, ← zed_xor]
  congr 1
  have h : topBit (a ^^ b) = topBit a ^^^ topBit b := by cases a <;> cases b <;> decide
  rw [h]; ac_rfl

theorem turns_xor : ∀ (x y : List Bool) (r s : Rest), x.length = y.length → turns (r ^^^ s) (List.zipWith (· ^^ ·) x y) = turns r x ^^^ turns s y
  | [], [], _, _, _ => rfl
  | a :: x, b :: y, r, s, h => by
    simp only [List.zipWith_cons_cons, turns_cons]
    rw [turn_xor]
    exact turns_xor x y _ _ (by simpa using h)
  | [], _ :: _, _, _, h => by simp at h
  | _ :: _, [], _, _, h => by simp at h

/-- Nothing but 0 is turned into 0. -/
theorem zed_eq_zero (r : Rest) (h : zed r = 0#32) : r = 0#32 := by
  unfold zed at h
  cases hm : r.msb
  · rw [hm] at h
    simp at h
    apply BitVec.eq_of_getLsbD_eq
    intro i hi
    by_cases h31 : i = 31
    · subst h31
      rw [BitVec.msb_eq_getLsbD_last] at hm
      simpa using hm
    · have h2 := congrArg (fun v => v.getLsbD (i + 1)) h
      simp at h2
      have := h2 (by omega)
      simpa using this
  · rw [hm] at h
    have h2 := congrArg (fun v => v.getLsbD 0) h
    simp at h2
    exact absurd h2 (by decide)

theorem zeds_eq_zero : ∀ (n : Nat) (r : Rest), zeds n r = 0#32 → r = 0#32
  | 0, _, h => h
  | n + 1, r, h => zed_eq_zero r (zeds_eq_zero n _ h)

theorem zeds_zero : ∀ n, zeds n 0#32 = 0#32
  | 0 => rfl
  | n + 1 => by unfold zeds; rw [zed_zero]; exact zeds_zero n

theorem zeds_succ : ∀ (n : Nat) (r : Rest), zeds (n + 1) r = zed (zeds n r)
  | 0, _ => rfl
  | n + 1, r => zeds_succ n (zed r)


/-- The bits, the first one on top. -/
def top : List Bool → Rest
  | [] => 0#32
  | b :: bs => topBit b ^^^ top bs >>> 1

theorem zed_shift (x : Rest) (h : x.getLsbD 0 = false) : zed (x >>> 1) = x := by
  unfold zed
  have hm : (x >>> 1).msb = false := by
    rw [BitVec.msb_eq_getLsbD_last]; simp
  rw [hm]
  simp
  apply BitVec.eq_of_getLsbD_eq
  intro i hi
  simp
  by_cases h0 : i = 0
  · subst h0; simp at h; simp [h]
  · rw [show 1 + (i - 1) = i by omega]
    simp [h0, hi]

theorem top_low : ∀ (bs : List Bool) (j : Nat), j + bs.length < 32 → (top bs).getLsbD j = false
  | [], _, _ => by simp [top]
  | b :: bs, j, h => by
    simp at h
    have h2 := top_low bs (1 + j) (by omega)
    simp only [top, BitVec.getLsbD_xor, BitVec.getLsbD_ushiftRight, h2]
    have : (topBit b).getLsbD j = false := by
      unfold topBit
      split
      · have hk : ∀ j : Fin 31, (0x80000000#32).getLsbD j.val = false := by decide
        exact hk ⟨j, by omega⟩
      · simp
    simp [this]

/-- Up to 32 bits at once. -/
theorem turns_top : ∀ (bs : List Bool) (r : Rest), bs.length ≤ 32 → turns r bs = zeds bs.length (r ^^^ top bs)
  | [], r, _ => by simp [turns, zeds, top]
  | b :: bs, r, h => by
    simp at h
    rw [turns_cons, turns_top bs _ (by omega), turn_eq]
    simp only [List.length_cons, zeds, top]
    congr 1
    rw [← BitVec.xor_assoc, zed_xor (r ^^^ topBit b), zed_shift _ (top_low bs 0 (by omega))]


theorem turns_zeros : ∀ (bs : List Bool) (r : Rest), (∀ b ∈ bs, b = false) → turns r bs = zeds bs.length r
  | [], _, _ => rfl
  | b :: bs, r, h => by
    have hb : b = false := h b (by simp)
    subst hb
    rw [turns_cons, turns_zeros bs _ (fun x hx => h x (by simp [hx])), turn_eq]
    simp [zeds, topBit]

/-- A burst is seen: what is left of nothing, then a one with up to 31 bits behind it, then nothing, is not 0. -/
theorem burst_seen (a x c : List Bool) (ha : ∀ b ∈ a, b = false) (hc : ∀ b ∈ c, b = false) (hx : (true :: x).length ≤ 32) : turns 0#32 (a ++ (true :: x) ++ c) ≠ 0#32 := by
  intro h
  rw [turns_append, turns_append, turns_zeros a _ ha, turns_zeros c _ hc, zeds_zero, turns_top _ _ hx] at h
  have h1 := zeds_eq_zero _ _ (zeds_eq_zero _ _ h)
  have h2 := congrArg (fun v => v.getLsbD 31) h1
  simp [top, topBit] at h2


/-- The bits of a byte, the highest first. -/
def byteBits (b : UInt8) : List Bool := [b.toNat.testBit 7, b.toNat.testBit 6, b.toNat.testBit 5, b.toNat.testBit 4, b.toNat.testBit 3, b.toNat.testBit 2, b.toNat.testBit 1, b.toNat.testBit 0]

def bitsOf (bs : List UInt8) : List Bool := bs.flatMap byteBits

theorem bitsOf_append (a b : List UInt8) : bitsOf (a ++ b) = bitsOf a ++ bitsOf b := by simp [bitsOf]

theorem bitsOf_length (bs : List UInt8) : (bitsOf bs).length = 8 * bs.length := by
  induction bs with
  | nil => rfl
  | cons b bs ih =>
    have : bitsOf (b :: bs) = byteBits b ++ bitsOf bs := by simp [bitsOf]
    rw [this, List.length_append, ih]
    simp [byteBits]; omega

def byteTop (b : UInt8) : Rest := BitVec.ofNat 32 b.toNat <<< 24

theorem top_byte (b : UInt8) : top (byteBits b) = byteTop b := by
  have h : ∀ n : Fin 256, top (byteBits (UInt8.ofNat n.val)) = byteTop (UInt8.ofNat n.val) := by decide +kernel
  have h2 := h ⟨b.toNat, b.toNat_lt⟩
  simpa using h2

/-- One byte. -/
def sum1 (r : Rest) (b : UInt8) : Rest := zeds 8 (r ^^^ byteTop b)

theorem sum1_turns (r : Rest) (b : UInt8) : sum1 r b = turns r (byteBits b) := by
  rw [turns_top _ _ (by simp [byteBits]), top_byte]; rfl

def sums (r : Rest) (bs : List UInt8) : Rest := bs.foldl sum1 r

theorem sums_turns : ∀ (bs : List UInt8) (r : Rest), sums r bs = turns r (bitsOf bs)
  | [], _ => rfl
  | b :: bs, r => by
    have h1 : sums r (b :: bs) = sums (sum1 r b) bs := rfl
    have h2 : bitsOf (b :: bs) = byteBits b ++ bitsOf bs := by simp [bitsOf]
    rw [h1, h2, turns_append, sums_turns bs, sum1_turns]

theorem sums_append (r : Rest) (a b : List UInt8) : sums r (a ++ b) = sums (sums r a) b := by simp [sums]

/-- The sum of bytes. -/
def crc (bs : List UInt8) : Nat := (sums 0xffffffff#32 bs).toNat

theorem crc_lt (bs : List UInt8) : crc bs < 4294967296 := (sums 0xffffffff#32 bs).isLt

end Go.Proofs.YtdbgojmjjkidbaaGreatDoor

/-
  THE WALKS of Sum and of the document's Sum.
-/
namespace Go.Proofs.YtdbgojmjjkidbaaGreatDoor
open Go.RowKit


theorem sums_take (r : Rest) (bs : List UInt8) (k : Nat) (h : k < bs.length) : sums r (bs.take (k + 1)) = sum1 (sums r (bs.take k)) bs[k] := by
  rw [List.take_succ_eq_append_getElem h, sums_append]; rfl


theorem zed_nat (r : Rest) : ((r.toNat * 2 % 4294967296) ^^^ (r.toNat / 2147483648 * 1947962583)) = (zed r).toNat := by
  have hr := r.isLt
  unfold zed
  rw [BitVec.toNat_xor, BitVec.toNat_shiftLeft, Nat.shiftLeft_eq]
  congr 1
  rw [BitVec.msb_eq_decide]
  by_cases h : 2147483648 ≤ r.toNat
  · have h1 : r.toNat / 2147483648 = 1 := by omega
    simp [h, h1, poly]
  · have h1 : r.toNat / 2147483648 = 0 := by omega
    simp [h, h1]

theorem zed_int (r : Rest) : bits .xor .u32 ((r.toNat : Int) * 2 % 4294967296) ((r.toNat : Int) / 2147483648 * 1947962583) = ((zed r).toNat : Int) := by
  have hr := r.isLt
  have e1 : ((r.toNat : Int) * 2 % 4294967296) = ((r.toNat * 2 % 4294967296 : Nat) : Int) := by omega
  have e2 : ((r.toNat : Int) / 2147483648 * 1947962583) = ((r.toNat / 2147483648 * 1947962583 : Nat) : Int) := by omega
  rw [e1, e2]
  have := u32_xor_nat (r.toNat * 2 % 4294967296) (r.toNat / 2147483648 * 1947962583) (by omega) (by omega)
  rw [this, zed_nat]

theorem byte_in (r : Rest) (b : UInt8) : bits .xor .u32 (r.toNat : Int) ((b.toNat : Int) % 4294967296 * 16777216 % 4294967296) = ((r ^^^ byteTop b).toNat : Int) := by
  have hr := r.isLt
  have hb := b.toNat_lt
  have e1 : ((b.toNat : Int) % 4294967296 * 16777216 % 4294967296) = ((b.toNat * 16777216 : Nat) : Int) := by omega
  have e2 : (byteTop b).toNat = b.toNat * 16777216 := by
    unfold byteTop
    rw [BitVec.toNat_shiftLeft, Nat.shiftLeft_eq, BitVec.toNat_ofNat]
    omega
  rw [e1, u32_xor_nat _ _ (by omega) (by omega), BitVec.toNat_xor, e2]


set_option maxRecDepth 20000 in
set_option maxHeartbeats 400000 in
theorem sum_any (s : Value) (bs : List UInt8) (w : World) (hs : Holds w s bs) :
    Calls Tryz.prog 83 #[s] w fun e w' => e = .returned (.int .u32 (crc bs)) ∧ w' = w := by
  by_cases hp : 0 < bs.length
  · obtain ⟨b, off, cap, rfl, hc1, hc2, hcell⟩ := hs.at hp
    unfold maxLen at hc2
    go_enter Tryz.func83, Tryz.ntmps83
    go_wp2_with fail
    go_loop [3, 8] (fun x i => ∃ k : Nat, k ≤ bs.length ∧ i = .int .i64 k ∧ x = .int .u32 ((sums 0xffffffff#32 (bs.take k)).toNat : Int)) (fun _ i => bs.length - (intOf i).toNat)
    case atStart => exact ⟨0, Nat.zero_le _, rfl, rfl⟩
    case round =>
      obtain ⟨k, hk, rfl, rfl⟩ := hrel
      by_cases hlt : k < bs.length
      · have hc := hcell k hlt
        go_wp2_with fail
        rw [byte_in]
        generalize hR : sums 0xffffffff#32 (bs.take k) ^^^ byteTop bs[k] = R
        have hnext : sums 0xffffffff#32 (bs.take (k + 1)) = zeds 8 R := by rw [sums_take _ _ _ hlt, ← hR]; rfl
        have HN : Hid _ := hnext
        clear hnext hR
        go_loop [3, 17] (fun x i => ∃ j : Nat, j ≤ 8 ∧ i = .int .i64 j ∧ x = .int .u32 ((zeds j R).toNat : Int)) (fun _ i => 8 - (intOf i).toNat)
        case atStart => exact ⟨0, Nat.zero_le _, rfl, rfl⟩
        case round =>
          obtain ⟨j, hj, rfl, rfl⟩ := hrel
          by_cases hj8 : j < 8
          · go_wp2
            refine ⟨⟨j + 1, by omega, by go_num, ?_⟩, by simp [intOf]; omega⟩
            rw [zeds_succ, zed_int]
          · go_wp2
            obtain rfl : j = 8 := by omega
            refine ⟨⟨k + 1, by omega, by go_num, ?_⟩, by simp [intOf]; omega⟩
            rw [HN.out]
      · go_wp2
        obtain rfl : k = bs.length := by omega
        go_ret
        exact ⟨by rw [List.take_of_length_le (Nat.le_refl _)]; rfl, rfl⟩
  · obtain rfl : bs = [] := List.eq_nil_of_length_eq_zero (by omega)
    obtain ⟨a, cap, rfl⟩ := hs.slice
    clear hs hp
    simp only [List.length_nil]
    go_enter Tryz.func83, Tryz.ntmps83
    go_wp2
    go_rounds 1
    go_ret
    exact ⟨rfl, rfl⟩


theorem step_take (R : Rest) (B : UInt8) (m : Nat) (hm : m < 8) : turns R ((byteBits B).take (m + 1)) = turn (turns R ((byteBits B).take m)) (B.toNat.testBit (7 - m)) := by
  obtain rfl | rfl | rfl | rfl | rfl | rfl | rfl | rfl : m = 0 ∨ m = 1 ∨ m = 2 ∨ m = 3 ∨ m = 4 ∨ m = 5 ∨ m = 6 ∨ m = 7 := by omega
  all_goals rfl

theorem other_is (r : Rest) (B : UInt8) (i : Nat) (d : Int) (hd : d = ((2 ^ i : Nat) : Int)) :
    ((r.toNat : Int) / 2147483648 != bits .and .u32 ((B.toNat : Int) / d % 4294967296) 1) = (r.msb != B.toNat.testBit i) := by
  have hr := r.isLt
  have hb := B.toNat_lt
  have e0 : ((B.toNat : Int) / d) = ((B.toNat / 2 ^ i : Nat) : Int) := by rw [hd]; exact (Int.natCast_ediv _ _).symm
  have hq : B.toNat / 2 ^ i < 256 := Nat.lt_of_le_of_lt (Nat.div_le_self _ _) hb
  have e1 : (((B.toNat / 2 ^ i : Nat) : Int) % 4294967296) = ((B.toNat / 2 ^ i : Nat) : Int) := by generalize B.toNat / 2 ^ i = q at hq; omega
  have e2 : (1 : Int) = ((1 : Nat) : Int) := rfl
  have e3 : ((r.toNat : Int) / 2147483648) = ((r.toNat / 2147483648 : Nat) : Int) := by omega
  rw [e0, e1, e2, u32_and_nat _ _ (by omega) (by omega), e3, Nat.and_one_is_mod, Nat.testBit_eq_decide_div_mod_eq, BitVec.msb_eq_decide]
  generalize B.toNat / 2 ^ i = q
  rw [Bool.eq_iff_iff]
  have h31 : (2 : Nat) ^ (32 - 1) = 2147483648 := by decide
  rw [h31]
  by_cases h1 : 2147483648 ≤ r.toNat <;> by_cases h2 : q % 2 = 1 <;> simp [h1, h2] <;> omega

theorem step_yes (R : Rest) (B : UInt8) (m : Nat) (d : Int) (hm : m < 8) (hd : d = ((2 ^ (7 - m) : Nat) : Int))
    (h : (((turns R ((byteBits B).take m)).toNat : Int) / 2147483648 != bits .and .u32 ((B.toNat : Int) / d % 4294967296) 1) = true) :
    Value.int .u32 (bits .xor .u32 (((turns R ((byteBits B).take m)).toNat : Int) * 2 % 4294967296) 1947962583) = Value.int .u32 ((turns R ((byteBits B).take (m + 1))).toNat : Int) := by
  rw [other_is _ _ (7 - m) d hd] at h
  rw [step_take _ _ _ hm]
  generalize turns R ((byteBits B).take m) = r at h
  unfold turn
  rw [h]
  have e1 : ((r.toNat : Int) * 2 % 4294967296) = ((r.toNat * 2 % 4294967296 : Nat) : Int) := by omega
  rw [e1, show (1947962583 : Int) = ((1947962583 : Nat) : Int) from rfl, u32_xor_nat _ _ (by omega) (by omega), BitVec.toNat_xor, BitVec.toNat_shiftLeft, Nat.shiftLeft_eq]
  rfl

theorem step_no (R : Rest) (B : UInt8) (m : Nat) (d : Int) (hm : m < 8) (hd : d = ((2 ^ (7 - m) : Nat) : Int))
    (h : (((turns R ((byteBits B).take m)).toNat : Int) / 2147483648 != bits .and .u32 ((B.toNat : Int) / d % 4294967296) 1) = false) :
    Value.int .u32 (((turns R ((byteBits B).take m)).toNat : Int) * 2 % 4294967296) = Value.int .u32 ((turns R ((byteBits B).take (m + 1))).toNat : Int) := by
  rw [other_is _ _ (7 - m) d hd] at h
  rw [step_take _ _ _ hm]
  generalize turns R ((byteBits B).take m) = r at h
  unfold turn
  rw [h]
  have e1 : ((r.toNat : Int) * 2 % 4294967296) = ((r.toNat * 2 % 4294967296 : Nat) : Int) := by omega
  rw [e1]
  simp [Nat.shiftLeft_eq]


set_option maxHeartbeats 1000000 in
theorem rsum_any (s : Value) (bs : List UInt8) (w : World) (hs : Holds w s bs) :
    Calls Tryz.prog 86 #[s] w fun e w' => e = .returned (.int .u32 (crc bs)) ∧ w' = w := by
  by_cases hp : 0 < bs.length
  · obtain ⟨b, off, cap, rfl, hc1, hc2, hcell⟩ := hs.at hp
    unfold maxLen at hc2
    go_enter Tryz.func86, Tryz.ntmps86
    go_wp2_with fail
    go_loop [3, 10] (fun x i => ∃ k : Nat, k ≤ bs.length ∧ i = .int .i64 k ∧ x = .int .u32 ((sums 0xffffffff#32 (bs.take k)).toNat : Int)) (fun _ i => bs.length - (intOf i).toNat)
    case atStart => exact ⟨0, Nat.zero_le _, rfl, rfl⟩
    case round =>
      obtain ⟨k, hk, rfl, rfl⟩ := hrel
      by_cases hlt : k < bs.length
      · have hc := hcell k hlt
        go_wp2_with fail
        generalize hR : sums 0xffffffff#32 (bs.take k) = R
        generalize hB : bs[k] = B
        have hnext : sums 0xffffffff#32 (bs.take (k + 1)) = turns R (byteBits B) := by rw [sums_take _ _ _ hlt, hR, hB, sum1_turns]
        have HN : Hid _ := hnext
        clear hnext hR hB
        go_loop [3, 6] (fun x i => ∃ m : Nat, m ≤ 8 ∧ i = .int .i64 (7 - m) ∧ x = .int .u32 ((turns R ((byteBits B).take m)).toNat : Int)) (fun _ i => (intOf i + 1).toNat)
        case atStart => exact ⟨0, Nat.zero_le _, rfl, rfl⟩
        case round =>
          obtain ⟨m, hm, rfl, rfl⟩ := hrel
          by_cases hm8 : m < 8
          · have hr := (turns R ((byteBits B).take m)).isLt
            obtain rfl | rfl | rfl | rfl | rfl | rfl | rfl | rfl : m = 0 ∨ m = 1 ∨ m = 2 ∨ m = 3 ∨ m = 4 ∨ m = 5 ∨ m = 6 ∨ m = 7 := by omega
            · go_wp2
              · rename_i h
                exact ⟨⟨1, by decide, rfl, step_yes R B 0 128 (by decide) rfl h⟩, by decide⟩
              · rename_i h
                exact ⟨⟨1, by decide, rfl, step_no R B 0 128 (by decide) rfl h⟩, by decide⟩
            · go_wp2
              · rename_i h
                exact ⟨⟨2, by decide, rfl, step_yes R B 1 64 (by decide) rfl h⟩, by decide⟩
              · rename_i h
                exact ⟨⟨2, by decide, rfl, step_no R B 1 64 (by decide) rfl h⟩, by decide⟩
            · go_wp2
              · rename_i h
                exact ⟨⟨3, by decide, rfl, step_yes R B 2 32 (by decide) rfl h⟩, by decide⟩
              · rename_i h
                exact ⟨⟨3, by decide, rfl, step_no R B 2 32 (by decide) rfl h⟩, by decide⟩
            · go_wp2
              · rename_i h
                exact ⟨⟨4, by decide, rfl, step_yes R B 3 16 (by decide) rfl h⟩, by decide⟩
              · rename_i h
                exact ⟨⟨4, by decide, rfl, step_no R B 3 16 (by decide) rfl h⟩, by decide⟩
            · go_wp2
              · rename_i h
                exact ⟨⟨5, by decide, rfl, step_yes R B 4 8 (by decide) rfl h⟩, by decide⟩
              · rename_i h
                exact ⟨⟨5, by decide, rfl, step_no R B 4 8 (by decide) rfl h⟩, by decide⟩
            · go_wp2
              · rename_i h
                exact ⟨⟨6, by decide, rfl, step_yes R B 5 4 (by decide) rfl h⟩, by decide⟩
              · rename_i h
                exact ⟨⟨6, by decide, rfl, step_no R B 5 4 (by decide) rfl h⟩, by decide⟩
            · go_wp2
              · rename_i h
                exact ⟨⟨7, by decide, rfl, step_yes R B 6 2 (by decide) rfl h⟩, by decide⟩
              · rename_i h
                exact ⟨⟨7, by decide, rfl, step_no R B 6 2 (by decide) rfl h⟩, by decide⟩
            · go_wp2
              · rename_i h
                exact ⟨⟨8, by decide, rfl, step_yes R B 7 1 (by decide) rfl (by rw [Int.ediv_one]; exact h)⟩, by decide⟩
              · rename_i h
                exact ⟨⟨8, by decide, rfl, step_no R B 7 1 (by decide) rfl (by rw [Int.ediv_one]; exact h)⟩, by decide⟩
          · go_wp2
            obtain rfl : m = 8 := by omega
            refine ⟨⟨k + 1, by omega, by go_num, ?_⟩, by simp [intOf]; omega⟩
            rw [HN.out]
            rfl
      · go_wp2
        obtain rfl : k = bs.length := by omega
        go_ret
        exact ⟨by rw [List.take_of_length_le (Nat.le_refl _)]; rfl, rfl⟩
  · obtain rfl : bs = [] := List.eq_nil_of_length_eq_zero (by omega)
    obtain ⟨a, cap, rfl⟩ := hs.slice
    clear hs hp
    simp only [List.length_nil]
    go_enter Tryz.func86, Tryz.ntmps86
    go_wp2
    go_rounds 1
    go_ret
    exact ⟨rfl, rfl⟩

end Go.Proofs.YtdbgojmjjkidbaaGreatDoor
