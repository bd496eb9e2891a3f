/-
  WHAT IS OF NO PROGRAM: a remainder by a polynomial, bit by bit and byte by byte; what a burst of changed bits does to it.
-/
import Derived.Test.YtopacoghnofliaaDoorGet
namespace Go.Proofs.YtopacoghnofliaaDoor


abbrev Rest := BitVec 32

def poly : Rest := 0x741b8cd7#32

/-- One turn with a bit 0. -/
def zed (r : Rest) : Rest := r <<< 1 ^^^ (if r.msb then poly else 0#32)

def zeds : Nat → Rest → Rest
  | 0, r => r
  | n + 1, r => zeds n (zed r)

def topBit (b : Bool) : Rest := if b then 0x80000000#32 else 0#32

/-- One turn with a bit. -/
def turn (r : Rest) (b : Bool) : Rest := r <<< 1 ^^^ (if r.msb != b then poly else 0#32)

/-- All turns. -/
def turns (r : Rest) (bs : List Bool) : Rest := bs.foldl turn r

theorem turns_nil (r : Rest) : turns r [] = r := rfl

theorem turns_cons (r : Rest) (b : Bool) (bs : List Bool) : turns r (b :: bs) = turns (turn r b) bs := rfl

theorem turns_append (r : Rest) (a b : List Bool) : turns r (a ++ b) = turns (turns r a) b := by simp [turns]


theorem zed_xor (r s : Rest) : zed (r ^^^ s) = zed r ^^^ zed s := by
  unfold zed
  rw [BitVec.shiftLeft_xor_distrib, BitVec.msb_xor]
  cases r.msb <;> cases s.msb <;> simp
  · ac_rfl
  · ac_rfl
  · have : r <<< 1 ^^^ poly ^^^ (s <<< 1 ^^^ poly) = r <<< 1 ^^^ s <<< 1 ^^^ (poly ^^^ poly) := by ac_rfl
    rw [this]; simp

theorem zed_zero : zed 0#32 = 0#32 := by decide

theorem turn_eq (r : Rest) (b : Bool) : turn r b = zed (r ^^^ topBit b) := by
  unfold turn zed topBit
  rw [BitVec.shiftLeft_xor_distrib, BitVec.msb_xor]
  have h1 : (2147483648#32).msb = true := by decide
  have h2 : (2147483648#32) <<< 1 = 0#32 := by decide
  cases b <;> cases r.msb <;> simp [h1, h2]

theorem turn_xor (r s : Rest) (a b : Bool) : turn (r ^^^ s) (a ^^ b) = turn r a ^^^ turn s b := by
  rw [turn_eq, turn_eq, turn_eq, ← zed_xor]
  congr 1
  have h : topBit (a ^^ b) = topBit a ^^^ topBit b := by cases a <;> cases b <;> decide
  rw [h]; ac_rfl

theorem turns_xor : ∀ (x y : List Bool) (r s : Rest), x.length = y.length → turns (r ^^^ s) (List.zipWith (· ^^ ·) x y) = turns r x ^^^ turns s y
  | [], [], _, _, _ => rfl
  | a :: x, b :: y, r, s, h => by
    simp only [List.zipWith_cons_cons, turns_cons]
    rw [turn_xor]
    exact turns_xor x y _ _ (by simpa using h)
  | [], _ :: _, _, _, h => by simp at h
  | _ :: _, [], _, _, h => by simp at h

/-- Nothing but 0 is turned into 0. -/
theorem zed_eq_zero (r : Rest) (h : zed r = 0#32) : r = 0#32 := by
  unfold zed at h
  cases hm : r.msb
  · rw [hm] at h
    simp at h
    apply BitVec.eq_of_getLsbD_eq
    intro i hi
    by_cases h31 : i = 31
    · subst h31
      rw [BitVec.msb_eq_getLsbD_last] at hm
      simpa using hm
    · have h2 := congrArg (fun v => v.getLsbD (i + 1)) h
      simp at h2
      have := h2 (by omega)
      simpa using this
  · rw [hm] at h
    have h2 := congrArg (fun v => v.getLsbD 0) h
    simp at h2
    exact absurd h2 (by decide)

theorem zeds_eq_zero : ∀ (n : Nat) (r : Rest), zeds n r = 0#32 → r = 0#32
  | 0, _, h => h
  | n + 1, r, h => zed_eq_zero r (zeds_eq_zero n _ h)

theorem zeds_zero : ∀ n, zeds n 0#32 = 0#32
  | 0 => rfl
  | n + 1 => by unfold zeds; rw [zed_zero]; exact zeds_zero n

theorem zeds_succ : ∀ (n : Nat) (r : Rest), zeds (n + 1) r = zed (zeds n r)
  | 0, _ => rfl
  | n + 1, r => zeds_succ n (zed r)


/-- The bits, the first one on top. -/
def top : List Bool → Rest
  | [] => 0#32
  | b :: bs => topBit b ^^^ top bs >>> 1

theorem zed_shift (x : Rest) (h : x.getLsbD 0 = false) : zed (x >>> 1) = x := by
  unfold zed
  have hm : (x >>> 1).msb = false := by
    rw [BitVec.msb_eq_getLsbD_last]; simp
  rw [hm]
  simp
  apply BitVec.eq_of_getLsbD_eq
  intro i hi
  simp
  by_cases h0 : i = 0
  · subst h0; simp at h; simp [h]
  · rw [show 1 + (i - 1) = i by omega]
    simp [h0, hi]

theorem top_low : ∀ (bs : List Bool) (j : Nat), j + bs.length < 32 → (top bs).getLsbD j = false
  | [], _, _ => by simp [top]
  | b :: bs, j, h => by
    simp at h
    have h2 := top_low bs (1 + j) (by omega)
    simp only [top, BitVec.getLsbD_xor, BitVec.getLsbD_ushiftRight, h2]
    have : (topBit b).getLsbD j = false := by
      unfold topBit
      split
      · have hk : ∀ j : Fin 31, (0x80000000#32).getLsbD j.val = false := by decide
        exact hk ⟨j, by omega⟩
      · simp
    simp [this]

/-- Up to 32 bits at once. -/
theorem turns_top : ∀ (bs : List Bool) (r : Rest), bs.length ≤ 32 → turns r bs = zeds bs.length (r ^^^ top bs)
  | [], r, _ => by simp [turns, zeds, top]
  | b :: bs, r, h => by
    simp at h
    rw [turns_cons, turns_top bs _ (by omega), turn_eq]
    simp only [List.length_cons, zeds, top]
    congr 1
    rw [← BitVec.xor_assoc, zed_xor (r ^^^ topBit b), zed_shift _ (top_low bs 0 (by omega))]


theorem turns_zeros : ∀ (bs : List Bool) (r : Rest), (∀ b ∈ bs, b = false) → turns r bs = zeds bs.length r
  | [], _, _ => rfl
  | b :: bs, r, h => by
    have hb : b = false := h b (by simp)
    subst hb
    rw [turns_cons, turns_zeros bs _ (fun x hx => h x (by simp [hx])), turn_eq]
    simp [zeds, topBit]

/-- A burst is seen: what is left of nothing, then a one with up to 31 bits behind it, then nothing, is not 0. -/
theorem burst_seen (a x c : List Bool) (ha : ∀ b ∈ a, b = false) (hc : ∀ b ∈ c, b = false) (hx : (true :: x).length ≤ 32) : turns 0#32 (a ++ (true :: x) ++ c) ≠ 0#32 := by
  intro h
  rw [turns_append, turns_append, turns_zeros a _ ha, turns_zeros c _ hc, zeds_zero, turns_top _ _ hx] at h
  have h1 := zeds_eq_zero _ _ (zeds_eq_zero _ _ h)
  have h2 := congrArg (fun v => v.getLsbD 31) h1
  simp [top, topBit] at h2


/-- The bits of a byte, the highest first. -/
def byteBits (b : UInt8) : List Bool := [b.toNat.testBit 7, b.toNat.testBit 6, b.toNat.testBit 5, b.toNat.testBit 4, b.toNat.testBit 3, b.toNat.testBit 2, b.toNat.testBit 1, b.toNat.testBit 0]

def bitsOf (bs : List UInt8) : List Bool := bs.flatMap byteBits

theorem bitsOf_append (a b : List UInt8) : bitsOf (a ++ b) = bitsOf a ++ bitsOf b := by simp [bitsOf]

theorem bitsOf_length (bs : List UInt8) : (bitsOf bs).length = 8 * bs.length := by
  induction bs with
  | nil => rfl
  | cons b bs ih =>
    have : bitsOf (b :: bs) = byteBits b ++ bitsOf bs := by simp [bitsOf]
    rw [this, List.length_append, ih]
    simp [byteBits]; omega

def byteTop (b : UInt8) : Rest := BitVec.ofNat 32 b.toNat <<< 24

theorem top_byte (b : UInt8) : top (byteBits b) = byteTop b := by
  have h : ∀ n : Fin 256, top (byteBits (UInt8.ofNat n.val)) = byteTop (UInt8.ofNat n.val) := by decide +kernel
  have h2 := h ⟨b.toNat, b.toNat_lt⟩
  simpa using h2

/-- One byte. -/
def sum1 (r : Rest) (b : UInt8) : Rest := zeds 8 (r ^^^ byteTop b)

theorem sum1_turns (r : Rest) (b : UInt8) : sum1 r b = turns r (byteBits b) := by
  rw [turns_top _ _ (by simp [byteBits]), top_byte]; rfl

def sums (r : Rest) (bs : List UInt8) : Rest := bs.foldl sum1 r

theorem sums_turns : ∀ (bs : List UInt8) (r : Rest), sums r bs = turns r (bitsOf bs)
  | [], _ => rfl
  | b :: bs, r => by
    have h1 : sums r (b :: bs) = sums (sum1 r b) bs := rfl
    have h2 : bitsOf (b :: bs) = byteBits b ++ bitsOf bs := by simp [bitsOf]
    rw [h1, h2, turns_append, sums_turns bs, sum1_turns]

theorem sums_append (r : Rest) (a b : List UInt8) : sums r (a ++ b) = sums (sums r a) b := by simp [sums]

/-- The sum of bytes. -/
def crc (bs : List UInt8) : Nat := (sums 0xffffffff#32 bs).toNat

theorem crc_lt (bs : List UInt8) : crc bs < 4294967296 := (sums 0xffffffff#32 bs).isLt

end Go.Proofs.YtopacoghnofliaaDoor
