/-
  WHAT AN INBOX's ACK SAYS, of no program.
-/
import Derived.Test.YtkdjpleedaldcaaInb21
import Derived.Test.YtkdjpleedaldcaaWalks
namespace Go.Proofs.Ytkdjpleedaldcaa
open Go.RowKit Go.Maps

theorem countP_shift (f : Nat → Bool) (n : Nat) : (List.range n).countP (fun i => f (i + 1)) + (f 0).toNat = (List.range (n + 1)).countP f := by
  induction n with
  | zero => simp [List.range_succ]; cases f 0 <;> rfl
  | succ n ih =>
    rw [List.range_succ, List.countP_append, List.range_succ (n := n + 1), List.countP_append, ← ih]
    simp [List.countP_cons]
    cases f (n + 1) <;> simp <;> omega
theorem countP_more (f : Nat → Bool) (n d : Nat) (h : ∀ i, n ≤ i → f i = false) : (List.range (n + d)).countP f = (List.range n).countP f := by
  induction d with
  | zero => rfl
  | succ d ih =>
    rw [← Nat.add_assoc, List.range_succ, List.countP_append, ih]
    simp [h (n + d) (by omega)]
/-- How many bits an ack has, below i. -/
def bitsI (s : Nat) (i : Nat) : Nat := (List.range i).countP fun j => s.testBit j
theorem bitsI_succ (s i : Nat) : bitsI s (i + 1) = bitsI s i + (s.testBit i).toNat := by
  unfold bitsI
  rw [List.range_succ, List.countP_append]
  simp [List.countP_cons]
  cases s.testBit i <;> rfl
theorem bitsI_le (s i : Nat) : bitsI s i ≤ i := by
  have := List.countP_le_length (p := fun j => s.testBit j) (l := List.range i)
  simpa [bitsI] using this
theorem ack_bits {m : Ib} (h : m.Ok) : bitsI (ackS m) 64 + (m.h 0).isSome.toNat = (heldL m).length := by
  have hs := h.s2
  rw [held_len]
  unfold bitsI liveI
  rw [show (fun j => (ackS m).testBit j) = fun j => (fun i => (m.h i).isSome) (j + 1) from funext fun j => ackS_test h j]
  rw [countP_shift (fun i => (m.h i).isSome) 64, ← List.countP_eq_length_filter, show 64 + 1 = m.s + (65 - m.s) by omega]
  exact countP_more _ _ _ fun i hi => by rw [h.near i hi]; rfl
theorem ack_lt {m : Ib} (h : m.Ok) : ackS m < 2 ^ m.s := Nat.lt_pow_two_of_testBit _ fun i hi => by
  rw [ackS_test h, h.near _ (by omega)]; rfl
theorem bit_val (s i : Nat) (hs : IsSet s) : bits .and .u64 ((s : Int) / 2 ^ i) 1 = ((s.testBit i).toNat : Int) := by
  have e := u64_and_nat (s / 2 ^ i) 1 (shr_set hs _) (by decide)
  rw [shr_cast, show ((1 : Int)) = ((1 : Nat) : Int) from rfl, e, nat_mask1, Nat.testBit_eq_decide_div_mod_eq]
  have := Nat.mod_lt (s / 2 ^ i) (show 0 < 2 by decide)
  by_cases h1 : s / 2 ^ i % 2 = 1
  · simp [h1]
  · have : s / 2 ^ i % 2 = 0 := by omega
    simp [this]
theorem shr_zero {m : Ib} (h : m.Ok) : ((ackS m : Int) / 2 ^ m.s) = 0 := by
  rw [shr_cast, Nat.div_eq_of_lt (ack_lt h)]
  rfl
/-- What is taken at a place near. -/
theorem may_key {m : Ib} (h : m.Ok) {k : Nat} (hk : k < m.s) : mayT m ((m.n + k) % 65536) = !(m.h k).isSome := by
  have h1 := far_key h hk
  have h2 := look_key h hk
  unfold keyI at h1 h2
  unfold mayT nearI
  rw [h1, h2, decide_eq_true (by omega), Bool.true_and]
  cases m.h k <;> rfl
theorem may_far {m : Ib} (h : m.Ok) : mayT m ((m.n + m.s) % 65536) = false := by
  have h2 := h.s2
  have h3 := h.n2
  unfold mayT nearI
  rw [decide_eq_false (by unfold farI; omega), Bool.false_and]
theorem may_behind {m : Ib} (h : m.Ok) : mayT m ((m.n + 65535) % 65536) = false := by
  have h2 := h.s2
  have h3 := h.n2
  unfold mayT nearI
  rw [decide_eq_false (by unfold farI; omega), Bool.false_and]
theorem held_take {m : Ib} (h : m.Ok) {num : Nat} (hn : num < 65536) (x : Ms) : (heldL (takeM m num x)).length = (heldL m).length + (mayT m num).toNat := by
  cases hm : mayT m num with
  | true =>
    have := (held_put h hn x hm).1.length_eq
    simp at this
    rw [← this]; rfl
  | false =>
    unfold takeM
    rw [hm]; rfl
end Go.Proofs.Ytkdjpleedaldcaa
