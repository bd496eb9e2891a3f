/-
  THE WALKS of package mask's small functions and of the document's Has and With.
-/
import Derived.Test.YtkdjpleedaldcaaProg
import Derived.Test.YtkdjpleedaldcaaRow
import Derived.Test.YtkdjpleedaldcaaSets
import Derived.Laws.BitsAllLaws
import Derived.Deep.Light
namespace Go.Proofs.Ytkdjpleedaldcaa
open Go.RowKit


theorem isI : Elem Try.prog 72 3 (.int .i64 0) 8 := by
  have hinfo : (Try.prog.info? 3).map (fun i => (i.zero, i.size, i.bytes)) = some (some (.int .i64 0), 1, 8) := by kernel_rfl
  obtain ⟨i0, hi, hz0, hz1, hz2⟩ := info_parts hinfo
  exact ⟨Try.underlying72, ⟨i0, hi, hz0, hz1, hz2⟩, rfl⟩


theorem pow_cast (k : Nat) : ((2 : Int) ^ k) = ((2 ^ k : Nat) : Int) := by rw [Int.natCast_pow]; rfl


theorem bitS_in {n : Int} (h : 0 ≤ n ∧ n < 64) : bitS n = 2 ^ n.toNat := by unfold bitS; rw [if_pos h]

theorem bitS_out {n : Int} (h : ¬ (0 ≤ n ∧ n < 64)) : bitS n = 0 := by unfold bitS; rw [if_neg h]

theorem wrap_set {m : Nat} (h : IsSet m) : IntKind.u64.wrap (m : Int) = m := by rw [IntKind.wrap_u64]; omega

theorem wrap_bit {n : Int} (h : 0 ≤ n ∧ n < 64) : IntKind.u64.wrap (2 ^ n.toNat) = (bitS n : Int) := by
  rw [pow_cast, ← bitS_in h, wrap_set (bitS_set n)]

theorem and_bit (m : Nat) (n : Int) (hm : IsSet m) : (bits .and .u64 (m : Int) (bitS n : Int) != 0) = hasS m n := by
  rw [u64_and_nat _ _ hm (bitS_set n), Bool.eq_iff_iff, bne_iff_ne, ne_eq]
  unfold hasS
  simp only [Bool.and_eq_true, decide_eq_true_eq]
  constructor
  · intro h
    by_cases hn : 0 ≤ n ∧ n < 64
    · refine ⟨hn, ?_⟩
      cases hb : m.testBit n.toNat with
      | true => rfl
      | false =>
        exfalso
        apply h
        have : m &&& bitS n = 0 := Nat.eq_of_testBit_eq fun i => by
          rw [Nat.testBit_and, bitS_test, Nat.zero_testBit]
          by_cases hi : (i : Int) = n ∧ i < 64
          · rw [show i = n.toNat by omega, hb]; rfl
          · rw [decide_eq_false hi, Bool.and_false]
        rw [this]
        rfl
    · rw [bitS_out hn, Nat.and_zero] at h
      exact (h rfl).elim
  · rintro ⟨hn, hb⟩ h0
    have h1 : (m &&& bitS n).testBit n.toNat = true := by
      rw [Nat.testBit_and, bitS_test, hb, decide_eq_true (by omega)]; rfl
    have h2 : m &&& bitS n = 0 := by omega
    rw [h2, Nat.zero_testBit] at h1
    cases h1

theorem shr_cast (m k : Nat) : ((m : Int) / 2 ^ k) = ((m / 2 ^ k : Nat) : Int) := by rw [pow_cast, Int.natCast_ediv]

theorem shr_set {m : Nat} (h : IsSet m) (k : Nat) : IsSet (m / 2 ^ k) := Nat.lt_of_le_of_lt (Nat.div_le_self _ _) h

theorem and_shr (m : Nat) (n : Int) (hm : IsSet m) (h : 0 ≤ n ∧ n < 64) : (bits .and .u64 ((m : Int) / 2 ^ n.toNat) 1 == 1) = hasS m n := by
  have e := u64_and_nat (m / 2 ^ n.toNat) 1 (shr_set hm _) (by decide)
  rw [shr_cast, show ((1 : Int)) = ((1 : Nat) : Int) from rfl, e, nat_mask1]
  unfold hasS
  rw [decide_eq_true h, Bool.true_and, Nat.testBit_eq_decide_div_mod_eq, Bool.eq_iff_iff, beq_iff_eq, decide_eq_true_eq]
  omega

theorem shl_cast (m k : Nat) : IntKind.u64.wrap ((m : Int) * 2 ^ k) = ((m * 2 ^ k % 18446744073709551616 : Nat) : Int) := by
  rw [pow_cast, IntKind.wrap_u64, ← Int.natCast_mul]
  omega

theorem xor_below : ∀ k : Fin 65, bits .xor .u64 IntKind.u64.max (IntKind.u64.wrap (18446744073709551615 * 2 ^ k.val)) = ((2 ^ k.val - 1 : Nat) : Int) := by decide +kernel


theorem bit_any (n : Int) (w : World) :
    Calls Try.prog 37 #[.int .i64 n] w fun e w' => e = .returned (.int .u64 (bitS n)) ∧ w' = w := by
  go_enter Try.func37, Try.ntmps37
  go_wp2
  all_goals go_ret
  all_goals refine ⟨ret_int ?_, rfl⟩
  · rw [bitS_out (by omega)]; rfl
  · exact wrap_bit (by omega)
  · rw [bitS_out (by omega)]; rfl


theorem rwith_any (m : Nat) (n : Int) (w : World) (hm : IsSet m) :
    Calls Try.prog 33 #[.int .u64 m, .int .i64 n] w fun e w' => e = .returned (.int .u64 (withS m n)) ∧ w' = w := by
  go_enter Try.func33, Try.ntmps33
  go_wp2
  all_goals go_ret
  all_goals refine ⟨ret_int ?_, rfl⟩
  all_goals unfold withS
  · rw [bitS_out (by omega), Nat.or_zero]
  · rw [wrap_bit (by omega)]; exact u64_or_nat m _ hm (bitS_set n)
  · rw [bitS_out (by omega), Nat.or_zero]

end Go.Proofs.Ytkdjpleedaldcaa
