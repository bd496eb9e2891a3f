/-
  NAMES OF PARTS: digits, there and back. Of no program.
-/
import Derived.Test.YtjgdmbfkondakaaGreatDoorJOrds
import Derived.Lib.Atoi
import Derived.Lib.ItoaNum
import Derived.Lib.Strings
namespace Go.Proofs.YtjgdmbfkondakaaGreatDoor
open Go.RowKit

theorem dec_cons (u : Nat) (h : ¬ u < 10) : Lib.decDigits u = Lib.decDigits (u / 10) ++ [UInt8.ofNat (48 + u % 10)] := by rw [Lib.decDigits, dif_neg h]
theorem dec_small (u : Nat) (h : u < 10) : Lib.decDigits u = [UInt8.ofNat (48 + u)] := by rw [Lib.decDigits, dif_pos h]
theorem digit_toNat {d : Nat} (h : d < 10) : (UInt8.ofNat (48 + d)).toNat = 48 + d := by
  rw [UInt8.toNat_ofNat']
  omega
theorem digitVal_dec {d : Nat} (h : d < 10) : Lib.digitVal (UInt8.ofNat (48 + d)) = some d := by
  unfold Lib.digitVal
  rw [digit_toNat h, if_pos (by omega)]
  congr 1
  omega
theorem decFrom_snoc (l : List UInt8) (b : UInt8) : ∀ acc, Lib.decFrom acc (l ++ [b]) = (Lib.decFrom acc l).bind fun n => (Lib.digitVal b).map fun d => n * 10 + d := by
  induction l with
  | nil =>
    intro acc
    simp only [List.nil_append, Lib.decFrom, Option.bind_some]
    cases Lib.digitVal b <;> rfl
  | cons c r ih =>
    intro acc
    simp only [List.cons_append, Lib.decFrom]
    cases Lib.digitVal c with
    | none => rfl
    | some d => exact ih _
theorem dec_all : ∀ u : Nat, ∀ c ∈ Lib.decDigits u, 48 ≤ c.toNat ∧ c.toNat ≤ 57 := by
  intro u
  induction u using Nat.strongRecOn with
  | _ u ih =>
    intro c hc
    by_cases h : u < 10
    · rw [dec_small u h, List.mem_singleton] at hc
      rw [hc, digit_toNat h]
      omega
    · rw [dec_cons u h, List.mem_append, List.mem_singleton] at hc
      rcases hc with hc | rfl
      · exact ih (u / 10) (by omega) c hc
      · rw [digit_toNat (by omega)]
        omega
theorem dec_from : ∀ u : Nat, Lib.decFrom 0 (Lib.decDigits u) = some u := by
  intro u
  induction u using Nat.strongRecOn with
  | _ u ih =>
    by_cases h : u < 10
    · rw [dec_small u h]
      simp only [Lib.decFrom, digitVal_dec h, Nat.zero_mul, Nat.zero_add]
    · rw [dec_cons u h, decFrom_snoc, ih (u / 10) (by omega), digitVal_dec (by omega)]
      simp only [Option.bind_some, Option.map_some, Option.some.injEq]
      omega
theorem dec_ne (u : Nat) : Lib.decDigits u ≠ [] := by
  by_cases h : u < 10
  · rw [dec_small u h]; simp
  · rw [dec_cons u h]; simp
theorem dec_len : ∀ (k u : Nat), u < 10 ^ k → 0 < k → (Lib.decDigits u).length ≤ k := by
  intro k
  induction k with
  | zero => intro u _ h; omega
  | succ k ih =>
    intro u hu _
    by_cases h : u < 10
    · rw [dec_small u h]; simp
    · rw [dec_cons u h, List.length_append, List.length_singleton]
      have hk : 0 < k := by
        rcases Nat.eq_zero_or_pos k with rfl | hk
        · simp at hu; omega
        · exact hk
      have := ih (u / 10) (by rw [Nat.pow_succ] at hu; omega) hk
      omega
theorem atoi_dec (u : Nat) : Lib.atoi (Lib.decDigits u) = some (u : Int) := by
  cases hl : Lib.decDigits u with
  | nil => exact absurd hl (dec_ne u)
  | cons b r =>
    have hb := dec_all u b (by rw [hl]; exact List.mem_cons_self)
    have h1 : (b == 45) = false := by
      rw [beq_eq_false_iff_ne]
      rintro rfl
      simp at hb
    have h2 : (b == 43) = false := by
      rw [beq_eq_false_iff_ne]
      rintro rfl
      simp at hb
    unfold Lib.atoi
    simp only [h1, h2, Bool.false_eq_true, if_false]
    unfold Lib.decNat
    rw [← hl, dec_from]
    simp [hl]
/-- What stands ahead of a part's number. -/
def pre : List UInt8 := [108, 111, 103, 46]
/-- A part's name. -/
def nameB (n : Int) : ByteArray := if 1 ≤ n ∧ n ≤ 999999999 then ⟨(pre ++ Lib.itoa n).toArray⟩ else ⟨#[]⟩
/-- The number that a part has by its name. -/
def numB (s : ByteArray) : Int := match Lib.atoi (Lib.trimPrefix s.data.toList pre) with
  | some n => if nameB n = s then n else 0
  | none => 0
theorem nameB_in {n : Int} (h : 1 ≤ n ∧ n ≤ 999999999) : nameB n = ⟨(pre ++ Lib.decDigits n.toNat).toArray⟩ := by
  unfold nameB Lib.itoa
  rw [if_pos h, if_neg (by omega)]
theorem nameB_out {n : Int} (h : ¬ (1 ≤ n ∧ n ≤ 999999999)) : nameB n = ⟨#[]⟩ := by unfold nameB; rw [if_neg h]
theorem nameB_size (n : Int) : (nameB n).size ≤ 13 := by
  by_cases h : 1 ≤ n ∧ n ≤ 999999999
  · rw [nameB_in h]
    show (pre ++ Lib.decDigits n.toNat).toArray.size ≤ 13
    have := dec_len 9 n.toNat (by omega) (by omega)
    simp [pre]
    omega
  · rw [nameB_out h]
    decide
theorem numB_name {n : Int} (h : 1 ≤ n ∧ n ≤ 999999999) : numB (nameB n) = n := by
  have h1 : Lib.trimPrefix (nameB n).data.toList pre = Lib.decDigits n.toNat := by
    rw [nameB_in h]
    unfold Lib.trimPrefix Lib.hasPrefix
    rw [if_pos (by rw [List.isPrefixOf_iff_prefix]; exact ⟨_, rfl⟩)]
    simp [pre]
  unfold numB
  rw [h1, atoi_dec]
  have h2 : ((n.toNat : Nat) : Int) = n := by omega
  simp only [h2, if_true]
theorem numB_pos {s : ByteArray} (h : numB s ≠ 0) : (1 ≤ numB s ∧ numB s ≤ 999999999) ∨ (s = ⟨#[]⟩) := by
  unfold numB at h ⊢
  cases ha : Lib.atoi (Lib.trimPrefix s.data.toList pre) with
  | none => rw [ha] at h; exact absurd rfl h
  | some n =>
    rw [ha] at h
    simp only at h ⊢
    by_cases e : nameB n = s
    · rw [if_pos e]
      by_cases hn : 1 ≤ n ∧ n ≤ 999999999
      · exact .inl hn
      · rw [nameB_out hn] at e; exact .inr e.symm
    · rw [if_neg e] at h; exact absurd rfl h
theorem numB_back {s : ByteArray} (h : numB s ≠ 0) : nameB (numB s) = s := by
  unfold numB at h ⊢
  cases ha : Lib.atoi (Lib.trimPrefix s.data.toList pre) with
  | none => rw [ha] at h; exact absurd rfl h
  | some n =>
    rw [ha] at h
    simp only at h ⊢
    by_cases e : nameB n = s
    · rw [if_pos e]; exact e
    · rw [if_neg e] at h; exact absurd rfl h
theorem nameB_inj {a b : Int} (ha : 1 ≤ a ∧ a ≤ 999999999) (hb : 1 ≤ b ∧ b ≤ 999999999) (h : nameB a = nameB b) : a = b := by rw [← numB_name ha, h, numB_name hb]
theorem nameB_good {n : Int} (h : 1 ≤ n ∧ n ≤ 999999999) : goodN (nameB n) = true := by
  have h0 := nameB_size n
  rw [nameB_in h] at h0 ⊢
  unfold goodN
  rw [Bool.and_eq_true, Bool.and_eq_true, decide_eq_true_eq]
  refine ⟨⟨⟨?_, by omega⟩, ?_⟩, ?_⟩
  · show 1 ≤ (pre ++ Lib.decDigits n.toNat).toArray.size
    simp [pre]
  · unfold txt
    rw [List.all_eq_true]
    intro c hc
    have hc' : c ∈ pre ++ Lib.decDigits n.toNat := hc
    rcases List.mem_append.1 hc' with hc | hc
    · simp only [pre, List.mem_cons, List.not_mem_nil, or_false] at hc
      rcases hc with rfl | rfl | rfl | rfl <;> decide
    · have := dec_all _ c hc
      unfold signB digitB
      simp [this]
  · show letterB ((pre ++ Lib.decDigits n.toNat).toArray.getD 0 0) = true
    simp [pre]
    decide
/-- The checkpoint's file, and where one is written. -/
def tCheck : ByteArray := ⟨#[99, 104, 101, 99, 107]⟩
def tFresh : ByteArray := ⟨#[99, 104, 101, 99, 107, 46, 110, 101, 119]⟩
theorem check_num : numB tCheck = 0 := by decide
theorem fresh_num : numB tFresh = 0 := by decide
theorem check_good : goodN tCheck = true := by decide
theorem fresh_good : goodN tFresh = true := by decide
theorem name_check {n : Int} (h : 1 ≤ n ∧ n ≤ 999999999) : nameB n ≠ tCheck := fun e => by
  have := numB_name h
  rw [e, check_num] at this
  omega
theorem name_fresh {n : Int} (h : 1 ≤ n ∧ n ≤ 999999999) : nameB n ≠ tFresh := fun e => by
  have := numB_name h
  rw [e, fresh_num] at this
  omega
end Go.Proofs.YtjgdmbfkondakaaGreatDoor
