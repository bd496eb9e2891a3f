/-
  WINDOWS FROM WHICH ALL WAS SENT AT ONCE, of no program.
-/
import Derived.Test.YthdoilinpeheiaaDoorNone20
namespace Go.Proofs.YthdoilinpeheiaaDoor
open Go.RowKit
set_option maxRecDepth 20000

theorem wn_ext {a b : Wn} (h1 : a.s = b.s) (h2 : a.t = b.t) (h3 : a.b = b.b) (h4 : a.sent = b.sent) (h5 : a.there = b.there) (h6 : ∀ i, a.tick i = b.tick i) : a = b := by
  cases a; cases b
  simp only at h1 h2 h3 h4 h5 h6
  subst h1 h2 h3 h4 h5
  congr
  exact funext h6
/-- The first K were sent at one tick. -/
def fullM (s t b K now : Nat) (f : Nat → Nat) : Wn := ⟨s, t, b, 2 ^ K - 1, 0, fun i => if i < K then now else f i⟩
theorem look_min (m : Wn) (h : Nat) : lookN m h = min h m.s := by unfold lookN; omega
theorem look_full (s t b K now : Nat) (f : Nat → Nat) (h : Nat) : lookN (fullM s t b K now f) h = min h s := look_min _ h
theorem range_len (K : Nat) (p : Nat → Bool) (hp : ∀ i, i < K → p i = true) : (((List.range K).filter p).map fun i : Nat => (i : Int)).length = K := by
  rw [List.filter_eq_self.2 (fun a ha => hp a (by simpa using ha))]
  simp
theorem range_none (K : Nat) (p : Nat → Bool) (hp : ∀ i, i < K → p i = false) : (((List.range K).filter p).map fun i : Nat => (i : Int)) = [] := by
  rw [List.filter_eq_nil_iff.2 (fun a ha => by simp [hp a (by simpa using ha)])]
  rfl
/-- Nothing was sent: all are sent. -/
theorem all_sent (s t b now K : Nat) (f : Nat → Nat) (hK : K ≤ 32) : (sendL ⟨s, t, b, 0, 0, f⟩ now K).length = K ∧ sendM ⟨s, t, b, 0, 0, f⟩ now K = fullM s t b K now f := by
  have hd : ∀ i, dueB ⟨s, t, b, 0, 0, f⟩ now i = true := fun i => by simp [dueB]
  refine ⟨?_, ?_⟩
  · rw [sendL_eq _ _ _ (by omega)]
    exact range_len K _ (fun i _ => hd i)
  · obtain ⟨h1, h2, h3, h4⟩ := sendM_same ⟨s, t, b, 0, 0, f⟩ now K
    refine wn_ext h1 h2 h3 ?_ h4 fun i => ?_
    · refine Nat.eq_of_testBit_eq fun i => ?_
      rw [sendM_sent _ _ _ (by omega), hd]
      show _ = (2 ^ K - 1).testBit i
      rw [Nat.testBit_two_pow_sub_one]
      simp
    · rw [sendM_tick, hd]
      simp [fullM]
/-- It is too early: none is sent. -/
theorem none_sent (s t b at' now K : Nat) (f : Nat → Nat) (hK : K ≤ 32) (hn : (now : Int) - at' < t) : sendL (fullM s t b K at' f) now K = [] ∧ sendM (fullM s t b K at' f) now K = fullM s t b K at' f := by
  have hd : ∀ i, i < K → dueB (fullM s t b K at' f) now i = false := fun i hi => by
    unfold dueB fullM
    simp only [Nat.testBit_two_pow_sub_one, if_pos hi, decide_eq_true hi, decide_eq_true hn]
    simp
  refine ⟨?_, ?_⟩
  · rw [sendL_eq _ _ _ (by omega)]
    exact range_none K _ hd
  · obtain ⟨h1, h2, h3, h4⟩ := sendM_same (fullM s t b K at' f) now K
    refine wn_ext h1 h2 h3 ?_ h4 fun i => ?_
    · refine Nat.eq_of_testBit_eq fun i => ?_
      rw [sendM_sent _ _ _ (by omega)]
      by_cases hi : i < K
      · rw [hd i hi]; simp
      · simp [hi]
    · rw [sendM_tick]
      by_cases hi : i < K
      · rw [hd i hi]; simp
      · simp [hi]
/-- Their time is over: all are sent again. -/
theorem again_sent (s t b at' now K : Nat) (f : Nat → Nat) (hK : K ≤ 32) (hn : ¬ (now : Int) - at' < t) : (sendL (fullM s t b K at' f) now K).length = K ∧ sendM (fullM s t b K at' f) now K = fullM s t b K now f := by
  have hd : ∀ i, i < K → dueB (fullM s t b K at' f) now i = true := fun i hi => by
    unfold dueB fullM
    simp only [Nat.testBit_two_pow_sub_one, if_pos hi, decide_eq_true hi, decide_eq_false hn]
    simp
  refine ⟨?_, ?_⟩
  · rw [sendL_eq _ _ _ (by omega)]
    exact range_len K _ hd
  · obtain ⟨h1, h2, h3, h4⟩ := sendM_same (fullM s t b K at' f) now K
    refine wn_ext h1 h2 h3 ?_ h4 fun i => ?_
    · refine Nat.eq_of_testBit_eq fun i => ?_
      rw [sendM_sent _ _ _ (by omega)]
      by_cases hi : i < K
      · simp [hi, fullM, Nat.testBit_two_pow_sub_one]
      · simp [hi, fullM, Nat.testBit_two_pow_sub_one]
    · rw [sendM_tick]
      by_cases hi : i < K
      · rw [if_pos ⟨hi, hd i hi⟩]; simp [fullM, hi]
      · rw [if_neg (by simp [hi])]; simp [fullM, hi]
theorem open_full (s t b K now : Nat) (f : Nat → Nat) (hK : K ≤ 32) : openN (fullM s t b K now f) = K := by
  have h : ∀ k : Fin 33, (listN ((2 ^ k.val - 1) &&& (18446744073709551615 - 0))).length = k.val := by decide +kernel
  exact h ⟨K, by omega⟩
theorem open_none (s t b : Nat) (f : Nat → Nat) : openN ⟨s, t, b, 0, 0, f⟩ = 0 := by
  show (listN (0 &&& (18446744073709551615 - 0))).length = 0
  decide
theorem run_full (K : Nat) (hK : K ≤ 32) : runS (2 ^ K - 1) = K := by
  have h : ∀ k : Fin 33, runS (2 ^ k.val - 1) = k.val := by decide +kernel
  exact h ⟨K, by omega⟩
/-- All that was sent is acked. -/
theorem ack_full (s t K now set : Nat) (f : Nat → Nat) (hK : K ≤ 32) (hs : K ≤ s) : ackN (fullM s t 0 K now f) K = K ∧ ∃ g, ackW (fullM s t 0 K now f) K set = ⟨s, t, K, 0, 0, g⟩ := by
  have hf : farI ((0 : Nat) : Int) K = K := by unfold farI; omega
  have hm : mayA (fullM s t 0 K now f) K = true := by
    unfold mayA fullM
    simp only [run_full K hK]
    simp
    omega
  have e1 : farI ((fullM s t 0 K now f).b : Int) K = K := hf
  refine ⟨by unfold ackN; rw [e1, hm]; rfl, ?_⟩
  unfold ackW
  rw [e1, hm, if_pos rfl, Int.toNat_natCast]
  have hsl : ∀ x : Nat, (∀ i, x.testBit i = true → i < K) → slideS x K = 0 := fun x hx => by
    have hlt : x < 2 ^ K := by
      refine Nat.lt_pow_two_of_testBit x fun i hi => ?_
      cases hb : x.testBit i with
      | false => rfl
      | true => have := hx i hb; omega
    unfold slideS
    rw [if_neg (by omega), if_neg (by omega), Int.toNat_natCast]
    exact Nat.div_eq_of_lt hlt
  refine ⟨_, wn_ext rfl rfl ?_ ?_ ?_ (fun _ => rfl)⟩
  · show (0 + K) % 65536 = K
    omega
  · exact hsl _ fun i hi => by
      rw [show ({ fullM s t 0 K now f with there := theresS (fullM s t 0 K now f) K set } : Wn).sent = 2 ^ K - 1 from rfl, Nat.testBit_two_pow_sub_one] at hi
      simpa using hi
  · refine hsl _ fun i hi => ?_
    have hi' : (theresS (fullM s t 0 K now f) K set).testBit i = true := hi
    unfold theresS at hi'
    rw [Nat.testBit_or, Nat.testBit_and] at hi'
    simp only [fullM, Nat.zero_testBit, Bool.false_or, Bool.and_eq_true, Nat.testBit_two_pow_sub_one, decide_eq_true_eq] at hi'
    exact hi'.2
/-- An ack of what was not sent, or lies behind, changes nothing. -/
theorem ack_far (s t K now num set : Nat) (f : Nat → Nat) (hK : K ≤ 32) (hn : K < num) (hu : num < 65536) : ackN (fullM s t 0 K now f) num = 0 ∧ ackW (fullM s t 0 K now f) num set = fullM s t 0 K now f := by
  have hm : mayA (fullM s t 0 K now f) (farI ((fullM s t 0 K now f).b : Int) num) = false := by
    have hr : runS (fullM s t 0 K now f).sent = K := run_full K hK
    unfold mayA
    rw [hr]
    apply decide_eq_false
    show ¬ (0 ≤ farI ((0 : Nat) : Int) num ∧ farI ((0 : Nat) : Int) num ≤ (s : Int) ∧ farI ((0 : Nat) : Int) num ≤ (K : Int))
    unfold farI
    omega
  unfold ackN ackW
  rw [hm]
  exact ⟨rfl, rfl⟩
theorem ack_behind (s t K set : Nat) (f : Nat → Nat) (hK : K ≤ 32) (h0 : 0 < K) : ackN ⟨s, t, K, 0, 0, f⟩ (K - 1) = 0 ∧ ackW ⟨s, t, K, 0, 0, f⟩ (K - 1) set = ⟨s, t, K, 0, 0, f⟩ := by
  have hm : mayA ⟨s, t, K, 0, 0, f⟩ (farI (K : Int) ((K - 1 : Nat) : Int)) = false := by
    unfold mayA
    apply decide_eq_false
    unfold farI
    omega
  unfold ackN ackW
  rw [hm]
  exact ⟨rfl, rfl⟩
end Go.Proofs.YthdoilinpeheiaaDoor
