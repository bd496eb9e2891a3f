/-
  THE WALK of the law SealBursts.
-/
import Derived.Test.YtpdmcodnnhbchaaDoorAlive
import Derived.Test.YtpdmcodnnhbchaaDoorBurst
namespace Go.Proofs.YtpdmcodnnhbchaaDoor
open Go.RowKit

/-- A byte of a row of the call's own is written. -/
theorem Owns.set {w : World} {base g len cap : Nat} {e : TypeId} {bs : List UInt8} (h : Owns w base e (.slice (some ⟨g, 0, none⟩) len cap) bs) (i : Nat) (x : UInt8) :
    Owns (w.setCell ⟨g, i, none⟩ (.int .u8 (x.toNat : Int))) base e (.slice (some ⟨g, 0, none⟩) len cap) (bs.set i x) := by
  rcases h.2 with ⟨h0, _⟩ | ⟨g', cap', cur, hv, hb, hg, h1, h2, h3, h4⟩
  · cases h0
  · injection hv with hv1 hv2 hv3
    injection hv1 with hv1
    injection hv1 with hv1 _ _
    subst hv1 hv2 hv3
    have hc : (cur.setIfInBounds i (.int .u8 (x.toNat : Int))).toList = cur.toList.set i (.int .u8 (x.toNat : Int)) := by simp
    refine ⟨by simp [bcells], .inr ⟨g, cap, _, by rw [List.length_set], hb, heap_setCell_same w g i cur e _ hg, by rw [List.length_set]; exact h1, h2, by simpa using h3, ?_⟩⟩
    rw [hc, List.length_set, List.take_set, h4]
    simp [bcells, List.map_set]

theorem test_bit (U n : Nat) (hU : U < 4294967296) : (bits .and .u32 ((U : Int) / 2 ^ n) 1 == 1) = U.testBit n := by
  have e0 : ((U : Int) / 2 ^ n) = ((U / 2 ^ n : Nat) : Int) := by rw [Int.natCast_ediv, Int.natCast_pow]; rfl
  have hq : U / 2 ^ n < 4294967296 := Nat.lt_of_le_of_lt (Nat.div_le_self _ _) hU
  have h1 := u32_and_nat (U / 2 ^ n) 1 hq (by decide)
  rw [e0, show (1 : Int) = ((1 : Nat) : Int) from rfl, h1, Nat.and_one_is_mod, Nat.testBit_eq_decide_div_mod_eq, Bool.eq_iff_iff]
  generalize U / 2 ^ n = q
  simp
  omega
theorem flip_byte (x : UInt8) (m : Nat) (h : m < 8) : bits .xor .u8 (x.toNat : Int) (128 / 2 ^ m) = ((UInt8.ofNat (x.toNat ^^^ 2 ^ (7 - m))).toNat : Int) := by
  have hx := x.toNat_lt
  rw [flipAt_byte x (7 - m) (by omega)]
  obtain rfl | rfl | rfl | rfl | rfl | rfl | rfl | rfl : m = 0 ∨ m = 1 ∨ m = 2 ∨ m = 3 ∨ m = 4 ∨ m = 5 ∨ m = 6 ∨ m = 7 := by omega
  · exact u8_xor_nat x.toNat 128 (by omega) (by decide)
  · exact u8_xor_nat x.toNat 64 (by omega) (by decide)
  · exact u8_xor_nat x.toNat 32 (by omega) (by decide)
  · exact u8_xor_nat x.toNat 16 (by omega) (by decide)
  · exact u8_xor_nat x.toNat 8 (by omega) (by decide)
  · exact u8_xor_nat x.toNat 4 (by omega) (by decide)
  · exact u8_xor_nat x.toNat 2 (by omega) (by decide)
  · exact u8_xor_nat x.toNat 1 (by omega) (by decide)
/-- The byte that is to be changed. -/
theorem Owns.byteAt {w : World} {base g len cap : Nat} {e : TypeId} {bs : List UInt8} (h : Owns w base e (.slice (some ⟨g, 0, none⟩) len cap) bs) (i : Nat) (hi : i < bs.length) :
    w.cell? ⟨g, i, none⟩ = some (.int .u8 ((bs[i]?.getD 0).toNat : Int)) ∧ w.frozen? ⟨g, i, none⟩ = false ∧ base ≤ g := by
  rcases h.2 with ⟨h0, _⟩ | ⟨g', cap', cur, hv, hb, hg, _⟩
  · cases h0
  · injection hv with hv1 _ _
    injection hv1 with hv1
    injection hv1 with hv1 _ _
    subst hv1
    refine ⟨?_, frozen_of_row w g i cur e hg, hb⟩
    have := World.ownsRow.cells h (g := g) rfl i (.int .u8 (bs[i].toNat : Int)) (by simp [bcells, hi])
    rw [Go.WideShapes.add_plain, Nat.zero_add] at this
    rw [this, List.getElem?_eq_getElem hi]
    rfl

set_option maxHeartbeats 1000000 in
theorem bursts_law (s : Value) (bs : List UInt8) (at' burst : Nat) (w : World) (ht : Tab w) (hs : Holds w s bs) (hat : at' < 18446744073709551616) (hbu : burst < 4294967296) :
    Calls Tryd.prog 6 #[s, .int .u64 at', .int .u32 burst] w fun e w' => e = .returned (.bool true) ∧ Below w.heap.size w w' := by
  obtain ⟨a, cap, rfl⟩ := hs.slice
  by_cases hl : 5000 < bs.length
  · go_enter Tryd.func6, Tryd.ntmps6
    go_wp2_with (go_at_call 9; refine (lives_any _ ht).mono ?_; rintro e w3 ⟨rfl, b3⟩)
    go_ret
    exact ⟨rfl, b3⟩
  · obtain ⟨K, hK⟩ : ∃ K, K = at' % (8 * (bs.length + 4)) := ⟨_, rfl⟩
    have hKi : ((at' : Int) % (8 * ((bs.length : Int) + 4))) = (K : Int) := by rw [hK, Int.natCast_emod, Int.natCast_mul, Int.natCast_add]; rfl
    have hKlt : K < 8 * (bs.length + 4) := by rw [hK]; exact Nat.mod_lt _ (by omega)
    clear hK
    obtain ⟨U, hU⟩ : ∃ U, U = burst ||| 1 := ⟨_, rfl⟩
    have hUi : bits .or .u32 (burst : Int) 1 = (U : Int) := by rw [hU]; exact u32_or_nat burst 1 hbu (by decide)
    have hU0 : U.testBit 0 = true := by rw [hU]; simp
    have hUlt : U < 4294967296 := by rw [hU]; exact Nat.or_lt_two_pow (n := 32) hbu (by decide)
    clear hU
    have hlen := sealL_length bs (by omega)
    obtain ⟨T, hT⟩ : ∃ T, T = sealL bs := ⟨_, rfl⟩
    go_enter Tryd.func6, Tryd.ntmps6
    go_wp2_with fail
    refine (seal_any _ bs _ ht hs).mono ?_
    rintro e w1 ⟨v1, rfl, own1, b1⟩
    rw [← hT] at own1 hlen
    have HT : Hid _ := hT
    clear hT
    have s1 := (Since.refl ht).go b1
    obtain ⟨g, c1, hv1, hc1, hm1⟩ : ∃ g c1, v1 = .slice (some ⟨g, 0, none⟩) (bs.length + 8) c1 ∧ bs.length + 8 ≤ c1 ∧ c1 ≤ 9223372036854775807 := by
      rcases own1.2 with ⟨_, h⟩ | ⟨g, c1, _, hv, _, _, h1, h2, _⟩
      · omega
      · exact ⟨g, c1, by rw [hv, hlen], by omega, h2⟩
    subst hv1
    have HL : Hid _ := hlen
    clear hlen
    go_wp2_with fail
    rw [hKi]
    clear hKi
    go_loopw [10] (fun i wr => ∃ n : Nat, n ≤ 32 ∧ K + n ≤ 8 * (bs.length + 4) ∧ i = .int .i64 n ∧ Owns wr w.heap.size 5 (.slice (some ⟨g, 0, none⟩) (bs.length + 8) c1) (burstB T (32 + K) U n) ∧ Below w.heap.size w wr) (fun i _ => 32 - (intOf i).toNat)
    case atStart => exact ⟨0, by omega, by omega, rfl, own1, s1.bel⟩
    case round =>
      obtain ⟨n, hn1, hn2, rfl, own, bel⟩ := hrel
      by_cases hstop : n < 32 ∧ K + n < 8 * (bs.length + 4)
      · obtain ⟨hs1, hs2⟩ := hstop
        have hblen : (burstB T (32 + K) U n).length = bs.length + 8 := by rw [burstB_length, HL.out]
        obtain ⟨hc, hf, hgb⟩ := own.byteAt (4 + (K + n) / 8) (by rw [hblen]; omega)
        have htest := test_bit U n hUlt
        clear hblen
        cases hbit : U.testBit n
        · rw [hbit] at htest
          have hnext : burstB T (32 + K) U (n + 1) = burstB T (32 + K) U n := by show (if U.testBit n then _ else _) = _; rw [hbit]; rfl
          have HN : Hid _ := hnext
          clear hnext
          go_wp2
          refine ⟨⟨n + 1, by omega, by omega, by go_num, by rw [HN.out]; exact own, bel⟩, by simp [intOf]; omega⟩
        · rw [hbit] at htest
          go_wp2
          refine ⟨⟨n + 1, by omega, by omega, by go_num, ?_, bel.setCell (p := ⟨g, 4 + (K + n) / 8, none⟩) hgb _⟩, by simp [intOf]; omega⟩
          have hnext : burstB T (32 + K) U (n + 1) = flipAt (burstB T (32 + K) U n) (32 + K + n) := by show (if U.testBit n then _ else _) = _; rw [hbit]; rfl
          rw [hnext, flip_byte _ _ (Nat.mod_lt _ (by decide))]
          have h2 := own.set (4 + (K + n) / 8) (UInt8.ofNat (((burstB T (32 + K) U n)[4 + (K + n) / 8]?.getD 0).toNat ^^^ 2 ^ (7 - (K + n) % 8)))
          unfold flipAt
          rw [show (32 + K + n) / 8 = 4 + (K + n) / 8 by omega, show (32 + K + n) % 8 = (K + n) % 8 by omega]
          exact h2
      · have hn0 : 1 ≤ n := by omega
        have herr := burst_open bs K U (by omega) hU0 n hn0 hn1 hn2
        rw [← HT.out] at herr
        have hback := decide_eq_false hstop
        have sr : Since w wr := ⟨ht, bel⟩
        have hx : n = 32 ∨ (n < 32 ∧ K + n = 8 * (bs.length + 4)) := by omega
        clear hback hstop
        rcases hx with rfl | ⟨hx1, hx2⟩
        all_goals go_wp2_with fail
        all_goals refine (open_any _ _ _ sr.tab own.holds).mono ?_
        all_goals rintro e w4 ⟨v4, he4, own4, b4⟩
        all_goals rw [herr] at he4
        all_goals subst he4
        all_goals go_wp2_with (go_at_call 9; refine (lives_any _ (sr.go b4).tab).mono ?_; rintro e w6 ⟨rfl, b6⟩)
        all_goals go_ret
        all_goals exact ⟨rfl, ((sr.go b4).go b6).bel⟩
end Go.Proofs.YtpdmcodnnhbchaaDoor
