/-
  THE WALK of InboxAcks.
-/
import Derived.Test.YtkdjpleedaldcaaNone21
import Derived.Test.YtkdjpleedaldcaaFacts21
import Derived.Deep.LoopGhost
import Derived.OneCell
namespace Go.Proofs.Ytkdjpleedaldcaa
open Go.RowKit Go.Maps
set_option maxRecDepth 100000

def hcells (l : List Nat) : List Value := l.map fun n : Nat => .int .u16 (n : Int)
theorem hcells_length (l : List Nat) : (hcells l).length = l.length := by simp [hcells]
/-- Numbers that are there lie at plain addresses. -/
theorem Row.atNums {w : World} {a : Option Addr} {n cap : Nat} {l : List Nat} (h : Row w (.slice a n cap) (hcells l)) : n = l.length ∧ l.length ≤ maxLen ∧ ∀ i (hi : i < l.length), ∃ b off, a = some ⟨b, off, none⟩ ∧ b < w.heap.size ∧ w.cell? ⟨b, off + i, none⟩ = some (.int .u16 (l[i] : Nat)) := by
  have hn : n = l.length := by
    obtain ⟨a', cap', hv⟩ := h.slice
    rw [hcells_length] at hv
    injection hv
  have hcm : l.length ≤ maxLen := by
    rcases h with ⟨_, h⟩ | ⟨_, _, _, h1, h2, _⟩
    · have := hcells_length l
      rw [h] at this
      rw [← this]; exact Nat.zero_le _
    · rw [hcells_length] at h1; omega
  refine ⟨hn, hcm, fun i hi => ?_⟩
  obtain ⟨b, off, cap', hv, _, _, hc⟩ := h.at (by rw [hcells_length]; omega)
  injection hv with hv1 _ _
  have h0 := hc i (by rw [hcells_length]; exact hi)
  simp only [hcells, List.getElem_map] at h0
  exact ⟨b, off, hv1, World.block_lt_of_cell? _ _ h0, h0⟩

theorem takeM_no {m : Ib} {num : Nat} {x : Ms} (h : mayT m num = false) : takeM m num x = m := by unfold takeM; rw [h]; rfl
theorem one_any (b : Bool) (w : World) : Calls Try.prog 25 #[.bool b] w fun e w' => e = .returned (.int .i64 (b.toNat : Nat)) ∧ w' = w := by
  cases b
  all_goals go_enter Try.func25, Try.ntmps25
  all_goals go_wp2
  all_goals go_ret
  all_goals exact ⟨rfl, rfl⟩

set_option maxHeartbeats 4000000 in
theorem acks_law (S A : Nat) (v : Value) (l : List Nat) (w : World) (hS : S < 18446744073709551616) (hA : A < 18446744073709551616) (hr : Row w v (hcells l)) (hf : ∀ n ∈ l, n < 65536) : Calls Try.prog 6 #[.int .u64 S, v, .int .u64 A] w fun e w' => e = .returned (.bool true) ∧ Below w.heap.size w w' := by
  obtain ⟨n, hn⟩ : ∃ n, n = S % 32 + 1 := ⟨_, rfl⟩
  have hn1 : 1 ≤ n := by omega
  have hn2 : n ≤ 32 := by omega
  have e1 : (1 : Int) + (S : Int) % 32 = n := by omega
  obtain ⟨va, vc, rfl⟩ := hr.slice
  rw [hcells_length] at hr ⊢
  obtain ⟨_, hcap, HA⟩ := hr.atNums
  have hcap2 : (l.length : Int) ≤ 9223372036854775807 := by unfold maxLen at hcap; omega
  have HAC : Hid _ := HA
  have HF : Hid _ := hf
  clear hr hf HA hn
  have hN := li_new (B := w.heap.size) (w0 := w) n hn1 hn2 (Below.refl _ w) (Nat.le_refl _)
  by_cases h300 : 300 < l.length
  · have h300' : (300 : Int) < (l.length : Int) := by omega
    go_enter Try.func6, Try.ntmps6
    go_wp2_with (first
      | (go_at_call 7; refine hN.mono ?_; rintro e x0 ⟨rfl, X0, _⟩)
      | (go_at_call 9; refine (lives_any _).mono ?_; rintro e x1 ⟨rfl, B1⟩))
    go_ret
    exact ⟨rfl, X0.bel.trans (B1.mono X0.size)⟩
  · have h300' : ¬ (300 : Int) < (l.length : Int) := by omega
    go_enter Try.func6, Try.ntmps6
    go_wp2_with (go_at_call 7; refine hN.mono ?_; rintro e x0 ⟨rfl, X0, _⟩)
    clear e1 hN
    generalize w.heap.size + 1 = p at *
    go_loopg [9, 10, 41] l.length (fun g u9 u10 u41 wr => ∃ (k : Nat) (m : Ib), u41 = .int .i64 k ∧ k ≤ l.length ∧ g = l.length - k ∧ Hid (Li w.heap.size w wr p m ∧ m.s = n))
    case atStart => exact ⟨0, _, rfl, Nat.zero_le _, rfl, X0, rfl⟩
    case round =>
      obtain ⟨k, m, rfl, hk, rfl, hX⟩ := hrel
      clear X0
      by_cases hlt2 : k < l.length
      · have hlt : (k : Int) < (l.length : Int) := by omega
        have hx := HF.out l[k] (List.getElem_mem hlt2)
        obtain ⟨b, off, rfl, hbp, c0⟩ := HAC.out k hlt2
        have bel := hX.out.1.bel
        replace c0 := (bel.cell (p := ⟨b, off + k, none⟩) hbp).trans c0
        generalize l[k] = x at *
        clear HAC bel
        go_wp2_with fail
        refine (msg_any k _).mono ?_
        rintro e w1 ⟨rfl, b1⟩
        have X1 := hX.out.1.go b1
        have hms := hX.out.2
        have S1 := X1.take (num := x % 40) (by omega) (msgM k)
        have hm1 := (takeM_s m (x % 40) (msgM k)).1
        rw [show ((x % 40 : Nat) : Int) = (x : Int) % 40 by omega] at S1
        generalize takeM m (x % 40) (msgM k) = m2 at *
        clear X1 hX
        go_wp2_with fail
        refine S1.mono ?_
        rintro e w2 ⟨rfl, X2, _⟩
        clear S1
        by_cases h5 : x % 5 = 0
        · have h5' : ((x : Int) % 5 == 0) = true := by simp; omega
          have S3 := X2.pop
          have hm3 := popM_s m2
          go_wp2_with (go_at_call 13; refine S3.mono ?_; rintro e w3 ⟨rfl, X3, _⟩)
          go_roundg (l.length - (k + 1))
          case measure => omega
          case rel => exact ⟨k + 1, _, by go_num, by omega, rfl, X3, by rw [hm3, hm1, hms]⟩
        · have h5' : ((x : Int) % 5 == 0) = false := by simp; omega
          go_wp2_with fail
          go_roundg (l.length - (k + 1))
          case measure => omega
          case rel => exact ⟨k + 1, _, by go_num, by omega, rfl, X2, by rw [hm1, hms]⟩
      · obtain rfl : k = l.length := by omega
        obtain ⟨X1, hms⟩ := hX.out
        have ok := X1.ok
        clear HAC HF hX
        go_wp2_with fail
        refine X1.ack.mono ?_
        rintro e w2 ⟨rfl, b2⟩
        have X2 := X1.go b2
        clear X1 b2
        go_wp2_with fail
        refine X2.held.mono ?_
        rintro e w2 ⟨rfl, rfl⟩
        go_wp2_with fail
        refine X2.head.mono ?_
        rintro e w3 ⟨rfl, b3⟩
        have X3 := X2.go b3
        clear X2 b3
        obtain ⟨W4, fold4⟩ : ∃ W, w3.alloc (.cells #[.int .i64 0, .int .u64 0, .int .i64 0, .string ⟨#[]⟩, .string ⟨#[]⟩, .string ⟨#[]⟩] 33) = W := ⟨_, rfl⟩
        generalize (m.h 0).getD zM = y
        obtain ⟨hh4, HE1, _⟩ := box_set y fold4
        obtain ⟨V4, hV4⟩ : ∃ V, V = W4.setRow w3.heap.size (mcells y).toArray := ⟨_, rfl⟩
        rw [← hV4] at HE1
        have X4 := X3.go HE1
        have foldV := hV4.symm
        clear HE1 hV4 X3
        -- what the ack says
        have hbits := ack_bits ok
        have hset := ackS_set m
        have hlt64 := ackS_test ok
        have hsz := shr_zero ok
        have hmk := fun k (hk : k < m.s) => may_key ok hk
        rw [hms] at hsz hmk
        obtain ⟨s, hs⟩ : ∃ s, s = ackS m := ⟨_, rfl⟩
        rw [← hs] at hbits hset hlt64 hsz ⊢
        have hr0 : (m.h 0).isSome = (m.h 0).isSome := rfl
        obtain ⟨r, hr⟩ : ∃ r, r = (m.h 0).isSome := ⟨_, rfl⟩
        rw [← hr] at hbits ⊢
        obtain ⟨N, hNN⟩ : ∃ N, N = (heldL m).length := ⟨_, rfl⟩
        rw [← hNN] at hbits ⊢
        have HS : Hid (∀ i, s.testBit i = (m.h (i + 1)).isSome) := hlt64
        have HR : Hid (r = (m.h 0).isSome ∧ N = (heldL m).length) := ⟨hr, hNN⟩
        have HM : Hid (∀ k, k < n → mayT m ((m.n + k) % 65536) = !(m.h k).isSome) := hmk
        have HBT : Hid (bitsI s 64 + r.toNat = N) := hbits
        have HO : Hid (m.Ok ∧ m.s = n) := ⟨ok, hms⟩
        have HST : Hid (IsSet s) := hset
        clear hs hr0 hr hNN hlt64 hmk hbits ok hms hset
        go_wp2_with (refine wpList_store_row rfl 33 _ _ rfl w3.heap.size (mcells y).toArray rfl rfl 33 (mcells zM).toArray hh4 infoMs rfl (oneMs _) ?_; rw [foldV])
        clear foldV fold4 hh4
        go_loopg [16, 17] 64 (fun g u16 u17 wr => ∃ i : Nat, u17 = .int .i64 i ∧ i ≤ 64 ∧ g = 64 - i ∧ u16 = .int .i64 (bitsI s i : Nat) ∧ wr = V4)
        case atStart => exact ⟨0, rfl, Nat.zero_le _, rfl, rfl, rfl⟩
        case round =>
          obtain ⟨i, rfl, hi, rfl, rfl, rfl⟩ := hrel
          by_cases hil : i < 64
          · have hil' : (i : Int) < 64 := by omega
            have hbv := bit_val s i HST.out
            have hle := bitsI_le s i
            have hbs := bitsI_succ s i
            have HQ : Hid (bitsI s (i + 1) = bitsI s i + (s.testBit i).toNat) := hbs
            have hbl : (s.testBit i).toNat ≤ 1 := by cases s.testBit i <;> decide
            clear hbs
            generalize (s.testBit i).toNat = t at *
            generalize hbb : bitsI s i = bb at *
            have HBB : Hid (bitsI s i = bb) := hbb
            clear hbb
            go_wp2
            go_roundg (64 - (i + 1))
            case measure => omega
            case rel => exact ⟨i + 1, by go_num, by omega, rfl, by rw [HQ.out]; exact congrArg (Value.int .i64) (by omega), rfl⟩
          · obtain rfl : i = 64 := by omega
            have hb64 := HBT.out
            have hn64 : (n : Int) < 64 := by omega
            have hble := bitsI_le s 64
            generalize bitsI s 64 = bb at *
            go_upto_if 82 with fail
            go_cut [16] from 82 to 85 (fun u16 wx => u16 = .int .i64 N ∧ wx = wr)
            case first =>
              cases r with
              | true =>
                go_wp2
                go_meet
                exact ⟨congrArg (Value.int .i64) (by simp at hb64; (try unfold wrap64); omega), rfl⟩
              | false =>
                go_wp2
                go_meet
                exact ⟨congrArg (Value.int .i64) (by simp at hb64; (try unfold wrap64); omega), rfl⟩
            case rest =>
              obtain ⟨rfl, hx⟩ := hcut
              subst hx
              clear hb64
              obtain ⟨K, hK⟩ : ∃ K, K = A % n := ⟨_, rfl⟩
              have hKn : K < n := by rw [hK]; exact Nat.mod_lt _ (by omega)
              have hK1 : (A : Int) % (n : Int) = K := by rw [hK]; rfl
              have hn0 : ¬ (n : Int) = 0 := by omega
              have HKn : Hid (K < n) := hKn
              clear hK
              go_upto_region 25 with (go_at_call 23; refine X4.next.mono ?_; rintro e wc ⟨rfl, rfl⟩)
              clear hK1 hn0
              go_cut [19] from 110 to 128 (fun u19 wx => u19 = .bool (m.h K).isSome ∧ wx = wc)
              case first =>
                rcases K with _ | j
                · cases r
                  all_goals go_wp2
                  all_goals go_meet
                  all_goals exact ⟨congrArg Value.bool HR.out.1, rfl⟩
                · have hj := HS.out j
                  have hb := bit_val s j HST.out
                  rw [hj] at hb
                  have hj0 : (0 : Int) < (j : Int) + 1 := by omega
                  have hj64 : (j : Int) < 64 := by omega
                  cases hq : (m.h (j + 1)).isSome
                  all_goals rw [hq] at hb
                  all_goals go_wp2
                  all_goals go_meet
                  all_goals exact ⟨congrArg Value.bool hq.symm, rfl⟩
              case rest =>
                obtain ⟨rfl, hx⟩ := hcut
                subst hx
                have hmy := HM.out K HKn.out
                have hw2 : IntKind.u16.wrap (K : Int) = (K : Int) := by rw [IntKind.wrap_u16]; have := HKn.out; omega
                have hw4 : IntKind.u16.wrap (n : Int) = (n : Int) := by rw [IntKind.wrap_u16]; omega
                obtain ⟨num, hnum⟩ : ∃ num, num = (m.n + K) % 65536 := ⟨_, rfl⟩
                obtain ⟨num2, hnum2⟩ : ∃ num, num = (m.n + n) % 65536 := ⟨_, rfl⟩
                obtain ⟨num3, hnum3⟩ : ∃ num, num = (m.n + 65535) % 65536 := ⟨_, rfl⟩
                have hw1 : IntKind.u16.wrap ((m.n : Int) + (K : Int)) = (num : Int) := by rw [IntKind.wrap_u16]; omega
                have hw3 : IntKind.u16.wrap ((m.n : Int) + (n : Int)) = (num2 : Int) := by rw [IntKind.wrap_u16]; omega
                have hw5 : IntKind.u16.wrap ((m.n : Int) - 1) = (num3 : Int) := by rw [IntKind.wrap_u16]; omega
                have hlt1 : num < 65536 := by omega
                have hlt2 : num2 < 65536 := by omega
                have hlt3 : num3 < 65536 := by omega
                rw [← hnum] at hmy
                have hht := held_take HO.out.1 hlt1 (msgM 0)
                obtain ⟨hs3, hn3⟩ := takeM_s m num (msgM 0)
                have hok2 := takeM_ok HO.out.1 num (msgM 0)
                rw [← HR.out.2, hmy] at hht
                have hm2 : mayT (takeM m num (msgM 0)) num2 = false := by
                  have := may_far hok2
                  rw [hs3, hn3, HO.out.2, ← hnum2] at this
                  exact this
                have hm3 : mayT (takeM m num (msgM 0)) num3 = false := by
                  have := may_behind hok2
                  rw [hn3, ← hnum3] at this
                  exact this
                have ht2 : takeM (takeM m num (msgM 0)) num2 (msgM 0) = takeM m num (msgM 0) := takeM_no hm2
                clear hnum hnum2 hnum3 hs3 hn3 hok2
                have HT : Hid _ := hlt1
                have HT2 : Hid _ := hlt2
                have HT3 : Hid _ := hlt3
                clear hlt1 hlt2 hlt3
                go_wp2_with fail
                refine (msg_any 0 _).mono ?_
                rintro e y1 ⟨rfl, b1⟩
                have Y1 := X4.go b1
                have S1 := Y1.take HT.out (msgM 0)
                rw [hmy] at S1
                generalize takeM m num (msgM 0) = m2 at *
                clear Y1 b1 X4
                go_wp2_with fail
                refine S1.mono ?_
                rintro e y2 ⟨rfl, Y2, _⟩
                clear S1 hmy
                generalize (m.h K).isSome = q at *
                obtain ⟨N2, hN2⟩ : ∃ z, z = (heldL m2).length := ⟨_, rfl⟩
                have Q1 := Y2.held
                rw [← hN2] at Q1 hht
                have hNle : N ≤ 32 := by rw [HR.out.2]; have := held_le m; have := HO.out.2; omega
                have hY2 : Hid _ := Y2
                clear Y2 hN2
                cases q with
                | true =>
                  have h2 : (N2 : Int) = wrap64 (N : Int) := by simp at hht; unfold wrap64; omega
                  clear hht hNle
                  go_wp2_with (first | (go_at_call 21; refine Q1.mono ?_; rintro e y2 ⟨rfl, rfl⟩) | (go_at_call 25; refine (one_any _ _).mono ?_; rintro e y2 ⟨rfl, rfl⟩))
                  refine (msg_any 0 _).mono ?_
                  rintro e y3 ⟨rfl, b3⟩
                  have Y3 := hY2.out.go b3
                  have S3 := Y3.take HT2.out (msgM 0)
                  rw [hm2, takeM_no hm2] at S3
                  clear Q1 Y3 b3 h2
                  go_wp2_with fail
                  refine S3.mono ?_
                  rintro e y4 ⟨rfl, Y4, _⟩
                  clear S3
                  go_wp2_with fail
                  refine (msg_any 0 _).mono ?_
                  rintro e y5 ⟨rfl, b5⟩
                  have Y5 := Y4.go b5
                  have S5 := Y5.take HT3.out (msgM 0)
                  rw [hm3, takeM_no hm3] at S5
                  clear Y5 b5 Y4
                  go_wp2_with fail
                  refine S5.mono ?_
                  rintro e y6 ⟨rfl, Y6, _⟩
                  clear S5
                  go_wp2_with fail
                  refine (lives_any _).mono ?_
                  rintro e y7 ⟨rfl, b7⟩
                  go_wp2_with fail
                  go_ret
                  exact ⟨rfl, Y6.bel.trans (b7.mono Y6.size)⟩
                | false =>
                  have h2 : (N2 : Int) = wrap64 ((N : Int) + 1) := by simp at hht; unfold wrap64; omega
                  clear hht hNle
                  go_wp2_with (first | (go_at_call 21; refine Q1.mono ?_; rintro e y2 ⟨rfl, rfl⟩) | (go_at_call 25; refine (one_any _ _).mono ?_; rintro e y2 ⟨rfl, rfl⟩))
                  refine (msg_any 0 _).mono ?_
                  rintro e y3 ⟨rfl, b3⟩
                  have Y3 := hY2.out.go b3
                  have S3 := Y3.take HT2.out (msgM 0)
                  rw [hm2, takeM_no hm2] at S3
                  clear Q1 Y3 b3 h2
                  go_wp2_with fail
                  refine S3.mono ?_
                  rintro e y4 ⟨rfl, Y4, _⟩
                  clear S3
                  go_wp2_with fail
                  refine (msg_any 0 _).mono ?_
                  rintro e y5 ⟨rfl, b5⟩
                  have Y5 := Y4.go b5
                  have S5 := Y5.take HT3.out (msgM 0)
                  rw [hm3, takeM_no hm3] at S5
                  clear Y5 b5 Y4
                  go_wp2_with fail
                  refine S5.mono ?_
                  rintro e y6 ⟨rfl, Y6, _⟩
                  clear S5
                  go_wp2_with fail
                  refine (lives_any _).mono ?_
                  rintro e y7 ⟨rfl, b7⟩
                  go_wp2_with fail
                  go_ret
                  exact ⟨rfl, Y6.bel.trans (b7.mono Y6.size)⟩
end Go.Proofs.Ytkdjpleedaldcaa
