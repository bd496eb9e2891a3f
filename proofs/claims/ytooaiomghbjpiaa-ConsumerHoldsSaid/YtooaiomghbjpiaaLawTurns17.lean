/-
  THE STATEMENT ConsumerTurns, walked.
-/
import Derived.Test.YtooaiomghbjpiaaClients17
import Derived.Test.YtooaiomghbjpiaaTurns17
namespace Go.Proofs.Ytooaiomghbjpiaa
open Go.RowKit Go.Maps Go.Sort Go.Shelf
set_option maxRecDepth 20000

section
variable {w0 W W' : World} {p : Nat} {L L' : List Se}
theorem Lv.drop (h : Lv w0 W p L) (c : Int) (hc : I64 c) (hS : SortsL L) : Calls Try.prog 21 #[.pointer (some ⟨p, 0, none⟩), .int .i64 c] W fun e w' => ∃ u, e = .returned (.tuple #[u, .int .i64 (dropE L c)]) ∧ TellS L c W.heap.size w' u ∧ Lv w0 w' p (cutC L c) := by
  obtain ⟨F, h1, h2, h3, h4⟩ := h
  exact (drop_any p F L c W h1 h2 hc hS).mono fun _ _ ⟨u, e, t, F', hd, mv⟩ => ⟨u, e, t, Lv.to h4 h3 hd mv (h2.cut c)⟩
theorem Lv.hold (h : Lv w0 W p L) (c : Int) (hc : I64 c) (hS : SortsL L) : Calls Try.prog 15 #[.pointer (some ⟨p, 0, none⟩), .int .i64 c] W fun e w' => ∃ u, e = .returned (.tuple #[u, .bool (holdB L c)]) ∧ TellS L c W.heap.size w' u ∧ Below W.heap.size W w' ∧ Lv w0 w' p L := by
  have h' := h
  obtain ⟨F, h1, h2, h3, h4⟩ := h
  exact (hold_any p F L c W h1 h2 hc hS).mono fun _ _ ⟨u, e, t, b⟩ => ⟨u, e, t, b, h'.go b⟩
theorem Lv.clients (h : Lv w0 W p L) : Calls Try.prog 13 #[.pointer (some ⟨p, 0, none⟩)] W fun e w' => ∃ v, e = .returned v ∧ Own1 w' W.heap.size 3 v (icells (clientsL L)) ∧ Below W.heap.size W w' ∧ Lv w0 w' p L := by
  have h' := h
  obtain ⟨F, h1, h2, h3, h4⟩ := h
  exact (clients_any p F L W h1 h2).mono fun _ _ ⟨v, e, o, b⟩ => ⟨v, e, o, b, h'.go b⟩
end
theorem nextV_some {L : List Se} {q : ByteArray} {s : Se} (h : nextC L q = some s) : nextV L q = .tuple #[.int .i64 s.c, .bool true] := by unfold nextV; rw [h]
theorem nextV_none {L : List Se} {q : ByteArray} (h : nextC L q = none) : nextV L q = .tuple #[.int .i64 0, .bool false] := by unfold nextV; rw [h]
set_option maxHeartbeats 8000000 in
theorem turns_law (a0 a1 : Int) (w : World) (b0 : 0 ≤ a0 ∧ a0 < 18446744073709551616) (b1 : 0 ≤ a1 ∧ a1 < 18446744073709551616) : Calls Try.prog 5 #[.int .u64 a0, .int .u64 a1] w fun e w' => e = .returned (.bool true) ∧ Below w.heap.size w w' := by
  obtain ⟨K, hK⟩ : ∃ K : Nat, a0 % 8 = (K : Int) := ⟨(a0 % 8).toNat, by omega⟩
  obtain ⟨R, hR⟩ : ∃ R : Nat, a1 % 8 = (R : Int) := ⟨(a1 % 8).toNat, by omega⟩
  have hK8 : K < 8 := by omega
  have hR8 : R < 8 := by omega
  have hKt : a0.tmod 8 = (K : Int) := by rw [Int.tmod_eq_emod_of_nonneg b0.1]; exact hK
  have hRt : a1.tmod 8 = (R : Int) := by rw [Int.tmod_eq_emod_of_nonneg b1.1]; exact hR
  have hq : (⟨#[113]⟩ : ByteArray).size ≤ maxLen := by decide
  obtain ⟨k, hk⟩ : ∃ k, K + 1 = k := ⟨_, rfl⟩
  obtain ⟨r, hr⟩ : ∃ r, R + 1 = r := ⟨_, rfl⟩
  have ek : (1 : Int) + (K : Int) = (k : Int) := by omega
  have er : (1 : Int) + (R : Int) = (r : Int) := by omega
  have HB : Hid (1 ≤ k ∧ k < 9 ∧ 1 ≤ r ∧ r < 9) := ⟨by omega, by omega, by omega, by omega⟩
  clear hK hR hk hr
  go_enter Try.func5, Try.ntmps5
  go_wp2_with fail
  refine (Lv.new w).mono ?_
  rintro e w1 ⟨p, rfl, h1⟩
  clear ek er hKt hRt hK8 hR8
  have hk9 : k < 9 := HB.out.2.1
  have hr9 : r < 9 := HB.out.2.2.2
  have H1 : Hid (Lv w w1 p []) := h1
  clear h1
  go_wp2
  go_loopw [8] (fun u8 wr => ∃ m : Nat, u8 = .int .i64 ((m : Int) + 1) ∧ m ≤ k ∧ Hid (Lv w wr p ((List.range m).map fun x => seatT k r (x + 1) 0))) (fun u8 _ => k + 1 - (intOf u8).toNat)
  case atStart => exact ⟨0, rfl, Nat.zero_le _, H1.out⟩
  case round =>
    obtain ⟨m, rfl, hm, HL⟩ := hrel
    by_cases hlt : m < k
    · have hlt' : (m : Int) + 1 ≤ (k : Int) := by omega
      have hA := HL.out.add ((m : Int) + 1) ⟨#[113]⟩ (r : Int) ⟨by omega, by have := HB.out; omega⟩ hq
      obtain ⟨t1, t2⟩ := turn_adds k HB.out.2.1 r HB.out.2.2.2 HB.out.2.2.1 m hlt
      rw [t1, t2] at hA
      clear t1 t2
      go_wp2_with fail
      refine hA.mono ?_
      rintro e w2 ⟨rfl, h2⟩
      have H2 : Hid (Lv w w2 p ((List.range (m + 1)).map fun x => seatT k r (x + 1) 0)) := h2
      clear h2 hA
      go_wp2
      go_roundw
      case rel => exact ⟨m + 1, by go_num, by omega, H2⟩
      case measure => simp [intOf]; omega
    · obtain rfl : m = k := by omega
      have hlt' : ¬ (m : Int) + 1 ≤ (m : Int) := by omega
      rw [turn_start] at HL
      go_wp2
      obtain ⟨W2, hW2⟩ : ∃ z, z = wr := ⟨_, rfl⟩
      subst hW2
      go_loopw [9, 10, 11, 12, 13] (fun u9 u10 _ _ _ wv => ∃ j T : Nat, u9 = .int .u64 (T : Int) ∧ u10 = .int .i64 (j : Int) ∧ j ≤ r ∧ T ≤ 72 ∧ Hid (T = j * m) ∧ Hid (Lv w wv p (lineT m r j 1))) (fun _ u10 _ _ _ _ => r - (intOf u10).toNat)
      case atStart => exact ⟨0, 0, rfl, rfl, Nat.zero_le _, by omega, (Nat.zero_mul _).symm, HL⟩
      case round =>
        obtain ⟨j, T, rfl, rfl, hj, hT, HT, HJ⟩ := hrel
        by_cases hjr : j < r
        · have hjr' : (j : Int) < (r : Int) := by omega
          go_wp2
          obtain ⟨W3, hW3⟩ : ∃ z, z = wr := ⟨_, rfl⟩
          subst hW3
          go_loopw [9, 11, 12, 13] (fun u9 u11 _ _ wv => ∃ i T : Nat, u9 = .int .u64 (T : Int) ∧ u11 = .int .i64 ((i : Int) + 1) ∧ i ≤ m ∧ T ≤ 72 ∧ Hid (T = j * m + i) ∧ Hid (Lv w wv p (lineT m r j (i + 1)))) (fun _ u11 _ _ _ => m + 1 - (intOf u11).toNat)
          case atStart => exact ⟨0, T, rfl, rfl, Nat.zero_le _, hT, HT.out, HJ⟩
          case round =>
            obtain ⟨i, S, rfl, rfl, hi, hS, HS, HI⟩ := hrel
            by_cases him : i < m
            · have him' : (i : Int) + 1 ≤ (m : Int) := by omega
              have hN := HI.out.next ⟨#[113]⟩
              rw [nextV_some (turn_next1 m hk9 r hr9 j hjr i him)] at hN
              have t2 := turn_next2 m hk9 r hr9 j hjr i him
              have t3 := turn_next3 m hk9 r hr9 j hjr i him
              rw [← HS.out] at t2 t3
              have HTk : Hid (∀ V, Lv w V p (lineT m r j (i + 1)) → Calls Try.prog 20 #[.pointer (some ⟨p, 0, none⟩), .int .i64 ((i : Int) + 1), .int .u64 ((S : Int) + 1)] V fun e w' => e = .returned (.int .i64 0) ∧ Lv w w' p (lineT m r j (i + 2))) := fun V hV => by
                have h := hV.took ((i : Int) + 1) ((S : Int) + 1) ⟨by omega, by omega⟩ ⟨by omega, by omega⟩
                rw [show ((S : Int) + 1) = ((S + 1 : Nat) : Int) by omega, t2, t3] at h
                exact h
              have HS1 : Hid (S + 1 = j * m + (i + 1) ∧ S + 1 ≤ 72) := ⟨by rw [HS.out]; omega, by
                have h1 : j * m ≤ 7 * 8 := Nat.mul_le_mul (by omega) (by omega)
                have := HS.out
                omega⟩
              have hS1 : S + 1 ≤ 72 := HS1.out.2
              clear t2 t3
              rw [show (seatT m r (i + 1) j).c = (i : Int) + 1 by simp [seatT]] at hN
              go_wp2_with fail
              refine hN.mono ?_
              rintro e w4 ⟨rfl, _, h4⟩
              have hTk := HTk.out w4 h4
              clear hN h4
              go_wp2_with fail
              refine hTk.mono ?_
              rintro e w5 ⟨rfl, h5⟩
              have H5 : Hid (Lv w w5 p (lineT m r j (i + 2))) := h5
              clear hTk h5
              go_wp2
              go_roundw
              case rel => exact ⟨i + 1, S + 1, by go_num, by go_num, by omega, hS1, HS1.out.1, H5⟩
              case measure => simp [intOf]; omega
            · obtain rfl : i = m := by omega
              have him' : ¬ (i : Int) + 1 ≤ (i : Int) := by omega
              rw [turn_round] at HI
              have HE : Hid (S = (j + 1) * i) := by show S = (j + 1) * i; rw [HS.out, Nat.add_mul, Nat.one_mul]
              go_wp2
              go_roundw
              case rel => exact ⟨j + 1, S, rfl, by go_num, by omega, hS, HE, HI⟩
              case measure => simp [intOf]; omega
        · obtain rfl : j = r := by omega
          have hjr' : ¬ (j : Int) < (j : Int) := by omega
          have hN := HJ.out.next ⟨#[113]⟩
          rw [nextV_none (turn_over1 m hk9 j hr9)] at hN
          go_wp2_with fail
          refine hN.mono ?_
          rintro e w4 ⟨rfl, _, h4⟩
          have hD := h4.drop 1 ⟨by decide, by decide⟩ (fun s hs => sortsU_small (by have := turn_few (by omega) hs; omega))
          obtain ⟨o3, o4⟩ := turn_over3 m hk9 HB.out.1 j hr9
          rw [o4] at hD
          have o2 := turn_over2 m hk9 HB.out.1 j hr9
          clear h4 hN
          go_wp2_with fail
          refine hD.mono ?_
          rintro e w5 ⟨u, rfl, ht, h5⟩
          unfold TellS at ht
          rw [o2] at ht
          obtain ⟨v5, rfl, own5⟩ := ht
          obtain ⟨va, vc, hv⟩ := own1_slice own5
          rw [ucells_length, show (seatT m j 1 j).t.length = j by simp [seatT]] at hv
          subst hv
          obtain ⟨W6, fold⟩ : ∃ W, w5.alloc (.cells #[.string (seatT m j 1 j).q, .slice va j vc] 40) = W := ⟨_, rfl⟩
          have b6 : Below w5.heap.size w5 W6 := by rw [← fold]; exact (Below.refl _ w5).alloc (Nat.le_refl _) _
          have hC := (h5.go b6).clients
          have z1 : W6.cell? ⟨w5.heap.size, 1, none⟩ = some (.slice va j vc) := by rw [← fold]; simp [World.cell?_alloc_at]
          obtain ⟨n, hn⟩ : ∃ n, (cutC (lineT m j j 1) 1).length = n := ⟨_, rfl⟩
          rw [hn] at o3
          obtain rfl : m = n + 1 := o3.symm
          generalize (seatT (n + 1) j 1 j).q = qq at *
          have HCl : Hid ((icells (clientsL (cutC (lineT (n + 1) j j 1) 1))).length = n) := by
            show _ = n
            rw [icells_length, clientsL_len]; exact hn
          clear own5 hD o2 o4 h5 b6 hn o3
          go_wp2_with fail
          refine hC.mono ?_
          rintro e w7 ⟨v7, rfl, own7, _, h7⟩
          obtain ⟨va7, vc7, hv7⟩ := own1_slice own7
          rw [HCl.out] at hv7
          subst hv7
          have b7 := h7.bel
          clear hC own7 h7
          go_wp2_with fail
          refine (lives_any w7).mono ?_
          rintro e w8 ⟨rfl, b8⟩
          go_wp2
          go_ret
          exact ⟨rfl, b7.trans (b8.mono b7.size)⟩
end Go.Proofs.Ytooaiomghbjpiaa
