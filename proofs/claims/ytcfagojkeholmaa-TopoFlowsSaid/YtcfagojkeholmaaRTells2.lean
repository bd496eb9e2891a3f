/-
  THE DOCUMENT's Onward and Rounds, by their contracts.
-/
import Derived.Test.YtcfagojkeholmaaRTells
namespace Go.Proofs.Ytcfagojkeholmaa
open Go.RowKit Go.Sort Go.Shelf

theorem nextT_len (S H a : Int) (l : List (Int × Int)) : (nextT S l H a).length ≤ 8 := by
  unfold nextT
  split
  · rename_i hg
    have := hg.1
    unfold nextL
    refine Nat.le_trans (List.length_filter_le _ _) ?_
    simp [sites]; omega
  · simp

set_option maxRecDepth 20000 in
set_option maxHeartbeats 2000000 in
theorem ronward_any (S H a x : Int) (v : Value) (l : List (Int × Int)) (w : World) (hr : RowOf ecells w v l) :
    Calls Try.prog 19 #[tv S v H, .int .i64 a, .int .i64 x] w fun e w' => ∃ v', e = .returned v' ∧ RowI w' w.heap.size v' (onwardT S l H a x) ∧ Below w.heap.size w w' := by
  obtain ⟨ad, cap, rfl⟩ := hr.slice
  have hF := fun W hW => rfar_any S H a x (.slice ad l.length cap) l W hW
  have hB0 : Hid (Boxed w (w.alloc (.cells #[.int .i64 S, .slice ad l.length cap, .int .i64 H] 24)) S (.slice ad l.length cap) H) := boxed_new _ _ _ _
  have HR : Hid (RowOf ecells w (.slice ad l.length cap) l) := hr
  clear hr
  have hq : Hid (∀ y, farT S l H a x = y → (¬ (0 ≤ y ∧ y < H) → onwardT S l H a x = []) ∧ (0 ≤ y ∧ y < H → onwardT S l H a x = (nextT S l H x).filter fun n => !(n == a))) := fun y hy => ⟨fun h => by rw [onwardT, hy, if_neg h], fun h => by rw [onwardT, hy, if_pos h]⟩
  generalize hd : farT S l H a x = d at *
  have HQ : Hid ((¬ (0 ≤ d ∧ d < H) → onwardT S l H a x = []) ∧ (0 ≤ d ∧ d < H → onwardT S l H a x = (nextT S l H x).filter fun n => !(n == a))) := hq.out d rfl
  clear hq hd
  by_cases hin : 0 ≤ d ∧ d < H
  · have hE : Hid (onwardT S l H a x = (nextT S l H x).filter fun n => !(n == a)) := HQ.out.2 hin
    have hn1 : decide (d < 0) = false := decide_eq_false (by omega)
    have hn2 : decide (H ≤ d) = false := decide_eq_false (by omega)
    have hN := fun W hW => rnext_any S H x (.slice ad l.length cap) l W hW
    have hNl := nextT_len S H x l
    generalize nextT S l H x = L at *
    clear hin HQ
    go_enter Try.func19, Try.ntmps19
    go_wp2_with (first
      | (go_at_call 15; refine (hF _ (hB0.out.row HR.out)).mono ?_; rintro e w2 ⟨rfl, b2⟩; have hB1 : Hid (Boxed w w2 S (.slice ad l.length cap) H) := hB0.out.next b2 hB0.out.lt; have p0 := hB1.out.c0; have p1 := hB1.out.c1; have p2 := hB1.out.c2; clear b2)
      | (go_at_call 13; refine (hN _ (hB1.out.row HR.out)).mono ?_; rintro e w3 ⟨v3, rfl, r3, b3⟩; have hB2 : Hid (Boxed w w3 S (.slice ad l.length cap) H) := hB1.out.next b3 hB1.out.lt; obtain ⟨va, vc, rfl⟩ := r3.slice; have hRow : Hid (Row w3 (.slice va L.length vc) (icells L)) := r3.row; clear p0 p1 p2 b3 r3))
    clear hF hN hB0 hB1
    have hlt0 : Hid (w.heap.size < w3.heap.size) := hB2.out.lt
    go_loopg [8, 27] L.length (fun gg u8 u27 wr => ∃ k : Nat, u27 = .int .i64 k ∧ k ≤ L.length ∧ gg = L.length - k ∧ Hid (Own1 wr w3.heap.size 3 u8 (icells ((L.take k).filter fun n => !(n == a)))) ∧ Hid (Boxed w wr S (.slice ad l.length cap) H) ∧ Hid (Below w3.heap.size w3 wr))
    case atStart => exact ⟨0, rfl, Nat.zero_le _, rfl, own1_nil _ _ _, hB2, Below.refl _ _⟩
    case round =>
      obtain ⟨k, rfl, hk, rfl, hO, hB, hbl⟩ := hrel
      clear hB2
      by_cases hlt2 : k < L.length
      · have hlt : (k : Int) < (L.length : Int) := by omega
        obtain ⟨rb, ro, rc, hv, _, _, hcell⟩ := (hRow.out.below hbl.out (Nat.le_refl _)).atInts (by omega)
        have hcj := hcell k hlt2
        injection hv with hv1 _ hv3
        subst hv1 hv3
        have hx : Hid ((L.take (k + 1)).filter (fun n => !(n == a)) = (L.take k).filter (fun n => !(n == a)) ++ if L[k] = a then [] else [L[k]]) := by
          show (L.take (k + 1)).filter (fun n => !(n == a)) = _
          rw [List.take_succ_eq_append_getElem hlt2, List.filter_append]
          congr 1
          by_cases h : L[k] = a
          · rw [if_pos h]; simp [h]
          · rw [if_neg h]; simp [h]
        have hlen : ((L.take k).filter fun n => !(n == a)).length ≤ k := Nat.le_trans (List.length_filter_le _ _) (by simp; omega)
        clear hcell hRow
        generalize L[k] = y at *
        generalize ((L.take k).filter fun n => !(n == a)) = out at *
        obtain ⟨oa, oc, rfl⟩ : ∃ oa oc, u8 = .slice oa out.length oc := by
          obtain ⟨oa, oc, h⟩ := hO.out.row.sliceInts; exact ⟨oa, oc, h⟩
        have HS : Hid (w3.heap.size ≤ wr.heap.size) := hbl.out.size
        by_cases hya : y = a
        · rw [if_pos hya, List.append_nil] at hx
          subst hya
          go_wp2
          go_roundg (L.length - (k + 1))
          case measure => omega
          case rel => exact ⟨k + 1, by go_num, by omega, rfl, by rw [hx.out]; exact hO, hB, hbl⟩
        · rw [if_neg hya] at hx
          go_wp2_with (at_builtin; refine wpList_append_row rfl _ _ 28 3 (.int .i64 0) 8 isI rfl w3.heap.size _ _ (icells out) [.int .i64 y] rfl rfl (World.ownsRow.alloc hO.out _) (row_one' _ _ _ _ (by simp)) (by simp [Value.oneCell']) (by rw [icells_length]; simp; omega) (by rw [icells_length]; simp; omega) (by have := HS.out; simp; omega) ?_; intro v' w4 hown' hb4 hs4)
          go_roundg (L.length - (k + 1))
          case measure => omega
          case rel =>
            have hb5 := ((Below.refl w3.heap.size wr).alloc HS.out (.cells #[.int .i64 y] 3)).trans hb4
            refine ⟨k + 1, by go_num, by omega, rfl, ?_, hB.out.next hb5 hlt0.out, hbl.out.trans hb5⟩
            rw [hx.out, icells_append]
            exact hown'
      · obtain rfl : k = L.length := by omega
        go_wp2
        go_ret
        have hR := rowI_of_own hO.out
        rw [List.take_length, ← hE.out] at hR
        exact ⟨_, rfl, hR.mono (Nat.le_of_lt hlt0.out), hB.out.bel⟩
  · have hE : Hid (onwardT S l H a x = []) := HQ.out.1 hin
    clear HQ
    rcases (by omega : d < 0 ∨ (0 ≤ d ∧ H ≤ d)) with h0 | ⟨h0, h1⟩
    · go_enter Try.func19, Try.ntmps19
      go_wp2_with (go_at_call 15; refine (hF _ (hB0.out.row HR.out)).mono ?_; rintro e w2 ⟨rfl, b2⟩; have hB1 : Hid (Boxed w w2 S (.slice ad l.length cap) H) := hB0.out.next b2 hB0.out.lt; have p2 := hB1.out.c2; clear b2)
      go_ret
      exact ⟨_, rfl, .inl ⟨rfl, hE.out⟩, hB1.out.bel⟩
    · have hn1 : decide (d < 0) = false := decide_eq_false (by omega)
      go_enter Try.func19, Try.ntmps19
      go_wp2_with (go_at_call 15; refine (hF _ (hB0.out.row HR.out)).mono ?_; rintro e w2 ⟨rfl, b2⟩; have hB1 : Hid (Boxed w w2 S (.slice ad l.length cap) H) := hB0.out.next b2 hB0.out.lt; have p2 := hB1.out.c2; clear b2)
      go_ret
      exact ⟨_, rfl, .inl ⟨rfl, hE.out⟩, hB1.out.bel⟩

set_option maxRecDepth 20000 in
set_option maxHeartbeats 2000000 in
theorem rrounds_any (S H : Int) (v : Value) (l : List (Int × Int)) (w : World) (hr : RowOf ecells w v l) :
    Calls Try.prog 21 #[tv S v H] w fun e w' => e = .returned (.int .i64 (roundsT S l H)) ∧ Below w.heap.size w w' := by
  obtain ⟨ad, cap, rfl⟩ := hr.slice
  have hG0 := fun W hW => rgood_any S H (.slice ad l.length cap) l W hW
  have hB0 : Hid (Boxed w (w.alloc (.cells #[.int .i64 S, .slice ad l.length cap, .int .i64 H] 24)) S (.slice ad l.length cap) H) := boxed_new _ _ _ _
  have HR : Hid (RowOf ecells w (.slice ad l.length cap) l) := hr
  clear hr
  by_cases hg : GoodT S l H
  · rw [goodB_true hg] at hG0
    have HE : Hid (roundsT S l H = mostUpto S l H S.toNat) := by
      show roundsT S l H = _
      rw [roundsT, if_pos hg, mostUpto, List.take_of_length_le (by simp [sites])]
    have s1 := hg.1.1
    have s2 := hg.1.2.1
    have HG : Hid (GoodT S l H) := hg
    clear hg
    go_enter Try.func21, Try.ntmps21
    go_wp2
    go_loopg [3, 4] S.toNat (fun g u3 u4 wr => ∃ (i : Nat) (m : Int), u4 = .int .i64 ((i : Int) + 1) ∧ (i : Int) ≤ S ∧ g = S.toNat - i ∧ u3 = .int .i64 m ∧ Hid (m = mostUpto S l H i) ∧ Hid (Boxed w wr S (.slice ad l.length cap) H))
    case atStart => exact ⟨0, 0, rfl, by omega, rfl, rfl, rfl, hB0⟩
    case round =>
      obtain ⟨i, m, rfl, hi, rfl, rfl, hm, hB⟩ := hrel
      clear hB0
      have p0 := hB.out.c0
      have p1 := hB.out.c1
      have p2 := hB.out.c2
      by_cases hlt2 : (i : Int) < S
      · have hlt : (i : Int) + 1 ≤ S := by omega
        have hW0 := fun W hW => rwithin_any S H ((i : Int) + 1) (.slice ad l.length cap) l W hW
        have hWl := withinT_len S H ((i : Int) + 1) l s2
        have hnx : Hid (mostUpto S l H (i + 1) = mostOf S l H m ((i : Int) + 1) (withinT S l H ((i : Int) + 1))) := by
          show mostUpto S l H (i + 1) = _
          rw [mostUpto_succ _ _ _ _ (by omega), hm.out]
        clear hm
        generalize hL : withinT S l H ((i : Int) + 1) = L at *
        go_wp2_with (first
          | (go_at_call 10; refine (hG0 _ (hB.out.row HR.out)).mono ?_; rintro e w2 ⟨rfl, b2⟩; have hB1 : Hid (Boxed w w2 S (.slice ad l.length cap) H) := hB.out.next b2 hB.out.lt; clear p0 p1 p2 b2; have p0 := hB1.out.c0; have p1 := hB1.out.c1; have p2 := hB1.out.c2)
          | (go_at_call 17; refine (hW0 _ (hB1.out.row HR.out)).mono ?_; rintro e w3 ⟨v3, rfl, r3, b3⟩; have hB2 : Hid (Boxed w w3 S (.slice ad l.length cap) H) := hB1.out.next b3 hB1.out.lt; obtain ⟨va, vc, rfl⟩ := r3.slice; have hRow : Hid (Row w3 (.slice va L.length vc) (icells L)) := r3.row; clear r3 b3))
        clear hW0 p0 p1 p2 hB hB1
        go_loopg [3, 22] L.length (fun g u3 u22 wr => ∃ (j : Nat) (m' : Int), u22 = .int .i64 j ∧ j ≤ L.length ∧ g = L.length - j ∧ u3 = .int .i64 m' ∧ Hid (m' = mostOf S l H m ((i : Int) + 1) (L.take j)) ∧ Hid (Boxed w wr S (.slice ad l.length cap) H) ∧ Hid (Row wr (.slice va L.length vc) (icells L)))
        case atStart => exact ⟨0, m, rfl, Nat.zero_le _, rfl, rfl, rfl, hB2, hRow⟩
        case round =>
          obtain ⟨j, m', rfl, hj, rfl, rfl, hm', hB, hRw⟩ := hrel
          clear hB2 hRow
          by_cases hlt3 : j < L.length
          · have hlt4 : (j : Int) < (L.length : Int) := by omega
            obtain ⟨rb, ro, rc, hv, _, _, hcell⟩ := hRw.out.atInts (by omega)
            have hcj := hcell j hlt3
            injection hv with hv1 _ hv3
            subst hv1 hv3
            have hnx2 : Hid (mostOf S l H m ((i : Int) + 1) (L.take (j + 1)) = max m' (farT S l H ((i : Int) + 1) L[j])) := by
              show mostOf S l H m ((i : Int) + 1) (L.take (j + 1)) = _
              rw [mostOf_succ _ _ _ _ _ _ _ hlt3, ← hm'.out]
            clear hcell hm'
            generalize L[j] = x at *
            have hF := fun W hW => rfar_any S H ((i : Int) + 1) x (.slice ad l.length cap) l W hW
            generalize farT S l H ((i : Int) + 1) x = y at *
            have p0 := hB.out.c0
            have p1 := hB.out.c1
            have p2 := hB.out.c2
            by_cases hym : m' < y
            · go_wp2_with (go_at_call 15; refine (hF _ (hB.out.row HR.out)).mono ?_; rintro e w4 ⟨rfl, b4⟩; have hB3 : Hid (Boxed w w4 S (.slice ad l.length cap) H) := hB.out.next b4 hB.out.lt; have hRw4 : Hid (Row w4 (.slice (some ⟨rb, ro, none⟩) L.length vc) (icells L)) := hRw.out.below b4 (Nat.le_refl _); clear b4)
              go_roundg (L.length - (j + 1))
              case measure => omega
              case rel => exact ⟨j + 1, y, by go_num, by omega, rfl, rfl, by (show y = _); rw [hnx2.out]; omega, hB3, hRw4⟩
            · go_wp2_with (go_at_call 15; refine (hF _ (hB.out.row HR.out)).mono ?_; rintro e w4 ⟨rfl, b4⟩; have hB3 : Hid (Boxed w w4 S (.slice ad l.length cap) H) := hB.out.next b4 hB.out.lt; have hRw4 : Hid (Row w4 (.slice (some ⟨rb, ro, none⟩) L.length vc) (icells L)) := hRw.out.below b4 (Nat.le_refl _); clear b4)
              go_roundg (L.length - (j + 1))
              case measure => omega
              case rel => exact ⟨j + 1, m', by go_num, by omega, rfl, rfl, by (show m' = _); rw [hnx2.out]; omega, hB3, hRw4⟩
          · obtain rfl : j = L.length := by omega
            go_wp2
            go_roundg (S.toNat - (i + 1))
            case measure => omega
            case rel =>
              refine ⟨i + 1, m', by go_num, by omega, rfl, rfl, ?_, hB⟩
              show m' = _
              rw [hnx.out, hm'.out, List.take_length]
      · have hlt : ¬ (i : Int) + 1 ≤ S := by omega
        go_wp2_with (go_at_call 10; refine (hG0 _ (hB.out.row HR.out)).mono ?_; rintro e w2 ⟨rfl, b2⟩; have hB1 : Hid (Boxed w w2 S (.slice ad l.length cap) H) := hB.out.next b2 hB.out.lt; clear p0 p1 p2 b2; have p0 := hB1.out.c0; have p1 := hB1.out.c1; have p2 := hB1.out.c2)
        go_ret
        have : i = S.toNat := by omega
        subst this
        exact ⟨ret_int (by rw [HE.out, hm.out]), hB1.out.bel⟩
  · rw [goodB_false hg] at hG0
    have hE : Hid (roundsT S l H = 0) := by show roundsT S l H = 0; rw [roundsT, if_neg hg]
    go_enter Try.func21, Try.ntmps21
    go_wp2
    go_loopg [3, 4] 0 (fun gg u3 u4 wr => u3 = .int .i64 0 ∧ u4 = .int .i64 1 ∧ Hid (Boxed w wr S (.slice ad l.length cap) H))
    case atStart => exact ⟨rfl, rfl, hB0⟩
    case round =>
      obtain ⟨rfl, rfl, hB⟩ := hrel
      have p0 := hB.out.c0
      have p1 := hB.out.c1
      have p2 := hB.out.c2
      go_wp2_with (go_at_call 10; refine (hG0 _ (hB.out.row HR.out)).mono ?_; rintro e w2 ⟨rfl, b2⟩; have hB1 : Hid (Boxed w w2 S (.slice ad l.length cap) H) := hB.out.next b2 hB.out.lt; clear b2)
      go_ret
      exact ⟨ret_int hE.out.symm, hB1.out.bel⟩
end Go.Proofs.Ytcfagojkeholmaa
