/-
  Onward, Rounds, by their contracts.
-/
import Derived.Test.YtcfagojkeholmaaTells2
namespace Go.Proofs.Ytcfagojkeholmaa
open Go.RowKit Go.Sort Go.Shelf

theorem farT_none {S H a x : Int} {l : List (Int × Int)} (h : ¬ (0 ≤ farT S l H a x ∧ farT S l H a x < H)) : onwardT S l H a x = [] := by rw [onwardT, if_neg h]

set_option maxRecDepth 20000 in
set_option maxHeartbeats 2000000 in
theorem onward_any (S H a x : Int) (v : Value) (l : List (Int × Int)) (w : World) (hr : RowOf ecells w v l) :
    Calls Try.prog 18 #[tv S v H, .int .i64 a, .int .i64 x] w fun e w' => ∃ v', e = .returned v' ∧ RowI w' w.heap.size v' (onwardT S l H a x) ∧ Below w.heap.size w w' := by
  obtain ⟨ad, cap, rfl⟩ := hr.slice
  have hF := fun W hW => far_any S H a x (.slice ad l.length cap) l W hW
  have hN : Hid _ := fun W hW => next_any S H x (.slice ad l.length cap) l W hW
  have hB0 : Hid (Boxed w ((w.alloc (.cells #[.int .i64 S, .slice ad l.length cap, .int .i64 H] 24)).alloc (.cells #[.int .i64 a] 3)) S (.slice ad l.length cap) H) := (boxed_new _ _ _ _).next ((Below.refl _ _).alloc (Nat.le_refl _) _) (by simp)
  have hO0 : Hid (((w.alloc (.cells #[.int .i64 S, .slice ad l.length cap, .int .i64 H] 24)).alloc (.cells #[.int .i64 a] 3)).cell? ⟨w.heap.size + 1, 0, none⟩ = some (.int .i64 a)) := by
    show World.cell? _ _ = _
    rw [World.cell?_alloc_at _ _ _ _ (by simp)]; rfl
  have HR : Hid (RowOf ecells w (.slice ad l.length cap) l) := hr
  clear hr
  have hrg := farT_range S l H a x
  have hq : Hid (∀ y, farT S l H a x = y → (¬ (0 ≤ y ∧ y < H) → onwardT S l H a x = []) ∧ (0 ≤ y ∧ y < H → onwardT S l H a x = (nextT S l H x).filter fun n => !(n == a))) := fun y hy => ⟨fun h => by rw [onwardT, hy, if_neg h], fun h => by rw [onwardT, hy, if_pos h]⟩
  generalize hd : farT S l H a x = d at *
  have hQ := hq.out d rfl
  have HQ : Hid ((¬ (0 ≤ d ∧ d < H) → onwardT S l H a x = []) ∧ (0 ≤ d ∧ d < H → onwardT S l H a x = (nextT S l H x).filter fun n => !(n == a))) := hQ
  clear hq hQ hd
  by_cases hin : 0 ≤ d ∧ d < H
  · have hn1 : ¬ d = -1 := by omega
    have hn2 : decide (H ≤ d) = false := decide_eq_false (by omega)
    go_enter Try.func18, Try.ntmps18
    go_wp2_with (first
      | (go_at_call 14; refine (hF _ (hB0.out.row HR.out)).mono ?_; rintro e w2 ⟨rfl, b2⟩; have hB1 : Hid (Boxed w w2 S (.slice ad l.length cap) H) := hB0.out.next b2 hB0.out.lt; have hO1 : Hid (w2.cell? ⟨w.heap.size + 1, 0, none⟩ = some (.int .i64 a)) := (b2.cell (p := ⟨w.heap.size + 1, 0, none⟩) (World.block_lt_of_cell? _ _ hO0.out)).trans hO0.out; have p0 := hB1.out.c0; have p1 := hB1.out.c1; have p2 := hB1.out.c2; clear b2)
      | (go_at_call 12; refine (hN.out _ (hB1.out.row HR.out)).mono ?_; rintro e w3 ⟨v3, rfl, r3, b3⟩; have hB2 : Hid (Boxed w w3 S (.slice ad l.length cap) H) := hB1.out.next b3 hB1.out.lt; have hO2 : Hid (w3.cell? ⟨w.heap.size + 1, 0, none⟩ = some (.int .i64 a)) := (b3.cell (p := ⟨w.heap.size + 1, 0, none⟩) (World.block_lt_of_cell? _ _ hO1.out)).trans hO1.out; have hlt : Hid (w.heap.size + 1 < w2.heap.size) := World.block_lt_of_cell? _ _ hO1.out; have hle : Hid (w2.heap.size ≤ w3.heap.size) := b3.size; clear p0 p1 p2 b3)
      | (go_at_call 27; refine (del_any _ _ _ _ a (w.heap.size + 1) r3 hle.out hlt.out hO2.out).mono ?_; rintro e w4 ⟨v4, rfl, r4, b4⟩))
    go_ret
    refine ⟨_, rfl, ?_, hB2.out.bel.trans (b4.mono (by have := hlt.out; omega))⟩
    rw [HQ.out.2 hin]
    exact r4.mono (by have := hlt.out; omega)
  · have hE := HQ.out.1 hin
    by_cases hn1 : d = -1
    · subst hn1
      go_enter Try.func18, Try.ntmps18
      go_wp2_with (go_at_call 14; refine (hF _ (hB0.out.row HR.out)).mono ?_; rintro e w2 ⟨rfl, b2⟩; have hB1 : Hid (Boxed w w2 S (.slice ad l.length cap) H) := hB0.out.next b2 hB0.out.lt; clear b2)
      go_ret
      exact ⟨_, rfl, .inl ⟨rfl, hE⟩, hB1.out.bel⟩
    · have hn2 : H ≤ d := by omega
      go_enter Try.func18, Try.ntmps18
      go_wp2_with (go_at_call 14; refine (hF _ (hB0.out.row HR.out)).mono ?_; rintro e w2 ⟨rfl, b2⟩; have hB1 : Hid (Boxed w w2 S (.slice ad l.length cap) H) := hB0.out.next b2 hB0.out.lt; have p2 := hB1.out.c2; clear b2)
      go_ret
      exact ⟨_, rfl, .inl ⟨rfl, hE⟩, hB1.out.bel⟩

/-- The greatest way of the first i sites. -/
def mostUpto (S : Int) (l : List (Int × Int)) (H : Int) (i : Nat) : Int := ((sites S).take i).foldl (fun m a => mostOf S l H m a (withinT S l H a)) 0
theorem sites_get (S : Int) (i : Nat) (hi : i < S.toNat) : ∃ h : i < (sites S).length, (sites S)[i] = (i : Int) + 1 := ⟨by simpa [sites] using hi, by simp [sites]⟩
theorem mostUpto_succ (S : Int) (l : List (Int × Int)) (H : Int) (i : Nat) (hi : i < S.toNat) : mostUpto S l H (i + 1) = mostOf S l H (mostUpto S l H i) ((i : Int) + 1) (withinT S l H ((i : Int) + 1)) := by
  obtain ⟨h, he⟩ := sites_get S i hi
  unfold mostUpto
  rw [List.take_succ_eq_append_getElem h, List.foldl_append, he]; rfl
theorem mostOf_succ (S : Int) (l : List (Int × Int)) (H m a : Int) (L : List Int) (j : Nat) (hj : j < L.length) : mostOf S l H m a (L.take (j + 1)) = max (mostOf S l H m a (L.take j)) (farT S l H a L[j]) := by
  unfold mostOf
  rw [List.take_succ_eq_append_getElem hj, List.foldl_append]; rfl

set_option maxRecDepth 20000 in
set_option maxHeartbeats 2000000 in
theorem rounds_any (S H : Int) (v : Value) (l : List (Int × Int)) (w : World) (hr : RowOf ecells w v l) :
    Calls Try.prog 20 #[tv S v H] w fun e w' => e = .returned (.int .i64 (roundsT S l H)) ∧ Below w.heap.size w w' := by
  obtain ⟨ad, cap, rfl⟩ := hr.slice
  have hG0 := fun W hW => good_any S H (.slice ad l.length cap) l W hW
  have hB0 : Hid (Boxed w (w.alloc (.cells #[.int .i64 S, .slice ad l.length cap, .int .i64 H] 24)) S (.slice ad l.length cap) H) := boxed_new _ _ _ _
  have HR : Hid (RowOf ecells w (.slice ad l.length cap) l) := hr
  clear hr
  by_cases hg : GoodT S l H
  · rw [goodB_true hg] at hG0
    have HE : Hid (roundsT S l H = mostUpto S l H S.toNat) := by
      show roundsT S l H = _
      rw [roundsT, if_pos hg, mostUpto, List.take_of_length_le (by simp [sites])]
    have s1 := hg.1.1
    have s2 := hg.1.2.1
    have HG : Hid (GoodT S l H) := hg
    clear hg
    go_enter Try.func20, Try.ntmps20
    go_wp2_with (go_at_call 9; refine (hG0 _ (hB0.out.row HR.out)).mono ?_; rintro e w2 ⟨rfl, b2⟩; have hB1 : Hid (Boxed w w2 S (.slice ad l.length cap) H) := hB0.out.next b2 hB0.out.lt; clear b2)
    clear hG0
    go_loopg [3, 4] S.toNat (fun g u3 u4 wr => ∃ (i : Nat) (m : Int), u4 = .int .i64 ((i : Int) + 1) ∧ (i : Int) ≤ S ∧ g = S.toNat - i ∧ u3 = .int .i64 m ∧ Hid (m = mostUpto S l H i) ∧ Hid (Boxed w wr S (.slice ad l.length cap) H))
    case atStart => exact ⟨0, 0, rfl, by omega, rfl, rfl, rfl, hB1⟩
    case round =>
      obtain ⟨i, m, rfl, hi, rfl, rfl, hm, hB⟩ := hrel
      clear hB0 hB1
      have p0 := hB.out.c0
      have p1 := hB.out.c1
      have p2 := hB.out.c2
      by_cases hlt2 : (i : Int) < S
      · have hlt : (i : Int) + 1 ≤ S := by omega
        have hW0 := fun W hW => within_any S H ((i : Int) + 1) (.slice ad l.length cap) l W hW
        have hWl := withinT_len S H ((i : Int) + 1) l s2
        have hnx : Hid (mostUpto S l H (i + 1) = mostOf S l H m ((i : Int) + 1) (withinT S l H ((i : Int) + 1))) := by
          show mostUpto S l H (i + 1) = _
          rw [mostUpto_succ _ _ _ _ (by omega), hm.out]
        clear hm
        generalize hL : withinT S l H ((i : Int) + 1) = L at *
        go_wp2_with (go_at_call 16; refine (hW0 _ (hB.out.row HR.out)).mono ?_; rintro e w3 ⟨v3, rfl, r3, b3⟩; have hB2 : Hid (Boxed w w3 S (.slice ad l.length cap) H) := hB.out.next b3 hB.out.lt; obtain ⟨va, vc, rfl⟩ := r3.slice; have hRow : Hid (Row w3 (.slice va L.length vc) (icells L)) := r3.row; have hle : Hid (wr.heap.size ≤ w3.heap.size) := b3.size; clear r3 b3)
        clear hW0 p0 p1 p2 hB
        go_loopg [3, 20] L.length (fun g u3 u20 wr => ∃ (j : Nat) (m' : Int), u20 = .int .i64 j ∧ j ≤ L.length ∧ g = L.length - j ∧ u3 = .int .i64 m' ∧ Hid (m' = mostOf S l H m ((i : Int) + 1) (L.take j)) ∧ Hid (Boxed w wr S (.slice ad l.length cap) H) ∧ Hid (Row wr (.slice va L.length vc) (icells L)))
        case atStart => exact ⟨0, m, rfl, Nat.zero_le _, rfl, rfl, rfl, hB2, hRow⟩
        case round =>
          obtain ⟨j, m', rfl, hj, rfl, rfl, hm', hB, hRw⟩ := hrel
          clear hB2 hRow
          by_cases hlt3 : j < L.length
          · have hlt4 : (j : Int) < (L.length : Int) := by omega
            obtain ⟨rb, ro, rc, hv, _, _, hcell⟩ := hRw.out.atInts (by omega)
            have hcj := hcell j hlt3
            injection hv with hv1 _ hv3
            subst hv1 hv3
            have hnx2 : Hid (mostOf S l H m ((i : Int) + 1) (L.take (j + 1)) = max m' (farT S l H ((i : Int) + 1) L[j])) := by
              show mostOf S l H m ((i : Int) + 1) (L.take (j + 1)) = _
              rw [mostOf_succ _ _ _ _ _ _ _ hlt3, ← hm'.out]
            clear hcell hm'
            generalize L[j] = x at *
            have hF := fun W hW => far_any S H ((i : Int) + 1) x (.slice ad l.length cap) l W hW
            generalize farT S l H ((i : Int) + 1) x = y at *
            have p0 := hB.out.c0
            have p1 := hB.out.c1
            have p2 := hB.out.c2
            go_wp2_with (go_at_call 14; refine (hF _ (hB.out.row HR.out)).mono ?_; rintro e w4 ⟨rfl, b4⟩; have hB3 : Hid (Boxed w w4 S (.slice ad l.length cap) H) := hB.out.next b4 hB.out.lt; have hRw4 : Hid (Row w4 (.slice (some ⟨rb, ro, none⟩) L.length vc) (icells L)) := hRw.out.below b4 (Nat.le_refl _); clear b4)
            go_roundg (L.length - (j + 1))
            case measure => omega
            case rel => exact ⟨j + 1, max m' y, by go_num, by omega, rfl, rfl, hnx2.out.symm, hB3, hRw4⟩
          · obtain rfl : j = L.length := by omega
            go_wp2
            go_roundg (S.toNat - (i + 1))
            case measure => omega
            case rel =>
              refine ⟨i + 1, m', by go_num, by omega, rfl, rfl, ?_, hB⟩
              show m' = _
              rw [hnx.out, hm'.out, List.take_length]
      · have hlt : ¬ (i : Int) + 1 ≤ S := by omega
        go_wp2
        go_ret
        have : i = S.toNat := by omega
        subst this
        exact ⟨ret_int (by rw [HE.out, hm.out]), hB.out.bel⟩
  · rw [goodB_false hg] at hG0
    have hE : roundsT S l H = 0 := by rw [roundsT, if_neg hg]
    go_enter Try.func20, Try.ntmps20
    go_wp2_with (go_at_call 9; refine (hG0 _ (hB0.out.row HR.out)).mono ?_; rintro e w2 ⟨rfl, b2⟩; have hB1 : Hid (Boxed w w2 S (.slice ad l.length cap) H) := hB0.out.next b2 hB0.out.lt; clear b2)
    go_ret
    exact ⟨ret_int hE.symm, hB1.out.bel⟩
end Go.Proofs.Ytcfagojkeholmaa
