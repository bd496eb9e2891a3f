/-
  THE DOCUMENT's Next, Within, Onward, Rounds, by their contracts.
-/
import Derived.Test.YtcfagojkeholmaaRFar
namespace Go.Proofs.Ytcfagojkeholmaa
open Go.RowKit Go.Sort Go.Shelf

theorem ownI_next {w w' : World} {base : Nat} {v : Value} {cs : List Value} (h : Own1 w base 3 v cs) (hb : Below w.heap.size w w') : Own1 w' base 3 v cs := by
  refine ⟨h.1, ?_⟩
  rcases h.2 with hn | ⟨g, cap, cur, hv, hbg, hg, rest⟩
  · exact .inl hn
  · exact .inr ⟨g, cap, cur, hv, hbg, by rw [hb.block _ (Array.getElem?_eq_some_iff.1 hg).1]; exact hg, rest⟩
/-- Of the first k sites those of which p holds. -/
def firsts (p : Int → Bool) (k : Nat) : List Int := ((List.range k).map fun i : Nat => (i : Int) + 1).filter p
theorem firsts_succ (p : Int → Bool) (k : Nat) : firsts p (k + 1) = firsts p k ++ if p ((k : Int) + 1) = true then [(k : Int) + 1] else [] := by
  unfold firsts
  rw [List.range_succ, List.map_append, List.filter_append]
  congr 1
  cases h : p ((k : Int) + 1) <;> simp [h]
theorem firsts_len (p : Int → Bool) (k : Nat) : (firsts p k).length ≤ k := by
  unfold firsts
  refine Nat.le_trans (List.length_filter_le _ _) ?_
  simp

set_option maxRecDepth 20000 in
set_option maxHeartbeats 2000000 in
theorem rnext_any (S H a : Int) (v : Value) (l : List (Int × Int)) (w : World) (hr : RowOf ecells w v l) :
    Calls Try.prog 13 #[tv S v H, .int .i64 a] w fun e w' => ∃ v', e = .returned v' ∧ RowI w' w.heap.size v' (nextT S l H a) ∧ Below w.heap.size w w' := by
  obtain ⟨ad, cap, rfl⟩ := hr.slice
  have hG0 := fun W hW => rgood_any S H (.slice ad l.length cap) l W hW
  have hB0 : Hid (Boxed w (w.alloc (.cells #[.int .i64 S, .slice ad l.length cap, .int .i64 H] 24)) S (.slice ad l.length cap) H) := boxed_new _ _ _ _
  have HR : Hid (RowOf ecells w (.slice ad l.length cap) l) := hr
  clear hr
  by_cases hg : GoodT S l H
  · rw [goodB_true hg] at hG0
    have HG : Hid (GoodT S l H) := hg
    have s8 : S ≤ 8 := hg.1.2.1
    have s1 : 1 ≤ S := hg.1.1
    have hend : Hid (nextT S l H a = firsts (fun n => l.contains (a, n)) S.toNat) := by show nextT S l H a = _; rw [nextT, if_pos hg]; rfl
    clear hg
    go_enter Try.func13, Try.ntmps13
    go_wp2
    go_loopg [5, 6] S.toNat (fun gg u5 u6 wr => ∃ k : Nat, u6 = .int .i64 ((k : Int) + 1) ∧ (k : Int) ≤ S ∧ gg = S.toNat - k ∧ Hid (Own1 wr (w.heap.size + 1) 3 u5 (icells (firsts (fun n => l.contains (a, n)) k))) ∧ Hid (Boxed w wr S (.slice ad l.length cap) H))
    case atStart => exact ⟨0, rfl, by omega, rfl, own1_nil _ _ _, hB0⟩
    case round =>
      obtain ⟨k, rfl, hk, rfl, hO, hB⟩ := hrel
      clear hB0
      have p0 := hB.out.c0
      have p1 := hB.out.c1
      have p2 := hB.out.c2
      by_cases hlt2 : (k : Int) < S
      · have k9 : (k : Int) + 1 ≤ S := by omega
        have hx : Hid (firsts (fun n => l.contains (a, n)) (k + 1) = firsts (fun n => l.contains (a, n)) k ++ if l.contains (a, (k : Int) + 1) = true then [(k : Int) + 1] else []) := firsts_succ _ _
        have hlen := firsts_len (fun n => l.contains (a, n)) k
        have hED := fun W hW => redge_any S H a ((k : Int) + 1) (.slice ad l.length cap) l W hW
        generalize hout : firsts (fun n => l.contains (a, n)) k = out at *
        obtain ⟨oa, oc, rfl⟩ : ∃ oa oc, u5 = .slice oa out.length oc := by
          obtain ⟨oa, oc, h⟩ := hO.out.row.sliceInts; exact ⟨oa, oc, h⟩
        cases hc : l.contains (a, (k : Int) + 1)
        · rw [hc] at hx hED
          rw [if_neg (by simp), List.append_nil] at hx
          go_wp2_with (first
            | (go_at_call 10; refine (hG0 _ (hB.out.row HR.out)).mono ?_; rintro e w2 ⟨rfl, b2⟩; have hB1 : Hid (Boxed w w2 S (.slice ad l.length cap) H) := hB.out.next b2 hB.out.lt; have hO1 : Hid (Own1 w2 (w.heap.size + 1) 3 (.slice oa out.length oc) (icells out)) := ownI_next hO.out b2; clear p0 p1 p2 b2; have p0 := hB1.out.c0; have p1 := hB1.out.c1; have p2 := hB1.out.c2)
            | (go_at_call 25; refine (hED _ (hB1.out.row HR.out)).mono ?_; rintro e w3 ⟨rfl, b3⟩; have hB2 : Hid (Boxed w w3 S (.slice ad l.length cap) H) := hB1.out.next b3 hB1.out.lt; have hO2 : Hid (Own1 w3 (w.heap.size + 1) 3 (.slice oa out.length oc) (icells out)) := ownI_next hO1.out b3; clear b3))
          go_roundg (S.toNat - (k + 1))
          case measure => omega
          case rel => exact ⟨k + 1, by go_num, by omega, rfl, by rw [hx.out]; exact hO2, hB2⟩
        · rw [hc] at hx hED
          rw [if_pos rfl] at hx
          go_wp2_with (first
            | (go_at_call 10; refine (hG0 _ (hB.out.row HR.out)).mono ?_; rintro e w2 ⟨rfl, b2⟩; have hB1 : Hid (Boxed w w2 S (.slice ad l.length cap) H) := hB.out.next b2 hB.out.lt; have hO1 : Hid (Own1 w2 (w.heap.size + 1) 3 (.slice oa out.length oc) (icells out)) := ownI_next hO.out b2; clear p0 p1 p2 b2; have p0 := hB1.out.c0; have p1 := hB1.out.c1; have p2 := hB1.out.c2)
            | (go_at_call 25; refine (hED _ (hB1.out.row HR.out)).mono ?_; rintro e w3 ⟨rfl, b3⟩; have hB2 : Hid (Boxed w w3 S (.slice ad l.length cap) H) := hB1.out.next b3 hB1.out.lt; have hO2 : Hid (Own1 w3 (w.heap.size + 1) 3 (.slice oa out.length oc) (icells out)) := ownI_next hO1.out b3; have HS : Hid (w.heap.size < w3.heap.size) := hB2.out.lt; clear b3)
            | (at_builtin; refine wpList_append_row rfl _ _ 28 3 (.int .i64 0) 8 isI rfl (w.heap.size + 1) _ _ (icells out) [.int .i64 ((k : Int) + 1)] rfl rfl (World.ownsRow.alloc hO2.out _) (row_one' _ _ _ _ (by simp)) (by simp [Value.oneCell']) (by rw [icells_length]; simp; omega) (by rw [icells_length]; simp; omega) (by have := HS.out; simp; omega) ?_; intro v' w4 hown' hb4 hs4))
          go_roundg (S.toNat - (k + 1))
          case measure => omega
          case rel =>
            refine ⟨k + 1, by go_num, by omega, rfl, ?_, hB2.out.next (((Below.refl (w.heap.size + 1) w3).alloc HS.out _).trans hb4) (Nat.lt_succ_self _)⟩
            rw [hx.out, icells_append]
            exact hown'
      · obtain rfl : k = S.toNat := by omega
        have hkS : ¬ ((S.toNat : Nat) : Int) + 1 ≤ S := by omega
        have hR := rowI_of_own hO.out
        have HRW : Hid (RowI wr (w.heap.size + 1) u5 (nextT S l H a)) := by rw [← hend.out] at hR; exact hR
        obtain ⟨oa, on, oc, rfl⟩ : ∃ oa on oc, u5 = .slice oa on oc := by
          obtain ⟨oa, oc, h⟩ := hR.slice; exact ⟨oa, _, oc, h⟩
        clear hR hO
        go_wp2_with (go_at_call 10; refine (hG0 _ (hB.out.row HR.out)).mono ?_; rintro e w2 ⟨rfl, b2⟩; have hB1 : Hid (Boxed w w2 S (.slice ad l.length cap) H) := hB.out.next b2 hB.out.lt; have hO1 : Hid (RowI w2 (w.heap.size + 1) _ (nextT S l H a)) := HRW.out.below b2 (Nat.le_refl _); clear p0 p1 p2 b2; have p0 := hB1.out.c0; have p1 := hB1.out.c1; have p2 := hB1.out.c2)
        go_ret
        exact ⟨_, rfl, hO1.out.mono (Nat.le_succ _), hB1.out.bel⟩
  · rw [goodB_false hg] at hG0
    have hE : Hid (nextT S l H a = []) := by show nextT S l H a = _; rw [nextT, if_neg hg]
    go_enter Try.func13, Try.ntmps13
    go_wp2
    go_loopg [5, 6] 0 (fun gg u5 u6 wr => u5 = .slice none 0 0 ∧ u6 = .int .i64 1 ∧ Hid (Boxed w wr S (.slice ad l.length cap) H))
    case atStart => exact ⟨rfl, rfl, hB0⟩
    case round =>
      obtain ⟨rfl, rfl, hB⟩ := hrel
      have p0 := hB.out.c0
      have p1 := hB.out.c1
      have p2 := hB.out.c2
      go_wp2_with (go_at_call 10; refine (hG0 _ (hB.out.row HR.out)).mono ?_; rintro e w2 ⟨rfl, b2⟩; have hB1 : Hid (Boxed w w2 S (.slice ad l.length cap) H) := hB.out.next b2 hB.out.lt; clear b2)
      go_ret
      exact ⟨_, rfl, .inl ⟨rfl, hE.out⟩, hB1.out.bel⟩
set_option maxRecDepth 20000 in
set_option maxHeartbeats 2000000 in
theorem rwithin_any (S H a : Int) (v : Value) (l : List (Int × Int)) (w : World) (hr : RowOf ecells w v l) :
    Calls Try.prog 17 #[tv S v H, .int .i64 a] w fun e w' => ∃ v', e = .returned v' ∧ RowI w' w.heap.size v' (withinT S l H a) ∧ Below w.heap.size w w' := by
  obtain ⟨ad, cap, rfl⟩ := hr.slice
  have hG0 := fun W hW => rgood_any S H (.slice ad l.length cap) l W hW
  have hB0 : Hid (Boxed w (w.alloc (.cells #[.int .i64 S, .slice ad l.length cap, .int .i64 H] 24)) S (.slice ad l.length cap) H) := boxed_new _ _ _ _
  have HR : Hid (RowOf ecells w (.slice ad l.length cap) l) := hr
  clear hr
  by_cases hg : GoodT S l H
  · rw [goodB_true hg] at hG0
    have HG : Hid (GoodT S l H) := hg
    have s8 : S ≤ 8 := hg.1.2.1
    have s1 : 1 ≤ S := hg.1.1
    have hend : Hid (withinT S l H a = firsts (fun n => decide (0 ≤ farT S l H a n ∧ farT S l H a n ≤ H)) S.toNat) := by rfl
    clear hg
    go_enter Try.func17, Try.ntmps17
    go_wp2
    go_loopg [5, 6] S.toNat (fun gg u5 u6 wr => ∃ k : Nat, u6 = .int .i64 ((k : Int) + 1) ∧ (k : Int) ≤ S ∧ gg = S.toNat - k ∧ Hid (Own1 wr (w.heap.size + 1) 3 u5 (icells (firsts (fun n => decide (0 ≤ farT S l H a n ∧ farT S l H a n ≤ H)) k))) ∧ Hid (Boxed w wr S (.slice ad l.length cap) H))
    case atStart => exact ⟨0, rfl, by omega, rfl, own1_nil _ _ _, hB0⟩
    case round =>
      obtain ⟨k, rfl, hk, rfl, hO, hB⟩ := hrel
      clear hB0
      have p0 := hB.out.c0
      have p1 := hB.out.c1
      have p2 := hB.out.c2
      by_cases hlt2 : (k : Int) < S
      · have k9 : (k : Int) + 1 ≤ S := by omega
        have hx : Hid (firsts (fun n => decide (0 ≤ farT S l H a n ∧ farT S l H a n ≤ H)) (k + 1) = firsts (fun n => decide (0 ≤ farT S l H a n ∧ farT S l H a n ≤ H)) k ++ if decide (0 ≤ farT S l H a ((k : Int) + 1) ∧ farT S l H a ((k : Int) + 1) ≤ H) = true then [(k : Int) + 1] else []) := firsts_succ _ _
        have hlen := firsts_len (fun n => decide (0 ≤ farT S l H a n ∧ farT S l H a n ≤ H)) k
        have hED := fun W hW => rfar_any S H a ((k : Int) + 1) (.slice ad l.length cap) l W hW
        generalize hout : firsts (fun n => decide (0 ≤ farT S l H a n ∧ farT S l H a n ≤ H)) k = out at *
        obtain ⟨oa, oc, rfl⟩ : ∃ oa oc, u5 = .slice oa out.length oc := by
          obtain ⟨oa, oc, h⟩ := hO.out.row.sliceInts; exact ⟨oa, oc, h⟩
        generalize farT S l H a ((k : Int) + 1) = y at *
        by_cases hc : ¬ (0 ≤ y ∧ y ≤ H)
        · rw [decide_eq_false hc] at hx
          rw [if_neg (by simp), List.append_nil] at hx
          rcases (by omega : y < 0 ∨ (0 ≤ y ∧ H < y)) with h0 | ⟨h0, h1⟩
          · clear hc
            go_wp2_with (first
              | (go_at_call 10; refine (hG0 _ (hB.out.row HR.out)).mono ?_; rintro e w2 ⟨rfl, b2⟩; have hB1 : Hid (Boxed w w2 S (.slice ad l.length cap) H) := hB.out.next b2 hB.out.lt; have hO1 : Hid (Own1 w2 (w.heap.size + 1) 3 (.slice oa out.length oc) (icells out)) := ownI_next hO.out b2; clear p0 p1 p2 b2; have p0 := hB1.out.c0; have p1 := hB1.out.c1; have p2 := hB1.out.c2)
              | (go_at_call 15; refine (hED _ (hB1.out.row HR.out)).mono ?_; rintro e w3 ⟨rfl, b3⟩; have hB2 : Hid (Boxed w w3 S (.slice ad l.length cap) H) := hB1.out.next b3 hB1.out.lt; have hO2 : Hid (Own1 w3 (w.heap.size + 1) 3 (.slice oa out.length oc) (icells out)) := ownI_next hO1.out b3; clear p0 p1 p2 b3; have p0 := hB2.out.c0; have p1 := hB2.out.c1; have p2 := hB2.out.c2))
            go_roundg (S.toNat - (k + 1))
            case measure => omega
            case rel => exact ⟨k + 1, by go_num, by omega, rfl, by rw [hx.out]; exact hO2, hB2⟩
          · clear hc
            go_wp2_with (first
              | (go_at_call 10; refine (hG0 _ (hB.out.row HR.out)).mono ?_; rintro e w2 ⟨rfl, b2⟩; have hB1 : Hid (Boxed w w2 S (.slice ad l.length cap) H) := hB.out.next b2 hB.out.lt; have hO1 : Hid (Own1 w2 (w.heap.size + 1) 3 (.slice oa out.length oc) (icells out)) := ownI_next hO.out b2; clear p0 p1 p2 b2; have p0 := hB1.out.c0; have p1 := hB1.out.c1; have p2 := hB1.out.c2)
              | (go_at_call 15; refine (hED _ (hB1.out.row HR.out)).mono ?_; rintro e w3 ⟨rfl, b3⟩; have hB2 : Hid (Boxed w w3 S (.slice ad l.length cap) H) := hB1.out.next b3 hB1.out.lt; have hO2 : Hid (Own1 w3 (w.heap.size + 1) 3 (.slice oa out.length oc) (icells out)) := ownI_next hO1.out b3; clear p0 p1 p2 b3; have p0 := hB2.out.c0; have p1 := hB2.out.c1; have p2 := hB2.out.c2))
            go_roundg (S.toNat - (k + 1))
            case measure => omega
            case rel => exact ⟨k + 1, by go_num, by omega, rfl, by rw [hx.out]; exact hO2, hB2⟩
        · have hc' := Classical.not_not.1 hc
          rw [decide_eq_true hc'] at hx
          obtain ⟨hc1, hc2⟩ := hc'
          clear hc
          rw [if_pos rfl] at hx
          go_wp2_with (first
            | (go_at_call 10; refine (hG0 _ (hB.out.row HR.out)).mono ?_; rintro e w2 ⟨rfl, b2⟩; have hB1 : Hid (Boxed w w2 S (.slice ad l.length cap) H) := hB.out.next b2 hB.out.lt; have hO1 : Hid (Own1 w2 (w.heap.size + 1) 3 (.slice oa out.length oc) (icells out)) := ownI_next hO.out b2; clear p0 p1 p2 b2; have p0 := hB1.out.c0; have p1 := hB1.out.c1; have p2 := hB1.out.c2)
            | (go_at_call 15; refine (hED _ (hB1.out.row HR.out)).mono ?_; rintro e w3 ⟨rfl, b3⟩; have hB2 : Hid (Boxed w w3 S (.slice ad l.length cap) H) := hB1.out.next b3 hB1.out.lt; have hO2 : Hid (Own1 w3 (w.heap.size + 1) 3 (.slice oa out.length oc) (icells out)) := ownI_next hO1.out b3; have HS : Hid (w.heap.size < w3.heap.size) := hB2.out.lt; clear p0 p1 p2 b3; have p0 := hB2.out.c0; have p1 := hB2.out.c1; have p2 := hB2.out.c2)
            | (at_builtin; refine wpList_append_row rfl _ _ 28 3 (.int .i64 0) 8 isI rfl (w.heap.size + 1) _ _ (icells out) [.int .i64 ((k : Int) + 1)] rfl rfl (World.ownsRow.alloc hO2.out _) (row_one' _ _ _ _ (by simp)) (by simp [Value.oneCell']) (by rw [icells_length]; simp; omega) (by rw [icells_length]; simp; omega) (by have := HS.out; simp; omega) ?_; intro v' w4 hown' hb4 hs4))
          go_roundg (S.toNat - (k + 1))
          case measure => omega
          case rel =>
            refine ⟨k + 1, by go_num, by omega, rfl, ?_, hB2.out.next (((Below.refl (w.heap.size + 1) w3).alloc HS.out _).trans hb4) (Nat.lt_succ_self _)⟩
            rw [hx.out, icells_append]
            exact hown'
      · obtain rfl : k = S.toNat := by omega
        have hkS : ¬ ((S.toNat : Nat) : Int) + 1 ≤ S := by omega
        have hR := rowI_of_own hO.out
        have HRW : Hid (RowI wr (w.heap.size + 1) u5 (withinT S l H a)) := by rw [← hend.out] at hR; exact hR
        obtain ⟨oa, on, oc, rfl⟩ : ∃ oa on oc, u5 = .slice oa on oc := by
          obtain ⟨oa, oc, h⟩ := hR.slice; exact ⟨oa, _, oc, h⟩
        clear hR hO
        go_wp2_with (go_at_call 10; refine (hG0 _ (hB.out.row HR.out)).mono ?_; rintro e w2 ⟨rfl, b2⟩; have hB1 : Hid (Boxed w w2 S (.slice ad l.length cap) H) := hB.out.next b2 hB.out.lt; have hO1 : Hid (RowI w2 (w.heap.size + 1) _ (withinT S l H a)) := HRW.out.below b2 (Nat.le_refl _); clear p0 p1 p2 b2; have p0 := hB1.out.c0; have p1 := hB1.out.c1; have p2 := hB1.out.c2)
        go_ret
        exact ⟨_, rfl, hO1.out.mono (Nat.le_succ _), hB1.out.bel⟩
  · rw [goodB_false hg] at hG0
    have hE : Hid (withinT S l H a = []) := withinT_none fun h => hg h.1
    go_enter Try.func17, Try.ntmps17
    go_wp2
    go_loopg [5, 6] 0 (fun gg u5 u6 wr => u5 = .slice none 0 0 ∧ u6 = .int .i64 1 ∧ Hid (Boxed w wr S (.slice ad l.length cap) H))
    case atStart => exact ⟨rfl, rfl, hB0⟩
    case round =>
      obtain ⟨rfl, rfl, hB⟩ := hrel
      have p0 := hB.out.c0
      have p1 := hB.out.c1
      have p2 := hB.out.c2
      go_wp2_with (go_at_call 10; refine (hG0 _ (hB.out.row HR.out)).mono ?_; rintro e w2 ⟨rfl, b2⟩; have hB1 : Hid (Boxed w w2 S (.slice ad l.length cap) H) := hB.out.next b2 hB.out.lt; clear b2)
      go_ret
      exact ⟨_, rfl, .inl ⟨rfl, hE.out⟩, hB1.out.bel⟩
end Go.Proofs.Ytcfagojkeholmaa
