/-
  Within, Onward, Rounds, by their contracts.
-/
import Derived.Test.YtcfagojkeholmaaTells
namespace Go.Proofs.Ytcfagojkeholmaa
open Go.RowKit Go.Sort Go.Shelf

/-- Who is within, among the first k places of the array. -/
def inUpto (l : List (Int × Int)) (H a : Int) (k : Nat) : List Int := ((List.range k).map fun i : Nat => (i : Int)).filter fun n => decide (far l a n ≠ -1 ∧ far l a n ≤ H)
theorem inUpto_succ (l : List (Int × Int)) (H a : Int) (k : Nat) : inUpto l H a (k + 1) = inUpto l H a k ++ if far l a k ≠ -1 ∧ far l a k ≤ H then [(k : Int)] else [] := by
  unfold inUpto
  rw [List.range_succ, List.map_append, List.filter_append]
  congr 1
  by_cases h : far l a k ≠ -1 ∧ far l a k ≤ H
  · rw [if_pos h]; simp [h]
  · rw [if_neg h]
    simp only [List.map_cons, List.map_nil]
    rw [List.filter_cons_of_neg (by simpa using h)]
    rfl
theorem inUpto_len (l : List (Int × Int)) (H a : Int) (k : Nat) : (inUpto l H a k).length ≤ k := by
  unfold inUpto
  refine Nat.le_trans (List.length_filter_le _ _) ?_
  simp
theorem inUpto_all {S H a : Int} {l : List (Int × Int)} (hg : GoodT S l H) (ha : 1 ≤ a ∧ a ≤ S) : inUpto l H a 9 = withinT S l H a := by
  have h1 : (inUpto l H a 9).Pairwise (· < ·) := by
    refine List.Pairwise.filter _ ?_
    rw [List.pairwise_map]
    exact List.Pairwise.imp (fun h => by omega) List.pairwise_lt_range
  have h2 : (withinT S l H a).Pairwise (· < ·) := (sites_lt S).filter _
  refine sorted_unique ((List.perm_ext_iff_of_nodup (nodup_of_lt h1) (nodup_of_lt h2)).2 fun n => ?_) (h1.imp fun h => Int.le_of_lt h) (h2.imp fun h => Int.le_of_lt h)
  have hr := far_range l a n
  have hS := hg.1
  simp only [inUpto, withinT, List.mem_filter, List.mem_map, List.mem_range, mem_sites, decide_eq_true_eq]
  constructor
  · rintro ⟨⟨i, hi, rfl⟩, h3, h4⟩
    have hs : 1 ≤ (i : Int) ∧ (i : Int) ≤ S := Classical.byContradiction fun hn => h3 (far_out hg.2.1 ha hn)
    rw [farT, if_pos ⟨hg, ha, hs⟩]
    exact ⟨hs, by omega, h4⟩
  · rintro ⟨hs, h3, h4⟩
    rw [farT, if_pos ⟨hg, ha, hs⟩] at h3 h4
    exact ⟨⟨n.toNat, by omega, by omega⟩, by omega, h4⟩
theorem withinT_none {S H a : Int} {l : List (Int × Int)} (h : ¬ (GoodT S l H ∧ 1 ≤ a ∧ a ≤ S)) : withinT S l H a = [] := by
  unfold withinT
  rw [List.filter_eq_nil_iff]
  intro n _
  rw [farT, if_neg (fun h' => h ⟨h'.1, h'.2.1⟩)]
  simp
theorem withinT_len (S H a : Int) (l : List (Int × Int)) (hS : S ≤ 8) : (withinT S l H a).length ≤ 8 := by
  unfold withinT
  refine Nat.le_trans (List.length_filter_le _ _) ?_
  simp [sites]; omega

set_option maxRecDepth 20000 in
set_option maxHeartbeats 2000000 in
theorem within_any (S H a : Int) (v : Value) (l : List (Int × Int)) (w : World) (hr : RowOf ecells w v l) :
    Calls Try.prog 16 #[tv S v H, .int .i64 a] w fun e w' => ∃ v', e = .returned v' ∧ RowI w' w.heap.size v' (withinT S l H a) ∧ Below w.heap.size w w' := by
  obtain ⟨ad, cap, rfl⟩ := hr.slice
  have hG0 := fun W hW => good_any S H (.slice ad l.length cap) l W hW
  have hB0 : Hid (Boxed w (w.alloc (.cells #[.int .i64 S, .slice ad l.length cap, .int .i64 H] 24)) S (.slice ad l.length cap) H) := boxed_new _ _ _ _
  have HR : Hid (RowOf ecells w (.slice ad l.length cap) l) := hr
  clear hr
  by_cases hg : GoodT S l H
  · rw [goodB_true hg] at hG0
    have HG : Hid (GoodT S l H) := hg
    clear hg
    by_cases ha : 1 ≤ a ∧ a ≤ S
    · have HW : Hid _ := fun W hW => ways_any S H a (.slice ad l.length cap) l W hW HG.out ha
      have hix := index9 (far l a)
      go_enter Try.func16, Try.ntmps16
      go_wp2_with (first
        | (go_at_call 9; refine (hG0 _ (hB0.out.row HR.out)).mono ?_; rintro e w2 ⟨rfl, b2⟩; have hB1 : Hid (Boxed w w2 S (.slice ad l.length cap) H) := hB0.out.next b2 hB0.out.lt; have p0 := hB1.out.c0; have p1 := hB1.out.c1; have p2 := hB1.out.c2; clear b2)
        | (go_at_call 22; refine (known_yes _ _ _ _ _ _ (by assumption) _).mono ?_; rintro e w3 ⟨rfl, g3⟩; have hB2 : Hid (Boxed w w3 S (.slice ad l.length cap) H) := hB1.out.next (Grew.below g3 (Nat.le_refl _)) hB1.out.lt; clear p0 p1 p2 g3; have p0 := hB2.out.c0; have p1 := hB2.out.c1; have p2 := hB2.out.c2)
        | (go_at_call 26; refine (HW.out _ (hB2.out.row HR.out)).mono ?_; rintro e w5 ⟨rfl, b5⟩; have hB3 : Hid (Boxed w w5 S (.slice ad l.length cap) H) := hB2.out.next b5 hB2.out.lt; clear p0 p1 p2 b5))
      clear hG0 HW
      go_loopw [5, 6, 7, 20] (fun u5 u6 u7 u20 wr => ∃ k : Nat, u20 = .int .i64 k ∧ k ≤ 9 ∧ Hid (Own1 wr (w.heap.size + 1) 3 u5 (icells (inUpto l H a k))) ∧ Hid (Boxed w wr S (.slice ad l.length cap) H)) (fun u5 u6 u7 u20 wr => 9 - (intOf u20).toNat)
      case atStart => exact ⟨0, rfl, Nat.zero_le _, own1_nil _ _ _, hB3⟩
      case round =>
        obtain ⟨k, rfl, hk, hO, hB⟩ := hrel
        clear hB0 hB1 hB2 hB3
        by_cases hlt2 : k < 9
        · have hlt : (k : Int) < 9 := by omega
          have hik := hix k hlt2
          have hx : Hid (inUpto l H a (k + 1) = inUpto l H a k ++ if far l a k ≠ -1 ∧ far l a k ≤ H then [(k : Int)] else []) := inUpto_succ _ _ _ _
          have hlen := inUpto_len l H a k
          have p2 := hB.out.c2
          clear hix
          generalize hout : inUpto l H a k = out at *
          have hsz := hB.out.lt
          have HS : Hid (w.heap.size < wr.heap.size) := hsz
          obtain ⟨oa, oc, rfl⟩ : ∃ oa oc, u5 = .slice oa out.length oc := by
            obtain ⟨oa, oc, h⟩ := hO.out.row.sliceInts; exact ⟨oa, oc, h⟩
          by_cases hc : far l a k ≠ -1 ∧ far l a k ≤ H
          · rw [if_pos hc] at hx
            obtain ⟨hc1, hc2⟩ := hc
            go_wp2_with (at_builtin; refine wpList_append_row rfl _ _ 28 3 (.int .i64 0) 8 isI rfl (w.heap.size + 1) _ _ (icells out) [.int .i64 (k : Int)] rfl rfl (World.ownsRow.alloc hO.out _) (row_one' _ _ _ _ (by simp)) (by simp [Value.oneCell']) (by rw [icells_length]; simp; omega) (by rw [icells_length]; simp; omega) (by have := HS.out; simp; omega) ?_; intro v' w4 hown' hb4 hs4)
            go_roundw
            case rel =>
              refine ⟨k + 1, by go_num, by omega, ?_, hB.out.next (((Below.refl (w.heap.size + 1) wr).alloc HS.out _).trans hb4) (Nat.lt_succ_self _)⟩
              rw [hx.out, icells_append]
              exact hown'
            case measure => simp [intOf]; omega
          · rw [if_neg hc, List.append_nil] at hx
            have hrel : Hid (∃ k' : Nat, (.int .i64 ((k : Int) + 1) : Value) = .int .i64 k' ∧ k' ≤ 9 ∧ Hid (Own1 wr (w.heap.size + 1) 3 (.slice oa out.length oc) (icells (inUpto l H a k'))) ∧ Hid (Boxed w wr S (.slice ad l.length cap) H)) := ⟨k + 1, by go_num, by omega, by rw [hx.out]; exact hO, hB⟩
            by_cases hc1 : far l a k = -1
            · rw [hc1] at hik
              go_wp2
              exact ⟨hrel.out, by simp [intOf]; omega⟩
            · have hc2 : H < far l a k := by omega
              go_wp2
              exact ⟨hrel.out, by simp [intOf]; omega⟩
        · obtain rfl : k = 9 := by omega
          go_wp2
          go_ret
          have hR := rowI_of_own hO.out
          rw [inUpto_all HG.out ha] at hR
          exact ⟨_, rfl, hR.mono (Nat.le_succ _), hB.out.bel⟩
    · have hf : Hid (withinT S l H a = []) := withinT_none fun h => ha h.2
      go_enter Try.func16, Try.ntmps16
      go_wp2_with (first
        | (go_at_call 9; refine (hG0 _ (hB0.out.row HR.out)).mono ?_; rintro e w2 ⟨rfl, b2⟩; have hB1 : Hid (Boxed w w2 S (.slice ad l.length cap) H) := hB0.out.next b2 hB0.out.lt; have p0 := hB1.out.c0; have p1 := hB1.out.c1; have p2 := hB1.out.c2; clear b2)
        | (go_at_call 22; refine (known_no _ _ _ _ _ _ (by assumption) _).mono ?_; rintro e w3 ⟨rfl, g3⟩; have hB2 : Hid (Boxed w w3 S (.slice ad l.length cap) H) := hB1.out.next (Grew.below g3 (Nat.le_refl _)) hB1.out.lt; clear p0 p1 p2 g3))
      go_ret
      exact ⟨_, rfl, .inl ⟨rfl, hf.out⟩, hB2.out.bel⟩
  · rw [goodB_false hg] at hG0
    have hf : Hid (withinT S l H a = []) := withinT_none fun h => hg h.1
    go_enter Try.func16, Try.ntmps16
    go_wp2_with (go_at_call 9; refine (hG0 _ (hB0.out.row HR.out)).mono ?_; rintro e w2 ⟨rfl, b2⟩; have hB1 : Hid (Boxed w w2 S (.slice ad l.length cap) H) := hB0.out.next b2 hB0.out.lt; clear b2)
    go_ret
    exact ⟨_, rfl, .inl ⟨rfl, hf.out⟩, hB1.out.bel⟩
end Go.Proofs.Ytcfagojkeholmaa
