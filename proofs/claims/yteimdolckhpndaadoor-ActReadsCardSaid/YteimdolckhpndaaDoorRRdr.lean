/-
  THE DOCUMENT's READER: Num, Text, Yes, by their contracts.
-/
import Derived.Test.YteimdolckhpndaaDoorMem13b
namespace Go.Proofs.YteimdolckhpndaaDoor
open Go.RowKit

set_option maxRecDepth 20000 in
theorem rnum_any (p k : Nat) (s : Option (List UInt8)) (w : World) (hg : goodB k = true) (hr : Rd 81 w p s) :
    Calls Tryd.prog 45 #[.pointer (some ⟨p, 0, none⟩), .int .i64 (k : Int)] w (NumPost 81 p k s w) := by
  obtain ⟨a, n, c, tn, l, blk, hh, hl, rfl, lo⟩ := hr
  have LO : Hid (Lo a l p) := lo
  clear lo
  have c0 : w.cell? ⟨p, 0, none⟩ = some (.slice a n c) := by simp only [World.cell?]; rw [blk]; rfl
  have f0 : w.frozen? ⟨p, 0, none⟩ = false := frozen_of_row w p 0 _ _ blk
  have f1 : w.frozen? ⟨p, 1, none⟩ = false := frozen_of_row w p 1 _ _ blk
  have c1 : w.cell? ⟨p, 1, none⟩ = some (.bool tn) := by simp only [World.cell?]; rw [blk]; rfl
  obtain rfl : n = l.length := by obtain ⟨_, _, hv⟩ := hh.slice; injection hv
  by_cases hk : k ≤ l.length
  · have hG := rget_good _ l k w hh hg hk
    obtain ⟨a', c', hs1, hh', hlo⟩ := holds_from hh k hk (k : Int) rfl
    have LO1 : Hid (Lo a' (l.drop k) p) := hlo _ _ _ p rfl LO.out
    clear hlo
    have HN : Hid (getN (l.take k) < 256 ^ k ∧ Aft (left tn l) (numP k) (getN (l.take k)) (left tn (l.drop k))) := ⟨getN_lt l k hk, aft_num hk⟩
    have HB : Hid (w.heap[p]? = some (.cells #[.slice a l.length c, .bool tn] 81 (0, 0)) ∧ Holds w (.slice a' (l.length - k) c') (l.drop k) ∧ (l.drop k).length ≤ 100000 ∧ Holds w (.slice a l.length c) l ∧ l.length ≤ 100000) := ⟨blk, hh', by rw [List.length_drop]; omega, hh, hl⟩
    obtain ⟨m, hm⟩ : ∃ z, l.length - k = z := ⟨_, rfl⟩
    rw [hm] at hs1 HB
    obtain ⟨x, hx⟩ : ∃ z, getN (l.take k) = z := ⟨_, rfl⟩
    rw [hx] at hG HN
    clear hh hh' blk hl hk hg hm hx
    cases tn
    · go_enter Tryd.func45, Tryd.ntmps45
      go_wp2_with fail
      refine hG.mono ?_
      rintro e w ⟨rfl, rfl⟩
      clear hG
      go_wp2
      go_ret
      refine ⟨x, _, rfl, HN.out.1, HN.out.2, ?_, Bar.set _ _ _ _⟩
      exact ⟨a', m, c', false, l.drop k, heap_setCell_same _ _ _ _ _ _ HB.out.1, HB.out.2.1.bar (Bar.set _ _ _ _) HB.out.1, HB.out.2.2.1, rfl, LO1.out⟩
    · go_enter Tryd.func45, Tryd.ntmps45
      go_wp2_with fail
      refine hG.mono ?_
      rintro e w ⟨rfl, rfl⟩
      clear hG
      go_wp2
      go_ret
      refine ⟨0, none, rfl, Nat.pow_pos (by decide), aft_none _ _, ?_, Bar.set _ _ _ _⟩
      exact ⟨a, _, c, true, l, heap_setCell_same _ _ _ _ _ _ HB.out.1, HB.out.2.2.2.1.bar (Bar.set _ _ _ _) HB.out.1, HB.out.2.2.2.2, rfl, LO.out⟩
  · have hG := rget_bad _ l (k : Int) w hh (by unfold getB; rw [hg]; simp; omega)
    have HN : Hid (Aft (left tn l) (numP k) 0 none) := aft_nonum hk
    have HB : Hid (w.heap[p]? = some (.cells #[.slice a l.length c, .bool tn] 81 (0, 0)) ∧ Holds w (.slice a l.length c) l ∧ l.length ≤ 100000) := ⟨blk, hh, hl⟩
    clear hh blk hl hk hg
    cases tn
    all_goals
      go_enter Tryd.func45, Tryd.ntmps45
      go_wp2_with fail
      refine hG.mono ?_
      rintro e w ⟨rfl, rfl⟩
      clear hG
      go_wp2
      go_ret
      refine ⟨0, none, rfl, Nat.pow_pos (by decide), HN.out, ?_, Bar.set _ _ _ _⟩
      exact ⟨a, _, c, true, l, heap_setCell_same _ _ _ _ _ _ HB.out.1, HB.out.2.1.bar (Bar.set _ _ _ _) HB.out.1, HB.out.2.2, rfl, LO.out⟩
/-- .. as the calls are written. -/
theorem rnum1_any (p : Nat) (s : Option (List UInt8)) (w : World) (hr : Rd 81 w p s) :
    Calls Tryd.prog 45 #[.pointer (some ⟨p, 0, none⟩), .int .i64 1] w (NumPost 81 p 1 s w) := rnum_any p 1 s w rfl hr
theorem rnum2_any (p : Nat) (s : Option (List UInt8)) (w : World) (hr : Rd 81 w p s) :
    Calls Tryd.prog 45 #[.pointer (some ⟨p, 0, none⟩), .int .i64 2] w (NumPost 81 p 2 s w) := rnum_any p 2 s w rfl hr
theorem rnum8_any (p : Nat) (s : Option (List UInt8)) (w : World) (hr : Rd 81 w p s) :
    Calls Tryd.prog 45 #[.pointer (some ⟨p, 0, none⟩), .int .i64 8] w (NumPost 81 p 8 s w) := rnum_any p 8 s w rfl hr
theorem empty_size : (⟨#[]⟩ : ByteArray).size = 0 := rfl
set_option maxRecDepth 20000 in
theorem rtextR_any (p : Nat) (s : Option (List UInt8)) (w : World) (hr : Rd 81 w p s) :
    Calls Tryd.prog 46 #[.pointer (some ⟨p, 0, none⟩)] w (TextPost 81 p s w) := by
  have hN := rnum2_any p s w hr
  go_enter Tryd.func46, Tryd.ntmps46
  go_wp2_with fail
  refine hN.mono ?_
  rintro e w1 ⟨n, s1, rfl, hn, haft, hr1, bar1⟩
  clear hN
  have hn : n < 65536 := Nat.lt_of_lt_of_le hn (by decide)
  obtain ⟨a, m, c, tn, l, blk, hh, hl, rfl, lo⟩ := hr1
  have LO : Hid (Lo a l p) := lo
  clear lo
  have c0 : w1.cell? ⟨p, 0, none⟩ = some (.slice a m c) := by simp only [World.cell?]; rw [blk]; rfl
  have f0 : w1.frozen? ⟨p, 0, none⟩ = false := frozen_of_row w1 p 0 _ _ blk
  have f1 : w1.frozen? ⟨p, 1, none⟩ = false := frozen_of_row w1 p 1 _ _ blk
  have c1 : w1.cell? ⟨p, 1, none⟩ = some (.bool tn) := by simp only [World.cell?]; rw [blk]; rfl
  obtain rfl : m = l.length := by obtain ⟨_, _, hv⟩ := hh.slice; injection hv
  have hw := wrap_small hn
  have HB : Hid (w1.heap[p]? = some (.cells #[.slice a l.length c, .bool tn] 81 (0, 0)) ∧ Holds w1 (.slice a l.length c) l ∧ l.length ≤ 100000 ∧ Bar p w w1 ∧ Aft s (numP 2) n (left tn l)) := ⟨blk, hh, hl, bar1, haft⟩
  cases tn
  · by_cases hk : n ≤ l.length
    · have hk' : ¬ (l.length : Int) < (n : Int) := by omega
      obtain ⟨a', c', hs1, hh', hlo⟩ := holds_from hh n hk (n : Int) rfl
      have LO1 : Hid (Lo a' (l.drop n) p) := hlo _ _ _ p rfl LO.out
      clear hlo
      obtain ⟨a2, c2, hs2, hh2, hlo⟩ := holds_to hh n hk (n : Int) rfl
      clear hlo
      have kx := run_string_of hh2 37 9 5 Tryd.underlying37 Tryd.underlying5 Tryd.underlying9
      have HN : Hid (n < 65536 ∧ Aft (left false l) (headP n) (l.take n) (left false (l.drop n)) ∧ Holds w1 (.slice a' (l.length - n) c') (l.drop n) ∧ (l.drop n).length ≤ 100000 ∧ (l.take n).length = n) := ⟨hn, aft_cut hk, hh', by rw [List.length_drop]; omega, by simp; omega⟩
      obtain ⟨m, hm⟩ : ∃ z, l.length - n = z := ⟨_, rfl⟩
      rw [hm] at hs1 HN
      obtain ⟨q, hq⟩ : ∃ z, l.take n = z := ⟨_, rfl⟩
      rw [hq] at kx HN
      clear hh hh' hh2 blk hl hk haft hm hn bar1 hq
      go_wp2
      go_ret
      refine ⟨str q, _, rfl, by rw [str_size, HN.out.2.2.2.2]; exact HN.out.1, Aft.out str (Aft.bind (Q := headP) HB.out.2.2.2.2 HN.out.2.1), ?_, HB.out.2.2.2.1.trans (Bar.set _ _ _ _)⟩
      exact ⟨a', m, c', false, l.drop n, heap_setCell_same _ _ _ _ _ _ HB.out.1, HN.out.2.2.1.bar (Bar.set _ _ _ _) HB.out.1, HN.out.2.2.2.1, rfl, LO1.out⟩
    · have hk' : (l.length : Int) < (n : Int) := by omega
      have HN : Hid (Aft (left false l) (headP n) [] none) := aft_nocut hk
      clear hh blk hl hk haft hn bar1
      go_wp2
      go_ret
      refine ⟨⟨#[]⟩, none, rfl, by rw [empty_size]; decide, Aft.out str (Aft.bind (Q := headP) HB.out.2.2.2.2 HN.out), ?_, HB.out.2.2.2.1.trans (Bar.set _ _ _ _)⟩
      exact ⟨a, _, c, true, l, heap_setCell_same _ _ _ _ _ _ HB.out.1, HB.out.2.1.bar (Bar.set _ _ _ _) HB.out.1, HB.out.2.2.1, rfl, LO.out⟩
  · have HN : Hid (Aft (left true l) (headP n) [] none) := aft_none _ _
    clear hh blk hl haft hn bar1
    go_wp2
    go_ret
    refine ⟨⟨#[]⟩, none, rfl, by rw [empty_size]; decide, Aft.out str (Aft.bind (Q := headP) HB.out.2.2.2.2 HN.out), ?_, HB.out.2.2.2.1.trans (Bar.set _ _ _ _)⟩
    exact ⟨a, _, c, true, l, heap_setCell_same _ _ _ _ _ _ HB.out.1, HB.out.2.1.bar (Bar.set _ _ _ _) HB.out.1, HB.out.2.2.1, rfl, LO.out⟩
set_option maxRecDepth 20000 in
theorem ryesR_any (p : Nat) (s : Option (List UInt8)) (w : World) (hr : Rd 81 w p s) :
    Calls Tryd.prog 66 #[.pointer (some ⟨p, 0, none⟩)] w (YesPost 81 p s w) := by
  have hN := rnum1_any p s w hr
  go_enter Tryd.func66, Tryd.ntmps66
  go_wp2_with fail
  refine hN.mono ?_
  rintro e w1 ⟨n, s1, rfl, hn, haft, hr1, bar1⟩
  clear hN
  obtain ⟨a, m, c, tn, l, blk, hh, hl, rfl, lo⟩ := hr1
  have LO : Hid (Lo a l p) := lo
  clear lo
  have c0 : w1.cell? ⟨p, 0, none⟩ = some (.slice a m c) := by simp only [World.cell?]; rw [blk]; rfl
  have f1 : w1.frozen? ⟨p, 1, none⟩ = false := frozen_of_row w1 p 1 _ _ blk
  have c1 : w1.cell? ⟨p, 1, none⟩ = some (.bool tn) := by simp only [World.cell?]; rw [blk]; rfl
  have HB : Hid (w1.heap[p]? = some (.cells #[.slice a m c, .bool tn] 81 (0, 0)) ∧ Holds w1 (.slice a m c) l ∧ l.length ≤ 100000 ∧ Bar p w w1 ∧ Aft s (numP 1) n (left tn l)) := ⟨blk, hh, hl, bar1, haft⟩
  clear hh hl blk haft bar1 hn
  have hd : ((n : Int) == 1) = decide (n = 1) := by
    by_cases h : n = 1
    · subst h; rfl
    · rw [decide_eq_false h, beq_eq_false_iff_ne]; omega
  by_cases hk : n ≤ 1
  · have hk' : decide ((1 : Int) < (n : Int)) = false := by simp; omega
    have hk2 : ¬ (1 : Int) < (n : Int) := by omega
    have HO : Hid (Aft (left tn l) (oneP n) (decide (n = 1)) (left tn l) ∧ ((n : Int) == 1) = decide (n = 1)) := ⟨aft_one hk, hd⟩
    clear hk hd
    go_wp2
    go_ret
    exact ⟨decide (n = 1), _, by first | rfl | (rw [HO.out.2]; rfl), HB.out.2.2.2.2.bind HO.out.1, ⟨a, m, c, tn, l, HB.out.1, HB.out.2.1, HB.out.2.2.1, rfl, LO.out⟩, HB.out.2.2.2.1⟩
  · have hk' : decide ((1 : Int) < (n : Int)) = true := by simp; omega
    have hk2 : (1 : Int) < (n : Int) := by omega
    have HO : Hid (Aft (left tn l) (oneP n) (decide (n = 1)) none ∧ ((n : Int) == 1) = decide (n = 1)) := ⟨aft_noone hk, hd⟩
    clear hk hd
    go_wp2
    go_ret
    refine ⟨decide (n = 1), none, by first | rfl | (rw [HO.out.2]; rfl), HB.out.2.2.2.2.bind HO.out.1, ?_, HB.out.2.2.2.1.trans (Bar.set _ _ _ _)⟩
    exact ⟨a, m, c, true, l, heap_setCell_same _ _ _ _ _ _ HB.out.1, HB.out.2.1.bar (Bar.set _ _ _ _) HB.out.1, HB.out.2.2.1, rfl, LO.out⟩
end Go.Proofs.YteimdolckhpndaaDoor
