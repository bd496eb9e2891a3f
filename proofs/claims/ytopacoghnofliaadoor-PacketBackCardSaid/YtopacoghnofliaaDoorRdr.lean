/-
  THE READER: number, piece, text, yes, by their contracts.
-/
import Derived.Test.YtopacoghnofliaaDoorMem13
namespace Go.Proofs.YtopacoghnofliaaDoor
open Go.RowKit


/-- How a reader's call ends. -/
def NumPost (T : TypeId) (p k : Nat) (s : Option (List UInt8)) (w : World) (e : Ending) (w' : World) : Prop :=
  ∃ (n : Nat) (s' : Option (List UInt8)), e = .returned (.int .u64 (n : Int)) ∧ n < 256 ^ k ∧ Aft s (numP k) n s' ∧ Rd T w' p s' ∧ Bar p w w'

def PiecePost (T : TypeId) (p : Nat) (s : Option (List UInt8)) (w : World) (e : Ending) (w' : World) : Prop :=
  ∃ (v : Value) (q : List UInt8) (s' : Option (List UInt8)), e = .returned v ∧ Holds w' v q ∧ q.length < 65536 ∧ (∃ a0 n0 c0, v = .slice a0 n0 c0 ∧ Lo a0 q p) ∧ Aft s pieceP q s' ∧ Rd T w' p s' ∧ Bar p w w'

def TextPost (T : TypeId) (p : Nat) (s : Option (List UInt8)) (w : World) (e : Ending) (w' : World) : Prop :=
  ∃ (t : ByteArray) (s' : Option (List UInt8)), e = .returned (.string t) ∧ t.size < 65536 ∧ Aft s textP t s' ∧ Rd T w' p s' ∧ Bar p w w'

def YesPost (T : TypeId) (p : Nat) (s : Option (List UInt8)) (w : World) (e : Ending) (w' : World) : Prop :=
  ∃ (b : Bool) (s' : Option (List UInt8)), e = .returned (.bool b) ∧ Aft s yesP b s' ∧ Rd T w' p s' ∧ Bar p w w'

theorem numP_some {k : Nat} {l : List UInt8} (h : k ≤ l.length) : numP k l = some (getN (l.take k), l.drop k) := by unfold numP; rw [if_pos h]

theorem numP_none {k : Nat} {l : List UInt8} (h : ¬ k ≤ l.length) : numP k l = none := by unfold numP; rw [if_neg h]

theorem aft_num {k : Nat} {l : List UInt8} {tn : Bool} (h : k ≤ l.length) : Aft (left tn l) (numP k) (getN (l.take k)) (left tn (l.drop k)) := by
  unfold Aft left
  cases tn
  · simp [numP_some h]
  · simp

theorem aft_nonum {k x : Nat} {l : List UInt8} {tn : Bool} (h : ¬ k ≤ l.length) : Aft (left tn l) (numP k) x none := by
  unfold Aft left
  cases tn
  · simp [numP_none h]
  · simp

theorem getN_bound (l : List UInt8) (k : Nat) (h : k ≤ l.length) (h8 : k ≤ 8) : getN (l.take k) < 18446744073709551616 :=
  Nat.lt_of_lt_of_le (getN_lt l k h) (Nat.pow_le_pow_right (by decide) h8)

set_option maxRecDepth 20000 in
theorem num_any (p k : Nat) (s : Option (List UInt8)) (w : World) (ht : Tab w) (hg : goodB k = true) (h8 : k ≤ 8) (hr : Rd 87 w p s) :
    Calls Tryd.prog 64 #[.pointer (some ⟨p, 0, none⟩), .int .i64 (k : Int)] w (NumPost 87 p k s w) := by
  obtain ⟨a, n, c, tn, l, blk, hh, hl, rfl, lo⟩ := hr
  have LO : Hid (Lo a l p) := lo
  clear lo
  have c0 : w.cell? ⟨p, 0, none⟩ = some (.slice a n c) := by simp only [World.cell?]; rw [blk]; rfl
  have f0 : w.frozen? ⟨p, 0, none⟩ = false := frozen_of_row w p 0 _ _ blk
  have f1 : w.frozen? ⟨p, 1, none⟩ = false := frozen_of_row w p 1 _ _ blk
  have c1 : w.cell? ⟨p, 1, none⟩ = some (.bool tn) := by simp only [World.cell?]; rw [blk]; rfl
  obtain rfl : n = l.length := by obtain ⟨_, _, hv⟩ := hh.slice; injection hv
  by_cases hk : k ≤ l.length
  · have hG := get_good _ l k w ht hh hg hk
    obtain ⟨a', c', hs1, hh', hlo⟩ := holds_from hh k hk (k : Int) rfl
    have LO1 : Hid (Lo a' (l.drop k) p) := hlo _ _ _ p rfl LO.out
    clear hlo
    have HN : Hid (getN (l.take k) < 256 ^ k ∧ Aft (left tn l) (numP k) (getN (l.take k)) (left tn (l.drop k))) := ⟨getN_lt l k hk, aft_num hk⟩
    have HB : Hid (w.heap[p]? = some (.cells #[.slice a l.length c, .bool tn] 87 (0, 0)) ∧ Holds w (.slice a' (l.length - k) c') (l.drop k) ∧ (l.drop k).length ≤ 100000) := ⟨blk, hh', by rw [List.length_drop]; omega⟩
    obtain ⟨m, hm⟩ : ∃ z, l.length - k = z := ⟨_, rfl⟩
    rw [hm] at hs1 HB
    obtain ⟨x, hx⟩ : ∃ z, getN (l.take k) = z := ⟨_, rfl⟩
    rw [hx] at hG HN
    clear hh hh' blk hl hk hg ht hm hx
    go_enter Tryd.func64, Tryd.ntmps64
    go_wp2_with fail
    refine hG.mono ?_
    rintro e w ⟨rfl, rfl⟩
    clear hG
    go_wp2
    go_ret
    refine ⟨x, _, rfl, HN.out.1, HN.out.2, ?_, Bar.set _ _ _ _⟩
    exact ⟨a', m, c', tn, l.drop k, heap_setCell_same _ _ _ _ _ _ HB.out.1, HB.out.2.1.bar (Bar.set _ _ _ _) HB.out.1, HB.out.2.2, rfl, LO1.out⟩
  · have hG := get_bad _ l (k : Int) w ht hh (by unfold getB; rw [hg]; simp; omega)
    have HN : Hid (Aft (left tn l) (numP k) 0 none) := aft_nonum hk
    have HB : Hid (w.heap[p]? = some (.cells #[.slice a l.length c, .bool tn] 87 (0, 0)) ∧ Holds w (.slice a l.length c) l ∧ l.length ≤ 100000) := ⟨blk, hh, hl⟩
    clear hh blk hl hk hg ht
    go_enter Tryd.func64, Tryd.ntmps64
    go_wp2_with fail
    refine hG.mono ?_
    rintro e w ⟨rfl, rfl⟩
    clear hG
    go_wp2
    go_ret
    refine ⟨0, none, rfl, Nat.pow_pos (by decide), HN.out, ?_, Bar.set _ _ _ _⟩
    exact ⟨a, _, c, true, l, heap_setCell_same _ _ _ _ _ _ HB.out.1, HB.out.2.1.bar (Bar.set _ _ _ _) HB.out.1, HB.out.2.2, rfl, LO.out⟩

/-- .. as the calls are written. -/
theorem num1_any (p : Nat) (s : Option (List UInt8)) (w : World) (ht : Tab w) (hr : Rd 87 w p s) :
    Calls Tryd.prog 64 #[.pointer (some ⟨p, 0, none⟩), .int .i64 1] w (NumPost 87 p 1 s w) := num_any p 1 s w ht rfl (by decide) hr

theorem num2_any (p : Nat) (s : Option (List UInt8)) (w : World) (ht : Tab w) (hr : Rd 87 w p s) :
    Calls Tryd.prog 64 #[.pointer (some ⟨p, 0, none⟩), .int .i64 2] w (NumPost 87 p 2 s w) := num_any p 2 s w ht rfl (by decide) hr

theorem num8_any (p : Nat) (s : Option (List UInt8)) (w : World) (ht : Tab w) (hr : Rd 87 w p s) :
    Calls Tryd.prog 64 #[.pointer (some ⟨p, 0, none⟩), .int .i64 8] w (NumPost 87 p 8 s w) := num_any p 8 s w ht rfl (by decide) hr

theorem aft_cut {n : Nat} {l : List UInt8} {tn : Bool} (h : n ≤ l.length) : Aft (left tn l) (headP n) (l.take n) (left tn (l.drop n)) := by
  unfold Aft headP left
  cases tn
  · simp [h]
  · simp

theorem aft_nocut {n : Nat} {l x : List UInt8} {tn : Bool} (h : ¬ n ≤ l.length) : Aft (left tn l) (headP n) x none := by
  unfold Aft headP left
  cases tn
  · simp [h]
  · simp

theorem wrap_small {n : Nat} (h : n < 65536) : IntKind.i64.wrap (n : Int) = (n : Int) := by
  rw [IntKind.wrap_i64]
  omega

set_option maxRecDepth 20000 in
theorem piece_any (p : Nat) (s : Option (List UInt8)) (w : World) (ht : Tab w) (hr : Rd 87 w p s) :
    Calls Tryd.prog 69 #[.pointer (some ⟨p, 0, none⟩)] w (PiecePost 87 p s w) := by
  have hN := num2_any p s w ht hr
  go_enter Tryd.func69, Tryd.ntmps69
  go_wp2_with fail
  refine hN.mono ?_
  rintro e w1 ⟨n, s1, rfl, hn, haft, hr1, bar1⟩
  clear hN
  have hn : n < 65536 := Nat.lt_of_lt_of_le hn (by decide)
  obtain ⟨a, m, c, tn, l, blk, hh, hl, rfl, lo⟩ := hr1
  have LO : Hid (Lo a l p) := lo
  clear lo
  have c0 : w1.cell? ⟨p, 0, none⟩ = some (.slice a m c) := by simp only [World.cell?]; rw [blk]; rfl
  have f0 : w1.frozen? ⟨p, 0, none⟩ = false := frozen_of_row w1 p 0 _ _ blk
  have f1 : w1.frozen? ⟨p, 1, none⟩ = false := frozen_of_row w1 p 1 _ _ blk
  have c1 : w1.cell? ⟨p, 1, none⟩ = some (.bool tn) := by simp only [World.cell?]; rw [blk]; rfl
  obtain rfl : m = l.length := by obtain ⟨_, _, hv⟩ := hh.slice; injection hv
  have hw := wrap_small hn
  by_cases hk : n ≤ l.length
  · have hk' : ¬ (l.length : Int) < (n : Int) := by omega
    obtain ⟨a', c', hs1, hh', hlo⟩ := holds_from hh n hk (n : Int) rfl
    have LO1 : Hid (Lo a' (l.drop n) p) := hlo _ _ _ p rfl LO.out
    clear hlo
    obtain ⟨a2, c2, hs2, hh2, hlo⟩ := holds_to hh n hk (n : Int) rfl
    have LO2 : Hid (Lo a2 (l.take n) p) := hlo _ _ _ p rfl LO.out
    clear hlo
    have HN : Hid (n < 65536 ∧ Aft s (numP 2) n (left tn l) ∧ Aft (left tn l) (headP n) (l.take n) (left tn (l.drop n))) := ⟨hn, haft, aft_cut hk⟩
    have HB : Hid (w1.heap[p]? = some (.cells #[.slice a l.length c, .bool tn] 87 (0, 0)) ∧ Holds w1 (.slice a' (l.length - n) c') (l.drop n) ∧ (l.drop n).length ≤ 100000 ∧ Holds w1 (.slice a2 n c2) (l.take n) ∧ (l.take n).length = n ∧ Bar p w w1) := ⟨blk, hh', by rw [List.length_drop]; omega, hh2, by simp; omega, bar1⟩
    obtain ⟨m, hm⟩ : ∃ z, l.length - n = z := ⟨_, rfl⟩
    rw [hm] at hs1 HB
    clear hh hh' hh2 blk hl hk haft hm hn bar1
    go_wp2
    go_ret
    refine ⟨_, l.take n, _, rfl, HB.out.2.2.2.1.bar (Bar.set _ _ _ _) HB.out.1, by rw [HB.out.2.2.2.2.1]; exact HN.out.1, ⟨_, _, _, rfl, LO2.out⟩, HN.out.2.1.bind HN.out.2.2, ?_, HB.out.2.2.2.2.2.trans (Bar.set _ _ _ _)⟩
    exact ⟨a', m, c', tn, l.drop n, heap_setCell_same _ _ _ _ _ _ HB.out.1, HB.out.2.1.bar (Bar.set _ _ _ _) HB.out.1, HB.out.2.2.1, rfl, LO1.out⟩
  · have hk' : (l.length : Int) < (n : Int) := by omega
    have HN : Hid (Aft s (numP 2) n (left tn l) ∧ Aft (left tn l) (headP n) [] none) := ⟨haft, aft_nocut hk⟩
    have HB : Hid (w1.heap[p]? = some (.cells #[.slice a l.length c, .bool tn] 87 (0, 0)) ∧ Holds w1 (.slice a l.length c) l ∧ l.length ≤ 100000 ∧ Bar p w w1) := ⟨blk, hh, hl, bar1⟩
    clear hh blk hl hk haft hn bar1
    go_wp2
    go_ret
    refine ⟨_, [], none, rfl, .inl ⟨rfl, rfl⟩, by simp, ⟨_, _, _, rfl, fun h => absurd h (by simp)⟩, HN.out.1.bind HN.out.2, ?_, HB.out.2.2.2.trans (Bar.set _ _ _ _)⟩
    exact ⟨a, _, c, true, l, heap_setCell_same _ _ _ _ _ _ HB.out.1, HB.out.2.1.bar (Bar.set _ _ _ _) HB.out.1, HB.out.2.2.1, rfl, LO.out⟩

theorem str_size (q : List UInt8) : (str q).size = q.length := by rw [← txt_length, txt_str]

set_option maxRecDepth 20000 in
theorem text_any (p : Nat) (s : Option (List UInt8)) (w : World) (ht : Tab w) (hr : Rd 87 w p s) :
    Calls Tryd.prog 65 #[.pointer (some ⟨p, 0, none⟩)] w (TextPost 87 p s w) := by
  have hN := piece_any p s w ht hr
  go_enter Tryd.func65, Tryd.ntmps65
  go_wp2_with fail
  refine hN.mono ?_
  rintro e w1 ⟨v, q, s1, rfl, hq, hql, hlo, haft, hr1, bar1⟩
  clear hlo
  clear hN
  have kx := run_string_of hq 34 9 5 Tryd.underlying34 Tryd.underlying5 Tryd.underlying9
  have HN : Hid (q.length < 65536 ∧ Aft s pieceP q s1 ∧ Rd 87 w1 p s1 ∧ Bar p w w1) := ⟨hql, haft, hr1, bar1⟩
  clear hq hql haft hr1 bar1
  go_wp2
  go_ret
  exact ⟨str q, s1, rfl, by rw [str_size]; exact HN.out.1, HN.out.2.1.out str, HN.out.2.2.1, HN.out.2.2.2⟩

theorem aft_one {n : Nat} {l : List UInt8} {tn : Bool} (h : n ≤ 1) : Aft (left tn l) (oneP n) (decide (n = 1)) (left tn l) := by
  unfold Aft oneP left
  cases tn
  · simp [h, pureP]
  · simp

theorem aft_noone {n : Nat} {l : List UInt8} {tn x : Bool} (h : ¬ n ≤ 1) : Aft (left tn l) (oneP n) x none := by
  unfold Aft oneP left
  cases tn
  · simp [h, noneP]
  · simp

end Go.Proofs.YtopacoghnofliaaDoor
