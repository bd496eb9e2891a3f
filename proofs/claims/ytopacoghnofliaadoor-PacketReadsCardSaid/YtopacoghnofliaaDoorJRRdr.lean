/-
  THE DOCUMENT's READER: Num, Text, Yes, by their contracts.
-/
import Derived.Test.YtopacoghnofliaaDoorMem13b
import Derived.Test.YtopacoghnofliaaDoorJTakes13
namespace Go.Proofs.YtopacoghnofliaaDoor
open Go.RowKit


set_option maxRecDepth 20000 in
theorem rnum_any (p k : Nat) (s : Option (List UInt8)) (w : World) (hg : goodB k = true) (hr : Rd 66 w p s) :
    Calls Tryd.prog 34 #[.pointer (some ⟨p, 0, none⟩), .int .i64 (k : Int)] w (NumPost 66 p k s w) := by
  obtain ⟨a, n, c, tn, l, blk, hh, hl, rfl, lo⟩ := hr
  have LO : Hid (Lo a l p) := lo
  clear lo
  have c0 : w.cell? ⟨p, 0, none⟩ = some (.slice a n c) := by simp only [World.cell?]; rw [blk]; rfl
  have f0 : w.frozen? ⟨p, 0, none⟩ = false := frozen_of_row w p 0 _ _ blk
  have f1 : w.frozen? ⟨p, 1, none⟩ = false := frozen_of_row w p 1 _ _ blk
  have c1 : w.cell? ⟨p, 1, none⟩ = some (.bool tn) := by simp only [World.cell?]; rw [blk]; rfl
  obtain rfl : n = l.length := by obtain ⟨_, _, hv⟩ := hh.slice; injection hv
  by_cases hk : k ≤ l.length
  · have hG := rget_good _ l k w hh hg hk
    obtain ⟨a', c', hs1, hh', hlo⟩ := holds_from hh k hk (k : Int) rfl
    have LO1 : Hid (Lo a' (l.drop k) p) := hlo _ _ _ p rfl LO.out
    clear hlo
    have HN : Hid (getN (l.take k) < 256 ^ k ∧ Aft (left tn l) (numP k) (getN (l.take k)) (left tn (l.drop k))) := ⟨getN_lt l k hk, aft_num hk⟩
    have HB : Hid (w.heap[p]? = some (.cells #[.slice a l.length c, .bool tn] 66 (0, 0)) ∧ Holds w (.slice a' (l.length - k) c') (l.drop k) ∧ (l.drop k).length ≤ 100000 ∧ Holds w (.slice a l.length c) l ∧ l.length ≤ 100000) := ⟨blk, hh', by rw [List.length_drop]; omega, hh, hl⟩
    obtain ⟨m, hm⟩ : ∃ z, l.length - k = z := ⟨_, rfl⟩
    rw [hm] at hs1 HB
    obtain ⟨x, hx⟩ : ∃ z, getN (l.take k) = z := ⟨_, rfl⟩
    rw [hx] at hG HN
    clear hh hh' blk hl hk hg hm hx
    cases tn
    · go_enter Tryd.func34, Tryd.ntmps34
      go_wp2_with fail
      refine hG.mono ?_
      rintro e w ⟨rfl, rfl⟩
      clear hG
      go_wp2
      go_ret
      refine ⟨x, _, rfl, HN.out.1, HN.out.2, ?_, Bar.set _ _ _ _⟩
      exact ⟨a', m, c', false, l.drop k, heap_setCell_same _ _ _ _ _ _ HB.out.1, HB.out.2.1.bar (Bar.set _ _ _ _) HB.out.1, HB.out.2.2.1, rfl, LO1.out⟩
    · go_enter Tryd.func34, Tryd.ntmps34
      go_wp2_with fail
      refine hG.mono ?_
      rintro e w ⟨rfl, rfl⟩
      clear hG
      go_wp2
      go_ret
      refine ⟨0, none, rfl, Nat.pow_pos (by decide), aft_none _ _, ?_, Bar.set _ _ _ _⟩
      exact ⟨a, _, c, true, l, heap_setCell_same _ _ _ _ _ _ HB.out.1, HB.out.2.2.2.1.bar (Bar.set _ _ _ _) HB.out.1, HB.out.2.2.2.2, rfl, LO.out⟩
  · have hG := rget_bad _ l (k : Int) w hh (by unfold getB; rw [hg]; simp; omega)
    have HN : Hid (Aft (left tn l) (numP k) 0 none) := aft_nonum hk
    have HB : Hid (w.heap[p]? = some (.cells #[.slice a l.length c, .bool tn] 66 (0, 0)) ∧ Holds w (.slice a l.length c) l ∧ l.length ≤ 100000) := ⟨blk, hh, hl⟩
    clear hh blk hl hk hg
    cases tn
    all_goals
      go_enter Tryd.func34, Tryd.ntmps34
      go_wp2_with fail
      refine hG.mono ?_
      rintro e w ⟨rfl, rfl⟩
      clear hG
      go_wp2
      go_ret
      refine ⟨0, none, rfl, Nat.pow_pos (by decide), HN.out, ?_, Bar.set _ _ _ _⟩
      exact ⟨a, _, c, true, l, heap_setCell_same _ _ _ _ _ _ HB.out.1, HB.out.2.1.bar (Bar.set _ _ _ _) HB.out.1, HB.out.2.2, rfl, LO.out⟩

/-- .. as the calls are written. -/
theorem rnum1_any (p : Nat) (s : Option (List UInt8)) (w : World) (hr : Rd 66 w p s) :
    Calls Tryd.prog 34 #[.pointer (some ⟨p, 0, none⟩), .int .i64 1] w (NumPost 66 p 1 s w) := rnum_any p 1 s w rfl hr

theorem rnum2_any (p : Nat) (s : Option (List UInt8)) (w : World) (hr : Rd 66 w p s) :
    Calls Tryd.prog 34 #[.pointer (some ⟨p, 0, none⟩), .int .i64 2] w (NumPost 66 p 2 s w) := rnum_any p 2 s w rfl hr

theorem rnum8_any (p : Nat) (s : Option (List UInt8)) (w : World) (hr : Rd 66 w p s) :
    Calls Tryd.prog 34 #[.pointer (some ⟨p, 0, none⟩), .int .i64 8] w (NumPost 66 p 8 s w) := rnum_any p 8 s w rfl hr

theorem empty_size : (⟨#[]⟩ : ByteArray).size = 0 := rfl

set_option maxRecDepth 20000 in
theorem rtextR_any (p : Nat) (s : Option (List UInt8)) (w : World) (hr : Rd 66 w p s) :
    Calls Tryd.prog 52 #[.pointer (some ⟨p, 0, none⟩)] w (TextPost 66 p s w) := by
  have hN := rnum2_any p s w hr
  go_enter Tryd.func52, Tryd.ntmps52
  go_wp2_with fail
  refine hN.mono ?_
  rintro e w1 ⟨n, s1, rfl, hn, haft, hr1, bar1⟩
  clear hN
  have hn : n < 65536 := Nat.lt_of_lt_of_le hn (by decide)
  obtain ⟨a, m, c, tn, l, blk, hh, hl, rfl, lo⟩ := hr1
  have LO : Hid (Lo a l p) := lo
  clear lo
  have c0 : w1.cell? ⟨p, 0, none⟩ = some (.slice a m c) := by simp only [World.cell?]; rw [blk]; rfl
  have f0 : w1.frozen? ⟨p, 0, none⟩ = false := frozen_of_row w1 p 0 _ _ blk
  have f1 : w1.frozen? ⟨p, 1, none⟩ = false := frozen_of_row w1 p 1 _ _ blk
  have c1 : w1.cell? ⟨p, 1, none⟩ = some (.bool tn) := by simp only [World.cell?]; rw [blk]; rfl
  obtain rfl : m = l.length := by obtain ⟨_, _, hv⟩ := hh.slice; injection hv
  have hw := wrap_small hn
  have HB : Hid (w1.heap[p]? = some (.cells #[.slice a l.length c, .bool tn] 66 (0, 0)) ∧ Holds w1 (.slice a l.length c) l ∧ l.length ≤ 100000 ∧ Bar p w w1 ∧ Aft s (numP 2) n (left tn l)) := ⟨blk, hh, hl, bar1, haft⟩
  cases tn
  · by_cases hk : n ≤ l.length
    · have hk' : ¬ (l.length : Int) < (n : Int) := by omega
      obtain ⟨a', c', hs1, hh', hlo⟩ := holds_from hh n hk (n : Int) rfl
      have LO1 : Hid (Lo a' (l.drop n) p) := hlo _ _ _ p rfl LO.out
      clear hlo
      obtain ⟨a2, c2, hs2, hh2, hlo⟩ := holds_to hh n hk (n : Int) rfl
      clear hlo
      have kx := run_string_of hh2 34 9 5 Tryd.underlying34 Tryd.underlying5 Tryd.underlying9
      have HN : Hid (n < 65536 ∧ Aft (left false l) (headP n) (l.take n) (left false (l.drop n)) ∧ Holds w1 (.slice a' (l.length - n) c') (l.drop n) ∧ (l.drop n).length ≤ 100000 ∧ (l.take n).length = n) := ⟨hn, aft_cut hk, hh', by rw [List.length_drop]; omega, by simp; omega⟩
      obtain ⟨m, hm⟩ : ∃ z, l.length - n = z := ⟨_, rfl⟩
      rw [hm] at hs1 HN
      obtain ⟨q, hq⟩ : ∃ z, l.take n = z := ⟨_, rfl⟩
      rw [hq] at kx HN
      clear hh hh' hh2 blk hl hk haft hm hn bar1 hq
      go_wp2
      go_ret
      refine ⟨str q, _, rfl, by rw [str_size, HN.out.2.2.2.2]; exact HN.out.1, Aft.out str (Aft.bind (Q := headP) HB.out.2.2.2.2 HN.out.2.1), ?_, HB.out.2.2.2.1.trans (Bar.set _ _ _ _)⟩
      exact ⟨a', m, c', false, l.drop n, heap_setCell_same _ _ _ _ _ _ HB.out.1, HN.out.2.2.1.bar (Bar.set _ _ _ _) HB.out.1, HN.out.2.2.2.1, rfl, LO1.out⟩
    · have hk' : (l.length : Int) < (n : Int) := by omega
      have HN : Hid (Aft (left false l) (headP n) [] none) := aft_nocut hk
      clear hh blk hl hk haft hn bar1
      go_wp2
      go_ret
      refine ⟨⟨#[]⟩, none, rfl, by rw [empty_size]; decide, Aft.out str (Aft.bind (Q := headP) HB.out.2.2.2.2 HN.out), ?_, HB.out.2.2.2.1.trans (Bar.set _ _ _ _)⟩
      exact ⟨a, _, c, true, l, heap_setCell_same _ _ _ _ _ _ HB.out.1, HB.out.2.1.bar (Bar.set _ _ _ _) HB.out.1, HB.out.2.2.1, rfl, LO.out⟩
  · have HN : Hid (Aft (left true l) (headP n) [] none) := aft_none _ _
    clear hh blk hl haft hn bar1
    go_wp2
    go_ret
    refine ⟨⟨#[]⟩, none, rfl, by rw [empty_size]; decide, Aft.out str (Aft.bind (Q := headP) HB.out.2.2.2.2 HN.out), ?_, HB.out.2.2.2.1.trans (Bar.set _ _ _ _)⟩
    exact ⟨a, _, c, true, l, heap_setCell_same _ _ _ _ _ _ HB.out.1, HB.out.2.1.bar (Bar.set _ _ _ _) HB.out.1, HB.out.2.2.1, rfl, LO.out⟩

end Go.Proofs.YtopacoghnofliaaDoor

/-
  THE DOCUMENT's READER: Exchange, Binding, Message, by their contracts.
-/
namespace Go.Proofs.YtopacoghnofliaaDoor
open Go.RowKit


/-- The document's reader beside a result's box and a box. -/
structure Two0 (t : TypeId) (w U : World) (p g0 g1 : Nat) (C0 C1 : List Value) (s : Option (List UInt8)) : Prop where
  rd : Rd 66 U p s
  h0 : U.heap[g0]? = some (.cells C0.toArray t (0, 0))
  h1 : U.heap[g1]? = some (.cells C1.toArray t (0, 0))
  bar : Bar p w U
  n0 : g0 ≠ p
  n1 : g1 ≠ p
  n01 : g0 ≠ g1
  b0 : w.heap.size ≤ g0
  b1 : w.heap.size ≤ g1

theorem Two0.go {t : TypeId} {w U V : World} {p g0 g1 : Nat} {C0 C1 : List Value} {s s' : Option (List UInt8)} (h : Two0 t w U p g0 g1 C0 C1 s) (hr : Rd 66 V p s') (hb : Bar p U V) : Two0 t w V p g0 g1 C0 C1 s' :=
  ⟨hr, hb.box h.h0 h.n0, hb.box h.h1 h.n1, h.bar.trans hb, h.n0, h.n1, h.n01, h.b0, h.b1⟩

theorem Two0.set {t : TypeId} {w U : World} {p g0 g1 : Nat} {C0 C1 : List Value} {s : Option (List UInt8)} (h : Two0 t w U p g0 g1 C0 C1 s) (hC : NoBytes C1) (j : Nat) (v : Value) : Two0 t w (U.setCell ⟨g1, j, none⟩ v) p g0 g1 C0 (C1.set j v) s :=
  ⟨h.rd.set h.h1 hC (Ne.symm h.n1) j v, (Below.heap_setCell _ _ _ _ h.n01).trans h.h0, set_list h.h1 v, h.bar.setNew h.b1 j v, h.n0, h.n1, h.n01, h.b0, h.b1⟩

theorem noBytes_cons {v : Value} {C : List Value} (hv : ∀ x, v ≠ .int .u8 x) (h : NoBytes C) : NoBytes (v :: C) := by
  intro u hu
  rcases List.mem_cons.1 hu with rfl | hu
  · exact hv
  · exact h u hu

theorem noBytes_nil : NoBytes [] := fun _ h => by cases h

theorem cells3 {w : World} {g : Nat} {t : TypeId} {v0 v1 v2 : Value} (h : w.heap[g]? = some (.cells [v0, v1, v2].toArray t (0, 0))) : w.cell? ⟨g, 0, none⟩ = some v0 ∧ w.cell? ⟨g, 1, none⟩ = some v1 ∧ w.cell? ⟨g, 2, none⟩ = some v2 :=
  ⟨box_at h rfl, box_at h rfl, box_at h rfl⟩

def ExPost (p : Nat) (s : Option (List UInt8)) (w : World) (e : Ending) (w' : World) : Prop :=
  ∃ (n : ByteArray) (k : Nat) (f : Bool) (s' : Option (List UInt8)), e = .returned (.agg #[.string n, .int .i64 (k : Int), .bool f]) ∧ n.size < 65536 ∧ k < 65536 ∧ Aft s exP (n, (k : Int), f) s' ∧ Rd 66 w' p s' ∧ Bar p w w'

def BdPost (p : Nat) (s : Option (List UInt8)) (w : World) (e : Ending) (w' : World) : Prop :=
  ∃ (x q b : ByteArray) (s' : Option (List UInt8)), e = .returned (.agg #[.string x, .string q, .string b]) ∧ x.size < 65536 ∧ q.size < 65536 ∧ b.size < 65536 ∧ Aft s bdP (x, q, b) s' ∧ Rd 66 w' p s' ∧ Bar p w w'

set_option maxRecDepth 20000 in
set_option maxHeartbeats 2000000 in
theorem rmsgR_any (p : Nat) (s : Option (List UInt8)) (w : World) (hr : Rd 66 w p s) :
    Calls Tryd.prog 35 #[.pointer (some ⟨p, 0, none⟩)] w (MsgPost 66 p s w) := by
  obtain ⟨U, fold⟩ : ∃ X, (w.alloc (.cells #[.int .i64 0, .int .u64 0, .int .i64 0, .string ⟨#[]⟩, .string ⟨#[]⟩, .string ⟨#[]⟩] 27)).alloc (.cells #[.int .i64 0, .int .u64 0, .int .i64 0, .string ⟨#[]⟩, .string ⟨#[]⟩, .string ⟨#[]⟩] 27) = X := ⟨_, rfl⟩
  have bU : Below w.heap.size w U := by rw [← fold]; exact keptW (box_below w _) (box_below _ _)
  have hlt := hr.lt
  have K0 : Hid (Two0 27 w U p w.heap.size (w.heap.size + 1) [.int .i64 0, .int .u64 0, .int .i64 0, .string ⟨#[]⟩, .string ⟨#[]⟩, .string ⟨#[]⟩] [.int .i64 0, .int .u64 0, .int .i64 0, .string ⟨#[]⟩, .string ⟨#[]⟩, .string ⟨#[]⟩] s) := ⟨hr.kept bU, by rw [← fold]; exact heap_alloc2_old w _ _, by rw [← fold]; exact heap_alloc2_new w _ _, Bar.of bU, by omega, by omega, by omega, Nat.le_refl _, by omega⟩
  have hC := rnum1_any p s U K0.out.rd
  clear bU hlt hr
  go_enter Tryd.func35, Tryd.ntmps35
  go_wp2_with fail
  try rw [fold]
  refine hC.mono ?_
  rintro e w1 ⟨t1, s1, rfl, n1, a1, r1, b1⟩
  clear hC
  have wr1 := wrap_num n1 (by decide)
  have A1 : Hid (Aft s (numP 1) t1 s1) := a1
  have N1 : Hid _ := n1
  have L1 : Hid (Two0 27 w w1 p w.heap.size (w.heap.size + 1) [.int .i64 0, .int .u64 0, .int .i64 0, .string ⟨#[]⟩, .string ⟨#[]⟩, .string ⟨#[]⟩] [.int .i64 0, .int .u64 0, .int .i64 0, .string ⟨#[]⟩, .string ⟨#[]⟩, .string ⟨#[]⟩] s1) := K0.out.go r1 b1
  obtain ⟨y10, y11, y12, y13, y14, y15⟩ := cells6 L1.out.h1
  have f1 := fun j => box_free L1.out.h1 j
  obtain ⟨X1, fold1⟩ : ∃ X, w1.setCell ⟨(w.heap.size + 1), 0, none⟩ (.int .i64 (t1 : Int)) = X := ⟨_, rfl⟩
  have K1 : Hid (Two0 27 w X1 p w.heap.size (w.heap.size + 1) [.int .i64 0, .int .u64 0, .int .i64 0, .string ⟨#[]⟩, .string ⟨#[]⟩, .string ⟨#[]⟩] [.int .i64 (t1 : Int), .int .u64 0, .int .i64 0, .string ⟨#[]⟩, .string ⟨#[]⟩, .string ⟨#[]⟩] s1) := by rw [← fold1]; exact L1.out.set (noBytes_cons (fun _ h => by cases h) (noBytes_cons (fun _ h => by cases h) (noBytes_cons (fun _ h => by cases h) (noBytes_cons (fun _ h => by cases h) (noBytes_cons (fun _ h => by cases h) (noBytes_cons (fun _ h => by cases h) (noBytes_nil))))))) 0 _
  clear a1 n1 r1 b1
  have hC := rnum8_any p s1 X1 K1.out.rd
  go_wp2_with fail
  skip
  refine hC.mono ?_
  rintro e w2 ⟨t2, s2, rfl, n2, a2, r2, b2⟩
  clear hC
  have A2 : Hid (Aft s1 (numP 8) t2 s2) := a2
  have N2 : Hid _ := n2
  have L2 : Hid (Two0 27 w w2 p w.heap.size (w.heap.size + 1) [.int .i64 0, .int .u64 0, .int .i64 0, .string ⟨#[]⟩, .string ⟨#[]⟩, .string ⟨#[]⟩] [.int .i64 (t1 : Int), .int .u64 0, .int .i64 0, .string ⟨#[]⟩, .string ⟨#[]⟩, .string ⟨#[]⟩] s2) := K1.out.go r2 b2
  obtain ⟨y20, y21, y22, y23, y24, y25⟩ := cells6 L2.out.h1
  have f2 := fun j => box_free L2.out.h1 j
  obtain ⟨X2, fold2⟩ : ∃ X, w2.setCell ⟨(w.heap.size + 1), 1, none⟩ (.int .u64 (t2 : Int)) = X := ⟨_, rfl⟩
  have K2 : Hid (Two0 27 w X2 p w.heap.size (w.heap.size + 1) [.int .i64 0, .int .u64 0, .int .i64 0, .string ⟨#[]⟩, .string ⟨#[]⟩, .string ⟨#[]⟩] [.int .i64 (t1 : Int), .int .u64 (t2 : Int), .int .i64 0, .string ⟨#[]⟩, .string ⟨#[]⟩, .string ⟨#[]⟩] s2) := by rw [← fold2]; exact L2.out.set (noBytes_cons (fun _ h => by cases h) (noBytes_cons (fun _ h => by cases h) (noBytes_cons (fun _ h => by cases h) (noBytes_cons (fun _ h => by cases h) (noBytes_cons (fun _ h => by cases h) (noBytes_cons (fun _ h => by cases h) (noBytes_nil))))))) 1 _
  clear a2 n2 r2 b2
  have hC := rnum1_any p s2 X2 K2.out.rd
  go_wp2_with fail
  skip
  refine hC.mono ?_
  rintro e w3 ⟨t3, s3, rfl, n3, a3, r3, b3⟩
  clear hC
  have wr3 := wrap_num n3 (by decide)
  have A3 : Hid (Aft s2 (numP 1) t3 s3) := a3
  have N3 : Hid _ := n3
  have L3 : Hid (Two0 27 w w3 p w.heap.size (w.heap.size + 1) [.int .i64 0, .int .u64 0, .int .i64 0, .string ⟨#[]⟩, .string ⟨#[]⟩, .string ⟨#[]⟩] [.int .i64 (t1 : Int), .int .u64 (t2 : Int), .int .i64 0, .string ⟨#[]⟩, .string ⟨#[]⟩, .string ⟨#[]⟩] s3) := K2.out.go r3 b3
  obtain ⟨y30, y31, y32, y33, y34, y35⟩ := cells6 L3.out.h1
  have f3 := fun j => box_free L3.out.h1 j
  obtain ⟨X3, fold3⟩ : ∃ X, w3.setCell ⟨(w.heap.size + 1), 2, none⟩ (.int .i64 (t3 : Int)) = X := ⟨_, rfl⟩
  have K3 : Hid (Two0 27 w X3 p w.heap.size (w.heap.size + 1) [.int .i64 0, .int .u64 0, .int .i64 0, .string ⟨#[]⟩, .string ⟨#[]⟩, .string ⟨#[]⟩] [.int .i64 (t1 : Int), .int .u64 (t2 : Int), .int .i64 (t3 : Int), .string ⟨#[]⟩, .string ⟨#[]⟩, .string ⟨#[]⟩] s3) := by rw [← fold3]; exact L3.out.set (noBytes_cons (fun _ h => by cases h) (noBytes_cons (fun _ h => by cases h) (noBytes_cons (fun _ h => by cases h) (noBytes_cons (fun _ h => by cases h) (noBytes_cons (fun _ h => by cases h) (noBytes_cons (fun _ h => by cases h) (noBytes_nil))))))) 2 _
  clear a3 n3 r3 b3
  have hC := rtextR_any p s3 X3 K3.out.rd
  go_wp2_with fail
  skip
  refine hC.mono ?_
  rintro e w4 ⟨t4, s4, rfl, n4, a4, r4, b4⟩
  clear hC
  have A4 : Hid (Aft s3 textP t4 s4) := a4
  have N4 : Hid _ := n4
  have L4 : Hid (Two0 27 w w4 p w.heap.size (w.heap.size + 1) [.int .i64 0, .int .u64 0, .int .i64 0, .string ⟨#[]⟩, .string ⟨#[]⟩, .string ⟨#[]⟩] [.int .i64 (t1 : Int), .int .u64 (t2 : Int), .int .i64 (t3 : Int), .string ⟨#[]⟩, .string ⟨#[]⟩, .string ⟨#[]⟩] s4) := K3.out.go r4 b4
  obtain ⟨y40, y41, y42, y43, y44, y45⟩ := cells6 L4.out.h1
  have f4 := fun j => box_free L4.out.h1 j
  obtain ⟨X4, fold4⟩ : ∃ X, w4.setCell ⟨(w.heap.size + 1), 3, none⟩ (.string t4) = X := ⟨_, rfl⟩
  have K4 : Hid (Two0 27 w X4 p w.heap.size (w.heap.size + 1) [.int .i64 0, .int .u64 0, .int .i64 0, .string ⟨#[]⟩, .string ⟨#[]⟩, .string ⟨#[]⟩] [.int .i64 (t1 : Int), .int .u64 (t2 : Int), .int .i64 (t3 : Int), .string t4, .string ⟨#[]⟩, .string ⟨#[]⟩] s4) := by rw [← fold4]; exact L4.out.set (noBytes_cons (fun _ h => by cases h) (noBytes_cons (fun _ h => by cases h) (noBytes_cons (fun _ h => by cases h) (noBytes_cons (fun _ h => by cases h) (noBytes_cons (fun _ h => by cases h) (noBytes_cons (fun _ h => by cases h) (noBytes_nil))))))) 3 _
  clear a4 n4 r4 b4
  have hC := rtextR_any p s4 X4 K4.out.rd
  go_wp2_with fail
  skip
  refine hC.mono ?_
  rintro e w5 ⟨t5, s5, rfl, n5, a5, r5, b5⟩
  clear hC
  have A5 : Hid (Aft s4 textP t5 s5) := a5
  have N5 : Hid _ := n5
  have L5 : Hid (Two0 27 w w5 p w.heap.size (w.heap.size + 1) [.int .i64 0, .int .u64 0, .int .i64 0, .string ⟨#[]⟩, .string ⟨#[]⟩, .string ⟨#[]⟩] [.int .i64 (t1 : Int), .int .u64 (t2 : Int), .int .i64 (t3 : Int), .string t4, .string ⟨#[]⟩, .string ⟨#[]⟩] s5) := K4.out.go r5 b5
  obtain ⟨y50, y51, y52, y53, y54, y55⟩ := cells6 L5.out.h1
  have f5 := fun j => box_free L5.out.h1 j
  obtain ⟨X5, fold5⟩ : ∃ X, w5.setCell ⟨(w.heap.size + 1), 4, none⟩ (.string t5) = X := ⟨_, rfl⟩
  have K5 : Hid (Two0 27 w X5 p w.heap.size (w.heap.size + 1) [.int .i64 0, .int .u64 0, .int .i64 0, .string ⟨#[]⟩, .string ⟨#[]⟩, .string ⟨#[]⟩] [.int .i64 (t1 : Int), .int .u64 (t2 : Int), .int .i64 (t3 : Int), .string t4, .string t5, .string ⟨#[]⟩] s5) := by rw [← fold5]; exact L5.out.set (noBytes_cons (fun _ h => by cases h) (noBytes_cons (fun _ h => by cases h) (noBytes_cons (fun _ h => by cases h) (noBytes_cons (fun _ h => by cases h) (noBytes_cons (fun _ h => by cases h) (noBytes_cons (fun _ h => by cases h) (noBytes_nil))))))) 4 _
  clear a5 n5 r5 b5
  have hC := rtextR_any p s5 X5 K5.out.rd
  go_wp2_with fail
  skip
  refine hC.mono ?_
  rintro e w6 ⟨t6, s6, rfl, n6, a6, r6, b6⟩
  clear hC
  have A6 : Hid (Aft s5 textP t6 s6) := a6
  have N6 : Hid _ := n6
  have L6 : Hid (Two0 27 w w6 p w.heap.size (w.heap.size + 1) [.int .i64 0, .int .u64 0, .int .i64 0, .string ⟨#[]⟩, .string ⟨#[]⟩, .string ⟨#[]⟩] [.int .i64 (t1 : Int), .int .u64 (t2 : Int), .int .i64 (t3 : Int), .string t4, .string t5, .string ⟨#[]⟩] s6) := K5.out.go r6 b6
  obtain ⟨y60, y61, y62, y63, y64, y65⟩ := cells6 L6.out.h1
  have f6 := fun j => box_free L6.out.h1 j
  obtain ⟨X6, fold6⟩ : ∃ X, w6.setCell ⟨(w.heap.size + 1), 5, none⟩ (.string t6) = X := ⟨_, rfl⟩
  have K6 : Hid (Two0 27 w X6 p w.heap.size (w.heap.size + 1) [.int .i64 0, .int .u64 0, .int .i64 0, .string ⟨#[]⟩, .string ⟨#[]⟩, .string ⟨#[]⟩] [.int .i64 (t1 : Int), .int .u64 (t2 : Int), .int .i64 (t3 : Int), .string t4, .string t5, .string t6] s6) := by rw [← fold6]; exact L6.out.set (noBytes_cons (fun _ h => by cases h) (noBytes_cons (fun _ h => by cases h) (noBytes_cons (fun _ h => by cases h) (noBytes_cons (fun _ h => by cases h) (noBytes_cons (fun _ h => by cases h) (noBytes_cons (fun _ h => by cases h) (noBytes_nil))))))) 5 _
  clear a6 n6 r6 b6
  go_wp2_with (first | refine wpList_load_row rfl 27 _ rfl (w.heap.size + 1) rfl 27 [.int .i64 (t1 : Int), .int .u64 (t2 : Int), .int .i64 (t3 : Int), .string t4, .string t5, .string t6].toArray (0, 0) _ K6.out.h1 Tryd.underlying27 rfl info6 ?_ | refine wpList_store_row rfl 27 _ _ rfl w.heap.size [.int .i64 (t1 : Int), .int .u64 (t2 : Int), .int .i64 (t3 : Int), .string t4, .string t5, .string t6].toArray rfl rfl 27 [.int .i64 0, .int .u64 0, .int .i64 0, .string ⟨#[]⟩, .string ⟨#[]⟩, .string ⟨#[]⟩].toArray K6.out.h0 info6 rfl (by simp [Value.oneCell']) ?_)
  refine bodyPost_ret (results_cell_row rfl _ _ w.heap.size 27 [.int .i64 (t1 : Int), .int .u64 (t2 : Int), .int .i64 (t3 : Int), .string t4, .string t5, .string t6].toArray (0, 0) _ rfl (setRow_heap _ _ _ _ _ _ K6.out.h0) Tryd.underlying27 rfl info6) rfl ?_
  refine ⟨⟨t1, t2, t3, t4, t5, t6⟩, s6, rfl, ⟨by have := num_le N1.out (by decide); exact ⟨by show _ ≤ (t1 : Int); omega, by show (t1 : Int) < _; omega⟩, by have h := N2.out; exact ⟨by show _ ≤ (t2 : Int); omega, by show (t2 : Int) < _; omega⟩, by have := num_le N3.out (by decide); exact ⟨by show _ ≤ (t3 : Int); omega, by show (t3 : Int) < _; omega⟩, short_max N4.out, short_max N5.out, short_max N6.out⟩, aft_msg A1.out A2.out A3.out A4.out A5.out A6.out, K6.out.rd.only K6.out.h0 (noBytes_cons (fun _ h => by cases h) (noBytes_cons (fun _ h => by cases h) (noBytes_cons (fun _ h => by cases h) (noBytes_cons (fun _ h => by cases h) (noBytes_cons (fun _ h => by cases h) (noBytes_cons (fun _ h => by cases h) (noBytes_nil))))))) (Ne.symm K6.out.n0) (fun k _ hk => setRow_other _ _ _ _ hk), ?_⟩
  exact ⟨K6.out.bar.os, K6.out.bar.tape, K6.out.bar.output, by rw [size_setRow]; exact K6.out.bar.size, fun k hk hp => (setRow_other _ _ _ _ (by omega)).trans (K6.out.bar.block k hk hp)⟩

end Go.Proofs.YtopacoghnofliaaDoor
