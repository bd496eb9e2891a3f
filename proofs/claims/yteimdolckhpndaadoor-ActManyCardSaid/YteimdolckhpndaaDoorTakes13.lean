/-
  THE READER READS INTO AN ACT: takeName .. takeBinding, by their contracts.
-/
import Derived.Test.YteimdolckhpndaaDoorMem13b
namespace Go.Proofs.YteimdolckhpndaaDoor
open Go.RowKit

theorem aft_name {s s1 : Option (List UInt8)} {z : Ax} {t : ByteArray} (h : Aft s textP t s1) : Aft s (takeP z 110) { z with name := t } s1 := by
  have := Aft.out (fun x => ({ z with name := x } : Ax)) h
  unfold takeP
  rw [if_pos rfl]
  exact this
theorem aft_n {s s1 : Option (List UInt8)} {z : Ax} {t : Nat} (h : Aft s (numP 2) t s1) : Aft s (takeP z 100) { z with n := (t : Int) } s1 := by
  have := Aft.out (fun x : Nat => ({ z with n := (x : Int) } : Ax)) h
  unfold takeP
  rw [if_neg (by decide), if_pos (by decide)]
  exact this
theorem take_nn (z : Ax) : takeP z 99 = takeP z 100 := by
  unfold takeP
  rw [if_neg (by decide), if_pos (by decide), if_neg (by decide), if_pos (by decide)]
theorem aft_tag {s s1 : Option (List UInt8)} {z : Ax} {t : Nat} (h : Aft s (numP 8) t s1) : Aft s (takeP z 116) { z with tag := (t : Int) } s1 := by
  have := Aft.out (fun x : Nat => ({ z with tag := (x : Int) } : Ax)) h
  unfold takeP
  rw [if_neg (by decide), if_neg (by decide), if_pos (by decide)]
  exact this
theorem aft_to {s s1 : Option (List UInt8)} {z : Ax} {t : Nat} (h : Aft s (numP 1) t s1) : Aft s (takeP z 115) { z with to := (t : Int) } s1 := by
  have := Aft.out (fun x : Nat => ({ z with to := (x : Int) } : Ax)) h
  unfold takeP
  rw [if_neg (by decide), if_neg (by decide), if_neg (by decide), if_pos (by decide)]
  exact this
theorem aft_ex0 {s s1 s2 s3 : Option (List UInt8)} {n : ByteArray} {k : Nat} {f : Bool} (h1 : Aft s textP n s1) (h2 : Aft s1 (numP 1) k s2) (h3 : Aft s2 yesP f s3) : Aft s exP (n, (k : Int), f) s3 :=
  Aft.bind (Q := fun n => bindP (numP 1) fun k => bindP yesP fun f => pureP (n, (k : Int), f)) h1 (Aft.bind (Q := fun k : Nat => bindP yesP fun f => pureP (n, (k : Int), f)) h2 (Aft.out (fun f => (n, (k : Int), f)) h3))
theorem aft_bd0 {s s1 s2 s3 : Option (List UInt8)} {e q b : ByteArray} (h1 : Aft s textP e s1) (h2 : Aft s1 textP q s2) (h3 : Aft s2 textP b s3) : Aft s bdP (e, q, b) s3 :=
  Aft.bind (Q := fun e => bindP textP fun q => bindP textP fun p => pureP (e, q, p)) h1 (Aft.bind (Q := fun q => bindP textP fun p => pureP (e, q, p)) h2 (Aft.out (fun f => (e, q, f)) h3))
theorem aft_ex1 {s s3 : Option (List UInt8)} {z : Ax} {x : ByteArray × Int × Bool} (h : Aft s exP x s3) : Aft s (takeP z 120) { z with xn := x.1, xk := x.2.1, xf := x.2.2 } s3 := by
  have := Aft.out (fun x : ByteArray × Int × Bool => ({ z with xn := x.1, xk := x.2.1, xf := x.2.2 } : Ax)) h
  unfold takeP
  rw [if_neg (by decide), if_neg (by decide), if_neg (by decide), if_neg (by decide), if_pos (by decide)]
  exact this
theorem aft_bd1 {s s3 : Option (List UInt8)} {z : Ax} {x : ByteArray × ByteArray × ByteArray} (h : Aft s bdP x s3) : Aft s (takeP z 98) { z with be := x.1, bq := x.2.1, bp := x.2.2 } s3 := by
  have := Aft.out (fun x : ByteArray × ByteArray × ByteArray => ({ z with be := x.1, bq := x.2.1, bp := x.2.2 } : Ax)) h
  unfold takeP
  rw [if_neg (by decide), if_neg (by decide), if_neg (by decide), if_neg (by decide), if_neg (by decide), if_pos (by decide)]
  exact this
theorem aft_m {s s1 : Option (List UInt8)} {z : Ax} {m : Ms} (h : Aft s msgP m s1) : Aft s (takeP z 109) { z with m := m } s1 := by
  have := Aft.out (fun x => ({ z with m := x } : Ax)) h
  unfold takeP
  rw [if_neg (by decide), if_neg (by decide), if_neg (by decide), if_neg (by decide), if_neg (by decide), if_neg (by decide)]
  exact this
theorem aft_msg {s s1 s2 s3 s4 s5 s6 : Option (List UInt8)} {o q h : Nat} {e k b : ByteArray} (h1 : Aft s (numP 1) o s1) (h2 : Aft s1 (numP 8) q s2) (h3 : Aft s2 (numP 1) h s3) (h4 : Aft s3 textP e s4) (h5 : Aft s4 textP k s5) (h6 : Aft s5 textP b s6) : Aft s msgP ⟨o, q, h, e, k, b⟩ s6 :=
  Aft.bind (Q := fun o : Nat => bindP (numP 8) fun s => bindP (numP 1) fun h => bindP textP fun e => bindP textP fun k => bindP textP fun b => pureP (⟨o, s, h, e, k, b⟩ : Ms)) h1 (Aft.bind (Q := fun s : Nat => bindP (numP 1) fun h => bindP textP fun e => bindP textP fun k => bindP textP fun b => pureP (⟨o, s, h, e, k, b⟩ : Ms)) h2 (Aft.bind (Q := fun h : Nat => bindP textP fun e => bindP textP fun k => bindP textP fun b => pureP (⟨o, q, h, e, k, b⟩ : Ms)) h3 (Aft.bind (Q := fun e => bindP textP fun k => bindP textP fun b => pureP (⟨o, q, h, e, k, b⟩ : Ms)) h4 (Aft.bind (Q := fun k => bindP textP fun b => pureP (⟨o, q, h, e, k, b⟩ : Ms)) h5 (Aft.out (fun b => (⟨o, q, h, e, k, b⟩ : Ms)) h6)))))
set_option maxRecDepth 20000 in
theorem takeName_any (p q : Nat) (s : Option (List UInt8)) (z : Ax) (w : World) (ht : Tab w) (hr : Rd 77 w p s) (hq : w.heap[q]? = some (.cells (xcells z).toArray 32 (0, 0))) (hz : z.Fits) (hpq : q ≠ p) :
    Calls Tryd.prog 74 #[.pointer (some ⟨p, 0, none⟩), .pointer (some ⟨q, 0, none⟩)] w (TakePost 77 p q s (takeP z 110) w) := by
  have hC := text_any p s w ht hr
  have H0 : Hid (Tab w ∧ Rd 77 w p s ∧ w.heap[q]? = some (.cells (xcells z).toArray 32 (0, 0)) ∧ z.Fits ∧ q ≠ p) := ⟨ht, hr, hq, hz, hpq⟩
  clear ht hr hq hz hpq
  go_enter Tryd.func74, Tryd.ntmps74
  go_wp2_with fail
  refine hC.mono ?_
  rintro e w1 ⟨t1, s1, rfl, n1, a1, r1, b1⟩
  clear hC
  have H1 : Hid (Tab w1 ∧ Rd 77 w1 p s1 ∧ w1.heap[q]? = some (.cells (xcells z).toArray 32 (0, 0)) ∧ z.Fits ∧ q ≠ p) := ⟨H0.out.1.bar H0.out.2.1 b1, r1, b1.box H0.out.2.2.1 H0.out.2.2.2.2, H0.out.2.2.2.1, H0.out.2.2.2.2⟩
  have N1 : Hid _ := n1
  clear n1
  have A1 : Hid (Aft s textP t1 s1) := a1
  have B1 : Hid (Bar p w w1) := b1
  clear a1 r1 b1
  have f1 := box_free H1.out.2.2.1 1
  have y1 := (cells17 H1.out.2.2.1).2.1
  go_wp2
  go_end0
  refine ⟨{ z with name := t1 }, s1, rfl, { H0.out.2.2.2.1 with nm := short_max N1.out }, aft_name A1.out, H1.out.2.1.only H1.out.2.2.1 (noBytes_act z) (Ne.symm H1.out.2.2.2.2) (fun k _ hk => by rw [Below.heap_setCell _ _ _ _ hk]), ?_, (B1.out.two).set _ _⟩
  exact (set_list H1.out.2.2.1 _)
set_option maxRecDepth 20000 in
theorem takeN_any (p q : Nat) (s : Option (List UInt8)) (z : Ax) (w : World) (ht : Tab w) (hr : Rd 77 w p s) (hq : w.heap[q]? = some (.cells (xcells z).toArray 32 (0, 0))) (hz : z.Fits) (hpq : q ≠ p) :
    Calls Tryd.prog 75 #[.pointer (some ⟨p, 0, none⟩), .pointer (some ⟨q, 0, none⟩)] w (TakePost 77 p q s (takeP z 100) w) := by
  have hC := num2_any p s w ht hr
  have H0 : Hid (Tab w ∧ Rd 77 w p s ∧ w.heap[q]? = some (.cells (xcells z).toArray 32 (0, 0)) ∧ z.Fits ∧ q ≠ p) := ⟨ht, hr, hq, hz, hpq⟩
  clear ht hr hq hz hpq
  go_enter Tryd.func75, Tryd.ntmps75
  go_wp2_with fail
  refine hC.mono ?_
  rintro e w1 ⟨t1, s1, rfl, n1, a1, r1, b1⟩
  clear hC
  have wr1 := wrap_num n1 (by decide)
  have H1 : Hid (Tab w1 ∧ Rd 77 w1 p s1 ∧ w1.heap[q]? = some (.cells (xcells z).toArray 32 (0, 0)) ∧ z.Fits ∧ q ≠ p) := ⟨H0.out.1.bar H0.out.2.1 b1, r1, b1.box H0.out.2.2.1 H0.out.2.2.2.2, H0.out.2.2.2.1, H0.out.2.2.2.2⟩
  have N1 : Hid _ := n1
  clear n1
  have A1 : Hid (Aft s (numP 2) t1 s1) := a1
  have B1 : Hid (Bar p w w1) := b1
  clear a1 r1 b1
  have f2 := box_free H1.out.2.2.1 2
  have y2 := (cells17 H1.out.2.2.1).2.2.1
  go_wp2
  go_end0
  refine ⟨{ z with n := (t1 : Int) }, s1, rfl, { H0.out.2.2.2.1 with n := by have := num_le N1.out (by decide); exact ⟨by show _ ≤ (t1 : Int); omega, by show (t1 : Int) < _; omega⟩ }, aft_n A1.out, H1.out.2.1.only H1.out.2.2.1 (noBytes_act z) (Ne.symm H1.out.2.2.2.2) (fun k _ hk => by rw [Below.heap_setCell _ _ _ _ hk]), ?_, (B1.out.two).set _ _⟩
  exact (set_list H1.out.2.2.1 _)
set_option maxRecDepth 20000 in
theorem takeTag_any (p q : Nat) (s : Option (List UInt8)) (z : Ax) (w : World) (ht : Tab w) (hr : Rd 77 w p s) (hq : w.heap[q]? = some (.cells (xcells z).toArray 32 (0, 0))) (hz : z.Fits) (hpq : q ≠ p) :
    Calls Tryd.prog 76 #[.pointer (some ⟨p, 0, none⟩), .pointer (some ⟨q, 0, none⟩)] w (TakePost 77 p q s (takeP z 116) w) := by
  have hC := num8_any p s w ht hr
  have H0 : Hid (Tab w ∧ Rd 77 w p s ∧ w.heap[q]? = some (.cells (xcells z).toArray 32 (0, 0)) ∧ z.Fits ∧ q ≠ p) := ⟨ht, hr, hq, hz, hpq⟩
  clear ht hr hq hz hpq
  go_enter Tryd.func76, Tryd.ntmps76
  go_wp2_with fail
  refine hC.mono ?_
  rintro e w1 ⟨t1, s1, rfl, n1, a1, r1, b1⟩
  clear hC
  have H1 : Hid (Tab w1 ∧ Rd 77 w1 p s1 ∧ w1.heap[q]? = some (.cells (xcells z).toArray 32 (0, 0)) ∧ z.Fits ∧ q ≠ p) := ⟨H0.out.1.bar H0.out.2.1 b1, r1, b1.box H0.out.2.2.1 H0.out.2.2.2.2, H0.out.2.2.2.1, H0.out.2.2.2.2⟩
  have N1 : Hid _ := n1
  clear n1
  have A1 : Hid (Aft s (numP 8) t1 s1) := a1
  have B1 : Hid (Bar p w w1) := b1
  clear a1 r1 b1
  have f3 := box_free H1.out.2.2.1 3
  have y3 := (cells17 H1.out.2.2.1).2.2.2.1
  go_wp2
  go_end0
  refine ⟨{ z with tag := (t1 : Int) }, s1, rfl, { H0.out.2.2.2.1 with t := by have h := N1.out; exact ⟨by show _ ≤ (t1 : Int); omega, by show (t1 : Int) < _; omega⟩ }, aft_tag A1.out, H1.out.2.1.only H1.out.2.2.1 (noBytes_act z) (Ne.symm H1.out.2.2.2.2) (fun k _ hk => by rw [Below.heap_setCell _ _ _ _ hk]), ?_, (B1.out.two).set _ _⟩
  exact (set_list H1.out.2.2.1 _)
set_option maxRecDepth 20000 in
theorem takeTo_any (p q : Nat) (s : Option (List UInt8)) (z : Ax) (w : World) (ht : Tab w) (hr : Rd 77 w p s) (hq : w.heap[q]? = some (.cells (xcells z).toArray 32 (0, 0))) (hz : z.Fits) (hpq : q ≠ p) :
    Calls Tryd.prog 77 #[.pointer (some ⟨p, 0, none⟩), .pointer (some ⟨q, 0, none⟩)] w (TakePost 77 p q s (takeP z 115) w) := by
  have hC := num1_any p s w ht hr
  have H0 : Hid (Tab w ∧ Rd 77 w p s ∧ w.heap[q]? = some (.cells (xcells z).toArray 32 (0, 0)) ∧ z.Fits ∧ q ≠ p) := ⟨ht, hr, hq, hz, hpq⟩
  clear ht hr hq hz hpq
  go_enter Tryd.func77, Tryd.ntmps77
  go_wp2_with fail
  refine hC.mono ?_
  rintro e w1 ⟨t1, s1, rfl, n1, a1, r1, b1⟩
  clear hC
  have wr1 := wrap_num n1 (by decide)
  have H1 : Hid (Tab w1 ∧ Rd 77 w1 p s1 ∧ w1.heap[q]? = some (.cells (xcells z).toArray 32 (0, 0)) ∧ z.Fits ∧ q ≠ p) := ⟨H0.out.1.bar H0.out.2.1 b1, r1, b1.box H0.out.2.2.1 H0.out.2.2.2.2, H0.out.2.2.2.1, H0.out.2.2.2.2⟩
  have N1 : Hid _ := n1
  clear n1
  have A1 : Hid (Aft s (numP 1) t1 s1) := a1
  have B1 : Hid (Bar p w w1) := b1
  clear a1 r1 b1
  have f4 := box_free H1.out.2.2.1 4
  have y4 := (cells17 H1.out.2.2.1).2.2.2.2.1
  go_wp2
  go_end0
  refine ⟨{ z with to := (t1 : Int) }, s1, rfl, { H0.out.2.2.2.1 with to := by have := num_le N1.out (by decide); exact ⟨by show _ ≤ (t1 : Int); omega, by show (t1 : Int) < _; omega⟩ }, aft_to A1.out, H1.out.2.1.only H1.out.2.2.1 (noBytes_act z) (Ne.symm H1.out.2.2.2.2) (fun k _ hk => by rw [Below.heap_setCell _ _ _ _ hk]), ?_, (B1.out.two).set _ _⟩
  exact (set_list H1.out.2.2.1 _)
set_option maxRecDepth 20000 in
theorem takeExchange_any (p q : Nat) (s : Option (List UInt8)) (z : Ax) (w : World) (ht : Tab w) (hr : Rd 77 w p s) (hq : w.heap[q]? = some (.cells (xcells z).toArray 32 (0, 0))) (hz : z.Fits) (hpq : q ≠ p) :
    Calls Tryd.prog 78 #[.pointer (some ⟨p, 0, none⟩), .pointer (some ⟨q, 0, none⟩)] w (TakePost 77 p q s (takeP z 120) w) := by
  have hC := text_any p s w ht hr
  have H0 : Hid (Tab w ∧ Rd 77 w p s ∧ w.heap[q]? = some (.cells (xcells z).toArray 32 (0, 0)) ∧ z.Fits ∧ q ≠ p) := ⟨ht, hr, hq, hz, hpq⟩
  clear ht hr hq hz hpq
  go_enter Tryd.func78, Tryd.ntmps78
  go_wp2_with fail
  refine hC.mono ?_
  rintro e w1 ⟨t1, s1, rfl, n1, a1, r1, b1⟩
  clear hC
  have H1 : Hid (Tab w1 ∧ Rd 77 w1 p s1 ∧ w1.heap[q]? = some (.cells (xcells z).toArray 32 (0, 0)) ∧ z.Fits ∧ q ≠ p) := ⟨H0.out.1.bar H0.out.2.1 b1, r1, b1.box H0.out.2.2.1 H0.out.2.2.2.2, H0.out.2.2.2.1, H0.out.2.2.2.2⟩
  have N1 : Hid _ := n1
  clear n1
  have A1 : Hid (Aft s textP t1 s1) := a1
  have B1 : Hid (Bar p w w1) := b1
  clear a1 r1 b1
  have hC := num1_any p s1 w1 H1.out.1 H1.out.2.1
  go_wp2_with fail
  refine hC.mono ?_
  rintro e w2 ⟨t2, s2, rfl, n2, a2, r2, b2⟩
  clear hC
  have wr2 := wrap_num n2 (by decide)
  have H2 : Hid (Tab w2 ∧ Rd 77 w2 p s2 ∧ w2.heap[q]? = some (.cells (xcells z).toArray 32 (0, 0)) ∧ z.Fits ∧ q ≠ p) := ⟨H1.out.1.bar H1.out.2.1 b2, r2, b2.box H1.out.2.2.1 H1.out.2.2.2.2, H1.out.2.2.2.1, H1.out.2.2.2.2⟩
  have N2 : Hid _ := n2
  clear n2
  have A2 : Hid (Aft s1 (numP 1) t2 s2) := a2
  have B2 : Hid (Bar p w w2) := B1.out.trans b2
  clear a2 r2 b2
  have hC := yes_any p s2 w2 H2.out.1 H2.out.2.1
  go_wp2_with fail
  refine hC.mono ?_
  rintro e w3 ⟨t3, s3, rfl, a3, r3, b3⟩
  clear hC
  have H3 : Hid (Tab w3 ∧ Rd 77 w3 p s3 ∧ w3.heap[q]? = some (.cells (xcells z).toArray 32 (0, 0)) ∧ z.Fits ∧ q ≠ p) := ⟨H2.out.1.bar H2.out.2.1 b3, r3, b3.box H2.out.2.2.1 H2.out.2.2.2.2, H2.out.2.2.2.1, H2.out.2.2.2.2⟩
  have A3 : Hid (Aft s2 yesP t3 s3) := a3
  have B3 : Hid (Bar p w w3) := B2.out.trans b3
  clear a3 r3 b3
  have f5 := box_free H3.out.2.2.1 5
  have y5 := (cells17 H3.out.2.2.1).2.2.2.2.2.1
  have f6 := box_free H3.out.2.2.1 6
  have y6 := (cells17 H3.out.2.2.1).2.2.2.2.2.2.1
  have f7 := box_free H3.out.2.2.1 7
  have y7 := (cells17 H3.out.2.2.1).2.2.2.2.2.2.2.1
  go_wp2
  go_end0
  refine ⟨{ z with xn := t1, xk := (t2 : Int), xf := t3 }, s3, rfl, { H0.out.2.2.2.1 with xn := short_max N1.out, xk := by have := num_le N2.out (by decide); exact ⟨by show _ ≤ (t2 : Int); omega, by show (t2 : Int) < _; omega⟩ }, aft_ex1 (aft_ex0 A1.out A2.out A3.out), H3.out.2.1.only H3.out.2.2.1 (noBytes_act z) (Ne.symm H3.out.2.2.2.2) (fun k _ hk => by rw [Below.heap_setCell _ _ _ _ hk]; rw [Below.heap_setCell _ _ _ _ hk]; rw [Below.heap_setCell _ _ _ _ hk]), ?_, (((B3.out.two).set _ _).set _ _).set _ _⟩
  exact (set_list (set_list (set_list H3.out.2.2.1 _) _) _)
set_option maxRecDepth 20000 in
theorem takeBinding_any (p q : Nat) (s : Option (List UInt8)) (z : Ax) (w : World) (ht : Tab w) (hr : Rd 77 w p s) (hq : w.heap[q]? = some (.cells (xcells z).toArray 32 (0, 0))) (hz : z.Fits) (hpq : q ≠ p) :
    Calls Tryd.prog 79 #[.pointer (some ⟨p, 0, none⟩), .pointer (some ⟨q, 0, none⟩)] w (TakePost 77 p q s (takeP z 98) w) := by
  have hC := text_any p s w ht hr
  have H0 : Hid (Tab w ∧ Rd 77 w p s ∧ w.heap[q]? = some (.cells (xcells z).toArray 32 (0, 0)) ∧ z.Fits ∧ q ≠ p) := ⟨ht, hr, hq, hz, hpq⟩
  clear ht hr hq hz hpq
  go_enter Tryd.func79, Tryd.ntmps79
  go_wp2_with fail
  refine hC.mono ?_
  rintro e w1 ⟨t1, s1, rfl, n1, a1, r1, b1⟩
  clear hC
  have H1 : Hid (Tab w1 ∧ Rd 77 w1 p s1 ∧ w1.heap[q]? = some (.cells (xcells z).toArray 32 (0, 0)) ∧ z.Fits ∧ q ≠ p) := ⟨H0.out.1.bar H0.out.2.1 b1, r1, b1.box H0.out.2.2.1 H0.out.2.2.2.2, H0.out.2.2.2.1, H0.out.2.2.2.2⟩
  have N1 : Hid _ := n1
  clear n1
  have A1 : Hid (Aft s textP t1 s1) := a1
  have B1 : Hid (Bar p w w1) := b1
  clear a1 r1 b1
  have hC := text_any p s1 w1 H1.out.1 H1.out.2.1
  go_wp2_with fail
  refine hC.mono ?_
  rintro e w2 ⟨t2, s2, rfl, n2, a2, r2, b2⟩
  clear hC
  have H2 : Hid (Tab w2 ∧ Rd 77 w2 p s2 ∧ w2.heap[q]? = some (.cells (xcells z).toArray 32 (0, 0)) ∧ z.Fits ∧ q ≠ p) := ⟨H1.out.1.bar H1.out.2.1 b2, r2, b2.box H1.out.2.2.1 H1.out.2.2.2.2, H1.out.2.2.2.1, H1.out.2.2.2.2⟩
  have N2 : Hid _ := n2
  clear n2
  have A2 : Hid (Aft s1 textP t2 s2) := a2
  have B2 : Hid (Bar p w w2) := B1.out.trans b2
  clear a2 r2 b2
  have hC := text_any p s2 w2 H2.out.1 H2.out.2.1
  go_wp2_with fail
  refine hC.mono ?_
  rintro e w3 ⟨t3, s3, rfl, n3, a3, r3, b3⟩
  clear hC
  have H3 : Hid (Tab w3 ∧ Rd 77 w3 p s3 ∧ w3.heap[q]? = some (.cells (xcells z).toArray 32 (0, 0)) ∧ z.Fits ∧ q ≠ p) := ⟨H2.out.1.bar H2.out.2.1 b3, r3, b3.box H2.out.2.2.1 H2.out.2.2.2.2, H2.out.2.2.2.1, H2.out.2.2.2.2⟩
  have N3 : Hid _ := n3
  clear n3
  have A3 : Hid (Aft s2 textP t3 s3) := a3
  have B3 : Hid (Bar p w w3) := B2.out.trans b3
  clear a3 r3 b3
  have f8 := box_free H3.out.2.2.1 8
  have y8 := (cells17 H3.out.2.2.1).2.2.2.2.2.2.2.2.1
  have f9 := box_free H3.out.2.2.1 9
  have y9 := (cells17 H3.out.2.2.1).2.2.2.2.2.2.2.2.2.1
  have f10 := box_free H3.out.2.2.1 10
  have y10 := (cells17 H3.out.2.2.1).2.2.2.2.2.2.2.2.2.2.1
  go_wp2
  go_end0
  refine ⟨{ z with be := t1, bq := t2, bp := t3 }, s3, rfl, { H0.out.2.2.2.1 with be := short_max N1.out, bq := short_max N2.out, bp := short_max N3.out }, aft_bd1 (aft_bd0 A1.out A2.out A3.out), H3.out.2.1.only H3.out.2.2.1 (noBytes_act z) (Ne.symm H3.out.2.2.2.2) (fun k _ hk => by rw [Below.heap_setCell _ _ _ _ hk]; rw [Below.heap_setCell _ _ _ _ hk]; rw [Below.heap_setCell _ _ _ _ hk]), ?_, (((B3.out.two).set _ _).set _ _).set _ _⟩
  exact (set_list (set_list (set_list H3.out.2.2.1 _) _) _)
end Go.Proofs.YteimdolckhpndaaDoor
