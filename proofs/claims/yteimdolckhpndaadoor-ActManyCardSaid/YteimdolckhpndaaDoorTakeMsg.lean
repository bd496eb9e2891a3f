/-
  THE READER READS A MESSAGE INTO AN ACT, by its contract.
-/
import Derived.Test.YteimdolckhpndaaDoorRdMsg
namespace Go.Proofs.YteimdolckhpndaaDoor
open Go.RowKit

set_option maxRecDepth 20000 in
theorem takeMessage_any (p q : Nat) (s : Option (List UInt8)) (z : Ax) (w : World) (ht : Tab w) (hr : Rd 77 w p s) (hq : w.heap[q]? = some (.cells (xcells z).toArray 32 (0, 0))) (hz : z.Fits) (hpq : q ≠ p) :
    Calls Tryd.prog 80 #[.pointer (some ⟨p, 0, none⟩), .pointer (some ⟨q, 0, none⟩)] w (TakePost 77 p q s (takeP z 109) w) := by
  have hC := msg_any p s w ht hr
  have H0 : Hid (Tab w ∧ Rd 77 w p s ∧ w.heap[q]? = some (.cells (xcells z).toArray 32 (0, 0)) ∧ z.Fits ∧ q ≠ p) := ⟨ht, hr, hq, hz, hpq⟩
  clear ht hr hq hz hpq
  go_enter Tryd.func80, Tryd.ntmps80
  go_wp2_with fail
  refine hC.mono ?_
  rintro e w1 ⟨t1, s1, rfl, n1, a1, r1, b1⟩
  clear hC
  have H1 : Hid (Tab w1 ∧ Rd 77 w1 p s1 ∧ w1.heap[q]? = some (.cells (xcells z).toArray 32 (0, 0)) ∧ z.Fits ∧ q ≠ p) := ⟨H0.out.1.bar H0.out.2.1 b1, r1, b1.box H0.out.2.2.1 H0.out.2.2.2.2, H0.out.2.2.2.1, H0.out.2.2.2.2⟩
  have N1 : Hid _ := n1
  clear n1
  have A1 : Hid (Aft s msgP t1 s1) := a1
  have B1 : Hid (Bar p w w1) := b1
  clear a1 r1 b1
  have f11 := box_free H1.out.2.2.1 11
  have y11 := (cells17 H1.out.2.2.1).2.2.2.2.2.2.2.2.2.2.2.1
  have f12 := box_free H1.out.2.2.1 12
  have y12 := (cells17 H1.out.2.2.1).2.2.2.2.2.2.2.2.2.2.2.2.1
  have f13 := box_free H1.out.2.2.1 13
  have y13 := (cells17 H1.out.2.2.1).2.2.2.2.2.2.2.2.2.2.2.2.2.1
  have f14 := box_free H1.out.2.2.1 14
  have y14 := (cells17 H1.out.2.2.1).2.2.2.2.2.2.2.2.2.2.2.2.2.2.1
  have f15 := box_free H1.out.2.2.1 15
  have y15 := (cells17 H1.out.2.2.1).2.2.2.2.2.2.2.2.2.2.2.2.2.2.2.1
  have f16 := box_free H1.out.2.2.1 16
  have y16 := (cells17 H1.out.2.2.1).2.2.2.2.2.2.2.2.2.2.2.2.2.2.2.2
  go_wp2
  go_end0
  refine ⟨{ z with m := t1 }, s1, rfl, { H0.out.2.2.2.1 with m := N1.out }, aft_m A1.out, H1.out.2.1.only H1.out.2.2.1 (noBytes_act z) (Ne.symm H1.out.2.2.2.2) (fun k _ hk => by rw [Below.heap_setCell _ _ _ _ hk]; rw [Below.heap_setCell _ _ _ _ hk]; rw [Below.heap_setCell _ _ _ _ hk]; rw [Below.heap_setCell _ _ _ _ hk]; rw [Below.heap_setCell _ _ _ _ hk]; rw [Below.heap_setCell _ _ _ _ hk]), ?_, ((((((B1.out.two).set _ _).set _ _).set _ _).set _ _).set _ _).set _ _⟩
  exact (set_list (set_list (set_list (set_list (set_list (set_list H1.out.2.2.1 _) _) _) _) _) _)
end Go.Proofs.YteimdolckhpndaaDoor
