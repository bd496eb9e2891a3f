/-
  BOOKS of the call's own; the law's lives, by its contract.
-/
import Derived.Test.YtnlllpgdhnmccaaAddB
import Derived.Test.YtnlllpgdhnmccaaOrigins
namespace Go.Proofs.Ytnlllpgdhnmccaa
open Go.RowKit Go.Sort

theorem addS_len {l : List (Nat × Nat)} {n : Nat} (h : Apart 1 l) : (addS l n).length ≤ l.length + 1 := by
  unfold addS
  split
  · have h1 := from_le_to (n := n) h
    have h2 := to_le l n
    simp only [addL, List.length_append, List.length_take, List.length_cons, List.length_drop]
    omega
  · omega
theorem LenF.add {f : Nat → List (Nat × Nat)} {n : Nat} (h : LenF n f) (hf : FineF f) (o : Int) (s : Nat) : LenF (n + 1) (addF f o s) := by
  unfold addF
  split
  · refine h.put (by omega) ?_
    have := addS_len (n := s) (hf (o - 1).toNat (by omega)).1
    have := h (o - 1).toNat (by omega)
    omega
  · exact fun i hi => Nat.le_trans (h i hi) (by omega)
theorem lenF_nil : LenF 0 (fun _ => []) := fun _ _ => Nat.le_refl _
theorem LenF.mono {f : Nat → List (Nat × Nat)} {n m : Nat} (h : LenF n f) (hm : n ≤ m) : LenF m f := fun i hi => Nat.le_trans (h i hi) hm
/-- A book of the call's own. -/
structure Own9 (w wr : World) (p : Nat) (F : Nat → Prop) (f : Nat → List (Nat × Nat)) : Prop where
  b : Bk wr p F f
  fine : FineF f
  frm : ∀ k, F k → w.heap.size ≤ k
  bel : Below w.heap.size w wr
theorem Own9.go {w wr wr' : World} {p : Nat} {F : Nat → Prop} {f : Nat → List (Nat × Nat)} (h : Own9 w wr p F f) (b : Below wr.heap.size wr wr') : Own9 w wr' p F f := ⟨h.b.kept b, h.fine, h.frm, keptW h.bel b⟩
theorem Own9.to {w wr wr' : World} {p : Nat} {F F' : Nat → Prop} {f f' : Nat → List (Nat × Nat)} (h : Own9 w wr p F f) (b : Bk wr' p F' f') (m : Moved wr wr' F F') (hf : FineF f') : Own9 w wr' p F' f' := ⟨b, hf, m.from h.frm h.bel.size, m.below h.frm h.bel h.bel.size⟩

set_option maxRecDepth 20000 in
set_option maxHeartbeats 2000000 in
theorem livesB_any (w : World) : Calls Try.prog 8 #[] w fun e w' => e = .returned (.bool true) ∧ Below w.heap.size w w' := by
  have hA : ∀ (V : World) (p : Nat) (F : Nat → Prop) (f : Nat → List (Nat × Nat)) (s : Nat) (r : Bool), freshF f 1 s = r → s < 18446744073709551616 → FineF f → LenF 1000 f → Bk V p F f → Calls Try.prog 10 #[.pointer (some ⟨p, 0, none⟩), .agg #[.int .i64 1, .int .u64 (s : Int)]] V fun e w' => e = .returned (.bool r) ∧ ∃ F', Bk w' p F' (addF f 1 s) ∧ Moved V w' F F' := fun V p F f s r hr hs hf hl hb => by
    rw [← hr]
    exact badd_any p F f 1 s V hb hf (hl.mono (by omega)) hs
  have hN := bnew_any w
  unfold ptrS at hN
  have ff0 := fineF_nil
  have fl0 := lenF_nil
  obtain ⟨f0, h0⟩ : ∃ f0 : Nat → List (Nat × Nat), f0 = fun _ => [] := ⟨_, rfl⟩
  rw [← h0] at hN ff0 fl0
  have ff1 := ff0.add 1 (show 1 < 18446744073709551616 by omega)
  have fl1 := fl0.add ff0 1 1
  have ff2 := ff1.add 1 (show 3 < 18446744073709551616 by omega)
  have fl2 := fl1.add ff1 1 3
  have ff3 := ff2.add 1 (show 1 < 18446744073709551616 by omega)
  have fl3 := fl2.add ff2 1 1
  have r1 : freshF f0 1 1 = true := by rw [h0]; decide
  have r2 : freshF (addF f0 1 1) 1 3 = true := by rw [h0]; decide
  have r3 : lowL (ofF (addF (addF f0 1 1) 1 3) 1) = 1 := by rw [h0]; decide
  have r4 : gapsL (ofF (addF (addF f0 1 1) 1 3) 1) = 1 := by rw [h0]; decide
  have r5 : freshF (addF (addF f0 1 1) 1 3) 1 1 = false := by rw [h0]; decide
  have r6 : memB (ofF (addF (addF (addF f0 1 1) 1 3) 1 1) 1) 3 = true := by rw [h0]; decide
  clear h0
  go_enter Try.func8, Try.ntmps8
  go_wp2_with fail
  refine hN.mono ?_
  rintro e w1 ⟨rfl, F1, b1, frm, bel⟩
  have H1 : Own9 w w1 w.heap.size F1 f0 := ⟨b1, ff0, frm, bel⟩
  clear hN frm bel
  go_wp2_with fail
  refine (hA w1 _ F1 f0 1 true r1 (by omega) ff0 (fl0.mono (by omega)) b1).mono ?_
  rintro e w2 ⟨rfl, F2, b2, m2⟩
  have H2 := H1.to b2 m2 ff1
  clear H1 b1 m2
  go_wp2_with fail
  refine (hA w2 _ F2 _ 3 true r2 (by omega) ff1 (fl1.mono (by omega)) b2).mono ?_
  rintro e w3 ⟨rfl, F3, b3, m3⟩
  have H3 := H2.to b3 m3 ff2
  clear H2 b2 m3
  have kL := blow_any _ _ 1 w3 b3.told
  have kG := bgaps_any _ _ 1 w3 b3.told (ff2.of 1).1
  rw [r3] at kL
  rw [r4] at kG
  unfold ptrS at kL kG
  go_wp2_with fail
  refine kL.mono ?_
  rintro e w4 ⟨rfl, hw4⟩
  subst hw4
  go_wp2_with fail
  refine kG.mono ?_
  rintro e w5 ⟨rfl, hw5⟩
  subst hw5
  go_wp2_with fail
  refine (hA _ _ F3 _ 1 false r5 (by omega) ff2 (fl2.mono (by omega)) b3).mono ?_
  rintro e w6 ⟨rfl, F6, b6, m6⟩
  have H6 := H3.to b6 m6 ff3
  have kH := bhas_any _ _ 1 3 w6 b6.told (ff3.of 1).1 ((fl3.mono (show _ ≤ 1000000 by omega)).of 1)
  rw [r6] at kH
  unfold ptrS at kH
  clear H3 b3 m6 kL kG
  go_wp2_with fail
  refine kH.mono ?_
  rintro e w7 ⟨rfl, b7⟩
  have H7 := H6.go b7
  go_wp2
  go_ret
  exact ⟨rfl, H7.bel⟩
end Go.Proofs.Ytnlllpgdhnmccaa
