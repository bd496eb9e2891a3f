/-
  A LEDGER THAT NO CALL MADE: what each call says of it; the law LedgerNone.
-/
import Derived.Test.YtjgdmbfkondakaaGreatDoorJLives12
namespace Go.Proofs.YtjgdmbfkondakaaGreatDoor
open Go.RowKit

/-- No ledger, or one whose store is nil. -/
def UnL (w : World) (o : Option Addr) : Prop := o = none ∨ ∃ q, o = some ⟨q, 0, none⟩ ∧ w.cell? ⟨q, 0, none⟩ = some (.pointer none)
theorem cell_kept {w w' : World} {b i : Nat} {v : Value} (h : Below w.heap.size w w') (hc : w.cell? ⟨b, i, none⟩ = some v) : w'.cell? ⟨b, i, none⟩ = some v := by
  have hb : b < w.heap.size := by
    refine Decidable.byContradiction fun hn => ?_
    simp only [World.cell?] at hc
    rw [Array.getElem?_eq_none (by omega)] at hc
    cases hc
  simp only [World.cell?] at hc ⊢
  rw [h.block b hb]
  exact hc
theorem UnL.go {w w' : World} {o : Option Addr} (h : UnL w o) (b : Below w.heap.size w w') : UnL w' o := by
  rcases h with h | ⟨q, h, h1⟩
  · exact .inl h
  · exact .inr ⟨q, h, cell_kept b h1⟩
theorem madeL_un (o : Option Addr) (w : World) (h : UnL w o) : Calls Tryz.prog 60 #[.pointer o] w fun e w' => e = .returned (.bool false) ∧ w' = w := by
  rcases h with rfl | ⟨q, rfl, h0⟩
  · go_enter Tryz.func60, Tryz.ntmps60
    go_wp2
    go_ret
    exact ⟨rfl, rfl⟩
  · go_enter Tryz.func60, Tryz.ntmps60
    go_wp2
    go_ret
    exact ⟨rfl, rfl⟩
theorem box_below (w : World) (o : Obj) : Below w.heap.size w (w.alloc o) := (Below.refl _ _).alloc (Nat.le_refl _) _
theorem checkL_un (o : Option Addr) (w : World) (h : UnL w o) : Calls Tryz.prog 33 #[.pointer o] w fun e w' => e = .returned (.int .i64 1) ∧ Below w.heap.size w w' := by
  have hM := madeL_un o _ (h.go (box_below w (.cells #[.pointer o] 30)))
  have hB := box_below w (.cells #[.pointer o] 30)
  clear h
  go_enter Tryz.func33, Tryz.ntmps33
  go_wp2_with (go_at_call 60; refine hM.mono ?_; rintro e w1 ⟨rfl, rfl⟩)
  go_ret
  exact ⟨rfl, hB⟩
theorem refuseL_un (o : Option Addr) (a : Option Addr) (n c : Nat) (w : World) (h : UnL w o) : Calls Tryz.prog 31 #[.pointer o, .slice a n c] w fun e w' => e = .returned (.int .i64 1) ∧ Below w.heap.size w w' := by
  have hM := checkL_un o w h
  clear h
  go_enter Tryz.func31, Tryz.ntmps31
  go_wp2_with (go_at_call 33; refine hM.mono ?_; rintro e w1 ⟨rfl, b1⟩)
  go_ret
  exact ⟨rfl, b1⟩
theorem addL_un (o : Option Addr) (a : Option Addr) (n c : Nat) (w : World) (h : UnL w o) : Calls Tryz.prog 13 #[.pointer o, .slice a n c] w fun e w' => e = .returned (.int .i64 1) ∧ Below w.heap.size w w' := by
  have hM := refuseL_un o a n c w h
  clear h
  go_enter Tryz.func13, Tryz.ntmps13
  go_wp2_with (go_at_call 31; refine hM.mono ?_; rintro e w1 ⟨rfl, b1⟩)
  go_ret
  exact ⟨rfl, b1⟩
theorem flushL_un (o : Option Addr) (w : World) (h : UnL w o) : Calls Tryz.prog 14 #[.pointer o] w fun e w' => e = .returned (.int .i64 1) ∧ Below w.heap.size w w' := by
  have hM := checkL_un o _ (h.go (box_below w (.cells #[.pointer o] 30)))
  have hB := box_below w (.cells #[.pointer o] 30)
  clear h
  go_enter Tryz.func14, Tryz.ntmps14
  go_wp2_with (go_at_call 33; refine hM.mono ?_; rintro e w1 ⟨rfl, b1⟩)
  go_ret
  exact ⟨rfl, keptW hB b1⟩
theorem markL_un (o : Option Addr) (a : Option Addr) (n c : Nat) (w : World) (h : UnL w o) : Calls Tryz.prog 15 #[.pointer o, .slice a n c] w fun e w' => e = .returned (.int .i64 1) ∧ Below w.heap.size w w' := by
  have hB : Below w.heap.size w ((w.alloc (.cells #[.pointer o] 30)).alloc (.cells #[.slice a n c] 31)) := ((Below.refl _ _).alloc (Nat.le_refl _) _).alloc (by simp) _
  have hM := refuseL_un o a n c _ (h.go hB)
  clear h
  go_enter Tryz.func15, Tryz.ntmps15
  go_wp2_with (go_at_call 31; refine hM.mono ?_; rintro e w1 ⟨rfl, b1⟩)
  go_ret
  exact ⟨rfl, keptW hB b1⟩
theorem pendL_un (o : Option Addr) (w : World) (h : UnL w o) : Calls Tryz.prog 27 #[.pointer o] w fun e w' => e = .returned (.int .i64 0) ∧ w' = w := by
  have hM := madeL_un o w h
  clear h
  go_enter Tryz.func27, Tryz.ntmps27
  go_wp2_with (go_at_call 60; refine hM.mono ?_; rintro e w1 ⟨rfl, rfl⟩)
  go_ret
  exact ⟨rfl, rfl⟩
theorem partsL_un (o : Option Addr) (w : World) (h : UnL w o) : Calls Tryz.prog 23 #[.pointer o] w fun e w' => e = .returned (.slice none 0 0) ∧ w' = w := by
  have hM := madeL_un o w h
  clear h
  go_enter Tryz.func23, Tryz.ntmps23
  go_wp2_with (go_at_call 60; refine hM.mono ?_; rintro e w1 ⟨rfl, rfl⟩)
  go_ret
  exact ⟨rfl, rfl⟩
theorem madeS_nil (w : World) : Calls Tryz.prog 53 #[.pointer none] w fun e w' => e = .returned (.bool false) ∧ w' = w := by
  go_enter Tryz.func53, Tryz.ntmps53
  go_wp2
  go_ret
  exact ⟨rfl, rfl⟩
theorem checkS_nil (a : Option Addr) (n c : Nat) (w : World) : Calls Tryz.prog 30 #[.pointer none, .slice a n c] w fun e w' => e = .returned (.int .i64 1) ∧ w' = w := by
  have hM := madeS_nil w
  go_enter Tryz.func30, Tryz.ntmps30
  go_wp2_with (go_at_call 53; refine hM.mono ?_; rintro e w ⟨rfl, rfl⟩)
  go_ret
  exact ⟨rfl, rfl⟩
set_option maxRecDepth 20000 in
theorem findS_nil (n : ByteArray) (w : World) : Calls Tryz.prog 64 #[.pointer none, .string n] w fun e w' => e = .returned (.tuple #[.pointer none, .int .i64 1]) ∧ Below w.heap.size w w' := by
  have HC : Hid (∀ V a n c, Below w.heap.size w V → Calls Tryz.prog 30 #[.pointer none, .slice a n c] V fun e w' => e = .returned (.int .i64 1) ∧ w' = V) := fun V a n c _ => checkS_nil a n c V
  go_enter Tryz.func64, Tryz.ntmps64
  go_wp2_with (go_at_call 30; refine (HC.out _ _ _ _ (by (repeat (first | exact Below.refl _ _ | assumption | refine Below.alloc ?_ (by first | exact Nat.le_refl _ | (simp; done) | (simp; omega)) _)))).mono ?_; rintro e w4 ⟨rfl, rfl⟩)
  go_ret2
  exact ⟨rfl, by (repeat (first | exact Below.refl _ _ | assumption | refine Below.alloc ?_ (by first | exact Nat.le_refl _ | (simp; done) | (simp; omega)) _))⟩
theorem readS_nil (n : ByteArray) (w : World) : Calls Tryz.prog 26 #[.pointer none, .string n] w fun e w' => e = .returned (.tuple #[.slice none 0 0, .int .i64 1]) ∧ Below w.heap.size w w' := by
  have hF := findS_nil n w
  go_enter Tryz.func26, Tryz.ntmps26
  go_wp2_with (go_at_call 64; refine hF.mono ?_; rintro e w4 ⟨rfl, b4⟩)
  go_ret2
  exact ⟨rfl, b4⟩
theorem openL_nil (n : Int) (w : World) : Calls Tryz.prog 11 #[.pointer none, .int .i64 n] w fun e w' => e = .returned (.tuple #[.pointer none, .slice none 0 0, .slice none 0 0, .int .i64 1]) ∧ Below w.heap.size w w' := by
  have hR := readS_nil ⟨#[99, 104, 101, 99, 107]⟩ w
  go_enter Tryz.func11, Tryz.ntmps11
  go_wp2_with (go_at_call 26; refine hR.mono ?_; rintro e w4 ⟨rfl, b4⟩)
  (try simp only [Exit.inBlock, Exit.then]); refine bodyPost_ret (results_four rfl _ _ _) rfl ?_
  exact ⟨rfl, b4⟩
end Go.Proofs.YtjgdmbfkondakaaGreatDoor
