/-
  A window of the call's own; THE WALK of 'lives'.
-/
import Derived.Test.YthdoilinpeheiaaDoorAck20
import Derived.Test.YthdoilinpeheiaaDoorRefs
namespace Go.Proofs.YthdoilinpeheiaaDoor
open Go.RowKit
set_option maxRecDepth 20000

/-- A window of the call's own: it lies from block B on, the call began in w0. -/
structure Lw (B : Nat) (w0 w : World) (p : Nat) (m : Wn) : Prop where
  «at» : WAt w p m
  ok : m.Ok
  low : B ≤ p
  bel : Below B w0 w
  tab : Tab w0
  pos : 0 < B

section
variable {B p : Nat} {w0 w : World} {m : Wn}
theorem Lw.size (h : Lw B w0 w p m) : B ≤ w.heap.size := Nat.le_of_lt (Nat.lt_of_le_of_lt h.low h.at.lt)
theorem Lw.tabs (h : Lw B w0 w p m) : Tab w := h.tab.below h.bel h.pos
theorem Lw.go {w' : World} (h : Lw B w0 w p m) (b : Below w.heap.size w w') : Lw B w0 w' p m := ⟨h.at.below b h.at.lt, h.ok, h.low, h.bel.trans (b.mono h.size), h.tab, h.pos⟩
theorem Lw.on {w' : World} {m' : Wn} (h : Lw B w0 w p m) (ha : WAt w' p m') (ho : Only p w w') (ok : m'.Ok) : Lw B w0 w' p m' := ⟨ha, ok, h.low, h.bel.trans (ho.below h.low h.size), h.tab, h.pos⟩
theorem Lw.send (h : Lw B w0 w p m) (hv now : Int) : Calls Tryd.prog 12 #[.pointer (some ⟨p, 0, none⟩), .int .i64 hv, .int .i64 now] w fun e w' =>
    ∃ a cap, e = .returned (.slice a (sendL m (nowN now) (lookN m hv)).length cap) ∧ Row w' (.slice a (sendL m (nowN now) (lookN m hv)).length cap) (icells (sendL m (nowN now) (lookN m hv))) ∧ Lw B w0 w' p (sendM m (nowN now) (lookN m hv)) := by
  refine (send_at h.at h.ok hv now).mono ?_
  rintro e w' ⟨v, rfl, r, a, o⟩
  obtain ⟨ad, cap, rfl⟩ := r.row.sliceInts
  exact ⟨ad, cap, rfl, r.row, h.on a o (sendM_ok h.ok (nowN_le now) _ (lookN_le m hv))⟩
theorem Lw.ack (h : Lw B w0 w p m) (num set : Nat) (hs : IsSet set) : Calls Tryd.prog 15 #[.pointer (some ⟨p, 0, none⟩), .int .u16 num, .int .u64 set] w fun e w' =>
    e = .returned (.int .i64 (ackN m num)) ∧ Lw B w0 w' p (ackW m num set) := by
  refine (ack_at h.at h.ok num set hs h.tabs).mono ?_
  rintro e w' ⟨rfl, a, o⟩
  exact ⟨rfl, h.on a o (ackW_ok h.ok _ _)⟩
theorem Lw.base (h : Lw B w0 w p m) : Calls Tryd.prog 19 #[.pointer (some ⟨p, 0, none⟩)] w fun e w' => e = .returned (.int .u16 m.b) ∧ w' = w := base_at h.at h.ok.s1
theorem Lw.num (h : Lw B w0 w p m) (i : Int) : Calls Tryd.prog 22 #[.pointer (some ⟨p, 0, none⟩), .int .i64 i] w fun e w' => e = .returned (.int .u16 (moveI m.b i)) ∧ w' = w := num_at h.at h.ok.s1 i
theorem Lw.opens (h : Lw B w0 w p m) : Calls Tryd.prog 20 #[.pointer (some ⟨p, 0, none⟩)] w fun e w' => e = .returned (.int .i64 (openN m)) ∧ Lw B w0 w' p m := by
  refine (open_at h.at h.ok.s1 h.ok.setS h.ok.setT h.tabs).mono ?_
  rintro e w' ⟨rfl, b⟩
  exact ⟨rfl, h.go b⟩
theorem Lw.reset (h : Lw B w0 w p m) : Calls Tryd.prog 17 #[.pointer (some ⟨p, 0, none⟩)] w fun e w' => e = .returned (.tuple #[]) ∧ Lw B w0 w' p (newW m.s m.t) := by
  refine (reset_at h.at h.ok.s1).mono ?_
  rintro e w' ⟨rfl, a, o⟩
  exact ⟨rfl, h.on a o (newW_ok h.ok.s1 h.ok.s2 h.ok.t1 h.ok.t2)⟩
theorem lw_new {B : Nat} {w0 w : World} (n t : Nat) (h1 : 1 ≤ n) (h2 : n ≤ 32) (h3 : 1 ≤ t) (h4 : t ≤ 1000) (hb : Below B w0 w) (hB : B ≤ w.heap.size) (hT : Tab w0) (h0 : 0 < B) :
    Calls Tryd.prog 8 #[.int .i64 n, .int .i64 t] w fun e w' => e = .returned (.pointer (some ⟨w.heap.size, 0, none⟩)) ∧ Lw B w0 w' w.heap.size (newW n t) := by
  refine (new_good n t w h1 h2 h3 h4).mono ?_
  rintro e w' ⟨rfl, a, b, _⟩
  exact ⟨rfl, a, newW_ok h1 h2 h3 h4, hB, hb.trans (b.mono hB), hT, h0⟩
end

theorem lives_any (w : World) (hT : Tab w) : Calls Tryd.prog 10 #[] w fun e w' => e = .returned (.bool true) ∧ Below w.heap.size w w' := by
  have hpos := hT.pos
  obtain ⟨m1, h1⟩ : ∃ m1, m1 = sendM (newW 2 3) (nowN 0) (lookN (newW 2 3) 5) := ⟨_, rfl⟩
  obtain ⟨m2, h2⟩ : ∃ m2, m2 = sendM m1 (nowN 1) (lookN m1 5) := ⟨_, rfl⟩
  obtain ⟨m3, h3⟩ : ∃ m3, m3 = ackW m2 1 0 := ⟨_, rfl⟩
  obtain ⟨m4, h4⟩ : ∃ m4, m4 = sendM m3 (nowN 1) (lookN m3 5) := ⟨_, rfl⟩
  have e1 : sendL (newW 2 3) (nowN 0) (lookN (newW 2 3) 5) = [0, 1] := by decide +kernel
  have e2 : sendL m1 (nowN 1) (lookN m1 5) = [] := by rw [h1]; decide +kernel
  have e3 : ackN m2 1 = 1 := by rw [h2, h1]; decide +kernel
  have e4 : sendL m3 (nowN 1) (lookN m3 5) = [1] := by rw [h3, h2, h1]; decide +kernel
  have e5 : m4.b = 1 := by rw [h4, h3, h2, h1]; decide +kernel
  have e6 : openN m4 = 2 := by rw [h4, h3, h2, h1]; decide +kernel
  have HN : Calls Tryd.prog 8 #[.int .i64 2, .int .i64 3] w fun e w' => e = .returned (.pointer (some ⟨w.heap.size, 0, none⟩)) ∧ Lw w.heap.size w w' w.heap.size (newW 2 3) :=
    lw_new (B := w.heap.size) (w0 := w) 2 3 (by decide) (by decide) (by decide) (by decide) (Below.refl _ w) (Nat.le_refl _) hT hpos
  have c01 : ∀ w : World, Row (w.alloc (.cells #[.int .i64 0, .int .i64 1] 3)) (.slice (some ⟨w.heap.size, 0, none⟩) 2 2) (icells [0, 1]) := fun w => (own1_new w w.heap.size 3 [.int .i64 0, .int .i64 1] (Nat.le_refl _) (by simp [maxLen])).row
  have HC01 : Hid _ := c01
  clear c01
  have H1 : Hid _ := h1
  have H2 : Hid _ := h2
  have H3 : Hid _ := h3
  have H4 : Hid _ := h4
  clear h1 h2 h3 h4
  go_enter Tryd.func10, Tryd.ntmps10
  go_wp2_with fail
  refine HN.mono ?_
  rintro e x0 ⟨rfl, X0⟩
  go_wp2_with fail
  have S0 := X0.send 5 0
  rw [e1, ← H1.out] at S0
  refine S0.mono ?_
  rintro e x1 ⟨a1, k1, rfl, R1, X1⟩
  have HR1 : Hid (Row x1 (.slice a1 2 k1) (icells [0, 1])) := R1
  clear S0 R1
  go_wp2_with fail
  have X1b := X1.go ((Below.refl _ x1).alloc (Nat.le_refl _) (.cells #[.int .i64 0, .int .i64 1] 3))
  refine (ints_any _ _ [0, 1] [0, 1] _ (HR1.out.below ((Below.refl _ _).alloc (Nat.le_refl _) _) (Nat.le_refl _)) (HC01.out _)).mono ?_
  rintro e x2 ⟨rfl, B2⟩
  have X2 := X1b.go B2
  clear HR1
  go_wp2_with fail
  have S2 := X2.send 5 1
  rw [e2, ← H2.out] at S2
  refine S2.mono ?_
  rintro e x3 ⟨a3, k3, rfl, R3, X3⟩
  clear S2 R3
  go_wp2_with fail
  have S3 := X3.ack 1 0 (by decide)
  rw [e3, ← H3.out] at S3
  refine S3.mono ?_
  rintro e x4 ⟨rfl, X4⟩
  go_wp2_with fail
  have S4 := X4.send 5 1
  rw [e4, ← H4.out] at S4
  refine S4.mono ?_
  rintro e x5 ⟨a5, k5, rfl, R5, X5⟩
  have HR5 : Hid (Row x5 (.slice a5 1 k5) (icells [1])) := R5
  clear S4 R5
  go_wp2_with fail
  have X5b := X5.go ((Below.refl _ x5).alloc (Nat.le_refl _) (.cells #[.int .i64 1] 3))
  refine (ints_any _ _ [1] [1] _ (HR5.out.below ((Below.refl _ _).alloc (Nat.le_refl _) _) (Nat.le_refl _)) (row_one _ _ _)).mono ?_
  rintro e x6 ⟨rfl, B6⟩
  have X6 := X5b.go B6
  clear HR5
  go_wp2_with fail
  have S6 := X6.base
  rw [e5] at S6
  refine S6.mono ?_
  rintro e x7 ⟨rfl, h⟩
  subst h
  go_wp2_with fail
  have S7 := X6.num 1
  rw [e5] at S7
  refine S7.mono ?_
  rintro e x8 ⟨rfl, h⟩
  subst h
  go_wp2_with fail
  have S8 := X6.opens
  rw [e6] at S8
  refine S8.mono ?_
  rintro e x9 ⟨rfl, X9⟩
  go_wp2_with fail
  go_ret
  exact ⟨rfl, X9.bel⟩
end Go.Proofs.YthdoilinpeheiaaDoor
