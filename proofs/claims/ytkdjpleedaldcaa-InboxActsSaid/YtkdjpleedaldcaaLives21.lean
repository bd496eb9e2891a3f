/-
  An inbox of the call's own; msg; THE WALK of 'lives'.
-/
import Derived.Test.YtkdjpleedaldcaaAckB21
import Derived.Test.YtkdjpleedaldcaaEq13
namespace Go.Proofs.Ytkdjpleedaldcaa
open Go.RowKit Go.Maps
set_option maxRecDepth 20000

/-- Nothing but the inbox at p, and maps, has changed. -/
structure Stay (p : Nat) (w w' : World) : Prop where
  size : w.heap.size ≤ w'.heap.size
  cells : ∀ k c t fz, k ≠ p → w.heap[k]? = some (.cells c t fz) → w'.heap[k]? = some (.cells c t fz)
theorem Stay.refl (p : Nat) (w : World) : Stay p w w := ⟨Nat.le_refl _, fun _ _ _ _ _ h => h⟩
theorem Stay.trans {p : Nat} {u v w : World} (h : Stay p u v) (k : Stay p v w) : Stay p u w := ⟨Nat.le_trans h.size k.size, fun i c t fz hn hi => k.cells i c t fz hn (h.cells i c t fz hn hi)⟩
theorem Stay.of_below {p : Nat} {w w' : World} (h : Below w.heap.size w w') : Stay p w w' := ⟨h.size, fun k _ _ _ _ hk => (h.block k (Array.getElem?_eq_some_iff.1 hk).1).trans hk⟩
theorem Dry.stay {p b : Nat} {w w' : World} {m : Ib} (h : Dry p b w w') (hI : IAt w p b m) : Stay p w w' :=
  ⟨h.size, fun k _ _ _ hn hk => (h.block k (Array.getElem?_eq_some_iff.1 hk).1 hn (fun e => hI.map.noCells (e ▸ hk))).trans hk⟩
theorem Stay.cell {p : Nat} {w w' : World} (h : Stay p w w') {b j : Nat} {v : Value} (hc : w.cell? ⟨b, j, none⟩ = some v) (hn : b ≠ p) : w'.cell? ⟨b, j, none⟩ = some v := by
  have hlt := World.block_lt_of_cell? w _ hc
  have he : w.heap[b]? = some w.heap[b] := Array.getElem?_eq_getElem hlt
  cases ho : w.heap[b] with
  | cells c t fz =>
    rw [ho] at he
    have h2 := h.cells b c t fz hn he
    rw [← hc]
    simp only [World.cell?, he, h2]
  | _ =>
    rw [ho] at he
    simp [World.cell?, he] at hc

/-- An inbox of the call's own: it lies from block B on, the call began in w0. -/
structure Li (B : Nat) (w0 w : World) (p : Nat) (m : Ib) : Prop where
  «at» : ∃ b, IAt w p b m ∧ B ≤ b
  ok : m.Ok
  low : B ≤ p
  bel : Below B w0 w
section
variable {B p : Nat} {w0 w : World} {m : Ib}
theorem Li.lt (h : Li B w0 w p m) : p < w.heap.size := by obtain ⟨b, h1, _⟩ := h.at; exact h1.lt
theorem Li.size (h : Li B w0 w p m) : B ≤ w.heap.size := Nat.le_of_lt (Nat.lt_of_le_of_lt h.low h.lt)
theorem Li.go {w' : World} (h : Li B w0 w p m) (b : Below w.heap.size w w') : Li B w0 w' p m := by
  obtain ⟨c, h1, h2⟩ := h.at
  exact ⟨⟨c, h1.go b, h2⟩, h.ok, h.low, h.bel.trans (b.mono h.size)⟩
theorem Li.made (h : Li B w0 w p m) : Calls Try.prog 26 #[.pointer (some ⟨p, 0, none⟩)] w fun e w' => e = .returned (.bool true) ∧ w' = w := by
  obtain ⟨c, h1, h2⟩ := h.at
  exact imade_at h1 h.ok
theorem Li.take (h : Li B w0 w p m) {num : Nat} (hn : num < 65536) (x : Ms) : Calls Try.prog 11 #[.pointer (some ⟨p, 0, none⟩), .int .u16 num, mv x] w fun e w' =>
    e = .returned (.bool (mayT m num)) ∧ Li B w0 w' p (takeM m num x) ∧ Stay p w w' := by
  obtain ⟨c, h1, h2⟩ := h.at
  refine (take_at h1 h.ok hn x).mono ?_
  rintro e w' ⟨rfl, a, d⟩
  exact ⟨rfl, ⟨⟨c, a, h2⟩, takeM_ok h.ok num x, h.low, h.bel.trans (d.below h.low h2 h.size)⟩, d.stay h1⟩
theorem Li.pop (h : Li B w0 w p m) : Calls Try.prog 13 #[.pointer (some ⟨p, 0, none⟩)] w fun e w' =>
    e = .returned (.bool (m.h 0).isSome) ∧ Li B w0 w' p (popM m) ∧ Stay p w w' := by
  obtain ⟨c, h1, h2⟩ := h.at
  refine (pop_at h1 h.ok).mono ?_
  rintro e w' ⟨rfl, a, d⟩
  exact ⟨rfl, ⟨⟨c, a, h2⟩, popM_ok h.ok, h.low, h.bel.trans (d.below h.low h2 h.size)⟩, d.stay h1⟩
theorem Li.head (h : Li B w0 w p m) : Calls Try.prog 17 #[.pointer (some ⟨p, 0, none⟩)] w fun e w' =>
    e = .returned (.tuple #[mv ((m.h 0).getD zM), .bool (m.h 0).isSome]) ∧ Below w.heap.size w w' := by
  obtain ⟨c, h1, h2⟩ := h.at
  exact head_at h1 h.ok
theorem Li.ack (h : Li B w0 w p m) : Calls Try.prog 19 #[.pointer (some ⟨p, 0, none⟩)] w fun e w' =>
    e = .returned (.tuple #[.int .u16 m.n, .int .u64 (ackS m)]) ∧ Below w.heap.size w w' := by
  obtain ⟨c, h1, h2⟩ := h.at
  exact ack_at h1 h.ok
theorem Li.held (h : Li B w0 w p m) : Calls Try.prog 21 #[.pointer (some ⟨p, 0, none⟩)] w fun e w' => e = .returned (.int .i64 ((heldL m).length : Nat)) ∧ w' = w := by
  obtain ⟨c, h1, h2⟩ := h.at
  exact held_at h1 h.ok
theorem Li.next (h : Li B w0 w p m) : Calls Try.prog 23 #[.pointer (some ⟨p, 0, none⟩)] w fun e w' => e = .returned (.int .u16 m.n) ∧ w' = w := by
  obtain ⟨c, h1, h2⟩ := h.at
  exact next_at h1 h.ok
end
theorem li_new {B : Nat} {w0 w : World} (n : Nat) (h1 : 1 ≤ n) (h2 : n ≤ 32) (hb : Below B w0 w) (hB : B ≤ w.heap.size) :
    Calls Try.prog 7 #[.int .i64 n] w fun e w' => e = .returned (.pointer (some ⟨w.heap.size + 1, 0, none⟩)) ∧ Li B w0 w' (w.heap.size + 1) (newI n) ∧ Below w.heap.size w w' := by
  refine (inew_good n w h1 h2).mono ?_
  rintro e w' ⟨rfl, a, b, _⟩
  exact ⟨rfl, ⟨⟨_, a, hB⟩, newI_ok h1 h2, by omega, hb.trans (b.mono hB)⟩, b⟩

/-- A message that tells a number. -/
def msgM (n : Int) : Ms := ⟨0, 0, n, ⟨#[]⟩, ⟨#[]⟩, ⟨#[]⟩⟩
/-- A message's box, zero, then set. -/
theorem box_set {w W : World} (x : Ms) (fold : w.alloc (.cells #[.int .i64 0, .int .u64 0, .int .i64 0, .string ⟨#[]⟩, .string ⟨#[]⟩, .string ⟨#[]⟩] 33) = W) :
    W.heap[w.heap.size]? = some (.cells (mcells zM).toArray 33 (0, 0)) ∧ Below w.heap.size w (W.setRow w.heap.size (mcells x).toArray) ∧ (W.setRow w.heap.size (mcells x).toArray).heap[w.heap.size]? = some (.cells (mcells x).toArray 33 (0, 0)) := by
  have hh : W.heap[w.heap.size]? = some (.cells (mcells zM).toArray 33 (0, 0)) := by rw [← fold]; exact heap_alloc_new w _
  have hr := setRow_heap W w.heap.size _ (mcells x).toArray 33 _ hh
  refine ⟨hh, ?_, hr⟩
  have b4 : Below w.heap.size w W := by rw [← fold]; exact (Below.refl _ _).alloc (Nat.le_refl _) _
  exact ⟨b4.os, b4.tape, b4.output, by have := b4.size; simpa [World.setRow] using this, fun k hk => (setRow_other W w.heap.size k _ (by omega)).trans (b4.block k hk)⟩
theorem msg_any (n : Int) (w : World) : Calls Try.prog 24 #[.int .i64 n] w fun e w' => e = .returned (mv (msgM n)) ∧ Below w.heap.size w w' := by
  obtain ⟨W, fold⟩ : ∃ W, w.alloc (.cells #[.int .i64 0, .int .u64 0, .int .i64 0, .string ⟨#[]⟩, .string ⟨#[]⟩, .string ⟨#[]⟩] 33) = W := ⟨_, rfl⟩
  obtain ⟨hh, HE1, HE2⟩ := box_set (msgM n) fold
  have HE : Hid (Below w.heap.size w (W.setRow w.heap.size (mcells (msgM n)).toArray) ∧ (W.setRow w.heap.size (mcells (msgM n)).toArray).heap[w.heap.size]? = some (.cells (mcells (msgM n)).toArray 33 (0, 0))) := ⟨HE1, HE2⟩
  clear HE1 HE2
  go_enter Try.func24, Try.ntmps24
  go_wp2_with (refine wpList_store_row rfl 33 _ _ rfl w.heap.size (mcells (msgM n)).toArray rfl rfl 33 (mcells zM).toArray hh infoMs rfl (oneMs _) ?_)
  refine bodyPost_ret (results_cell_row rfl _ _ w.heap.size 33 _ (0, 0) _ rfl HE.out.2 Try.underlying33 rfl infoMs) rfl ?_
  exact ⟨rfl, HE.out.1⟩
theorem keptW {w u v : World} (h : Below w.heap.size w u) (k : Below u.heap.size u v) : Below w.heap.size w v := h.trans (k.mono h.size)

set_option maxHeartbeats 2000000 in
theorem lives_any (w : World) : Calls Try.prog 9 #[] w fun e w' => e = .returned (.bool true) ∧ Below w.heap.size w w' := by
  have hmx : Try.prog.follows .mixedOrders = true := by kernel_rfl
  have hN := li_new (B := w.heap.size) (w0 := w) 4 (by decide) (by decide) (Below.refl _ w) (Nat.le_refl _)
  obtain ⟨m1, h1⟩ : ∃ z, z = takeM (newI 4) 1 (msgM 1) := ⟨_, rfl⟩
  obtain ⟨m2, h2⟩ : ∃ z, z = takeM m1 0 (msgM 0) := ⟨_, rfl⟩
  obtain ⟨m3, h3⟩ : ∃ z, z = takeM m2 0 (msgM 0) := ⟨_, rfl⟩
  obtain ⟨m4, h4⟩ : ∃ z, z = popM m3 := ⟨_, rfl⟩
  have e1 : mayT (newI 4) 1 = true := by decide +kernel
  have e2 : m1.n = 0 := by rw [h1]; decide +kernel
  have e3 : ackS m1 = 1 := by rw [h1]; decide +kernel
  have e4 : mayT m1 0 = true := by rw [h1]; decide +kernel
  have e5 : mayT m2 0 = false := by rw [h2, h1]; decide +kernel
  have e6 : (m3.h 0).getD zM = msgM 0 := by rw [h3, h2, h1]; decide +kernel
  have e7 : (m3.h 0).isSome = true := by rw [h3, h2, h1]; decide +kernel
  have e8 : m4.n = 1 := by rw [h4, h3, h2, h1]; decide +kernel
  have e9 : ackS m4 = 0 := by rw [h4, h3, h2, h1]; decide +kernel
  have e10 : (heldL m4).length = 1 := by rw [h4, h3, h2, h1]; decide +kernel
  have H1 : Hid _ := h1
  have H2 : Hid _ := h2
  have H3 : Hid _ := h3
  have H4 : Hid _ := h4
  clear h1 h2 h3 h4
  go_enter Try.func9, Try.ntmps9
  go_wp2_with fail
  refine hN.mono ?_
  rintro e x0 ⟨rfl, X0, _⟩
  generalize w.heap.size + 1 = p at *
  go_wp2_with fail
  refine (msg_any 1 _).mono ?_
  rintro e x1 ⟨rfl, b1⟩
  have X1 := X0.go b1
  clear X0 hN
  have S1 := X1.take (num := 1) (by decide) (msgM 1)
  rw [e1, ← H1.out] at S1
  go_wp2_with fail
  refine S1.mono ?_
  rintro e x2 ⟨rfl, X2, _⟩
  have S2 := X2.ack
  rw [e2, e3] at S2
  clear S1 X1 b1
  go_wp2_with fail
  refine S2.mono ?_
  rintro e x3 ⟨rfl, b3⟩
  have X3 := X2.go b3
  clear S2 X2 b3
  go_wp2_with fail
  refine (msg_any 0 _).mono ?_
  rintro e x4 ⟨rfl, b4⟩
  have X4 := X3.go b4
  have S4 := X4.take (num := 0) (by decide) (msgM 0)
  rw [e4, ← H2.out] at S4
  clear X3 b4
  go_wp2_with fail
  refine S4.mono ?_
  rintro e x5 ⟨rfl, X5, _⟩
  clear S4 X4
  go_wp2_with fail
  refine (msg_any 0 _).mono ?_
  rintro e x6 ⟨rfl, b6⟩
  have X6 := X5.go b6
  have S6 := X6.take (num := 0) (by decide) (msgM 0)
  rw [e5, ← H3.out] at S6
  clear X5 b6
  go_wp2_with fail
  refine S6.mono ?_
  rintro e x7 ⟨rfl, X7, _⟩
  have S7 := X7.head
  rw [e6, e7] at S7
  clear S6 X6
  go_wp2_with fail
  refine S7.mono ?_
  rintro e x8 ⟨rfl, b8⟩
  have X8 := X7.go b8
  have HNE : Hid (x8.heap.size ≠ p) := by have := X8.lt; show x8.heap.size ≠ p; omega
  clear S7 X7 b8
  obtain ⟨W9, fold9⟩ : ∃ W, x8.alloc (.cells #[.int .i64 0, .int .u64 0, .int .i64 0, .string ⟨#[]⟩, .string ⟨#[]⟩, .string ⟨#[]⟩] 33) = W := ⟨_, rfl⟩
  obtain ⟨hh9, HE1, HE2⟩ := box_set (msgM 0) fold9
  obtain ⟨V9, hV9⟩ : ∃ V, V = W9.setRow x8.heap.size (mcells (msgM 0)).toArray := ⟨_, rfl⟩
  rw [← hV9] at HE1 HE2
  have HE : Hid (Below x8.heap.size x8 V9 ∧ V9.heap[x8.heap.size]? = some (.cells (mcells (msgM 0)).toArray 33 (0, 0))) := ⟨HE1, HE2⟩
  have X9 := X8.go HE1
  have foldV := hV9.symm
  clear HE1 HE2 hV9
  go_wp2_with (refine wpList_store_row rfl 33 _ _ rfl x8.heap.size (mcells (msgM 0)).toArray rfl rfl 33 (mcells zM).toArray hh9 infoMs rfl (oneMs _) ?_; rw [foldV])
  clear foldV fold9 hh9 X8
  have S9 := X9.pop
  rw [e7, ← H4.out] at S9
  refine S9.mono ?_
  rintro e x10 ⟨rfl, X10, s10⟩
  have HB10 : Hid (x10.heap[x8.heap.size]? = some (.cells (mcells (msgM 0)).toArray 33 (0, 0))) := s10.cells _ _ _ _ HNE.out HE.out.2
  clear S9 X9 s10
  have S10 := X10.ack
  rw [e8, e9] at S10
  go_wp2_with fail
  refine S10.mono ?_
  rintro e x11 ⟨rfl, b11⟩
  have X11 := X10.go b11
  have hb11 := (b11.block _ (Array.getElem?_eq_some_iff.1 HB10.out).1).trans HB10.out
  clear S10 X10
  have k0 : x11.cell? ⟨x8.heap.size, 0, none⟩ = some (.int .i64 0) := cell_of_list21 hb11 0 rfl
  have k1 : x11.cell? ⟨x8.heap.size, 1, none⟩ = some (.int .u64 0) := cell_of_list21 hb11 1 rfl
  have k2 : x11.cell? ⟨x8.heap.size, 2, none⟩ = some (.int .i64 0) := cell_of_list21 hb11 2 rfl
  have k3 : x11.cell? ⟨x8.heap.size, 3, none⟩ = some (.string ⟨#[]⟩) := cell_of_list21 hb11 3 rfl
  have k4 : x11.cell? ⟨x8.heap.size, 4, none⟩ = some (.string ⟨#[]⟩) := cell_of_list21 hb11 4 rfl
  have k5 : x11.cell? ⟨x8.heap.size, 5, none⟩ = some (.string ⟨#[]⟩) := cell_of_list21 hb11 5 rfl
  have hmsg : ∀ X, Calls Try.prog 24 #[.int .i64 0] X fun e w' => e = .returned (.agg #[.int .i64 0, .int .u64 0, .int .i64 0, .string ⟨#[]⟩, .string ⟨#[]⟩, .string ⟨#[]⟩]) ∧ Below X.heap.size X w' := msg_any 0
  have heq : ∀ X, (binOp .eql 33 (.agg #[.int .i64 0, .int .u64 0, .int .i64 0, .string ⟨#[]⟩, .string ⟨#[]⟩, .string ⟨#[]⟩]) (.agg #[.int .i64 0, .int .u64 0, .int .i64 0, .string ⟨#[]⟩, .string ⟨#[]⟩, .string ⟨#[]⟩])).run Try.prog X = .ok (.bool true) X := fun X => by
    have := run_eqM (msgM 0) (msgM 0) X
    rw [decide_eq_true rfl] at this
    exact this
  have hgt := eqGuardM
  have HX : Hid (Li w.heap.size w x11 p m4) := X11
  have HE10 : Hid ((heldL m4).length = 1 ∧ m4.n = 1) := ⟨e10, e8⟩
  clear X11 hb11 b11
  go_wp2
  have bD : Below x11.heap.size x11 x11.drew := (Below.refl _ _).drew
  go_region_held3 (fun w' => Below x11.heap.size x11 w' ∧ w'.cell? ⟨x8.heap.size, 0, none⟩ = some (.int .i64 0) ∧ w'.cell? ⟨x8.heap.size, 1, none⟩ = some (.int .u64 0) ∧ w'.cell? ⟨x8.heap.size, 2, none⟩ = some (.int .i64 0) ∧ w'.cell? ⟨x8.heap.size, 3, none⟩ = some (.string ⟨#[]⟩) ∧ w'.cell? ⟨x8.heap.size, 4, none⟩ = some (.string ⟨#[]⟩) ∧ w'.cell? ⟨x8.heap.size, 5, none⟩ = some (.string ⟨#[]⟩)) (go_keep) (first
    | (go_at_call 24; refine (hmsg _).mono ?_; rintro e w1 ⟨rfl, b1⟩; have q0 := cell_on (b := x8.heap.size) (j := 0) (v := .int .i64 0) b1 (by assumption); have q1 := cell_on (b := x8.heap.size) (j := 1) (v := .int .u64 0) b1 (by assumption); have q2 := cell_on (b := x8.heap.size) (j := 2) (v := .int .i64 0) b1 (by assumption); have q3 := cell_on (b := x8.heap.size) (j := 3) (v := .string ⟨#[]⟩) b1 (by assumption); have q4 := cell_on (b := x8.heap.size) (j := 4) (v := .string ⟨#[]⟩) b1 (by assumption); have q5 := cell_on (b := x8.heap.size) (j := 5) (v := .string ⟨#[]⟩) b1 (by assumption); have qb := keptW (w := x11) (by assumption) b1)
    | (go_at_call 21; refine (Li.held (HX.out.go (by assumption))).mono ?_; rintro e w1 ⟨rfl, rfl⟩; try rw [HE10.out.1])
    | (go_at_call 23; refine (Li.next (HX.out.go (by assumption))).mono ?_; rintro e w1 ⟨rfl, rfl⟩; try rw [HE10.out.2]))
  go_wp2
  go_ret
  exact ⟨rfl, HX.out.bel.trans ((by assumption : Below x11.heap.size x11 _).mono HX.out.size)⟩
end Go.Proofs.Ytkdjpleedaldcaa
