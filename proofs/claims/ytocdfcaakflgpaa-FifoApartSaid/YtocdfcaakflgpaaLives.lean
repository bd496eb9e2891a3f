/-
  THE DOCUMENT's EXAMPLE: lives, by its contract.
-/
import Derived.Test.YtocdfcaakflgpaaBack
import Derived.BigQuiet
namespace Go.Proofs.Ytocdfcaakflgpaa
open Go.RowKit Go.Sort
def msgA : Msg := ⟨0, 0, 0, ⟨#[]⟩, ⟨#[]⟩, ⟨#[97]⟩⟩
def msgB : Msg := ⟨0, 0, 0, ⟨#[]⟩, ⟨#[]⟩, ⟨#[98]⟩⟩
def s1 : St := ⟨2, 2, [⟨1, msgA, false⟩], []⟩
def s2 : St := ⟨2, 3, [⟨1, msgA, false⟩, ⟨2, msgB, false⟩], []⟩
def s3 : St := ⟨2, 3, [⟨2, msgB, false⟩], [⟨1, msgA, false⟩]⟩
def s4 : St := ⟨2, 3, [⟨1, msgA, true⟩, ⟨2, msgB, false⟩], []⟩
def s5 : St := ⟨2, 3, [⟨2, msgB, false⟩], [⟨1, msgA, true⟩]⟩
def s6 : St := ⟨2, 3, [⟨2, msgB, false⟩], []⟩
theorem e1 : (newS 2).push msgA = (0, s1) := rfl
theorem e2 : s1.push msgB = (0, s2) := rfl
theorem e2f : s2.push msgA = (6, s2) := rfl
theorem e3 : s2.give = (⟨1, msgA, false⟩, true, s3) := rfl
theorem e4 : s3.back 1 = (0, s4) := rfl
theorem e5 : s4.give = (⟨1, msgA, true⟩, true, s5) := rfl
theorem e6 : s5.done 1 = (0, s6) := rfl
theorem e7 : s6.done 1 = (10, s6) := rfl
theorem ok0 : (newS 2).Ok := newS_ok (by decide) (by decide)
theorem ok1 : s1.Ok := by have := ok0.push msgA; rw [e1] at this; exact this
theorem ok2 : s2.Ok := by have := ok1.push msgB; rw [e2] at this; exact this
theorem ok3 : s3.Ok := by have := ok2.give; rw [e3] at this; exact this
theorem ok4 : s4.Ok := by have := ok3.back 1; rw [e4] at this; exact this
theorem ok5 : s5.Ok := by have := ok4.give; rw [e5] at this; exact this
theorem ok6 : s6.Ok := by have := ok5.done 1; rw [e6] at this; exact this
/-- A message's six cells lie there. -/
structure MsgAt (w : World) (b off : Nat) (m : Msg) : Prop where
  c0 : w.cell? ⟨b, off, none⟩ = some (.int .i64 m.o)
  c1 : w.cell? ⟨b, off + 1, none⟩ = some (.int .u64 m.s)
  c2 : w.cell? ⟨b, off + 2, none⟩ = some (.int .i64 m.hop)
  c3 : w.cell? ⟨b, off + 3, none⟩ = some (.string m.ex)
  c4 : w.cell? ⟨b, off + 4, none⟩ = some (.string m.key)
  c5 : w.cell? ⟨b, off + 5, none⟩ = some (.string m.body)
theorem MsgAt.same {w w' : World} {b off : Nat} {m : Msg} (h : MsgAt w b off m) (hs : w'.heap[b]? = w.heap[b]?) : MsgAt w' b off m := by
  have e : ∀ o, w'.cell? ⟨b, o, none⟩ = w.cell? ⟨b, o, none⟩ := fun o => by simp [World.cell?, hs]
  exact ⟨(e _).trans h.c0, (e _).trans h.c1, (e _).trans h.c2, (e _).trans h.c3, (e _).trans h.c4, (e _).trans h.c5⟩
theorem msgAt_new (w : World) (m : Msg) (n : Nat) (hn : n = w.heap.size) : MsgAt (w.alloc (.cells #[.int .i64 m.o, .int .u64 m.s, .int .i64 m.hop, .string m.ex, .string m.key, .string m.body] 33)) n 0 m := by
  subst hn
  constructor <;> simp [World.cell?_alloc_at]
/-- A block that is none of a queue's. -/
structure Off (F : Nat → Prop) (n : Nat) (w : World) : Prop where
  lt : n < w.heap.size
  no : ¬ F n
theorem Off.go {F F' : Nat → Prop} {n : Nat} {w w' : World} (h : Off F n w) (m : Moved w w' F F') : Off F' n w' ∧ w'.heap[n]? = w.heap[n]? :=
  ⟨⟨Nat.lt_of_lt_of_le h.lt m.size, fun hf => (m.sub n hf).elim h.no (fun h' => by have := h.lt; omega)⟩, m.block n h.lt h.no⟩
theorem Off.below {F : Nat → Prop} {n : Nat} {w w' : World} (h : Off F n w) (m : Below w.heap.size w w') : Off F n w' := ⟨Nat.lt_of_lt_of_le h.lt m.size, h.no⟩

/-- A queue of the call's own beside the two messages. -/
structure Lv (w W : World) (p na nb : Nat) (F : Nat → Prop) (s : St) : Prop where
  q : Q W p F s
  oA : Off F na W
  oB : Off F nb W
  mA : MsgAt W na 0 msgA
  mB : MsgAt W nb 0 msgB
  bel : Below w.heap.size w W
  frm : ∀ k, F k → w.heap.size ≤ k
theorem Lv.go {w W W' : World} {p na nb : Nat} {F F' : Nat → Prop} {s s' : St} (h : Lv w W p na nb F s) (q : Q W' p F' s') (m : Moved W W' F F') : Lv w W' p na nb F' s' :=
  ⟨q, (h.oA.go m).1, (h.oB.go m).1, h.mA.same (h.oA.go m).2, h.mB.same (h.oB.go m).2, m.below h.frm h.bel h.bel.size, m.from h.frm h.bel.size⟩
theorem Lv.below {w W W' : World} {p na nb : Nat} {F : Nat → Prop} {s : St} (h : Lv w W p na nb F s) (b : Below W.heap.size W W') : Lv w W' p na nb F s := h.go (h.q.kept b) (.of_below b)

set_option maxRecDepth 20000 in
set_option maxHeartbeats 4000000 in
theorem lives_any (w : World) : Calls Try.prog 12 #[] w fun e w' => e = .returned (.bool true) ∧ Below w.heap.size w w' := by
  have hN := new_any 2 w (by decide) (by decide)
  go_enter Try.func12, Try.ntmps12
  go_wp2_with fail
  refine hN.mono ?_
  rintro e w1 ⟨p, rfl, F, q1, hF, b1⟩
  obtain ⟨W, fold⟩ : ∃ W, (w1.alloc (.cells #[.int .i64 0, .int .u64 0, .int .i64 0, .string ⟨#[]⟩, .string ⟨#[]⟩, .string ⟨#[97]⟩] 33)).alloc (.cells #[.int .i64 0, .int .u64 0, .int .i64 0, .string ⟨#[]⟩, .string ⟨#[]⟩, .string ⟨#[98]⟩] 33) = W := ⟨_, rfl⟩
  have bW : Below w1.heap.size w1 W := by rw [← fold]; exact (below_alloc _ _).trans (((Below.refl _ _).alloc (Nat.le_refl _) _).mono (by simp))
  have L0 : Lv w W p w1.heap.size (w1.heap.size + 1) F (newS 2) := ⟨q1.kept bW, ⟨by rw [← fold]; simp; omega, fun hf => by have := q1.lts _ hf; omega⟩, ⟨by rw [← fold]; simp, fun hf => by have := q1.lts _ hf; omega⟩, by rw [← fold]; exact (msgAt_new w1 msgA _ rfl).same (Below.heap_alloc _ _ _ (by simp)), by rw [← fold]; exact msgAt_new _ msgB _ (by simp), b1.trans (bW.mono b1.size), hF⟩
  obtain ⟨a0, a1, a2, a3, a4, a5⟩ := L0.mA
  obtain ⟨c0, c1, c2, c3, c4, c5⟩ := L0.mB
  simp only [Nat.zero_add, msgA, msgB] at a0 a1 a2 a3 a4 a5 c0 c1 c2 c3 c4 c5
  clear hN q1 b1 bW hF
  go_wp2_with fail
  have hP := push_any p F (newS 2) msgA W L0.q ok0
  rw [e1] at hP
  refine hP.mono ?_
  rintro e w2 ⟨rfl, F1, q1, m1⟩
  have L1 := L0.go q1 m1
  clear hP q1 m1 L0 fold
  clear a0 a1 a2 a3 a4 a5 c0 c1 c2 c3 c4 c5
  obtain ⟨a0, a1, a2, a3, a4, a5⟩ := L1.mA
  obtain ⟨c0, c1, c2, c3, c4, c5⟩ := L1.mB
  simp only [Nat.zero_add, msgA, msgB] at a0 a1 a2 a3 a4 a5 c0 c1 c2 c3 c4 c5
  go_wp2_with fail
  have hP := push_any p F1 s1 msgB w2 L1.q ok1
  rw [e2] at hP
  refine hP.mono ?_
  rintro e w3 ⟨rfl, F2, q1, m1⟩
  have L2 := L1.go q1 m1
  clear hP q1 m1 L1
  clear a0 a1 a2 a3 a4 a5 c0 c1 c2 c3 c4 c5
  obtain ⟨a0, a1, a2, a3, a4, a5⟩ := L2.mA
  obtain ⟨c0, c1, c2, c3, c4, c5⟩ := L2.mB
  simp only [Nat.zero_add, msgA, msgB] at a0 a1 a2 a3 a4 a5 c0 c1 c2 c3 c4 c5
  go_wp2_with fail
  have hP := push_any p F2 s2 msgA w3 L2.q ok2
  rw [e2f] at hP
  refine hP.mono ?_
  rintro e w4 ⟨rfl, F3, q1, m1⟩
  have L3 := L2.go q1 m1
  clear hP q1 m1 L2
  clear a0 a1 a2 a3 a4 a5 c0 c1 c2 c3 c4 c5
  obtain ⟨a0, a1, a2, a3, a4, a5⟩ := L3.mA
  obtain ⟨c0, c1, c2, c3, c4, c5⟩ := L3.mB
  simp only [Nat.zero_add, msgA, msgB] at a0 a1 a2 a3 a4 a5 c0 c1 c2 c3 c4 c5
  go_wp2_with fail
  have hP := give_any p F3 s2 w4 L3.q ok2
  rw [e3] at hP
  change Calls _ _ _ _ fun e w' => e = .returned (.tuple #[.agg #[.int .u64 1, .int .i64 0, .int .u64 0, .int .i64 0, .string ⟨#[]⟩, .string ⟨#[]⟩, .string ⟨#[97]⟩, .bool false], .bool true]) ∧ ∃ F', Q w' p F' s3 ∧ Moved w4 w' F3 F' at hP
  refine hP.mono ?_
  rintro e w5 ⟨rfl, F4, q1, m1⟩
  have L4 := L3.go q1 m1
  clear hP q1 m1 L3
  clear a0 a1 a2 a3 a4 a5 c0 c1 c2 c3 c4 c5
  have a0 := fun o => cell_alloc_r o L4.mA.c0
  have a1 := fun o => cell_alloc_r o L4.mA.c1
  have a2 := fun o => cell_alloc_r o L4.mA.c2
  have a3 := fun o => cell_alloc_r o L4.mA.c3
  have a4 := fun o => cell_alloc_r o L4.mA.c4
  have a5 := fun o => cell_alloc_r o L4.mA.c5
  simp only [Nat.zero_add, msgA] at a0 a1 a2 a3 a4 a5
  have M4 := L4.below (below_alloc w5 (.cells #[.int .u64 1, .int .i64 0, .int .u64 0, .int .i64 0, .string ⟨#[]⟩, .string ⟨#[]⟩, .string ⟨#[97]⟩, .bool false] 38))
  go_wp2_with fail
  have hP := back_any p F4 s3 1 (w5.alloc (.cells #[.int .u64 1, .int .i64 0, .int .u64 0, .int .i64 0, .string ⟨#[]⟩, .string ⟨#[]⟩, .string ⟨#[97]⟩, .bool false] 38)) M4.q ok3 (by decide)
  rw [e4] at hP
  refine hP.mono ?_
  rintro e w6 ⟨rfl, F5, q1, m1⟩
  have L5 := M4.go q1 m1
  clear hP q1 m1 L4 M4
  clear a0 a1 a2 a3 a4 a5
  obtain ⟨a0, a1, a2, a3, a4, a5⟩ := L5.mA
  obtain ⟨c0, c1, c2, c3, c4, c5⟩ := L5.mB
  simp only [Nat.zero_add, msgA, msgB] at a0 a1 a2 a3 a4 a5 c0 c1 c2 c3 c4 c5
  go_wp2_with fail
  have hP := give_any p F5 s4 w6 L5.q ok4
  rw [e5] at hP
  change Calls _ _ _ _ fun e w' => e = .returned (.tuple #[.agg #[.int .u64 1, .int .i64 0, .int .u64 0, .int .i64 0, .string ⟨#[]⟩, .string ⟨#[]⟩, .string ⟨#[97]⟩, .bool true], .bool true]) ∧ ∃ F', Q w' p F' s5 ∧ Moved w6 w' F5 F' at hP
  refine hP.mono ?_
  rintro e w7 ⟨rfl, F6, q1, m1⟩
  have L6 := L5.go q1 m1
  clear hP q1 m1 L5
  clear a0 a1 a2 a3 a4 a5 c0 c1 c2 c3 c4 c5
  have a0 := fun o => cell_alloc_r o L6.mA.c0
  have a1 := fun o => cell_alloc_r o L6.mA.c1
  have a2 := fun o => cell_alloc_r o L6.mA.c2
  have a3 := fun o => cell_alloc_r o L6.mA.c3
  have a4 := fun o => cell_alloc_r o L6.mA.c4
  have a5 := fun o => cell_alloc_r o L6.mA.c5
  simp only [Nat.zero_add, msgA] at a0 a1 a2 a3 a4 a5
  have M6 := L6.below (below_alloc w7 (.cells #[.int .u64 1, .int .i64 0, .int .u64 0, .int .i64 0, .string ⟨#[]⟩, .string ⟨#[]⟩, .string ⟨#[97]⟩, .bool true] 38))
  go_wp2_with fail
  have hP := done_any p F6 s5 1 (w7.alloc (.cells #[.int .u64 1, .int .i64 0, .int .u64 0, .int .i64 0, .string ⟨#[]⟩, .string ⟨#[]⟩, .string ⟨#[97]⟩, .bool true] 38)) M6.q ok5 (by decide)
  rw [e6] at hP
  refine hP.mono ?_
  rintro e w8 ⟨rfl, F7, q1, m1⟩
  have L7 := M6.go q1 m1
  clear hP q1 m1 L6 M6
  clear a0 a1 a2 a3 a4 a5
  go_wp2_with fail
  have hP := done_any p F7 s6 1 w8 L7.q ok6 (by decide)
  rw [e7] at hP
  refine hP.mono ?_
  rintro e w9 ⟨rfl, F8, q1, m1⟩
  have L8 := L7.go q1 m1
  clear hP q1 m1 L7
  go_wp2_with fail
  refine (room_any p F8 s6 w9 L8.q ok6).mono ?_
  rintro e w10 ⟨rfl, q, rfl⟩
  have hr : (s6.most : Int) - s6.rdy.length - s6.out.length = 1 := rfl
  rw [hr]
  go_wp2
  go_ret
  exact ⟨rfl, L8.bel.trans ⟨rfl, rfl, rfl, Nat.le_refl _, fun _ _ => rfl⟩⟩
end Go.Proofs.Ytocdfcaakflgpaa
