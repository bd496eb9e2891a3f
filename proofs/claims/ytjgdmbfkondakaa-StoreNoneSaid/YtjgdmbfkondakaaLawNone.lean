/-
  THE LAW StoreNone.
-/
import Derived.Test.YtjgdmbfkondakaaNones
namespace Go.Proofs.Ytjgdmbfkondakaa
open Go.RowKit

/-- An act in a box. -/
def Bx (W : World) (b : Nat) (x : Ac) : Prop := W.cell? ⟨b, 0, none⟩ = some (.int .i64 x.kind) ∧ W.cell? ⟨b, 1, none⟩ = some (.string x.a) ∧ W.cell? ⟨b, 2, none⟩ = some (.string x.b) ∧ W.cell? ⟨b, 3, none⟩ = some (.slice x.da x.dl x.dc) ∧ W.cell? ⟨b, 4, none⟩ = some (.int .i64 x.n) ∧ W.cell? ⟨b, 5, none⟩ = some (.int .i64 x.m)
theorem Bx.go {W W' : World} {b : Nat} {x : Ac} (h : Bx W b x) (k : Below W.heap.size W W') : Bx W' b x := ⟨cell_on k h.1, cell_on k h.2.1, cell_on k h.2.2.1, cell_on k h.2.2.2.1, cell_on k h.2.2.2.2.1, cell_on k h.2.2.2.2.2⟩
/-- What the law's loop keeps. -/
structure NoneIn (w wr : World) (x : Ac) : Prop where
  un : Un wr (some ⟨w.heap.size + 1, 0, none⟩)
  bx : Bx wr w.heap.size x
  bel : Below w.heap.size w wr
theorem NoneIn.go {w wr wr' : World} {x : Ac} (h : NoneIn w wr x) (b : Below wr.heap.size wr wr') : NoneIn w wr' x := ⟨h.un.go b, h.bx.go b, keptW h.bel b⟩

set_option maxRecDepth 20000 in
set_option maxHeartbeats 8000000 in
theorem none_law (x : Ac) (w : World) (_hx : x.Fits w) :
    Calls Try.prog 3 #[acv x] w fun e w' => e = .returned (.bool true) ∧ Below w.heap.size w w' := by
  have HL : Hid (∀ V, Calls Try.prog 19 #[] V fun e w' => e = .returned (.bool true) ∧ Below V.heap.size V w') := lives_any
  clear _hx
  have i0 : ∀ V : World, (Instr.index 32 (.agg #[.pointer none, .pointer (some ⟨w.heap.size + 1, 0, none⟩)]) (.int .i64 0)).run Try.prog V = .ok (.pointer none) V := fun V => by first | rfl | simp [Instr.index]
  have i1 : ∀ V : World, (Instr.index 32 (.agg #[.pointer none, .pointer (some ⟨w.heap.size + 1, 0, none⟩)]) (.int .i64 1)).run Try.prog V = .ok (.pointer (some ⟨w.heap.size + 1, 0, none⟩)) V := fun V => by first | rfl | simp [Instr.index]
  have HN : Hid (NoneIn w ((w.alloc (.cells #[.int .i64 x.kind, .string x.a, .string x.b, .slice x.da x.dl x.dc, .int .i64 x.n, .int .i64 x.m] 24)).alloc (.cells #[.int .i64 0, .bool false, .int .i64 0, .int .i64 0, .int .i64 0, .int .i64 0, .map none, .map none] 30)) x) := by
    obtain ⟨X, hX⟩ : ∃ X, w.alloc (.cells #[.int .i64 x.kind, .string x.a, .string x.b, .slice x.da x.dl x.dc, .int .i64 x.n, .int .i64 x.m] 24) = X := ⟨_, rfl⟩
    have hx : Bx X w.heap.size x := ac_box w x hX
    have zX : X.heap.size = w.heap.size + 1 := by rw [← hX]; simp
    have bX : Below w.heap.size w X := by rw [← hX]; exact (Below.refl _ _).alloc (Nat.le_refl _) _
    rw [hX]
    have h := heap_alloc_new X (.cells #[.int .i64 0, .bool false, .int .i64 0, .int .i64 0, .int .i64 0, .int .i64 0, .map none, .map none] 30)
    have bZ : Below X.heap.size X (X.alloc (.cells #[.int .i64 0, .bool false, .int .i64 0, .int .i64 0, .int .i64 0, .int .i64 0, .map none, .map none] 30)) := (Below.refl _ _).alloc (Nat.le_refl _) _
    rw [zX] at h
    refine ⟨.inr ⟨_, rfl, ?_, ?_, ?_⟩, hx.go bZ, keptW bX bZ⟩ <;> (simp only [World.cell?]; rw [h]; rfl)
  go_enter Try.func3, Try.ntmps3
  go_wp2
  go_loopg [9] 2 (fun g u9 wr => ∃ k : Nat, u9 = .int .i64 k ∧ k ≤ 2 ∧ g = 2 - k ∧ Hid (NoneIn w wr x))
  case atStart => exact ⟨0, rfl, by omega, rfl, HN⟩
  case round =>
    obtain ⟨k, rfl, hk, rfl, hG⟩ := hrel
    clear HN
    rcases (show k = 0 ∨ k = 1 ∨ k = 2 by omega) with rfl | rfl | rfl
    · have c := fail_un none wr (.inl rfl) x.n
      obtain ⟨y0, y1, y2, y3, y4, y5⟩ := hG.out.bx
      go_wp2_with fail
      refine c.mono ?_
      rintro e w1 ⟨rfl, b1⟩
      replace hG : Hid (NoneIn w w1 x) := hG.out.go b1
      clear c y0 y1 y2 y3 y4 y5 b1
      have c := power_un none w1 (.inl rfl) 
      obtain ⟨y0, y1, y2, y3, y4, y5⟩ := hG.out.bx
      go_wp2_with fail
      refine c.mono ?_
      rintro e w2 ⟨rfl, b1⟩
      replace hG : Hid (NoneIn w w2 x) := hG.out.go b1
      clear c y0 y1 y2 y3 y4 y5 b1
      have c := read_un none w2 (.inl rfl) x.a
      obtain ⟨y0, y1, y2, y3, y4, y5⟩ := hG.out.bx
      go_wp2_with fail
      refine c.mono ?_
      rintro e w3 ⟨rfl, b1⟩
      replace hG : Hid (NoneIn w w3 x) := hG.out.go b1
      clear c y0 y1 y2 y3 y4 y5 b1
      have c := make_un none w3 (.inl rfl) x.a
      obtain ⟨y0, y1, y2, y3, y4, y5⟩ := hG.out.bx
      go_wp2_with fail
      refine c.mono ?_
      rintro e w4 ⟨rfl, b1⟩
      replace hG : Hid (NoneIn w w4 x) := hG.out.go b1
      clear c y0 y1 y2 y3 y4 y5 b1
      have c := write_un none w4 (.inl rfl) x.a x.da x.dl x.dc
      obtain ⟨y0, y1, y2, y3, y4, y5⟩ := hG.out.bx
      go_wp2_with fail
      refine c.mono ?_
      rintro e w5 ⟨rfl, b1⟩
      replace hG : Hid (NoneIn w w5 x) := hG.out.go b1
      clear c y0 y1 y2 y3 y4 y5 b1
      have c := cut_un none w5 (.inl rfl) x.a x.n
      obtain ⟨y0, y1, y2, y3, y4, y5⟩ := hG.out.bx
      go_wp2_with fail
      refine c.mono ?_
      rintro e w6 ⟨rfl, b1⟩
      replace hG : Hid (NoneIn w w6 x) := hG.out.go b1
      clear c y0 y1 y2 y3 y4 y5 b1
      have c := sync_un none w6 (.inl rfl) x.a
      obtain ⟨y0, y1, y2, y3, y4, y5⟩ := hG.out.bx
      go_wp2_with fail
      refine c.mono ?_
      rintro e w7 ⟨rfl, b1⟩
      replace hG : Hid (NoneIn w w7 x) := hG.out.go b1
      clear c y0 y1 y2 y3 y4 y5 b1
      have c := move_un none w7 (.inl rfl) x.a x.b
      obtain ⟨y0, y1, y2, y3, y4, y5⟩ := hG.out.bx
      go_wp2_with fail
      refine c.mono ?_
      rintro e w8 ⟨rfl, b1⟩
      replace hG : Hid (NoneIn w w8 x) := hG.out.go b1
      clear c y0 y1 y2 y3 y4 y5 b1
      have c := drop_un none w8 (.inl rfl) x.a
      obtain ⟨y0, y1, y2, y3, y4, y5⟩ := hG.out.bx
      go_wp2_with fail
      refine c.mono ?_
      rintro e w9 ⟨rfl, b1⟩
      replace hG : Hid (NoneIn w w9 x) := hG.out.go b1
      clear c y0 y1 y2 y3 y4 y5 b1
      have c := commit_un none w9 (.inl rfl) 
      obtain ⟨y0, y1, y2, y3, y4, y5⟩ := hG.out.bx
      go_wp2_with fail
      refine c.mono ?_
      rintro e w10 ⟨rfl, b1⟩
      replace hG : Hid (NoneIn w w10 x) := hG.out.go b1
      clear c y0 y1 y2 y3 y4 y5 b1
      have c := plan_un none w10 (.inl rfl) x.n x.m
      obtain ⟨y0, y1, y2, y3, y4, y5⟩ := hG.out.bx
      go_wp2_with fail
      refine c.mono ?_
      rintro e w11 ⟨rfl, b1⟩
      replace hG : Hid (NoneIn w w11 x) := hG.out.go b1
      clear c y0 y1 y2 y3 y4 y5 b1
      have c := names_un none w11 (.inl rfl) 
      obtain ⟨y0, y1, y2, y3, y4, y5⟩ := hG.out.bx
      go_wp2_with fail
      refine c.mono ?_
      rintro e w12 ⟨rfl, b1⟩
      replace hG : Hid (NoneIn w w12 x) := hG.out.go b1
      clear c y0 y1 y2 y3 y4 y5 b1
      have c := used_un none w12 (.inl rfl) 
      obtain ⟨y0, y1, y2, y3, y4, y5⟩ := hG.out.bx
      go_wp2_with fail
      refine c.mono ?_
      rintro e w13 ⟨rfl, b1⟩
      replace hG : Hid (NoneIn w w13 x) := hG.out.go b1
      clear c y0 y1 y2 y3 y4 y5 b1
      have c := count_un none w13 (.inl rfl) 
      obtain ⟨y0, y1, y2, y3, y4, y5⟩ := hG.out.bx
      go_wp2_with fail
      refine c.mono ?_
      rintro e w14 ⟨rfl, b1⟩
      replace hG : Hid (NoneIn w w14 x) := hG.out.go b1
      clear c y0 y1 y2 y3 y4 y5 b1
      have c := on_un none w14 (.inl rfl) 
      obtain ⟨y0, y1, y2, y3, y4, y5⟩ := hG.out.bx
      go_wp2_with fail
      refine c.mono ?_
      rintro e w15 ⟨rfl, b1⟩
      replace hG : Hid (NoneIn w w15 x) := hG.out.go b1
      clear c y0 y1 y2 y3 y4 y5 b1
      go_wp2
      go_roundg (2 - 1)
      case measure => omega
      case rel => exact ⟨1, by go_num, by omega, rfl, hG⟩
    · have c := fail_un (some ⟨w.heap.size + 1, 0, none⟩) wr hG.out.un x.n
      obtain ⟨y0, y1, y2, y3, y4, y5⟩ := hG.out.bx
      go_wp2_with fail
      refine c.mono ?_
      rintro e w1 ⟨rfl, b1⟩
      replace hG : Hid (NoneIn w w1 x) := hG.out.go b1
      clear c y0 y1 y2 y3 y4 y5 b1
      have c := power_un (some ⟨w.heap.size + 1, 0, none⟩) w1 hG.out.un 
      obtain ⟨y0, y1, y2, y3, y4, y5⟩ := hG.out.bx
      go_wp2_with fail
      refine c.mono ?_
      rintro e w2 ⟨rfl, b1⟩
      replace hG : Hid (NoneIn w w2 x) := hG.out.go b1
      clear c y0 y1 y2 y3 y4 y5 b1
      have c := read_un (some ⟨w.heap.size + 1, 0, none⟩) w2 hG.out.un x.a
      obtain ⟨y0, y1, y2, y3, y4, y5⟩ := hG.out.bx
      go_wp2_with fail
      refine c.mono ?_
      rintro e w3 ⟨rfl, b1⟩
      replace hG : Hid (NoneIn w w3 x) := hG.out.go b1
      clear c y0 y1 y2 y3 y4 y5 b1
      have c := make_un (some ⟨w.heap.size + 1, 0, none⟩) w3 hG.out.un x.a
      obtain ⟨y0, y1, y2, y3, y4, y5⟩ := hG.out.bx
      go_wp2_with fail
      refine c.mono ?_
      rintro e w4 ⟨rfl, b1⟩
      replace hG : Hid (NoneIn w w4 x) := hG.out.go b1
      clear c y0 y1 y2 y3 y4 y5 b1
      have c := write_un (some ⟨w.heap.size + 1, 0, none⟩) w4 hG.out.un x.a x.da x.dl x.dc
      obtain ⟨y0, y1, y2, y3, y4, y5⟩ := hG.out.bx
      go_wp2_with fail
      refine c.mono ?_
      rintro e w5 ⟨rfl, b1⟩
      replace hG : Hid (NoneIn w w5 x) := hG.out.go b1
      clear c y0 y1 y2 y3 y4 y5 b1
      have c := cut_un (some ⟨w.heap.size + 1, 0, none⟩) w5 hG.out.un x.a x.n
      obtain ⟨y0, y1, y2, y3, y4, y5⟩ := hG.out.bx
      go_wp2_with fail
      refine c.mono ?_
      rintro e w6 ⟨rfl, b1⟩
      replace hG : Hid (NoneIn w w6 x) := hG.out.go b1
      clear c y0 y1 y2 y3 y4 y5 b1
      have c := sync_un (some ⟨w.heap.size + 1, 0, none⟩) w6 hG.out.un x.a
      obtain ⟨y0, y1, y2, y3, y4, y5⟩ := hG.out.bx
      go_wp2_with fail
      refine c.mono ?_
      rintro e w7 ⟨rfl, b1⟩
      replace hG : Hid (NoneIn w w7 x) := hG.out.go b1
      clear c y0 y1 y2 y3 y4 y5 b1
      have c := move_un (some ⟨w.heap.size + 1, 0, none⟩) w7 hG.out.un x.a x.b
      obtain ⟨y0, y1, y2, y3, y4, y5⟩ := hG.out.bx
      go_wp2_with fail
      refine c.mono ?_
      rintro e w8 ⟨rfl, b1⟩
      replace hG : Hid (NoneIn w w8 x) := hG.out.go b1
      clear c y0 y1 y2 y3 y4 y5 b1
      have c := drop_un (some ⟨w.heap.size + 1, 0, none⟩) w8 hG.out.un x.a
      obtain ⟨y0, y1, y2, y3, y4, y5⟩ := hG.out.bx
      go_wp2_with fail
      refine c.mono ?_
      rintro e w9 ⟨rfl, b1⟩
      replace hG : Hid (NoneIn w w9 x) := hG.out.go b1
      clear c y0 y1 y2 y3 y4 y5 b1
      have c := commit_un (some ⟨w.heap.size + 1, 0, none⟩) w9 hG.out.un 
      obtain ⟨y0, y1, y2, y3, y4, y5⟩ := hG.out.bx
      go_wp2_with fail
      refine c.mono ?_
      rintro e w10 ⟨rfl, b1⟩
      replace hG : Hid (NoneIn w w10 x) := hG.out.go b1
      clear c y0 y1 y2 y3 y4 y5 b1
      have c := plan_un (some ⟨w.heap.size + 1, 0, none⟩) w10 hG.out.un x.n x.m
      obtain ⟨y0, y1, y2, y3, y4, y5⟩ := hG.out.bx
      go_wp2_with fail
      refine c.mono ?_
      rintro e w11 ⟨rfl, b1⟩
      replace hG : Hid (NoneIn w w11 x) := hG.out.go b1
      clear c y0 y1 y2 y3 y4 y5 b1
      have c := names_un (some ⟨w.heap.size + 1, 0, none⟩) w11 hG.out.un 
      obtain ⟨y0, y1, y2, y3, y4, y5⟩ := hG.out.bx
      go_wp2_with fail
      refine c.mono ?_
      rintro e w12 ⟨rfl, b1⟩
      replace hG : Hid (NoneIn w w12 x) := hG.out.go b1
      clear c y0 y1 y2 y3 y4 y5 b1
      have c := used_un (some ⟨w.heap.size + 1, 0, none⟩) w12 hG.out.un 
      obtain ⟨y0, y1, y2, y3, y4, y5⟩ := hG.out.bx
      go_wp2_with fail
      refine c.mono ?_
      rintro e w13 ⟨rfl, b1⟩
      replace hG : Hid (NoneIn w w13 x) := hG.out.go b1
      clear c y0 y1 y2 y3 y4 y5 b1
      have c := count_un (some ⟨w.heap.size + 1, 0, none⟩) w13 hG.out.un 
      obtain ⟨y0, y1, y2, y3, y4, y5⟩ := hG.out.bx
      go_wp2_with fail
      refine c.mono ?_
      rintro e w14 ⟨rfl, b1⟩
      replace hG : Hid (NoneIn w w14 x) := hG.out.go b1
      clear c y0 y1 y2 y3 y4 y5 b1
      have c := on_un (some ⟨w.heap.size + 1, 0, none⟩) w14 hG.out.un 
      obtain ⟨y0, y1, y2, y3, y4, y5⟩ := hG.out.bx
      go_wp2_with fail
      refine c.mono ?_
      rintro e w15 ⟨rfl, b1⟩
      replace hG : Hid (NoneIn w w15 x) := hG.out.go b1
      clear c y0 y1 y2 y3 y4 y5 b1
      go_wp2
      go_roundg (2 - 2)
      case measure => omega
      case rel => exact ⟨2, by go_num, by omega, rfl, hG⟩
    · have hB := hG.out.bel
      clear hG
      go_wp2_with (go_at_call 19; refine (HL.out _).mono ?_; rintro e w4 ⟨rfl, b4⟩)
      go_ret
      exact ⟨rfl, keptW hB b4⟩
end Go.Proofs.Ytjgdmbfkondakaa
