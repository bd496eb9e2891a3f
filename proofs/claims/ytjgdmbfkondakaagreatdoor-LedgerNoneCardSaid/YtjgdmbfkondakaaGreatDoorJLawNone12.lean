/-
  THE LAW LedgerNone.
-/
import Derived.Test.YtjgdmbfkondakaaGreatDoorJNonesL
namespace Go.Proofs.YtjgdmbfkondakaaGreatDoor
open Go.RowKit

/-- What the law's loop keeps. -/
structure NoneIn (w wr : World) : Prop where
  un : UnL wr (some ⟨w.heap.size, 0, none⟩)
  bel : Below w.heap.size w wr
theorem NoneIn.go {w wr wr' : World} (h : NoneIn w wr) (b : Below wr.heap.size wr wr') : NoneIn w wr' := ⟨h.un.go b, keptW h.bel b⟩
set_option maxRecDepth 20000 in
set_option maxHeartbeats 8000000 in
theorem noneL_law (ba : Option Addr) (bn bc : Nat) (n : Int) (w : World) (he : Env w) :
    Calls Tryz.prog 6 #[.slice ba bn bc, .int .i64 n] w fun e w' => e = .returned (.bool true) ∧ Below w.heap.size w w' := by
  have HL : Hid (∀ V, Below w.heap.size w V → Calls Tryz.prog 9 #[] V fun e w' => e = .returned (.bool true) ∧ Below V.heap.size V w') := fun V b => livesL_any V (he.below b)
  clear he
  have i0 : ∀ V : World, (Instr.index 57 (.agg #[.pointer none, .pointer (some ⟨w.heap.size, 0, none⟩)]) (.int .i64 0)).run Tryz.prog V = .ok (.pointer none) V := fun V => by first | rfl | simp [Instr.index]
  have i1 : ∀ V : World, (Instr.index 57 (.agg #[.pointer none, .pointer (some ⟨w.heap.size, 0, none⟩)]) (.int .i64 1)).run Tryz.prog V = .ok (.pointer (some ⟨w.heap.size, 0, none⟩)) V := fun V => by first | rfl | simp [Instr.index]
  have HN : Hid (NoneIn w (w.alloc (.cells #[.pointer none, .int .i64 0, .int .i64 0, .slice none 0 0, .int .i64 0, .bool false] 56))) := by
    have h := heap_alloc_new w (.cells #[.pointer none, .int .i64 0, .int .i64 0, .slice none 0 0, .int .i64 0, .bool false] 56)
    refine ⟨.inr ⟨_, rfl, ?_⟩, (Below.refl _ _).alloc (Nat.le_refl _) _⟩
    simp only [World.cell?]; rw [h]; rfl
  go_enter Tryz.func6, Tryz.ntmps6
  go_wp2
  go_loopg [13] 2 (fun g u13 wr => ∃ k : Nat, u13 = .int .i64 k ∧ k ≤ 2 ∧ g = 2 - k ∧ Hid (NoneIn w wr))
  case atStart => exact ⟨0, rfl, by omega, rfl, HN⟩
  case round =>
    obtain ⟨k, rfl, hk, rfl, hG⟩ := hrel
    clear HN
    rcases (show k = 0 ∨ k = 1 ∨ k = 2 by omega) with rfl | rfl | rfl
    · have c := addL_un none ba bn bc wr (.inl rfl)
      go_wp2_with fail
      refine c.mono ?_
      rintro e w1 ⟨rfl, b1⟩
      replace hG : Hid (NoneIn w w1) := hG.out.go b1
      clear c b1
      have c := flushL_un none w1 (.inl rfl)
      go_wp2_with fail
      refine c.mono ?_
      rintro e w2 ⟨rfl, b1⟩
      replace hG : Hid (NoneIn w w2) := hG.out.go b1
      clear c b1
      have c := markL_un none ba bn bc w2 (.inl rfl)
      go_wp2_with fail
      refine c.mono ?_
      rintro e w3 ⟨rfl, b1⟩
      replace hG : Hid (NoneIn w w3) := hG.out.go b1
      clear c b1
      have c := pendL_un none w3 (.inl rfl)
      go_wp2_with fail
      refine c.mono ?_
      rintro e w4 ⟨rfl, rfl⟩
      clear c
      have c := partsL_un none w4 (.inl rfl)
      go_wp2_with fail
      refine c.mono ?_
      rintro e w5 ⟨rfl, rfl⟩
      clear c
      go_wp2
      go_roundg (2 - 1)
      case measure => omega
      case rel => exact ⟨1, by go_num, by omega, rfl, hG⟩
    · have c := addL_un (some ⟨w.heap.size, 0, none⟩) ba bn bc wr hG.out.un
      go_wp2_with fail
      refine c.mono ?_
      rintro e w1 ⟨rfl, b1⟩
      replace hG : Hid (NoneIn w w1) := hG.out.go b1
      clear c b1
      have c := flushL_un (some ⟨w.heap.size, 0, none⟩) w1 hG.out.un
      go_wp2_with fail
      refine c.mono ?_
      rintro e w2 ⟨rfl, b1⟩
      replace hG : Hid (NoneIn w w2) := hG.out.go b1
      clear c b1
      have c := markL_un (some ⟨w.heap.size, 0, none⟩) ba bn bc w2 hG.out.un
      go_wp2_with fail
      refine c.mono ?_
      rintro e w3 ⟨rfl, b1⟩
      replace hG : Hid (NoneIn w w3) := hG.out.go b1
      clear c b1
      have c := pendL_un (some ⟨w.heap.size, 0, none⟩) w3 hG.out.un
      go_wp2_with fail
      refine c.mono ?_
      rintro e w4 ⟨rfl, rfl⟩
      clear c
      have c := partsL_un (some ⟨w.heap.size, 0, none⟩) w4 hG.out.un
      go_wp2_with fail
      refine c.mono ?_
      rintro e w5 ⟨rfl, rfl⟩
      clear c
      go_wp2
      go_roundg (2 - 2)
      case measure => omega
      case rel => exact ⟨2, by go_num, by omega, rfl, hG⟩
    · have c := openL_nil n wr
      go_wp2_with fail
      refine c.mono ?_
      rintro e w1 ⟨rfl, b1⟩
      replace hG : Hid (NoneIn w w1) := hG.out.go b1
      clear c b1
      have c := HL.out w1 hG.out.bel
      go_wp2_with (go_at_call 9; refine c.mono ?_; rintro e w2 ⟨rfl, b2⟩)
      go_ret
      exact ⟨rfl, keptW hG.out.bel b2⟩
end Go.Proofs.YtjgdmbfkondakaaGreatDoor
