/-
  THE DOCUMENT's Same, where all is the same.
-/
import Derived.Test.YtiaagiijjledkaaGreatDoorAct
import Derived.BigQuiet
namespace Go.Proofs.YtiaagiijjledkaaGreatDoor
open Go.RowKit Go.Sort Go.Shelf

set_option maxRecDepth 20000 in
set_option maxHeartbeats 4000000 in
theorem same_any (vx vb : Value) (p : Nat) (F : Nat → Prop) (s : Tb) (w : World) (hx : RowOf xcells w vx s.xs) (hb : RowOf bcells w vb s.bs) (hr : RT w p F s) :
    Calls Tryz.prog 10 #[vx, vb, .pointer (some ⟨p, 0, none⟩)] w fun e w' => e = .returned (.bool true) ∧ Below w.heap.size w w' := by
  obtain ⟨ux, ub, hq, _, _⟩ := hr
  obtain ⟨c0, c1⟩ := cells2 hq.blk
  obtain ⟨ax, cx, rfl⟩ := hx.slice
  obtain ⟨ab, cb, rfl⟩ := hb.slice
  obtain ⟨dx, ex, rfl⟩ := hq.x.slice
  obtain ⟨db, eb, rfl⟩ := hq.b.slice
  have X1 := hx.exs
  have X2 := hq.x.exs
  have B1 := hb.bds
  have B2 := hq.b.bds
  have lx : s.xs.length ≤ 9223372036854775807 := by
    rcases hx with ⟨_, h⟩ | ⟨_, _, _, h1, h2, _⟩
    · rw [h]; simp
    · unfold maxLen at h2; omega
  have lb : s.bs.length ≤ 9223372036854775807 := by
    rcases hb with ⟨_, h⟩ | ⟨_, _, _, h1, h2, _⟩
    · rw [h]; simp
    · unfold maxLen at h2; omega
  clear hq hx hb
  go_enter Tryz.func10, Tryz.ntmps10
  go_wp2
  go_loopw [29] (fun u29 wr => ∃ k : Nat, u29 = .int .i64 k ∧ k ≤ s.xs.length ∧ Below w.heap.size w wr) (fun u29 _ => s.xs.length - (intOf u29).toNat)
  case atStart => exact ⟨0, rfl, Nat.zero_le _, Below.refl _ _⟩
  case round =>
    obtain ⟨k, rfl, hk, hbr⟩ := hrel
    by_cases hlt2 : k < s.xs.length
    · have hlt : (k : Int) < (s.xs.length : Int) := by omega
      obtain ⟨b1, o1, rfl, i1⟩ := X1 k hlt2
      obtain ⟨b2, o2, rfl, i2⟩ := X2 k hlt2
      obtain ⟨e0, e1, e2⟩ := i1.below hbr (Nat.le_refl _)
      obtain ⟨f0, f1, f2⟩ := i2.below hbr (Nat.le_refl _)
      have c0' : wr.cell? ⟨p, 0, none⟩ = _ := (hbr.cell (p := ⟨p, 0, none⟩) (World.block_lt_of_cell? _ _ c0)).trans c0
      generalize s.xs[k] = x at *
      clear X1 X2 B1 B2 i1 i2 c0 c1
      have HB : Hid (∀ q, Below w.heap.size w (wr.drewN q)) := fun q => ⟨hbr.os, hbr.tape, hbr.output, hbr.size, hbr.block⟩
      go_wp2
      go_quiet (fail)
      go_wp2
      exact ⟨⟨k + 1, by go_num, by omega, HB.out _⟩, by simp [intOf]; omega⟩
    · obtain rfl : k = s.xs.length := by omega
      clear X1 X2
      go_wp2
      go_loopw [47] (fun u47 wr => ∃ k : Nat, u47 = .int .i64 k ∧ k ≤ s.bs.length ∧ Below w.heap.size w wr) (fun u47 _ => s.bs.length - (intOf u47).toNat)
      case atStart => exact ⟨0, rfl, Nat.zero_le _, hbr⟩
      case round =>
        clear hbr hk hlt2
        obtain ⟨k, rfl, hk, hbr⟩ := hrel
        by_cases hlt2 : k < s.bs.length
        · have hlt : (k : Int) < (s.bs.length : Int) := by omega
          obtain ⟨b1, o1, rfl, i1⟩ := B1 k hlt2
          obtain ⟨b2, o2, rfl, i2⟩ := B2 k hlt2
          obtain ⟨e0, e1, e2⟩ := i1.below hbr (Nat.le_refl _)
          obtain ⟨f0, f1, f2⟩ := i2.below hbr (Nat.le_refl _)
          have c1' : wr.cell? ⟨p, 1, none⟩ = _ := (hbr.cell (p := ⟨p, 1, none⟩) (World.block_lt_of_cell? _ _ c1)).trans c1
          generalize s.bs[k] = x at *
          clear B1 B2 i1 i2 c0 c1
          have HB : Hid (∀ q, Below w.heap.size w (wr.drewN q)) := fun q => ⟨hbr.os, hbr.tape, hbr.output, hbr.size, hbr.block⟩
          go_wp2
          go_quiet (fail)
          go_wp2
          exact ⟨⟨k + 1, by go_num, by omega, HB.out _⟩, by simp [intOf]; omega⟩
        · obtain rfl : k = s.bs.length := by omega
          clear B1 B2
          go_wp2
          go_ret
          exact ⟨rfl, hbr⟩
end Go.Proofs.YtiaagiijjledkaaGreatDoor
