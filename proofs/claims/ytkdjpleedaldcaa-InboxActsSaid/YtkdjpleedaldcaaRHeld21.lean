/-
  THE DOCUMENT's INBOX: Held, Ack, by their contracts.
-/
import Derived.Test.YtkdjpleedaldcaaRI21
import Derived.Deep.LoopGhost
import Derived.OneCell
namespace Go.Proofs.Ytkdjpleedaldcaa
open Go.RowKit Go.Maps
set_option maxRecDepth 20000

theorem withS_none (a : Nat) : withS a (((0 : Nat) : Int) - 1) = a := Nat.eq_of_testBit_eq fun i => by
  rw [withS_test, decide_eq_false (by omega), Bool.or_false]
section
variable {B : Nat} {w : World} {p : Nat} {v : Value} {m : Ib}
theorem RI.cells7 (h : RI B w p v m) (ok : m.Ok) : ∃ g c, v = .slice (some ⟨g, 0, none⟩) m.s c ∧ m.s ≤ c ∧ c ≤ maxLen ∧ ∀ i, i < m.s → w.cell? ⟨g, i * 7, none⟩ = some (.bool (m.h i).isSome) ∧ w.cell? ⟨g, i * 7 + 1, none⟩ = some (.int .i64 ((m.h i).getD zM).origin) ∧ w.cell? ⟨g, i * 7 + 2, none⟩ = some (.int .u64 ((m.h i).getD zM).seq) ∧
    w.cell? ⟨g, i * 7 + 3, none⟩ = some (.int .i64 ((m.h i).getD zM).hop) ∧ w.cell? ⟨g, i * 7 + 4, none⟩ = some (.string ((m.h i).getD zM).ex) ∧ w.cell? ⟨g, i * 7 + 5, none⟩ = some (.string ((m.h i).getD zM).key) ∧ w.cell? ⟨g, i * 7 + 6, none⟩ = some (.string ((m.h i).getD zM).body) := by
  obtain ⟨g, c, hv, h1, h2, h3⟩ := h.place ok
  exact ⟨g, c, hv, h1, h2, fun i hi => ⟨h3 i hi 0 _ (by decide) rfl, h3 i hi 1 _ (by decide) rfl, h3 i hi 2 _ (by decide) rfl, h3 i hi 3 _ (by decide) rfl, h3 i hi 4 _ (by decide) rfl, h3 i hi 5 _ (by decide) rfl, h3 i hi 6 _ (by decide) rfl⟩⟩
theorem riheld_at (h : RI B w p v m) (ok : m.Ok) : Calls Try.prog 22 #[.pointer (some ⟨p, 0, none⟩)] w fun e w' => e = .returned (.int .i64 ((heldL m).length : Nat)) ∧ Below w.heap.size w w' := by
  have hs1 := ok.s1
  have hs2 := ok.s2
  obtain ⟨_, _, c2⟩ := h.cells
  obtain ⟨g, c, rfl, hc1, hc2, hP⟩ := h.cells7 ok
  have HP : Hid _ := hP
  have HL : Hid ((heldL m).length = (liveK m m.s).length) := by rw [liveK_all]; exact held_len m
  have h63 : (m.s : Int) ≤ 32 := by omega
  clear h ok hP
  go_enter Try.func22, Try.ntmps22
  go_wp2
  go_loopg [3, 5, 11] m.s (fun g' u3 u5 u11 wr => ∃ k : Nat, u11 = .int .i64 k ∧ k ≤ m.s ∧ g' = m.s - k ∧ u3 = .int .i64 ((liveK m k).length : Nat) ∧ Hid (Below w.heap.size w wr))
  case atStart => exact ⟨0, rfl, Nat.zero_le _, rfl, rfl, Below.refl _ _⟩
  case round =>
    obtain ⟨k, rfl, hk, rfl, rfl, hB⟩ := hrel
    by_cases hlt : k < m.s
    · have hlt2 : (k : Int) < (m.s : Int) := by omega
      obtain ⟨p0, p1, p2, p3, p4, p5, p6⟩ := HP.out k hlt
      replace p0 := cell_on hB.out p0
      replace p1 := cell_on hB.out p1
      replace p2 := cell_on hB.out p2
      replace p3 := cell_on hB.out p3
      replace p4 := cell_on hB.out p4
      replace p5 := cell_on hB.out p5
      replace p6 := cell_on hB.out p6
      have hkn := liveK_len m k
      have hkn2 : ((liveK m k).length : Int) ≤ 32 := by omega
      have HY : Hid ((m.h k).isSome = true → (liveK m (k + 1)).length = (liveK m k).length + 1) := fun h => by rw [liveK_yes h]; simp
      have HN : Hid ((m.h k).isSome = false → (liveK m (k + 1)).length = (liveK m k).length) := fun h => by rw [liveK_no h]
      generalize (liveK m k).length = cn at *
      generalize (m.h k).getD zM = y at *
      cases hb : (m.h k).isSome with
      | true =>
        have hy := HY.out hb
        rw [hb] at p0
        clear HY HN HP
        go_wp2
        go_roundg (m.s - (k + 1))
        case measure => omega
        case rel => exact ⟨k + 1, by go_num, by omega, rfl, by rw [hy]; go_num, hB.out.alloc hB.out.size _⟩
      | false =>
        have hy := HN.out hb
        rw [hb] at p0
        clear HY HN HP
        go_wp2
        go_roundg (m.s - (k + 1))
        case measure => omega
        case rel => exact ⟨k + 1, by go_num, by omega, rfl, by rw [hy], hB.out.alloc hB.out.size _⟩
    · obtain rfl : k = m.s := by omega
      go_wp2
      go_ret
      exact ⟨congrArg (fun n : Nat => Ending.returned (Value.int .i64 (n : Int))) HL.out.symm, hB.out⟩
theorem riack_at (h : RI B w p v m) (ok : m.Ok) : Calls Try.prog 20 #[.pointer (some ⟨p, 0, none⟩)] w fun e w' => e = .returned (.tuple #[.int .u16 m.n, .int .u64 (ackS m)]) ∧ Below w.heap.size w w' := by
  have hs1 := ok.s1
  have hs2 := ok.s2
  obtain ⟨_, c1, c2⟩ := h.cells
  obtain ⟨g, c, rfl, hc1, hc2, hP⟩ := h.cells7 ok
  have HP : Hid _ := hP
  have HL : Hid (setI (liveK m m.s) = ackS m) := by rw [liveK_all]; rfl
  have h63 : (m.s : Int) ≤ 32 := by omega
  have HC1 : Hid (w.cell? ⟨p, 1, none⟩ = some (.int .u16 m.n)) := c1
  clear h ok hP
  go_enter Try.func20, Try.ntmps20
  go_wp2
  go_loopg [4, 5, 6, 12] m.s (fun g' u4 u5 u6 u12 wr => ∃ k : Nat, u12 = .int .i64 k ∧ k ≤ m.s ∧ g' = m.s - k ∧ u4 = .int .u64 (setI (liveK m k) : Nat) ∧ Hid (Below w.heap.size w wr))
  case atStart => exact ⟨0, rfl, Nat.zero_le _, rfl, rfl, Below.refl _ _⟩
  case round =>
    obtain ⟨k, rfl, hk, rfl, rfl, hB⟩ := hrel
    by_cases hlt : k < m.s
    · have hlt2 : (k : Int) < (m.s : Int) := by omega
      obtain ⟨p0, p1, p2, p3, p4, p5, p6⟩ := HP.out k hlt
      replace p0 := cell_on hB.out p0
      replace p1 := cell_on hB.out p1
      replace p2 := cell_on hB.out p2
      replace p3 := cell_on hB.out p3
      replace p4 := cell_on hB.out p4
      replace p5 := cell_on hB.out p5
      replace p6 := cell_on hB.out p6
      have HY : Hid ((m.h k).isSome = true → setI (liveK m (k + 1)) = withS (setI (liveK m k)) ((k : Int) - 1)) := fun h => by rw [liveK_yes h, setI_snoc]
      have HN : Hid ((m.h k).isSome = false → setI (liveK m (k + 1)) = setI (liveK m k)) := fun h => by rw [liveK_no h]
      have hset := setI_set (liveK m k)
      generalize setI (liveK m k) = sv at *
      generalize (m.h k).getD zM = y at *
      have HW : Hid (∀ X, Calls Try.prog 33 #[.int .u64 sv, .int .i64 ((k : Int) - 1)] X fun e w' => e = .returned (.int .u64 (withS sv ((k : Int) - 1) : Nat)) ∧ w' = X) := fun X => rwith_any sv _ X hset
      cases hb : (m.h k).isSome with
      | true =>
        have hy := HY.out hb
        rw [hb] at p0
        clear HY HN HP
        by_cases h0 : k = 0
        · subst h0
          rw [withS_none] at hy
          go_wp2
          go_roundg (m.s - (0 + 1))
          case measure => omega
          case rel => exact ⟨0 + 1, by go_num, by omega, rfl, by rw [hy], hB.out.alloc hB.out.size _⟩
        · have h0i : (0 : Int) < (k : Int) := by omega
          have h0n : ¬ (k : Int) = 0 := by omega
          go_wp2_with (go_at_call 33; refine (HW.out _).mono ?_; rintro e w5 ⟨rfl, rfl⟩)
          go_roundg (m.s - (k + 1))
          case measure => omega
          case rel => exact ⟨k + 1, by go_num, by omega, rfl, by rw [hy], hB.out.alloc hB.out.size _⟩
      | false =>
        have hy := HN.out hb
        rw [hb] at p0
        clear HY HN HP
        by_cases h0 : k = 0
        · subst h0
          go_wp2
          go_roundg (m.s - (0 + 1))
          case measure => omega
          case rel => exact ⟨0 + 1, by go_num, by omega, rfl, by rw [hy], hB.out.alloc hB.out.size _⟩
        · have h0i : (0 : Int) < (k : Int) := by omega
          go_wp2
          go_roundg (m.s - (k + 1))
          case measure => omega
          case rel => exact ⟨k + 1, by go_num, by omega, rfl, by rw [hy], hB.out.alloc hB.out.size _⟩
    · obtain rfl : k = m.s := by omega
      have c1b := cell_on hB.out HC1.out
      go_wp2
      refine bodyPost_ret (results_tmp2 rfl _ _ _) rfl ?_
      exact ⟨congrArg (fun n : Nat => Ending.returned (.tuple #[.int .u16 m.n, Value.int .u64 (n : Int)])) HL.out, hB.out⟩
end
end Go.Proofs.Ytkdjpleedaldcaa
