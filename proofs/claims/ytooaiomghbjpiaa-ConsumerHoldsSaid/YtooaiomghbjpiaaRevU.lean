/-
  slices.reverseRangeOrdered, order2Ordered, medianOrdered, medianAdjacentOrdered, choosePivotOrdered at tags: what is asked of them.
-/
import Derived.Test.YtooaiomghbjpiaaSmallU
import Derived.Sort.LotD2
namespace Go.Proofs.Ytooaiomghbjpiaa
open Go.RowKit Go.Sort
set_option maxRecDepth 20000

theorem Go1.cell {w W : World} {base g cap n : Nat} {d : Array Int} (h : Go1 w W base g cap n d) {t : Nat} (ht : t < n) : W.cell? ⟨g, t, none⟩ = some (.int .u64 d[t]!) := h.1.cell (by rw [h.2.1]; exact ht)
theorem Go1.refl {w : World} {base g cap n : Nat} {d : Array Int} (h : UR w base g cap d) (hn : d.size = n) : Go1 w w base g cap n d := ⟨h, hn, RowKit.Below.refl _ _⟩
theorem Go1.trans {w W X : World} {base g cap n : Nat} {d e : Array Int} (h : Go1 w W base g cap n d) (k : Go1 W X base g cap n e) : Go1 w X base g cap n e := ⟨k.1, k.2.1, h.2.2.trans k.2.2⟩
theorem Go1.more {w W X : World} {base g cap n : Nat} {d : Array Int} (h : Go1 w W base g cap n d) (b : RowKit.Below W.heap.size W X) (hb : base ≤ W.heap.size) : Go1 w X base g cap n d := ⟨h.1.same (b.block g h.1.lt.1), h.2.1, h.2.2.trans (b.mono hb)⟩
theorem Go1.base {w W : World} {base g cap n : Nat} {d : Array Int} (h : Go1 w W base g cap n d) : base ≤ W.heap.size := Nat.le_trans h.1.lt.2 (Nat.le_of_lt h.1.lt.1)
set_option maxHeartbeats 2000000 in
theorem reverseU (w : World) (base g cap n a b : Nat) (d : Array Int) (h : UR w base g cap d) (hn : d.size = n) (hab : a < b) (hb : b ≤ n) (hsz : n ≤ 1000000) :
    Calls Try.prog 88 #[.slice (some ⟨g, 0, none⟩) n cap, .int .i64 (a : Int), .int .i64 (b : Int)] w fun e w' => e = .returned (.tuple #[]) ∧ ∃ d', Go1 w w' base g cap n d' ∧ PermIn a b d d' := by
  have H0 : Hid (Go1 w w base g cap n d) := Go1.refl h hn
  clear h hn
  obtain ⟨c, rfl⟩ : ∃ c, b = c + 1 := ⟨b - 1, by omega⟩
  go_enter Try.func88, Try.ntmps88
  go_wp2
  go_loopw [6, 7] (fun u6 u7 wr => ∃ (i j : Nat) (dk : Array Int), u6 = .int .i64 (i : Int) ∧ u7 = .int .i64 (j : Int) ∧ a ≤ i ∧ j ≤ c ∧ i ≤ c + 1 ∧ Hid (Go1 w wr base g cap n dk ∧ PermIn a (c + 1) d dk)) (fun u6 u7 _ => (intOf u7 + 1 - intOf u6).toNat)
  case atStart => exact ⟨a, c, d, rfl, rfl, Nat.le_refl _, Nat.le_refl _, by omega, H0.out, permIn_refl _ _ _⟩
  case round =>
    obtain ⟨i, j, dk, rfl, rfl, h1, h2, h3, HI⟩ := hrel
    by_cases hij : i < j
    · have hij' : (i : Int) < (j : Int) := by omega
      obtain ⟨k, rfl⟩ : ∃ k, j = k + 1 := ⟨j - 1, by omega⟩
      obtain ⟨x, hx⟩ : ∃ x, dk[i]! = x := ⟨_, rfl⟩
      obtain ⟨y, hy⟩ : ∃ y, dk[k + 1]! = y := ⟨_, rfl⟩
      have c1 : wr.cell? ⟨g, i, none⟩ = some (.int .u64 x) := by rw [← hx]; exact HI.out.1.cell (by omega)
      have c2 : wr.cell? ⟨g, k + 1, none⟩ = some (.int .u64 y) := by rw [← hy]; exact HI.out.1.cell (by omega)
      have f1 := HI.out.1.1.frozen i
      have f2 := HI.out.1.1.frozen (k + 1)
      have HX : Hid (dk[i]! = x ∧ dk[k + 1]! = y) := ⟨hx, hy⟩
      have n1 : (i : Int) < (n : Int) := by omega
      have n2 : (k : Int) + 1 < (n : Int) := by omega
      have n3 : ¬ i = k + 1 := by omega
      clear hx hy
      go_wp2
      go_region
      all_goals go_wp2
      go_roundw
      case rel => exact ⟨i + 1, k, swp dk i (k + 1), by go_num, rfl, by omega, by omega, by omega, (HI.out.1.drewN _).swap (by omega) (by omega) HX.out.2 HX.out.1, permIn_trans _ _ _ _ _ HI.out.2 (swp_permIn dk a (c + 1) i (k + 1) (by omega) (by omega) (by omega) (by omega) (by rw [HI.out.1.2.1]; omega))⟩
      case measure => simp [intOf]; omega
    · have hij' : ¬ (i : Int) < (j : Int) := by omega
      go_wp2
      go_end0
      exact ⟨rfl, dk, HI.out⟩
end Go.Proofs.Ytooaiomghbjpiaa
