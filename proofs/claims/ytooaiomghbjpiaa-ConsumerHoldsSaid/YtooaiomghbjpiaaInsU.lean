/-
  slices.insertionSortOrdered at tags, by its contract.
-/
import Derived.Test.YtooaiomghbjpiaaSortU
namespace Go.Proofs.Ytooaiomghbjpiaa
open Go.RowKit Go.Sort
set_option maxRecDepth 20000

/-- A row that is on its way. -/
def Go1 (w W : World) (base g cap n : Nat) (d : Array Int) : Prop := UR W base g cap d ∧ d.size = n ∧ Below base w W
theorem Go1.drewN {w W : World} {base g cap n : Nat} {d : Array Int} (h : Go1 w W base g cap n d) (q : Nat) : Go1 w (W.drewN q) base g cap n d := ⟨h.1.same rfl, h.2.1, ⟨h.2.2.os, h.2.2.tape, h.2.2.output, h.2.2.size, h.2.2.block⟩⟩
theorem Go1.swap {w W : World} {base g cap n : Nat} {d : Array Int} (h : Go1 w W base g cap n d) {i j : Nat} (hi : i < n) (hj : j < n) {x y : Int} (hx : d[j]! = x) (hy : d[i]! = y) : Go1 w ((W.setCell ⟨g, i, none⟩ (.int .u64 x)).setCell ⟨g, j, none⟩ (.int .u64 y)) base g cap n (swp d i j) := by
  obtain ⟨h1, h2, h3⟩ := h
  subst h2 hx hy
  exact ⟨h1.swap hi hj, by rw [size_swpU], h1.swapBelow h3 _ _ _ _⟩
theorem outer_go (a b i : Nat) (d : Array Int) (h : i < b) : insOuter ltU a b i d = insOuter ltU a b (i + 1) (insInner ltU a i d) := by rw [insOuter, if_pos h]
set_option maxHeartbeats 2000000 in
theorem insertU (w : World) (base g cap n a b : Nat) (d : Array Int) (h : UR w base g cap d) (hn : d.size = n) (hab : a ≤ b) (hb : b ≤ n) (hsz : n ≤ 1000000) :
    Calls Try.prog 84 #[.slice (some ⟨g, 0, none⟩) n cap, .int .i64 (a : Int), .int .i64 (b : Int)] w fun e w' => e = .returned (.tuple #[]) ∧ Go1 w w' base g cap n (Sort.insertionSort ltU d a b) := by
  have H0 : Hid (Go1 w w base g cap n d) := ⟨h, hn, Below.refl _ _⟩
  clear h hn
  go_enter Try.func84, Try.ntmps84
  go_wp2
  go_loopw [6] (fun u6 wr => ∃ (i : Nat) (dk : Array Int), u6 = .int .i64 (i : Int) ∧ a + 1 ≤ i ∧ i ≤ b + 1 ∧ Hid (Go1 w wr base g cap n dk ∧ insOuter ltU a b i dk = insOuter ltU a b (a + 1) d)) (fun u6 _ => b + 1 - (intOf u6).toNat)
  case atStart => exact ⟨a + 1, d, by go_num, Nat.le_refl _, by omega, H0.out, rfl⟩
  case round =>
    obtain ⟨i, dk, rfl, hai, hib, HO⟩ := hrel
    by_cases hlt : i < b
    · have hlt' : (i : Int) < (b : Int) := by omega
      go_wp2
      obtain ⟨W1, hW1⟩ : ∃ W, wr = W := ⟨_, rfl⟩
      subst hW1
      go_loopw [7] (fun u7 wv => ∃ (j : Nat) (dj : Array Int), u7 = .int .i64 (j : Int) ∧ a ≤ j ∧ j ≤ i ∧ Hid (Go1 w wv base g cap n dj ∧ insInner ltU a j dj = insInner ltU a i dk)) (fun u7 _ => (intOf u7).toNat)
      case atStart => exact ⟨i, dk, rfl, by omega, Nat.le_refl _, HO.out.1, rfl⟩
      case round =>
        obtain ⟨j, dj, rfl, haj, hji, HI⟩ := hrel
        have OUT : Hid ((¬ a < j ∨ ltU dj[j]! dj[j - 1]! = false) → ∀ q, Hid (Go1 w (wr.drewN q) base g cap n dj ∧ insOuter ltU a b (i + 1) dj = insOuter ltU a b (a + 1) d)) := fun hs q => ⟨HI.out.1.drewN q, by rw [← HO.out.2, outer_go a b i dk hlt, ← HI.out.2, inner_stop a j dj hs]⟩
        by_cases hja : a < j
        · obtain ⟨k, rfl⟩ : ∃ k, j = k + 1 := ⟨j - 1, by omega⟩
          have hk : k + 1 < n := by omega
          obtain ⟨x, hx⟩ : ∃ x, dj[k + 1]! = x := ⟨_, rfl⟩
          obtain ⟨y, hy⟩ : ∃ y, dj[k]! = y := ⟨_, rfl⟩
          have c1 : wr.cell? ⟨g, k + 1, none⟩ = some (.int .u64 x) := by rw [← hx]; exact HI.out.1.1.cell (by rw [HI.out.1.2.1]; omega)
          have c0 : wr.cell? ⟨g, k, none⟩ = some (.int .u64 y) := by rw [← hy]; exact HI.out.1.1.cell (by rw [HI.out.1.2.1]; omega)
          have f1 := HI.out.1.1.frozen (k + 1)
          have f0 := HI.out.1.1.frozen k
          have HX : Hid (dj[k + 1]! = x ∧ dj[k]! = y) := ⟨hx, hy⟩
          have hk' : (k : Int) + 1 < (n : Int) := by omega
          have ha1 : decide ((a : Int) < (k : Int) + 1) = true := by simp; omega
          have ha2 : (a : Int) < (k : Int) + 1 := by omega
          clear hx hy
          go_wp2
          go_quiet (first | (go_at_call 90; refine Calls.quiet_of_same (less_u _ _ _)))
          cases hl : ltU x y with
          | true =>
            go_wp2
            go_region
            all_goals go_wp2
            go_roundw
            case rel => exact ⟨k, swp dj (k + 1) k, rfl, by omega, by omega, (HI.out.1.drewN (nq + 1)).swap (by omega) (by omega) HX.out.2 HX.out.1, by rw [← HI.out.2, inner_go a k dj hja (by rw [HX.out.1, HX.out.2]; exact hl)]⟩
            case measure => simp [intOf]
          | false =>
            go_wp2
            go_roundw
            case rel => exact ⟨i + 1, dj, by go_num, by omega, by omega, OUT.out (.inr (by rw [Nat.add_sub_cancel, HX.out.1, HX.out.2]; exact hl)) _⟩
            case measure => simp [intOf]; omega
        · have hja' : ¬ (a : Int) < (j : Int) := by omega
          go_wp2
          go_quiet (fail)
          go_wp2
          go_roundw
          case rel => exact ⟨i + 1, dj, by go_num, by omega, by omega, OUT.out (.inl hja) _⟩
          case measure => simp [intOf]; omega
    · have hlt' : ¬ (i : Int) < (b : Int) := by omega
      go_wp2
      go_end0
      refine ⟨rfl, ?_⟩
      have h1 := HO.out.1
      have h2 := HO.out.2
      rw [insOuter, if_neg hlt] at h2
      unfold Sort.insertionSort
      rw [← h2]
      exact h1
end Go.Proofs.Ytooaiomghbjpiaa
