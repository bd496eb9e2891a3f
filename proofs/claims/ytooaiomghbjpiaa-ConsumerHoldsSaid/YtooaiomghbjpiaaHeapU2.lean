/-
  slices.heapSortOrdered at tags, by its contract.
-/
import Derived.Test.YtooaiomghbjpiaaHeapU
namespace Go.Proofs.Ytooaiomghbjpiaa
open Go.RowKit Go.Sort
set_option maxRecDepth 20000

set_option maxHeartbeats 4000000 in
theorem heapU (w : World) (base g cap n a b : Nat) (d : Array Int) (h : UR w base g cap d) (hn : d.size = n) (hab : a + 12 < b) (hb : b ≤ n) (hsz : n ≤ 1000000) :
    Calls Try.prog 85 #[.slice (some ⟨g, 0, none⟩) n cap, .int .i64 (a : Int), .int .i64 (b : Int)] w fun e w' => e = .returned (.tuple #[]) ∧ ∃ d', Go1 w w' base g cap n d' ∧ PermIn a b d d' ∧ SortedIn ltU a b d' := by
  obtain ⟨H, hH⟩ : ∃ H, b - a = H := ⟨_, rfl⟩
  obtain ⟨q, hq⟩ : ∃ q, (H - 1) / 2 = q := ⟨_, rfl⟩
  have e1 : (b : Int) - (a : Int) = (H : Int) := by omega
  have e2 : ((H : Int) - 1) / 2 = (q : Int) := by omega
  have e2' : ((H : Int) - 1).tdiv 2 = (q : Int) := by rw [Int.tdiv_eq_ediv_of_nonneg (by omega)]; omega
  have bH : (H : Int) ≤ 1000000 := by omega
  have bq : (q : Int) < (H : Int) := by omega
  have haH : a + H ≤ n := by omega
  have H0 : Hid (Go1 w w base g cap n d) := Go1.refl h hn
  have HE : Hid (∀ W d', Go1 w W base g cap n d' → d' = heapPop ltU a H (heapBuild ltU H a (q + 1) d) → ∃ d', Go1 w W base g cap n d' ∧ PermIn a b d d' ∧ SortedIn ltU a b d') := fun W d' hg hd => by
    have hh := heapSort_holds (lt := ltU) swoU d a b (by omega) (by omega)
    unfold heapSort at hh
    rw [hH, hq, ← hd] at hh
    exact ⟨d', hg, hh.1, hh.2⟩
  have HSi : Hid (∀ V dk (lo hi : Nat), Go1 w V base g cap n dk → lo ≤ hi → a + hi ≤ n → Calls Try.prog 94 #[.slice (some ⟨g, 0, none⟩) n cap, .int .i64 (lo : Int), .int .i64 (hi : Int), .int .i64 (a : Int)] V fun e w' => e = .returned (.tuple #[]) ∧ Go1 w w' base g cap n (siftDown ltU hi a lo dk)) := fun V dk lo hi hg h1 h2 => (siftU V base g cap n lo hi a dk hg.1 hg.2.1 h1 h2 hsz).mono fun _ _ ⟨e, k⟩ => ⟨e, hg.trans k⟩
  clear h hn hH hq
  go_enter Try.func85, Try.ntmps85
  go_wp2
  go_loopw [9] (fun u9 wr => ∃ (k : Nat) (dk : Array Int), u9 = .int .i64 ((k : Int) - 1) ∧ k ≤ q + 1 ∧ Hid (Go1 w wr base g cap n dk ∧ heapBuild ltU H a k dk = heapBuild ltU H a (q + 1) d)) (fun u9 _ => (intOf u9 + 1).toNat)
  case atStart => exact ⟨q + 1, d, by go_num, Nat.le_refl _, H0.out, rfl⟩
  case round =>
    obtain ⟨k, dk, rfl, hk, HI⟩ := hrel
    by_cases hk0 : 0 < k
    · obtain ⟨j, rfl⟩ : ∃ j, k = j + 1 := ⟨k - 1, by omega⟩
      rw [show (((j + 1 : Nat) : Int) - 1) = (j : Int) by omega]
      have hj0 : (0 : Int) ≤ (j : Int) := by omega
      go_wp2_with fail
      refine (HSi.out wr dk j H HI.out.1 (by omega) haH).mono ?_
      rintro e w1 ⟨rfl, G1⟩
      have H1 : Hid (Go1 w w1 base g cap n (siftDown ltU H a j dk) ∧ heapBuild ltU H a j (siftDown ltU H a j dk) = heapBuild ltU H a (q + 1) d) := ⟨G1, by rw [← HI.out.2]; rfl⟩
      clear G1
      go_wp2
      go_roundw
      case rel => exact ⟨j, _, rfl, by omega, H1⟩
      case measure => simp [intOf]
    · obtain rfl : k = 0 := by omega
      have H2 : Hid (Go1 w wr base g cap n dk ∧ dk = heapBuild ltU H a (q + 1) d) := ⟨HI.out.1, by rw [← HI.out.2]; rfl⟩
      rw [show (((0 : Nat) : Int) - 1) = -1 from rfl]
      go_wp2
      obtain ⟨W2, hW2⟩ : ∃ z, z = wr := ⟨_, rfl⟩
      subst hW2
      go_loopw [10] (fun u10 wv => ∃ (k : Nat) (dj : Array Int), u10 = .int .i64 ((k : Int) - 1) ∧ k ≤ H ∧ Hid (Go1 w wv base g cap n dj ∧ heapPop ltU a k dj = heapPop ltU a H (heapBuild ltU H a (q + 1) d))) (fun u10 _ => (intOf u10 + 1).toNat)
      case atStart => exact ⟨H, dk, rfl, Nat.le_refl _, H2.out.1, by rw [← H2.out.2]⟩
      case round =>
        obtain ⟨k, dj, rfl, hk, HJ⟩ := hrel
        by_cases hk0 : 0 < k
        · obtain ⟨j, rfl⟩ : ∃ j, k = j + 1 := ⟨k - 1, by omega⟩
          rw [show (((j + 1 : Nat) : Int) - 1) = (j : Int) by omega]
          have hj0 : (0 : Int) ≤ (j : Int) := by omega
          obtain ⟨x, hx⟩ : ∃ x, dj[a]! = x := ⟨_, rfl⟩
          obtain ⟨y, hy⟩ : ∃ y, dj[a + j]! = y := ⟨_, rfl⟩
          have c1 : wr.cell? ⟨g, a, none⟩ = some (.int .u64 x) := by rw [← hx]; exact HJ.out.1.cell (by omega)
          have c2 : wr.cell? ⟨g, a + j, none⟩ = some (.int .u64 y) := by rw [← hy]; exact HJ.out.1.cell (by omega)
          have f1 := HJ.out.1.1.frozen a
          have f2 := HJ.out.1.1.frozen (a + j)
          have na : (a : Int) < (n : Int) := by omega
          have nj : (a : Int) + (j : Int) < (n : Int) := by omega
          have HX : Hid (dj[a]! = x ∧ dj[a + j]! = y) := ⟨hx, hy⟩
          have HS2 : Hid (∀ q, Go1 w (((wr.setCell ⟨g, a, none⟩ (.int .u64 y)).setCell ⟨g, a + j, none⟩ (.int .u64 x)).drewN q) base g cap n (swp dj a (a + j))) := fun q => (HJ.out.1.swap (by omega) (by omega) HX.out.2 HX.out.1).drewN q
          have HP : Hid (heapPop ltU a j (siftDown ltU j a 0 (swp dj a (a + j))) = heapPop ltU a H (heapBuild ltU H a (q + 1) d)) := by rw [← HJ.out.2]; rfl
          have HS3 : Hid (∀ V, Go1 w V base g cap n (swp dj a (a + j)) → Calls Try.prog 94 #[.slice (some ⟨g, 0, none⟩) n cap, .int .i64 0, .int .i64 (j : Int), .int .i64 (a : Int)] V fun e w' => e = .returned (.tuple #[]) ∧ Go1 w w' base g cap n (siftDown ltU j a 0 (swp dj a (a + j)))) := fun V hV => HSi.out V _ 0 j hV (Nat.zero_le _) (by omega)
          clear hx hy
          by_cases hj : j = 0
          · subst hj
            obtain rfl : y = x := by rw [← HX.out.1, ← HX.out.2, Nat.add_zero]
            simp only [Nat.add_zero] at HX HS2 HS3 HP
            clear c2 f2
            go_wp2
            go_region
            all_goals go_wp2_with fail
            refine (HS3.out _ (HS2.out 1)).mono ?_
            rintro e w1 ⟨rfl, G1⟩
            have H1 : Hid (Go1 w w1 base g cap n (siftDown ltU 0 a 0 (swp dj a a)) ∧ heapPop ltU a 0 (siftDown ltU 0 a 0 (swp dj a a)) = heapPop ltU a H (heapBuild ltU H a (q + 1) d)) := ⟨G1, HP.out⟩
            clear G1
            go_wp2
            go_roundw
            case rel => exact ⟨0, _, rfl, by omega, H1⟩
            case measure => simp [intOf]
          · have hne : ¬ (a + j = a) := by omega
            have hne' : ¬ (a = a + j) := by omega
            go_wp2
            go_region
            all_goals go_wp2_with fail
            refine (HS3.out _ (HS2.out 1)).mono ?_
            rintro e w1 ⟨rfl, G1⟩
            have H1 : Hid (Go1 w w1 base g cap n (siftDown ltU j a 0 (swp dj a (a + j))) ∧ heapPop ltU a j (siftDown ltU j a 0 (swp dj a (a + j))) = heapPop ltU a H (heapBuild ltU H a (q + 1) d)) := ⟨G1, HP.out⟩
            clear G1
            go_wp2
            go_roundw
            case rel => exact ⟨j, _, rfl, by omega, H1⟩
            case measure => simp [intOf]
        · obtain rfl : k = 0 := by omega
          go_wp2
          go_end0
          exact ⟨rfl, HE.out _ dj HJ.out.1 (by rw [← HJ.out.2]; rfl)⟩
end Go.Proofs.Ytooaiomghbjpiaa
