/-
  slices.siftDownOrdered, slices.heapSortOrdered at tags, by their contracts.
-/
import Derived.Test.YtooaiomghbjpiaaBrkU
import Derived.Sort.LotB
namespace Go.Proofs.Ytooaiomghbjpiaa
open Go.RowKit Go.Sort
set_option maxRecDepth 20000

theorem sift_end {hi F r : Nat} {d : Array Int} (h : hi ≤ 2 * r + 1) : siftDown ltU hi F r d = d := by rw [siftDown, dif_pos h]
/-- The child that is looked at. -/
theorem sift_stop {hi F r k : Nat} {d : Array Int} (h : 2 * r + 1 < hi) (hk : (2 * r + 2 < hi ∧ ltU d[F + (2 * r + 1)]! d[F + (2 * r + 2)]! = true ∧ k = 2 * r + 2) ∨ ((2 * r + 2 < hi → ltU d[F + (2 * r + 1)]! d[F + (2 * r + 2)]! = false) ∧ k = 2 * r + 1)) (hl : ltU d[F + r]! d[F + k]! = false) : siftDown ltU hi F r d = d := by
  rw [siftDown, dif_neg (by omega)]
  rcases hk with ⟨h1, h2, rfl⟩ | ⟨h1, rfl⟩
  · rw [show F + (2 * r + 1) + 1 = F + (2 * r + 2) by omega, h2, hl]
    simp [h1]
  · rw [show F + (2 * r + 1) + 1 = F + (2 * r + 2) by omega, hl]
    by_cases h3 : 2 * r + 2 < hi
    · rw [h1 h3]; simp
    · simp [show ¬ 2 * r + 1 + 1 < hi by omega]
theorem sift_go {hi F r k : Nat} {d : Array Int} (h : 2 * r + 1 < hi) (hk : (2 * r + 2 < hi ∧ ltU d[F + (2 * r + 1)]! d[F + (2 * r + 2)]! = true ∧ k = 2 * r + 2) ∨ ((2 * r + 2 < hi → ltU d[F + (2 * r + 1)]! d[F + (2 * r + 2)]! = false) ∧ k = 2 * r + 1)) (hl : ltU d[F + r]! d[F + k]! = true) : siftDown ltU hi F r d = siftDown ltU hi F k (swp d (F + r) (F + k)) := by
  rw [siftDown, dif_neg (by omega)]
  rcases hk with ⟨h1, h2, rfl⟩ | ⟨h1, rfl⟩
  · rw [show F + (2 * r + 1) + 1 = F + (2 * r + 2) by omega, h2, hl]
    simp [h1]
  · rw [show F + (2 * r + 1) + 1 = F + (2 * r + 2) by omega, hl]
    by_cases h3 : 2 * r + 2 < hi
    · rw [h1 h3]; simp
    · simp [show ¬ 2 * r + 1 + 1 < hi by omega]
set_option maxHeartbeats 4000000 in
theorem siftU (w : World) (base g cap n lo hi F : Nat) (d : Array Int) (h : UR w base g cap d) (hn : d.size = n) (hlo : lo ≤ hi) (hb : F + hi ≤ n) (hsz : n ≤ 1000000) :
    Calls Try.prog 94 #[.slice (some ⟨g, 0, none⟩) n cap, .int .i64 (lo : Int), .int .i64 (hi : Int), .int .i64 (F : Int)] w fun e w' => e = .returned (.tuple #[]) ∧ Go1 w w' base g cap n (siftDown ltU hi F lo d) := by
  have H0 : Hid (Go1 w w base g cap n d) := Go1.refl h hn
  clear h hn
  go_enter Try.func94, Try.ntmps94
  go_wp2
  go_loopw [8, 9] (fun u8 _ wr => ∃ (r : Nat) (dk : Array Int), u8 = .int .i64 (r : Int) ∧ r ≤ hi ∧ Hid (Go1 w wr base g cap n dk ∧ siftDown ltU hi F r dk = siftDown ltU hi F lo d)) (fun u8 _ _ => hi - (intOf u8).toNat)
  case atStart => exact ⟨lo, d, rfl, hlo, H0.out, rfl⟩
  case round =>
    obtain ⟨r, dk, rfl, hr, HI⟩ := hrel
    by_cases hc : 2 * r + 1 < hi
    · have hc' : ¬ (hi : Int) ≤ 2 * (r : Int) + 1 := by omega
      have STOP : Hid (∀ q k, ((2 * r + 2 < hi ∧ ltU dk[F + (2 * r + 1)]! dk[F + (2 * r + 2)]! = true ∧ k = 2 * r + 2) ∨ ((2 * r + 2 < hi → ltU dk[F + (2 * r + 1)]! dk[F + (2 * r + 2)]! = false) ∧ k = 2 * r + 1)) → ltU dk[F + r]! dk[F + k]! = false → Go1 w (wr.drewN q) base g cap n (siftDown ltU hi F lo d)) := fun q k hk hl => by
        rw [← HI.out.2, sift_stop hc hk hl]
        exact HI.out.1.drewN q
      have NEXT : Hid (∀ q k x y, ((2 * r + 2 < hi ∧ ltU dk[F + (2 * r + 1)]! dk[F + (2 * r + 2)]! = true ∧ k = 2 * r + 2) ∨ ((2 * r + 2 < hi → ltU dk[F + (2 * r + 1)]! dk[F + (2 * r + 2)]! = false) ∧ k = 2 * r + 1)) → k < hi → dk[F + r]! = x → dk[F + k]! = y → ltU x y = true → Hid (Go1 w (((wr.drewN q).setCell ⟨g, F + r, none⟩ (.int .u64 y)).setCell ⟨g, F + k, none⟩ (.int .u64 x)) base g cap n (swp dk (F + r) (F + k)) ∧ siftDown ltU hi F k (swp dk (F + r) (F + k)) = siftDown ltU hi F lo d)) := fun q k x y hk hk2 hx hy hl => ⟨(HI.out.1.drewN q).swap (by omega) (by omega) hy hx, by rw [← HI.out.2, sift_go hc hk (by rw [hx, hy]; exact hl)]⟩
      obtain ⟨x, hx⟩ : ∃ x, dk[F + r]! = x := ⟨_, rfl⟩
      obtain ⟨y1, hy1⟩ : ∃ y, dk[F + (2 * r + 1)]! = y := ⟨_, rfl⟩
      have cx : wr.cell? ⟨g, F + r, none⟩ = some (.int .u64 x) := by rw [← hx]; exact HI.out.1.cell (by omega)
      have cy1 : wr.cell? ⟨g, F + (2 * r + 1), none⟩ = some (.int .u64 y1) := by rw [← hy1]; exact HI.out.1.cell (by omega)
      have fx := HI.out.1.1.frozen (F + r)
      have fy1 := HI.out.1.1.frozen (F + (2 * r + 1))
      have nx : (F : Int) + (r : Int) < (n : Int) := by omega
      have ny1 : (F : Int) + (2 * (r : Int) + 1) < (n : Int) := by omega
      have HX : Hid (dk[F + r]! = x ∧ dk[F + (2 * r + 1)]! = y1) := ⟨hx, hy1⟩
      clear hx hy1
      by_cases h2 : 2 * r + 2 < hi
      · have h2' : 2 * (r : Int) + 1 + 1 < (hi : Int) := by omega
        have h2d : decide (2 * (r : Int) + 1 + 1 < (hi : Int)) = true := decide_eq_true h2'
        obtain ⟨y2, hy2⟩ : ∃ y, dk[F + (2 * r + 2)]! = y := ⟨_, rfl⟩
        have cy2 : wr.cell? ⟨g, F + (2 * r + 1 + 1), none⟩ = some (.int .u64 y2) := by rw [← hy2]; exact HI.out.1.cell (by omega)
        have cy2' : wr.cell? ⟨g, F + (2 * r + 1) + 1, none⟩ = some (.int .u64 y2) := cy2
        have fy2 := HI.out.1.1.frozen (F + (2 * r + 1 + 1))
        have ny2 : (F : Int) + (2 * (r : Int) + 1) + 1 < (n : Int) := by omega
        have HY : Hid (dk[F + (2 * r + 2)]! = y2) := hy2
        clear hy2
        go_wp2
        go_quiet (first | (go_at_call 90; refine Calls.quiet_of_same (less_u _ _ _)))
        cases hl2 : ltU y1 y2 with
        | true =>
          go_wp2
          obtain ⟨m0, hm0⟩ : ∃ z, z = nq := ⟨_, rfl⟩
          subst hm0
          obtain ⟨V, hV⟩ : ∃ V, wr.drewN m0 = V := ⟨_, rfl⟩
          have vx : V.cell? ⟨g, F + r, none⟩ = some (.int .u64 x) := by rw [← hV]; exact cx
          have vy : V.cell? ⟨g, F + (2 * r + 1 + 1), none⟩ = some (.int .u64 y2) := by rw [← hV]; exact cy2
          have ux : V.frozen? ⟨g, F + r, none⟩ = false := by rw [← hV]; exact fx
          have uy : V.frozen? ⟨g, F + (2 * r + 1 + 1), none⟩ = false := by rw [← hV]; exact fy2
          have HV : Hid (∀ q, V.drewN q = wr.drewN (m0 + q)) := fun q => by rw [← hV, World.drewN_drewN]
          rw [hV]
          clear hV
          go_wp2
          go_quiet (first | (go_at_call 90; refine Calls.quiet_of_same (less_u _ _ _)))
          cases hl3 : ltU x y2 with
          | true =>
            go_wp2
            go_region
            all_goals go_wp2
            go_roundw
            case rel =>
              have h9 := NEXT.out (m0 + (nq + 1)) (2 * r + 2) x y2 (.inl ⟨h2, by rw [HX.out.2, HY.out]; exact hl2, rfl⟩) h2 HX.out.1 HY.out hl3
              rw [← HV.out] at h9
              exact ⟨2 * r + 2, _, by go_num, by omega, h9⟩
            case measure => simp [intOf]; omega
          | false =>
            go_wp2
            refine bodyPost_ret (results_none rfl _ _ _) rfl ?_
            refine ⟨rfl, ?_⟩
            have h9 := STOP.out (m0 + nq) (2 * r + 2) (.inl ⟨h2, by rw [HX.out.2, HY.out]; exact hl2, rfl⟩) (by rw [HX.out.1, HY.out]; exact hl3)
            rw [← HV.out] at h9
            exact h9

        | false =>
          go_wp2
          obtain ⟨m0, hm0⟩ : ∃ z, z = nq := ⟨_, rfl⟩
          subst hm0
          obtain ⟨V, hV⟩ : ∃ V, wr.drewN m0 = V := ⟨_, rfl⟩
          have vx : V.cell? ⟨g, F + r, none⟩ = some (.int .u64 x) := by rw [← hV]; exact cx
          have vy : V.cell? ⟨g, F + (2 * r + 1), none⟩ = some (.int .u64 y1) := by rw [← hV]; exact cy1
          have ux : V.frozen? ⟨g, F + r, none⟩ = false := by rw [← hV]; exact fx
          have uy : V.frozen? ⟨g, F + (2 * r + 1), none⟩ = false := by rw [← hV]; exact fy1
          have HV : Hid (∀ q, V.drewN q = wr.drewN (m0 + q)) := fun q => by rw [← hV, World.drewN_drewN]
          rw [hV]
          clear hV
          go_wp2
          go_quiet (first | (go_at_call 90; refine Calls.quiet_of_same (less_u _ _ _)))
          cases hl3 : ltU x y1 with
          | true =>
            go_wp2
            go_region
            all_goals go_wp2
            go_roundw
            case rel =>
              have h9 := NEXT.out (m0 + (nq + 1)) (2 * r + 1) x y1 (.inr ⟨fun _ => by rw [HX.out.2, HY.out]; exact hl2, rfl⟩) hc HX.out.1 HX.out.2 hl3
              rw [← HV.out] at h9
              exact ⟨2 * r + 1, _, by go_num, by omega, h9⟩
            case measure => simp [intOf]; omega
          | false =>
            go_wp2
            refine bodyPost_ret (results_none rfl _ _ _) rfl ?_
            refine ⟨rfl, ?_⟩
            have h9 := STOP.out (m0 + nq) (2 * r + 1) (.inr ⟨fun _ => by rw [HX.out.2, HY.out]; exact hl2, rfl⟩) (by rw [HX.out.1, HX.out.2]; exact hl3)
            rw [← HV.out] at h9
            exact h9

      · have h2' : ¬ 2 * (r : Int) + 1 + 1 < (hi : Int) := by omega
        have h2d : decide (2 * (r : Int) + 1 + 1 < (hi : Int)) = false := decide_eq_false h2'
        go_wp2
        go_quiet (fail)
        go_wp2
        obtain ⟨m0, hm0⟩ : ∃ z, z = nq := ⟨_, rfl⟩
        subst hm0
        obtain ⟨V, hV⟩ : ∃ V, wr.drewN m0 = V := ⟨_, rfl⟩
        have vx : V.cell? ⟨g, F + r, none⟩ = some (.int .u64 x) := by rw [← hV]; exact cx
        have vy : V.cell? ⟨g, F + (2 * r + 1), none⟩ = some (.int .u64 y1) := by rw [← hV]; exact cy1
        have ux : V.frozen? ⟨g, F + r, none⟩ = false := by rw [← hV]; exact fx
        have uy : V.frozen? ⟨g, F + (2 * r + 1), none⟩ = false := by rw [← hV]; exact fy1
        have HV : Hid (∀ q, V.drewN q = wr.drewN (m0 + q)) := fun q => by rw [← hV, World.drewN_drewN]
        rw [hV]
        clear hV
        go_wp2
        go_quiet (first | (go_at_call 90; refine Calls.quiet_of_same (less_u _ _ _)))
        cases hl3 : ltU x y1 with
        | true =>
          go_wp2
          go_region
          all_goals go_wp2
          go_roundw
          case rel =>
            have h9 := NEXT.out (m0 + (nq + 1)) (2 * r + 1) x y1 (.inr ⟨fun h => absurd h h2, rfl⟩) hc HX.out.1 HX.out.2 hl3
            rw [← HV.out] at h9
            exact ⟨2 * r + 1, _, by go_num, by omega, h9⟩
          case measure => simp [intOf]; omega
        | false =>
          go_wp2
          refine bodyPost_ret (results_none rfl _ _ _) rfl ?_
          refine ⟨rfl, ?_⟩
          have h9 := STOP.out (m0 + nq) (2 * r + 1) (.inr ⟨fun h => absurd h h2, rfl⟩) (by rw [HX.out.1, HX.out.2]; exact hl3)
          rw [← HV.out] at h9
          exact h9
    · have hc' : (hi : Int) ≤ 2 * (r : Int) + 1 := by omega
      go_wp2
      go_end0
      exact ⟨rfl, by rw [← HI.out.2, sift_end (by omega)]; exact HI.out.1⟩
end Go.Proofs.Ytooaiomghbjpiaa
