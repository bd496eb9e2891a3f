/-
  slices.partialInsertionSortOrdered at tags, by its contract.
-/
import Derived.Test.YtooaiomghbjpiaaPartU2
namespace Go.Proofs.Ytooaiomghbjpiaa
open Go.RowKit Go.Sort
set_option maxRecDepth 20000

theorem scan_go {d : Array Int} {b i : Nat} (h : i < b) (hl : ltU d[i]! d[i - 1]! = false) : scanSorted ltU d b i = scanSorted ltU d b (i + 1) := by
  rw [scanSorted]; simp [h, hl]
theorem scan_stop {d : Array Int} {b i : Nat} (h : i < b → ltU d[i]! d[i - 1]! = true) : scanSorted ltU d b i = i := by
  rw [scanSorted]
  by_cases hb : i < b
  · simp [h hb]
  · simp [hb]
theorem sdown_go {d : Array Int} {j : Nat} (hl : ltU d[j + 1]! d[j]! = true) : shiftDown ltU (j + 1) d = shiftDown ltU j (swp d (j + 1) j) := by rw [shiftDown]; simp [hl]
theorem sdown_stop {d : Array Int} {j : Nat} (h : ∀ k, j = k + 1 → ltU d[k + 1]! d[k]! = false) : shiftDown ltU j d = d := by
  cases j with
  | zero => rw [shiftDown]
  | succ k => rw [shiftDown]; simp [h k rfl]
theorem sup_go {d : Array Int} {b j : Nat} (h : j < b) (hl : ltU d[j]! d[j - 1]! = true) : shiftUp ltU b j d = shiftUp ltU b (j + 1) (swp d j (j - 1)) := by rw [shiftUp]; simp [h, hl]
theorem sup_stop {d : Array Int} {b j : Nat} (h : j < b → ltU d[j]! d[j - 1]! = false) : shiftUp ltU b j d = d := by
  rw [shiftUp]
  by_cases hb : j < b
  · simp [hb, h hb]
  · simp [hb]
theorem pi_yes {a b s i : Nat} {d : Array Int} (h : scanSorted ltU d b i = b) : partialIns ltU a b (s + 1) i d = (d, true) := by
  unfold partialIns; simp [h]
theorem pi_no {a b s i k : Nat} {d : Array Int} (h : scanSorted ltU d b i = k) (hk : k ≠ b) (hs : b - a < 50) : partialIns ltU a b (s + 1) i d = (d, false) := by
  unfold partialIns; simp [h, hk, hs]
theorem pi_on {a b s i k : Nat} {d : Array Int} (h : scanSorted ltU d b i = k) (hk : k ≠ b) (hs : ¬ b - a < 50) :
    partialIns ltU a b (s + 1) i d = partialIns ltU a b s k (if b - k ≥ 2 then shiftUp ltU b (k + 1) (if k - a ≥ 2 then shiftDown ltU (k - 1) (swp d k (k - 1)) else swp d k (k - 1)) else (if k - a ≥ 2 then shiftDown ltU (k - 1) (swp d k (k - 1)) else swp d k (k - 1))) := by
  conv => lhs; unfold partialIns
  simp [h, hk, hs]
/-- How it ends. -/
def PinsP (w w' : World) (base g cap n a b : Nat) (d : Array Int) (e : Ending) : Prop := ∃ (r : Bool) (d' : Array Int), e = .returned (.bool r) ∧ Go1 w w' base g cap n d' ∧ PermIn a b d d' ∧ (r = true → SortedIn ltU a b d')
set_option maxHeartbeats 8000000 in
theorem pinsU (w : World) (base g cap n a b : Nat) (d : Array Int) (h : UR w base g cap d) (hn : d.size = n) (hab : a + 12 < b) (hb : b ≤ n) (hsz : n ≤ 1000000) (hB : Sort.Below ltU a b d) :
    Calls Try.prog 89 #[.slice (some ⟨g, 0, none⟩) n cap, .int .i64 (a : Int), .int .i64 (b : Int)] w fun e w' => PinsP w w' base g cap n a b d e := by
  have H0 : Hid (Go1 w w base g cap n d) := Go1.refl h hn
  have HE : Hid (∀ W d' r, Go1 w W base g cap n d' → partialIns ltU a b 5 (a + 1) d = (d', r) → PinsP w W base g cap n a b d (.returned (.bool r))) := fun W d' r hg hd => by
    have hh := partialInsertionSort_holds (lt := ltU) swoU d a b (by omega) (by omega) hB
    unfold partialInsertionSort at hh
    rw [hd] at hh
    exact ⟨r, d', rfl, hg, hh.1, hh.2⟩
  clear h hn hB
  go_enter Try.func89, Try.ntmps89
  go_wp2
  go_loopw [7, 8, 9, 10] (fun u7 u8 _ _ wr => ∃ (i s : Nat) (dk : Array Int), u7 = .int .i64 (i : Int) ∧ u8 = .int .i64 (s : Int) ∧ a < i ∧ i ≤ b ∧ s ≤ 5 ∧ Hid (Go1 w wr base g cap n dk ∧ partialIns ltU a b (5 - s) i dk = partialIns ltU a b 5 (a + 1) d)) (fun _ u8 _ _ _ => 5 - (intOf u8).toNat)
  case atStart => exact ⟨a + 1, 0, d, by go_num, rfl, by omega, by omega, by omega, H0.out, rfl⟩
  case round =>
    obtain ⟨i, s, dk, rfl, rfl, hai, hib, hs5, HI⟩ := hrel
    by_cases hs : s < 5
    · have hs' : (s : Int) < 5 := by omega
      obtain ⟨t, ht⟩ : ∃ t, 5 - s = t + 1 := ⟨4 - s, by omega⟩
      have HT : Hid (5 - (s + 1) = t ∧ partialIns ltU a b (t + 1) i dk = partialIns ltU a b 5 (a + 1) d) := ⟨by omega, by rw [← ht]; exact HI.out.2⟩
      clear ht
      go_upto_block 2 with fail
      go_cut [7] from 17 to 34 (fun s7 wx => ∃ i' : Nat, s7 = .int .i64 (i' : Int) ∧ i ≤ i' ∧ i' ≤ b ∧ Hid (Go1 w wx base g cap n dk ∧ scanSorted ltU dk b i = i'))
      case first =>
        obtain ⟨W1, hW1⟩ : ∃ z, z = wr := ⟨_, rfl⟩
        subst hW1
        go_wp2
        go_loopw [7] (fun u7 wv => ∃ i' : Nat, u7 = .int .i64 (i' : Int) ∧ i ≤ i' ∧ i' ≤ b ∧ Hid (Go1 w wv base g cap n dk ∧ scanSorted ltU dk b i' = scanSorted ltU dk b i)) (fun u7 _ => b - (intOf u7).toNat)
        case atStart => exact ⟨i, rfl, Nat.le_refl _, hib, HI.out.1, rfl⟩
        case round =>
          obtain ⟨i', rfl, h1, h2, HK⟩ := hrel
          by_cases hlt : i' < b
          · obtain ⟨k, rfl⟩ : ∃ k, i' = k + 1 := ⟨i' - 1, by omega⟩
            have hlt' : (k : Int) + 1 < (b : Int) := by omega
            have hltd : decide ((k : Int) + 1 < (b : Int)) = true := decide_eq_true hlt'
            obtain ⟨x, hx⟩ : ∃ x, dk[k + 1]! = x := ⟨_, rfl⟩
            obtain ⟨y, hy⟩ : ∃ y, dk[k]! = y := ⟨_, rfl⟩
            have k1 : wr.cell? ⟨g, k + 1, none⟩ = some (.int .u64 x) := by rw [← hx]; exact HK.out.1.cell (by omega)
            have k2 : wr.cell? ⟨g, k, none⟩ = some (.int .u64 y) := by rw [← hy]; exact HK.out.1.cell (by omega)
            have nk : (k : Int) + 1 < (n : Int) := by omega
            have HX : Hid (dk[k + 1]! = x ∧ dk[k]! = y) := ⟨hx, hy⟩
            clear hx hy
            go_wp2
            go_quiet (first | (go_at_call 90; refine Calls.quiet_of_same (less_u _ _ _)))
            cases hl : ltU x y with
            | false =>
              go_wp2
              go_roundw
              case rel => exact ⟨k + 1 + 1, by go_num, by omega, by omega, HK.out.1.drewN _, by rw [← HK.out.2, ← scan_go hlt (by rw [Nat.add_sub_cancel, HX.out.1, HX.out.2]; exact hl)]⟩
              case measure => simp [intOf]; omega
            | true =>
              go_wp2
              go_meet
              exact ⟨k + 1, by go_num, h1, h2, HK.out.1.drewN _, by rw [← HK.out.2]; exact scan_stop fun _ => by rw [Nat.add_sub_cancel, HX.out.1, HX.out.2]; exact hl⟩
          · have hlt' : ¬ (i' : Int) < (b : Int) := by omega
            have hltd : decide ((i' : Int) < (b : Int)) = false := decide_eq_false hlt'
            go_wp2
            go_quiet (fail)
            go_wp2
            go_meet
            exact ⟨i', rfl, h1, h2, HK.out.1.drewN _, by rw [← HK.out.2]; exact scan_stop fun h => absurd h hlt⟩
      case rest =>
        obtain ⟨i', rfl, hi1, hi2, HJ⟩ := hcut
        clear HI
        by_cases hib' : i' = b
        · subst hib'
          go_wp2
          go_ret
          exact HE.out _ dk true HJ.out.1 (by rw [← HT.out.2]; exact pi_yes HJ.out.2)
        · have hib2 : ¬ (i' : Int) = (b : Int) := by omega
          have hib3 : ((i' : Int) == (b : Int)) = false := by simpa using hib2
          by_cases h50 : b - a < 50
          · have h50' : (b : Int) - (a : Int) < 50 := by omega
            go_wp2
            go_ret
            exact HE.out _ dk false HJ.out.1 (by rw [← HT.out.2]; exact pi_no HJ.out.2 hib' h50)
          · have h50' : ¬ (b : Int) - (a : Int) < 50 := by omega
            obtain ⟨k, rfl⟩ : ∃ k, i' = k + 1 := ⟨i' - 1, by omega⟩
            obtain ⟨x, hx⟩ : ∃ x, dk[k + 1]! = x := ⟨_, rfl⟩
            obtain ⟨y, hy⟩ : ∃ y, dk[k]! = y := ⟨_, rfl⟩
            have k1 : wc.cell? ⟨g, k + 1, none⟩ = some (.int .u64 x) := by rw [← hx]; exact HJ.out.1.cell (by omega)
            have k2 : wc.cell? ⟨g, k, none⟩ = some (.int .u64 y) := by rw [← hy]; exact HJ.out.1.cell (by omega)
            have u1 := HJ.out.1.1.frozen (k + 1)
            have u2 := HJ.out.1.1.frozen k
            have nk : (k : Int) + 1 < (n : Int) := by omega
            have HS : Hid (∀ q, Go1 w (((wc.setCell ⟨g, k + 1, none⟩ (.int .u64 y)).setCell ⟨g, k, none⟩ (.int .u64 x)).drewN q) base g cap n (swp dk (k + 1) k)) := fun q => (HJ.out.1.swap (by omega) (by omega) hy hx).drewN q
            have HP := pi_on (a := a) (s := t) HJ.out.2 hib' h50
            rw [HT.out.2, Nat.add_sub_cancel] at HP
            have HP' : Hid _ := HP
            clear hx hy HP
            go_wp2
            go_region
            all_goals go_upto_if 61 with fail
            obtain ⟨W2, hW2⟩ : ∃ W, ((wc.setCell ⟨g, k + 1, none⟩ (.int .u64 y)).setCell ⟨g, k, none⟩ (.int .u64 x)).drew = W := ⟨_, rfl⟩
            obtain ⟨d1, hd1⟩ : ∃ z, swp dk (k + 1) k = z := ⟨_, rfl⟩
            have HS2 : Hid (Go1 w W2 base g cap n d1) := by rw [← hW2, ← hd1]; exact HS.out 1
            rw [hd1] at HP'
            rw [hW2]
            clear HS hW2 hd1 k1 k2 u1 u2 HJ
            go_cut [9] from 62 to 94 (fun s9 wx => Hid (Go1 w wx base g cap n (if k + 1 - a ≥ 2 then shiftDown ltU k d1 else d1)))
            case first =>
              by_cases h2 : k + 1 - a ≥ 2
              · have h2' : (2 : Int) ≤ (k : Int) + 1 - (a : Int) := by omega
                go_wp2
                go_loopw [9] (fun u9 wv => ∃ (j : Nat) (dj : Array Int), u9 = .int .i64 (j : Int) ∧ j ≤ k ∧ Hid (Go1 w wv base g cap n dj ∧ shiftDown ltU j dj = shiftDown ltU k d1)) (fun u9 _ => (intOf u9).toNat)
                case atStart => exact ⟨k, d1, by go_num, Nat.le_refl _, HS2.out, rfl⟩
                case round =>
                  obtain ⟨j, dj, rfl, hjk, HK⟩ := hrel
                  by_cases hj0 : 0 < j
                  · obtain ⟨m, rfl⟩ : ∃ m, j = m + 1 := ⟨j - 1, by omega⟩
                    have hj1 : (1 : Int) ≤ (m : Int) + 1 := by omega
                    obtain ⟨x2, hx⟩ : ∃ x, dj[m + 1]! = x := ⟨_, rfl⟩
                    obtain ⟨y2, hy⟩ : ∃ y, dj[m]! = y := ⟨_, rfl⟩
                    have k1 : wr.cell? ⟨g, m + 1, none⟩ = some (.int .u64 x2) := by rw [← hx]; exact HK.out.1.cell (by omega)
                    have k2 : wr.cell? ⟨g, m, none⟩ = some (.int .u64 y2) := by rw [← hy]; exact HK.out.1.cell (by omega)
                    have u1 := HK.out.1.1.frozen (m + 1)
                    have u2 := HK.out.1.1.frozen m
                    have nm : (m : Int) + 1 < (n : Int) := by omega
                    have HX : Hid (dj[m + 1]! = x2 ∧ dj[m]! = y2) := ⟨hx, hy⟩
                    clear hx hy
                    go_wp2
                    go_quiet (first | (go_at_call 90; refine Calls.quiet_of_same (less_u _ _ _)))
                    cases hl : ltU x2 y2 with
                    | true =>
                      go_wp2
                      go_region
                      all_goals go_wp2
                      go_roundw
                      case rel => exact ⟨m, swp dj (m + 1) m, by go_num, by omega, (HK.out.1.drewN _).swap (by omega) (by omega) HX.out.2 HX.out.1, by rw [← HK.out.2, sdown_go (by rw [HX.out.1, HX.out.2]; exact hl)]⟩
                      case measure => simp [intOf]
                    | false =>
                      go_wp2
                      go_meet
                      rw [if_pos h2]
                      have h9 := HK.out.2
                      rw [sdown_stop (fun q e => by have e2 : m = q := (by omega); subst e2; rw [HX.out.1, HX.out.2]; exact hl)] at h9
                      rw [← h9]
                      exact HK.out.1.drewN _
                  · obtain rfl : j = 0 := by omega
                    go_wp2
                    go_meet
                    rw [if_pos h2]
                    have h9 := HK.out.2
                    rw [sdown_stop (fun q e => by omega)] at h9
                    rw [← h9]
                    exact HK.out.1
              · have h2' : ¬ (2 : Int) ≤ (k : Int) + 1 - (a : Int) := by omega
                go_wp2
                go_meet
                rw [if_neg h2]
                exact HS2.out
            case rest =>
              have HC : Hid (Go1 w wc base g cap n (if k + 1 - a ≥ 2 then shiftDown ltU k d1 else d1)) := hcut
              clear hcut HS2
              obtain ⟨d2, hd2⟩ : ∃ z, (if k + 1 - a ≥ 2 then shiftDown ltU k d1 else d1) = z := ⟨_, rfl⟩
              rw [hd2] at HC HP'
              clear hd2
              by_cases h2 : b - (k + 1) ≥ 2
              · have h2' : (2 : Int) ≤ (b : Int) - ((k : Int) + 1) := by omega
                rw [if_pos h2] at HP'
                go_wp2
                go_loopw [10] (fun u10 wv => ∃ (j : Nat) (dj : Array Int), u10 = .int .i64 ((j : Int) + 1) ∧ k + 1 ≤ j ∧ j < b ∧ Hid (Go1 w wv base g cap n dj ∧ shiftUp ltU b (j + 1) dj = shiftUp ltU b (k + 1 + 1) d2)) (fun u10 _ => b + 1 - (intOf u10).toNat)
                case atStart => exact ⟨k + 1, d2, by go_num, Nat.le_refl _, by omega, HC.out, rfl⟩
                case round =>
                  obtain ⟨m, dj, rfl, hjk, hjb, HK⟩ := hrel
                  by_cases hj0 : m + 1 < b
                  · have hj1 : (m : Int) + 1 < (b : Int) := by omega
                    obtain ⟨x2, hx⟩ : ∃ x, dj[m + 1]! = x := ⟨_, rfl⟩
                    obtain ⟨y2, hy⟩ : ∃ y, dj[m]! = y := ⟨_, rfl⟩
                    have k1 : wr.cell? ⟨g, m + 1, none⟩ = some (.int .u64 x2) := by rw [← hx]; exact HK.out.1.cell (by omega)
                    have k2 : wr.cell? ⟨g, m, none⟩ = some (.int .u64 y2) := by rw [← hy]; exact HK.out.1.cell (by omega)
                    have u1 := HK.out.1.1.frozen (m + 1)
                    have u2 := HK.out.1.1.frozen m
                    have nm : (m : Int) + 1 < (n : Int) := by omega
                    have HX : Hid (dj[m + 1]! = x2 ∧ dj[m]! = y2) := ⟨hx, hy⟩
                    clear hx hy
                    go_wp2
                    go_quiet (first | (go_at_call 90; refine Calls.quiet_of_same (less_u _ _ _)))
                    cases hl : ltU x2 y2 with
                    | true =>
                      go_wp2
                      go_region
                      all_goals go_wp2
                      go_roundw
                      case rel => exact ⟨m + 1, swp dj (m + 1) m, by go_num, by omega, by omega, (HK.out.1.drewN _).swap (by omega) (by omega) HX.out.2 HX.out.1, by rw [← HK.out.2, sup_go hj0 (by rw [Nat.add_sub_cancel, HX.out.1, HX.out.2]; exact hl), Nat.add_sub_cancel]⟩
                      case measure => simp [intOf]; omega
                    | false =>
                      have H9 : Hid (∀ q, Go1 w (wr.drewN q) base g cap n (shiftUp ltU b (k + 1 + 1) d2)) := fun q => by
                        have h9 := HK.out.2
                        rw [sup_stop (fun _ => by rw [Nat.add_sub_cancel, HX.out.1, HX.out.2]; exact hl)] at h9
                        rw [← h9]
                        exact HK.out.1.drewN q
                      go_wp2
                      go_roundw
                      case rel => exact ⟨k + 1, s + 1, _, by go_num, by go_num, by omega, by omega, by omega, H9.out _, by rw [HT.out.1]; exact HP'.out.symm⟩
                      case measure => simp [intOf]; omega
                  · have hj1 : ¬ (m : Int) + 1 < (b : Int) := by omega
                    have H9 : Hid (Go1 w wr base g cap n (shiftUp ltU b (k + 1 + 1) d2)) := by
                      have h9 := HK.out.2
                      rw [sup_stop (fun h => absurd h hj0)] at h9
                      rw [← h9]
                      exact HK.out.1
                    go_wp2
                    go_roundw
                    case rel => exact ⟨k + 1, s + 1, _, by go_num, by go_num, by omega, by omega, by omega, H9.out, by rw [HT.out.1]; exact HP'.out.symm⟩
                    case measure => simp [intOf]; omega
              · have h2' : ¬ (2 : Int) ≤ (b : Int) - ((k : Int) + 1) := by omega
                rw [if_neg h2] at HP'
                go_wp2
                go_roundw
                case rel => exact ⟨k + 1, s + 1, _, by go_num, by go_num, by omega, by omega, by omega, HC.out, by rw [HT.out.1]; exact HP'.out.symm⟩
                case measure => simp [intOf]; omega
    · have hs' : ¬ (s : Int) < 5 := by omega
      obtain rfl : s = 5 := by omega
      go_wp2
      go_ret
      exact HE.out _ dk false HI.out.1 (by rw [← HI.out.2]; rfl)
end Go.Proofs.Ytooaiomghbjpiaa
