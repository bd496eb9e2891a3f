/-
  slices.partitionOrdered at tags: those that are less than the pivot, the pivot, the others.
-/
import Derived.Test.YtooaiomghbjpiaaPartU
namespace Go.Proofs.Ytooaiomghbjpiaa
open Go.RowKit Go.Sort
set_option maxRecDepth 20000

/-- What a partition leaves, its pivot at j. -/
def Fin1 (w W : World) (base g cap n a b : Nat) (d : Array Int) (j : Nat) : Prop := ∃ d', Go1 w W base g cap n d' ∧ PermIn a b d d' ∧ a ≤ j ∧ j < b ∧ (∀ t, a ≤ t → t < j → ltU d'[t]! d'[j]! = true) ∧ (∀ t, j < t → t < b → ltU d'[t]! d'[j]! = false)
theorem fin_of {w W : World} {base g cap n a b j : Nat} {d dk : Array Int} {pv y : Int} (hg : Go1 w W base g cap n dk) (hm : Mid a b n d dk pv (fun y => ltU y pv) (j + 1) j) (haj : a ≤ j) (hy : dk[j]! = y) (q : Nat) : Fin1 w (((W.setCell ⟨g, j, none⟩ (.int .u64 pv)).setCell ⟨g, a, none⟩ (.int .u64 y)).drewN q) base g cap n a b d j := by
  have hjb := hm.jb
  have hbn := hm.bn
  have hs := hm.size
  have hj : (swp dk j a)[j]! = pv := by
    by_cases e : j = a
    · rw [e, swp_right dk a a (by omega)]; exact hm.at_a
    · rw [swp_left dk j a (by omega) e]; exact hm.at_a
  refine ⟨swp dk j a, (hg.swap (by omega) (by omega) hm.at_a hy).drewN q, permIn_trans _ _ _ _ _ hm.perm (swp_permIn dk a b j a (by omega) (by omega) (Nat.le_refl _) (by omega) (by omega)), haj, hjb, fun t t1 t2 => ?_, fun t t1 t2 => ?_⟩
  · rw [hj]
    by_cases e : t = a
    · rw [e, swp_right dk j a (by omega)]
      exact hm.left j (by omega) (by omega)
    · rw [swp_other dk j a t (by omega) e]
      exact hm.left t (by omega) (by omega)
  · rw [hj, swp_other dk j a t (by omega) (by omega)]
    exact hm.right t t1 t2
set_option maxHeartbeats 8000000 in
theorem partU (w : World) (base g cap n a b pivot : Nat) (d : Array Int) (h : UR w base g cap d) (hn : d.size = n) (hap : a ≤ pivot) (hpb : pivot < b) (hb : b ≤ n) (hsz : n ≤ 1000000) :
    Calls Try.prog 92 #[.slice (some ⟨g, 0, none⟩) n cap, .int .i64 (a : Int), .int .i64 (b : Int), .int .i64 (pivot : Int)] w fun e w' => ∃ (j : Nat) (r : Bool), e = .returned (.tuple #[.int .i64 (j : Int), .bool r]) ∧ Fin1 w w' base g cap n a b d j := by
  obtain ⟨c, rfl⟩ : ∃ c, b = c + 1 := ⟨b - 1, by omega⟩
  obtain ⟨pv, hpv⟩ : ∃ p, d[pivot]! = p := ⟨_, rfl⟩
  obtain ⟨x, hx⟩ : ∃ x, d[a]! = x := ⟨_, rfl⟩
  have c1 : w.cell? ⟨g, a, none⟩ = some (.int .u64 x) := by rw [← hx]; exact h.cell (by omega)
  have c2 : w.cell? ⟨g, pivot, none⟩ = some (.int .u64 pv) := by rw [← hpv]; exact h.cell (by omega)
  have f1 := h.frozen a
  have f2 := h.frozen pivot
  have na : (a : Int) < (n : Int) := by omega
  have np : (pivot : Int) < (n : Int) := by omega
  have HA : Hid (∀ q, Go1 w (((w.setCell ⟨g, a, none⟩ (.int .u64 pv)).setCell ⟨g, pivot, none⟩ (.int .u64 x)).drewN q) base g cap n (swp d a pivot)) := fun q => ((Go1.refl h hn).swap (by omega) (by omega) hpv hx).drewN q
  have HM0 : Hid (Mid a (c + 1) n d (swp d a pivot) pv (fun y => ltU y pv) (a + 1) c) := by
    refine ⟨by rw [size_swpU]; exact hn, swp_permIn d a (c + 1) a pivot (Nat.le_refl _) (by omega) hap hpb (by omega), ?_, fun t t1 t2 => by omega, fun t t1 t2 => by omega, by omega, by omega, by omega, hb⟩
    by_cases e : a = pivot
    · rw [← e, swp_right d a a (by omega), ← hpv, e]
    · rw [swp_left d a pivot (by omega) e]; exact hpv
  have HZ0 : Hid (a = pivot → x = pv) := fun e => by rw [← hx, ← hpv, e]
  clear h hn hpv hx
  go_enter Try.func92, Try.ntmps92
  go_upto_region 1 with fail
  go_cut [8, 9] from 12 to 25 (fun s8 s9 wx => s8 = .int .i64 0 ∧ s9 = .bool false ∧ Hid (Go1 w wx base g cap n (swp d a pivot)))
  case first =>
    by_cases hpa : a = pivot
    · obtain rfl := HZ0.out hpa
      subst hpa
      clear c2 f2
      go_region
      all_goals go_wp2
      all_goals go_meet
      all_goals exact ⟨rfl, rfl, HA.out 1⟩
    · have hpa' : ¬ pivot = a := fun e => hpa e.symm
      go_region
      all_goals go_wp2
      all_goals go_meet
      all_goals exact ⟨rfl, rfl, HA.out 1⟩
  case rest =>
    obtain ⟨rfl, rfl, HG0⟩ := hcut
    clear c1 c2 f1 f2 HA HZ0
    rw [show ((c + 1 : Nat) : Int) = (c : Int) + 1 by omega]
    obtain ⟨dk, hdk⟩ : ∃ z, swp d a pivot = z := ⟨_, rfl⟩
    have HG : Hid (Go1 w wc base g cap n dk) := by rw [← hdk]; exact HG0.out
    have HM : Hid (Mid a (c + 1) n d dk pv (fun y => ltU y pv) (a + 1) c) := by rw [← hdk]; exact HM0.out
    clear HG0 HM0 hdk
    go_upto_block 0 with fail
    go_cut [10] from 30 to 45 (fun s9 wx => ∃ i' : Nat, s9 = .int .i64 (i' : Int) ∧ (a + 1) ≤ i' ∧ i' ≤ c + 1 ∧ Hid (Go1 w wx base g cap n dk ∧ Mid a (c + 1) n d dk pv (fun y => ltU y pv) i' c ∧ (i' ≤ c → ltU dk[i']! pv = false)))
    case first =>
      obtain ⟨W1, hW1⟩ : ∃ z, z = wc := ⟨_, rfl⟩
      subst hW1
      go_wp2
      go_loopw [10] (fun u9 wv => ∃ i' : Nat, u9 = .int .i64 (i' : Int) ∧ (a + 1) ≤ i' ∧ i' ≤ c + 1 ∧ Hid (Go1 w wv base g cap n dk ∧ Mid a (c + 1) n d dk pv (fun y => ltU y pv) i' c)) (fun u9 _ => c + 1 - (intOf u9).toNat)
      case atStart => exact ⟨(a + 1), by go_num, Nat.le_refl _, (by omega), ⟨HG.out, HM.out⟩⟩
      case round =>
        obtain ⟨i', rfl, h1, h2, HK⟩ := hrel
        by_cases hle : i' ≤ c
        · have hle' : (i' : Int) ≤ (c : Int) := by omega
          have hled : decide ((i' : Int) ≤ (c : Int)) = true := decide_eq_true hle'
          have k1 : wr.cell? ⟨g, a, none⟩ = some (.int .u64 pv) := by rw [← HK.out.2.at_a]; exact HK.out.1.cell (by omega)
          obtain ⟨y, hy⟩ : ∃ y, dk[i']! = y := ⟨_, rfl⟩
          have k2 : wr.cell? ⟨g, i', none⟩ = some (.int .u64 y) := by rw [← hy]; exact HK.out.1.cell (by omega)
          have ni : (i' : Int) < (n : Int) := by omega
          have HY : Hid (dk[i']! = y) := hy
          clear hy
          go_wp2
          go_quiet (first | (go_at_call 90; refine Calls.quiet_of_same (less_u _ _ _)))
          cases hl : ltU y pv with
          | true =>
            go_wp2
            go_roundw
            case rel => exact ⟨i' + 1, by go_num, by omega, by omega, HK.out.1.drewN _, HK.out.2.up hle (by rw [HY.out, hl])⟩
            case measure => simp [intOf]; omega
          | false =>
            go_wp2
            go_meet
            exact ⟨i', rfl, h1, h2, HK.out.1.drewN _, HK.out.2, fun _ => by rw [HY.out]; exact hl⟩
        · have hle' : ¬ (i' : Int) ≤ (c : Int) := by omega
          have hled : decide ((i' : Int) ≤ (c : Int)) = false := decide_eq_false hle'
          go_wp2
          go_quiet (fail)
          go_wp2
          go_meet
          exact ⟨i', rfl, h1, h2, HK.out.1.drewN _, HK.out.2, fun h => absurd h hle⟩
    case rest =>
      obtain ⟨i', rfl, hi1, hi2, HJ⟩ := hcut
      clear HG HM

      go_upto_block 2 with fail
      go_cut [11] from 46 to 62 (fun s10 wx => ∃ j' : Nat, s10 = .int .i64 (j' : Int) ∧ j' ≤ c ∧ i' ≤ j' + 1 ∧ Hid (Go1 w wx base g cap n dk ∧ Mid a (c + 1) n d dk pv (fun y => ltU y pv) i' j' ∧ (i' ≤ j' → ltU dk[i']! pv = false ∧ ltU dk[j']! pv = true)))
      case first =>
        obtain ⟨W1, hW1⟩ : ∃ z, z = wc := ⟨_, rfl⟩
        subst hW1
        go_wp2
        go_loopw [11] (fun u10 wv => ∃ j' : Nat, u10 = .int .i64 (j' : Int) ∧ j' ≤ c ∧ i' ≤ j' + 1 ∧ Hid (Go1 w wv base g cap n dk ∧ Mid a (c + 1) n d dk pv (fun y => ltU y pv) i' j')) (fun u10 _ => (intOf u10 + 1).toNat)
        case atStart => exact ⟨c, rfl, Nat.le_refl _, hi2, HJ.out.1, HJ.out.2.1⟩
        case round =>
          obtain ⟨j', rfl, h1, h2, HK⟩ := hrel
          by_cases hle : i' ≤ j'
          · obtain ⟨k, rfl⟩ : ∃ k, j' = k + 1 := ⟨j' - 1, by omega⟩
            have hle' : (i' : Int) ≤ (k : Int) + 1 := by omega
            have hled : decide ((i' : Int) ≤ (k : Int) + 1) = true := decide_eq_true hle'
            have k1 : wr.cell? ⟨g, a, none⟩ = some (.int .u64 pv) := by rw [← HK.out.2.at_a]; exact HK.out.1.cell (by omega)
            obtain ⟨y, hy⟩ : ∃ y, dk[k + 1]! = y := ⟨_, rfl⟩
            have k2 : wr.cell? ⟨g, k + 1, none⟩ = some (.int .u64 y) := by rw [← hy]; exact HK.out.1.cell (by omega)
            have ni : (k : Int) + 1 < (n : Int) := by omega
            have HY : Hid (dk[k + 1]! = y) := hy
            clear hy
            go_wp2
            go_quiet (first | (go_at_call 90; refine Calls.quiet_of_same (less_u _ _ _)))
            cases hl : ltU y pv with
            | false =>
              go_wp2
              go_roundw
              case rel => exact ⟨k, by go_num, by omega, by omega, HK.out.1.drewN _, HK.out.2.down hle (by rw [HY.out, hl])⟩
              case measure => simp [intOf]; omega
            | true =>
              go_wp2
              go_meet
              exact ⟨k + 1, by go_num, h1, h2, HK.out.1.drewN _, HK.out.2, fun _ => ⟨HJ.out.2.2 (by omega), by rw [HY.out]; exact hl⟩⟩
          · have hle' : ¬ (i' : Int) ≤ (j' : Int) := by omega
            have hled : decide ((i' : Int) ≤ (j' : Int)) = false := decide_eq_false hle'
            go_wp2
            go_quiet (fail)
            go_wp2
            go_meet
            exact ⟨j', rfl, h1, h2, HK.out.1.drewN _, HK.out.2, fun h => absurd h hle⟩
      case rest =>
        obtain ⟨j', rfl, hj1, hj2, HL⟩ := hcut
        clear HJ
        by_cases hle : i' ≤ j'
        · have hle' : ¬ (j' : Int) < (i' : Int) := by omega
          obtain ⟨t1, t2⟩ := HL.out.2.2 hle
          have hne : i' ≠ j' := fun e => by rw [e, t2] at t1; cases t1
          obtain ⟨k, rfl⟩ : ∃ k, j' = k + 1 := ⟨j' - 1, by omega⟩
          obtain ⟨y, hy⟩ : ∃ y, dk[i']! = y := ⟨_, rfl⟩
          obtain ⟨z, hz⟩ : ∃ z, dk[k + 1]! = z := ⟨_, rfl⟩
          have k1 : wc.cell? ⟨g, i', none⟩ = some (.int .u64 y) := by rw [← hy]; exact HL.out.1.cell (by omega)
          have k2 : wc.cell? ⟨g, k + 1, none⟩ = some (.int .u64 z) := by rw [← hz]; exact HL.out.1.cell (by omega)
          have u1 := HL.out.1.1.frozen i'
          have u2 := HL.out.1.1.frozen (k + 1)
          have ni : (i' : Int) < (n : Int) := by omega
          have nk : (k : Int) + 1 < (n : Int) := by omega
          have hlt : ¬ (k : Int) + 1 < (i' : Int) := by omega
          have HS : Hid (∀ q, Go1 w (((wc.setCell ⟨g, i', none⟩ (.int .u64 z)).setCell ⟨g, k + 1, none⟩ (.int .u64 y)).drewN q) base g cap n (swp dk i' (k + 1)) ∧ Mid a (c + 1) n d (swp dk i' (k + 1)) pv (fun y => ltU y pv) (i' + 1) k) := fun q => ⟨(HL.out.1.swap (by omega) (by omega) hz hy).drewN q, HL.out.2.1.swap (by omega) t1 t2⟩
          clear hy hz t1 t2 HL

          go_wp2
          go_region
          all_goals go_wp2
          obtain ⟨W5, hW5⟩ : ∃ W, ((wc.setCell ⟨g, i', none⟩ (.int .u64 z)).setCell ⟨g, k + 1, none⟩ (.int .u64 y)).drew = W := ⟨_, rfl⟩
          have HS2 : Hid (Go1 w W5 base g cap n (swp dk i' (k + 1)) ∧ Mid a (c + 1) n d (swp dk i' (k + 1)) pv (fun y => ltU y pv) (i' + 1) k) := by rw [← hW5]; exact HS.out 1
          rw [hW5]
          clear HS hW5 k1 k2 u1 u2
          go_wp2
          go_loopw [10, 11] (fun u9 u10 wr => ∃ (i j : Nat) (dk : Array Int), u9 = .int .i64 (i : Int) ∧ u10 = .int .i64 (j : Int) ∧ a < i ∧ i ≤ j + 1 ∧ j ≤ c ∧ Hid (Go1 w wr base g cap n dk ∧ Mid a (c + 1) n d dk pv (fun y => ltU y pv) i j)) (fun u9 u10 _ => (intOf u10 + 1 - intOf u9).toNat)
          case atStart => exact ⟨i' + 1, k, _, by go_num, by go_num, by omega, by omega, by omega, HS2⟩
          case round =>
            clear HS2
            obtain ⟨i, j, dk, rfl, rfl, hai, hij, hjc, HI⟩ := hrel
            go_upto_block 6 with fail
            go_cut [10] from 99 to 114 (fun s9 wx => ∃ i' : Nat, s9 = .int .i64 (i' : Int) ∧ i ≤ i' ∧ i' ≤ j + 1 ∧ Hid (Go1 w wx base g cap n dk ∧ Mid a (c + 1) n d dk pv (fun y => ltU y pv) i' j ∧ (i' ≤ j → ltU dk[i']! pv = false)))
            case first =>
              obtain ⟨W1, hW1⟩ : ∃ z, z = wr := ⟨_, rfl⟩
              subst hW1
              go_wp2
              go_loopw [10] (fun u9 wv => ∃ i' : Nat, u9 = .int .i64 (i' : Int) ∧ i ≤ i' ∧ i' ≤ j + 1 ∧ Hid (Go1 w wv base g cap n dk ∧ Mid a (c + 1) n d dk pv (fun y => ltU y pv) i' j)) (fun u9 _ => j + 1 - (intOf u9).toNat)
              case atStart => exact ⟨i, by go_num, Nat.le_refl _, hij, HI⟩
              case round =>
                obtain ⟨i', rfl, h1, h2, HK⟩ := hrel
                by_cases hle : i' ≤ j
                · have hle' : (i' : Int) ≤ (j : Int) := by omega
                  have hled : decide ((i' : Int) ≤ (j : Int)) = true := decide_eq_true hle'
                  have k1 : wr.cell? ⟨g, a, none⟩ = some (.int .u64 pv) := by rw [← HK.out.2.at_a]; exact HK.out.1.cell (by omega)
                  obtain ⟨y, hy⟩ : ∃ y, dk[i']! = y := ⟨_, rfl⟩
                  have k2 : wr.cell? ⟨g, i', none⟩ = some (.int .u64 y) := by rw [← hy]; exact HK.out.1.cell (by omega)
                  have ni : (i' : Int) < (n : Int) := by omega
                  have HY : Hid (dk[i']! = y) := hy
                  clear hy
                  go_wp2
                  go_quiet (first | (go_at_call 90; refine Calls.quiet_of_same (less_u _ _ _)))
                  cases hl : ltU y pv with
                  | true =>
                    go_wp2
                    go_roundw
                    case rel => exact ⟨i' + 1, by go_num, by omega, by omega, HK.out.1.drewN _, HK.out.2.up hle (by rw [HY.out, hl])⟩
                    case measure => simp [intOf]; omega
                  | false =>
                    go_wp2
                    go_meet
                    exact ⟨i', rfl, h1, h2, HK.out.1.drewN _, HK.out.2, fun _ => by rw [HY.out]; exact hl⟩
                · have hle' : ¬ (i' : Int) ≤ (j : Int) := by omega
                  have hled : decide ((i' : Int) ≤ (j : Int)) = false := decide_eq_false hle'
                  go_wp2
                  go_quiet (fail)
                  go_wp2
                  go_meet
                  exact ⟨i', rfl, h1, h2, HK.out.1.drewN _, HK.out.2, fun h => absurd h hle⟩
            case rest =>
              obtain ⟨i', rfl, hi1, hi2, HJ⟩ := hcut
              clear HI

              go_upto_block 8 with fail
              go_cut [11] from 115 to 131 (fun s10 wx => ∃ j' : Nat, s10 = .int .i64 (j' : Int) ∧ j' ≤ j ∧ i' ≤ j' + 1 ∧ Hid (Go1 w wx base g cap n dk ∧ Mid a (c + 1) n d dk pv (fun y => ltU y pv) i' j' ∧ (i' ≤ j' → ltU dk[i']! pv = false ∧ ltU dk[j']! pv = true)))
              case first =>
                obtain ⟨W1, hW1⟩ : ∃ z, z = wc := ⟨_, rfl⟩
                subst hW1
                go_wp2
                go_loopw [11] (fun u10 wv => ∃ j' : Nat, u10 = .int .i64 (j' : Int) ∧ j' ≤ j ∧ i' ≤ j' + 1 ∧ Hid (Go1 w wv base g cap n dk ∧ Mid a (c + 1) n d dk pv (fun y => ltU y pv) i' j')) (fun u10 _ => (intOf u10 + 1).toNat)
                case atStart => exact ⟨j, rfl, Nat.le_refl _, hi2, HJ.out.1, HJ.out.2.1⟩
                case round =>
                  obtain ⟨j', rfl, h1, h2, HK⟩ := hrel
                  by_cases hle : i' ≤ j'
                  · obtain ⟨k, rfl⟩ : ∃ k, j' = k + 1 := ⟨j' - 1, by omega⟩
                    have hle' : (i' : Int) ≤ (k : Int) + 1 := by omega
                    have hled : decide ((i' : Int) ≤ (k : Int) + 1) = true := decide_eq_true hle'
                    have k1 : wr.cell? ⟨g, a, none⟩ = some (.int .u64 pv) := by rw [← HK.out.2.at_a]; exact HK.out.1.cell (by omega)
                    obtain ⟨y, hy⟩ : ∃ y, dk[k + 1]! = y := ⟨_, rfl⟩
                    have k2 : wr.cell? ⟨g, k + 1, none⟩ = some (.int .u64 y) := by rw [← hy]; exact HK.out.1.cell (by omega)
                    have ni : (k : Int) + 1 < (n : Int) := by omega
                    have HY : Hid (dk[k + 1]! = y) := hy
                    clear hy
                    go_wp2
                    go_quiet (first | (go_at_call 90; refine Calls.quiet_of_same (less_u _ _ _)))
                    cases hl : ltU y pv with
                    | false =>
                      go_wp2
                      go_roundw
                      case rel => exact ⟨k, by go_num, by omega, by omega, HK.out.1.drewN _, HK.out.2.down hle (by rw [HY.out, hl])⟩
                      case measure => simp [intOf]; omega
                    | true =>
                      go_wp2
                      go_meet
                      exact ⟨k + 1, by go_num, h1, h2, HK.out.1.drewN _, HK.out.2, fun _ => ⟨HJ.out.2.2 (by omega), by rw [HY.out]; exact hl⟩⟩
                  · have hle' : ¬ (i' : Int) ≤ (j' : Int) := by omega
                    have hled : decide ((i' : Int) ≤ (j' : Int)) = false := decide_eq_false hle'
                    go_wp2
                    go_quiet (fail)
                    go_wp2
                    go_meet
                    exact ⟨j', rfl, h1, h2, HK.out.1.drewN _, HK.out.2, fun h => absurd h hle⟩
              case rest =>
                obtain ⟨j', rfl, hj1, hj2, HL⟩ := hcut
                clear HJ
                by_cases hle : i' ≤ j'
                · have hle' : ¬ (j' : Int) < (i' : Int) := by omega
                  obtain ⟨t1, t2⟩ := HL.out.2.2 hle
                  have hne : i' ≠ j' := fun e => by rw [e, t2] at t1; cases t1
                  obtain ⟨k, rfl⟩ : ∃ k, j' = k + 1 := ⟨j' - 1, by omega⟩
                  obtain ⟨y, hy⟩ : ∃ y, dk[i']! = y := ⟨_, rfl⟩
                  obtain ⟨z, hz⟩ : ∃ z, dk[k + 1]! = z := ⟨_, rfl⟩
                  have k1 : wc.cell? ⟨g, i', none⟩ = some (.int .u64 y) := by rw [← hy]; exact HL.out.1.cell (by omega)
                  have k2 : wc.cell? ⟨g, k + 1, none⟩ = some (.int .u64 z) := by rw [← hz]; exact HL.out.1.cell (by omega)
                  have u1 := HL.out.1.1.frozen i'
                  have u2 := HL.out.1.1.frozen (k + 1)
                  have ni : (i' : Int) < (n : Int) := by omega
                  have nk : (k : Int) + 1 < (n : Int) := by omega
                  have hlt : ¬ (k : Int) + 1 < (i' : Int) := by omega
                  have HS : Hid (∀ q, Go1 w (((wc.setCell ⟨g, i', none⟩ (.int .u64 z)).setCell ⟨g, k + 1, none⟩ (.int .u64 y)).drewN q) base g cap n (swp dk i' (k + 1)) ∧ Mid a (c + 1) n d (swp dk i' (k + 1)) pv (fun y => ltU y pv) (i' + 1) k) := fun q => ⟨(HL.out.1.swap (by omega) (by omega) hz hy).drewN q, HL.out.2.1.swap (by omega) t1 t2⟩
                  clear hy hz t1 t2 HL

                  go_wp2
                  go_region
                  all_goals go_wp2
                  all_goals go_roundw
                  all_goals try (case measure => simp [intOf]; omega)
                  all_goals exact ⟨i' + 1, k, _, by go_num, by go_num, by omega, by omega, by omega, HS.out 1⟩
                · have hle' : (j' : Int) < (i' : Int) := by omega
                  obtain rfl : i' = j' + 1 := by omega
                  obtain ⟨y, hy⟩ : ∃ y, dk[j']! = y := ⟨_, rfl⟩
                  have k1 : wc.cell? ⟨g, a, none⟩ = some (.int .u64 pv) := by rw [← HL.out.2.1.at_a]; exact HL.out.1.cell (by omega)
                  have k2 : wc.cell? ⟨g, j', none⟩ = some (.int .u64 y) := by rw [← hy]; exact HL.out.1.cell (by omega)
                  have u1 := HL.out.1.1.frozen a
                  have u2 := HL.out.1.1.frozen j'
                  have nj : (j' : Int) < (n : Int) := by omega
                  have HF : Hid (∀ q, Fin1 w (((wc.setCell ⟨g, j', none⟩ (.int .u64 pv)).setCell ⟨g, a, none⟩ (.int .u64 y)).drewN q) base g cap n a (c + 1) d j') := fun q => fin_of HL.out.1 HL.out.2.1 (by omega) hy q
                  have HZ : Hid (j' = a → y = pv) := fun e => by rw [← hy, e]; exact HL.out.2.1.at_a
                  clear hy
                  by_cases hja : j' = a
                  · obtain rfl := HZ.out hja
                    subst hja
                    clear k2 u2 HZ
                    go_wp2
                    go_region
                    all_goals go_wp2
                    all_goals go_ret2
                    all_goals exact ⟨j', _, rfl, HF.out 1⟩
                  · have hja' : ¬ a = j' := fun e => hja e.symm
                    clear HZ
                    go_wp2
                    go_region
                    all_goals go_wp2
                    all_goals go_ret2
                    all_goals exact ⟨j', _, rfl, HF.out 1⟩

        · have hle' : (j' : Int) < (i' : Int) := by omega
          obtain rfl : i' = j' + 1 := by omega
          obtain ⟨y, hy⟩ : ∃ y, dk[j']! = y := ⟨_, rfl⟩
          have k1 : wc.cell? ⟨g, a, none⟩ = some (.int .u64 pv) := by rw [← HL.out.2.1.at_a]; exact HL.out.1.cell (by omega)
          have k2 : wc.cell? ⟨g, j', none⟩ = some (.int .u64 y) := by rw [← hy]; exact HL.out.1.cell (by omega)
          have u1 := HL.out.1.1.frozen a
          have u2 := HL.out.1.1.frozen j'
          have nj : (j' : Int) < (n : Int) := by omega
          have HF : Hid (∀ q, Fin1 w (((wc.setCell ⟨g, j', none⟩ (.int .u64 pv)).setCell ⟨g, a, none⟩ (.int .u64 y)).drewN q) base g cap n a (c + 1) d j') := fun q => fin_of HL.out.1 HL.out.2.1 (by omega) hy q
          have HZ : Hid (j' = a → y = pv) := fun e => by rw [← hy, e]; exact HL.out.2.1.at_a
          clear hy
          by_cases hja : j' = a
          · obtain rfl := HZ.out hja
            subst hja
            clear k2 u2 HZ
            go_wp2
            go_region
            all_goals go_wp2
            all_goals go_ret2
            all_goals exact ⟨j', _, rfl, HF.out 1⟩
          · have hja' : ¬ a = j' := fun e => hja e.symm
            clear HZ
            go_wp2
            go_region
            all_goals go_wp2
            all_goals go_ret2
            all_goals exact ⟨j', _, rfl, HF.out 1⟩
end Go.Proofs.Ytooaiomghbjpiaa
