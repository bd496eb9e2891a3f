/-
  slices.partitionEqualOrdered at tags: those that are not greater than the pivot, then those that are.
-/
import Derived.Test.YtooaiomghbjpiaaHeapU2
import Derived.Deep.CutRange
import Derived.Deep.CutBlock
namespace Go.Proofs.Ytooaiomghbjpiaa
open Go.RowKit Go.Sort
set_option maxRecDepth 20000

/-- A row on its way: what lies behind i on the left says no, what lies behind j on the right says yes. -/
structure Mid (a b n : Nat) (d dk : Array Int) (pv : Int) (no : Int → Bool) (i j : Nat) : Prop where
  size : dk.size = n
  perm : PermIn a b d dk
  at_a : dk[a]! = pv
  left : ∀ t, a < t → t < i → no dk[t]! = true
  right : ∀ t, j < t → t < b → no dk[t]! = false
  ai : a < i
  ij : i ≤ j + 1
  jb : j < b
  bn : b ≤ n
section
variable {a b n : Nat} {d dk : Array Int} {pv : Int} {no : Int → Bool} {i j : Nat}
theorem Mid.up (h : Mid a b n d dk pv no i j) (hij : i ≤ j) (hl : no dk[i]! = true) : Mid a b n d dk pv no (i + 1) j :=
  ⟨h.size, h.perm, h.at_a, fun t h1 h2 => by by_cases e : t = i; (· rw [e]; exact hl); (· exact h.left t h1 (by omega)), h.right, by have := h.ai; omega, by omega, h.jb, h.bn⟩
theorem Mid.down (h : Mid a b n d dk pv no i (j + 1)) (hij : i ≤ j + 1) (hl : no dk[j + 1]! = false) : Mid a b n d dk pv no i j :=
  ⟨h.size, h.perm, h.at_a, h.left, fun t h1 h2 => by by_cases e : t = j + 1; (· rw [e]; exact hl); (· exact h.right t (by omega) h2), h.ai, hij, by have := h.jb; omega, h.bn⟩
theorem Mid.swap (h : Mid a b n d dk pv no i (j + 1)) (hij : i < j + 1) (h1 : no dk[i]! = false) (h2 : no dk[j + 1]! = true) : Mid a b n d (swp dk i (j + 1)) pv no (i + 1) j := by
  have hai := h.ai
  have hjb := h.jb
  have hbn := h.bn
  have hs := h.size
  have ho : ∀ t, t ≠ i → t ≠ j + 1 → (swp dk i (j + 1))[t]! = dk[t]! := fun t e1 e2 => swp_other dk i (j + 1) t e1 e2
  refine ⟨by rw [size_swpU]; exact hs, permIn_trans _ _ _ _ _ h.perm (swp_permIn dk a b i (j + 1) (by omega) (by omega) (by omega) (by omega) (by omega)), ?_, fun t t1 t2 => ?_, fun t t1 t2 => ?_, by omega, by omega, by omega, hbn⟩
  · rw [ho a (by omega) (by omega)]; exact h.at_a
  · by_cases e : t = i
    · rw [e, swp_left dk i (j + 1) (by omega) (by omega)]; exact h2
    · rw [ho t e (by omega)]; exact h.left t t1 (by omega)
  · by_cases e : t = j + 1
    · rw [e, swp_right dk i (j + 1) (by omega)]; exact h1
    · rw [ho t (by omega) e]; exact h.right t (by omega) t2
end
set_option maxHeartbeats 4000000 in
theorem partEqU (w : World) (base g cap n a b pivot : Nat) (d : Array Int) (h : UR w base g cap d) (hn : d.size = n) (hap : a ≤ pivot) (hpb : pivot < b) (hb : b ≤ n) (hsz : n ≤ 1000000) :
    Calls Try.prog 91 #[.slice (some ⟨g, 0, none⟩) n cap, .int .i64 (a : Int), .int .i64 (b : Int), .int .i64 (pivot : Int)] w fun e w' => ∃ (i : Nat) (d' : Array Int), e = .returned (.int .i64 (i : Int)) ∧ Go1 w w' base g cap n d' ∧ PermIn a b d d' ∧ a < i ∧ i ≤ b ∧ (∀ t, a ≤ t → t < i → ltU d[pivot]! d'[t]! = false) ∧ (∀ t, i ≤ t → t < b → ltU d[pivot]! d'[t]! = true) := by
  obtain ⟨c, rfl⟩ : ∃ c, b = c + 1 := ⟨b - 1, by omega⟩
  obtain ⟨pv, hpv⟩ : ∃ p, d[pivot]! = p := ⟨_, rfl⟩
  obtain ⟨x, hx⟩ : ∃ x, d[a]! = x := ⟨_, rfl⟩
  have c1 : w.cell? ⟨g, a, none⟩ = some (.int .u64 x) := by rw [← hx]; exact h.cell (by omega)
  have c2 : w.cell? ⟨g, pivot, none⟩ = some (.int .u64 pv) := by rw [← hpv]; exact h.cell (by omega)
  have f1 := h.frozen a
  have f2 := h.frozen pivot
  have na : (a : Int) < (n : Int) := by omega
  have np : (pivot : Int) < (n : Int) := by omega
  have HA : Hid (∀ q, Go1 w (((w.setCell ⟨g, a, none⟩ (.int .u64 pv)).setCell ⟨g, pivot, none⟩ (.int .u64 x)).drewN q) base g cap n (swp d a pivot)) := fun q => ((Go1.refl h hn).swap (by omega) (by omega) hpv hx).drewN q
  have HM : Hid (Mid a (c + 1) n d (swp d a pivot) pv (fun y => !ltU pv y) (a + 1) c) := by
    refine ⟨by rw [size_swpU]; exact hn, swp_permIn d a (c + 1) a pivot (Nat.le_refl _) (by omega) hap hpb (by omega), ?_, fun t t1 t2 => by omega, fun t t1 t2 => by omega, by omega, by omega, by omega, hb⟩
    by_cases e : a = pivot
    · rw [← e, swp_right d a a (by omega), ← hpv, e]
    · rw [swp_left d a pivot (by omega) e]; exact hpv
  have HPV : Hid (d[pivot]! = pv) := hpv
  have HZ : Hid (a = pivot → x = pv) := fun e => by rw [← hx, ← hpv, e]
  clear h hn hpv hx
  go_enter Try.func91, Try.ntmps91
  go_upto_region 1 with fail
  go_cut [8] from 11 to 24 (fun s8 wx => s8 = .int .i64 0 ∧ Hid (Go1 w wx base g cap n (swp d a pivot)))
  case first =>
    by_cases hpa : a = pivot
    · obtain rfl := HZ.out hpa
      subst hpa
      clear c2 f2
      go_region
      all_goals go_wp2
      all_goals go_meet
      all_goals exact ⟨rfl, HA.out 1⟩
    · have hpa' : ¬ pivot = a := fun e => hpa e.symm
      go_region
      all_goals go_wp2
      all_goals go_meet
      all_goals exact ⟨rfl, HA.out 1⟩
  case rest =>
    obtain ⟨rfl, HG⟩ := hcut
    clear c1 c2 f1 f2 HA HZ
    rw [show ((c + 1 : Nat) : Int) = (c : Int) + 1 by omega]
    go_wp2
    go_loopw [9, 10] (fun u9 u10 wr => ∃ (i j : Nat) (dk : Array Int), u9 = .int .i64 (i : Int) ∧ u10 = .int .i64 (j : Int) ∧ a < i ∧ i ≤ j + 1 ∧ j ≤ c ∧ Hid (Go1 w wr base g cap n dk ∧ Mid a (c + 1) n d dk pv (fun y => !ltU pv y) i j)) (fun u9 u10 _ => (intOf u10 + 1 - intOf u9).toNat)
    case atStart => exact ⟨a + 1, c, _, by go_num, rfl, by omega, by omega, Nat.le_refl _, HG.out, HM.out⟩
    case round =>
      obtain ⟨i, j, dk, rfl, rfl, hai, hij, hjc, HI⟩ := hrel
      go_upto_block 2 with fail
      go_cut [9] from 29 to 45 (fun s9 wx => ∃ i' : Nat, s9 = .int .i64 (i' : Int) ∧ i ≤ i' ∧ i' ≤ j + 1 ∧ Hid (Go1 w wx base g cap n dk ∧ Mid a (c + 1) n d dk pv (fun y => !ltU pv y) i' j ∧ (i' ≤ j → ltU pv dk[i']! = true)))
      case first =>
        obtain ⟨W1, hW1⟩ : ∃ z, z = wr := ⟨_, rfl⟩
        subst hW1
        go_wp2
        go_loopw [9] (fun u9 wv => ∃ i' : Nat, u9 = .int .i64 (i' : Int) ∧ i ≤ i' ∧ i' ≤ j + 1 ∧ Hid (Go1 w wv base g cap n dk ∧ Mid a (c + 1) n d dk pv (fun y => !ltU pv y) i' j)) (fun u9 _ => j + 1 - (intOf u9).toNat)
        case atStart => exact ⟨i, rfl, Nat.le_refl _, hij, HI⟩
        case round =>
          obtain ⟨i', rfl, h1, h2, HK⟩ := hrel
          by_cases hle : i' ≤ j
          · have hle' : (i' : Int) ≤ (j : Int) := by omega
            have hled : decide ((i' : Int) ≤ (j : Int)) = true := decide_eq_true hle'
            have k1 : wr.cell? ⟨g, a, none⟩ = some (.int .u64 pv) := by rw [← HK.out.2.at_a]; exact HK.out.1.cell (by omega)
            obtain ⟨y, hy⟩ : ∃ y, dk[i']! = y := ⟨_, rfl⟩
            have k2 : wr.cell? ⟨g, i', none⟩ = some (.int .u64 y) := by rw [← hy]; exact HK.out.1.cell (by omega)
            have ni : (i' : Int) < (n : Int) := by omega
            have HY : Hid (dk[i']! = y) := hy
            clear hy
            go_wp2
            go_quiet (first | (go_at_call 90; refine Calls.quiet_of_same (less_u _ _ _)))
            cases hl : ltU pv y with
            | false =>
              go_wp2
              go_roundw
              case rel => exact ⟨i' + 1, by go_num, by omega, by omega, HK.out.1.drewN _, HK.out.2.up hle (by rw [HY.out, hl]; rfl)⟩
              case measure => simp [intOf]; omega
            | true =>
              go_wp2
              go_meet
              exact ⟨i', rfl, h1, h2, HK.out.1.drewN _, HK.out.2, fun _ => by rw [HY.out]; exact hl⟩
          · have hle' : ¬ (i' : Int) ≤ (j : Int) := by omega
            have hled : decide ((i' : Int) ≤ (j : Int)) = false := decide_eq_false hle'
            go_wp2
            go_quiet (fail)
            go_wp2
            go_meet
            exact ⟨i', rfl, h1, h2, HK.out.1.drewN _, HK.out.2, fun h => absurd h hle⟩
      case rest =>
        obtain ⟨i', rfl, hi1, hi2, HJ⟩ := hcut
        clear HI
        go_upto_block 4 with fail
        go_cut [10] from 46 to 61 (fun s10 wx => ∃ j' : Nat, s10 = .int .i64 (j' : Int) ∧ j' ≤ j ∧ i' ≤ j' + 1 ∧ Hid (Go1 w wx base g cap n dk ∧ Mid a (c + 1) n d dk pv (fun y => !ltU pv y) i' j' ∧ (i' ≤ j' → ltU pv dk[i']! = true ∧ ltU pv dk[j']! = false)))
        case first =>
          obtain ⟨W1, hW1⟩ : ∃ z, z = wc := ⟨_, rfl⟩
          subst hW1
          go_wp2
          go_loopw [10] (fun u10 wv => ∃ j' : Nat, u10 = .int .i64 (j' : Int) ∧ j' ≤ j ∧ i' ≤ j' + 1 ∧ Hid (Go1 w wv base g cap n dk ∧ Mid a (c + 1) n d dk pv (fun y => !ltU pv y) i' j')) (fun u10 _ => (intOf u10 + 1).toNat)
          case atStart => exact ⟨j, rfl, Nat.le_refl _, hi2, HJ.out.1, HJ.out.2.1⟩
          case round =>
            obtain ⟨j', rfl, h1, h2, HK⟩ := hrel
            by_cases hle : i' ≤ j'
            · obtain ⟨k, rfl⟩ : ∃ k, j' = k + 1 := ⟨j' - 1, by omega⟩
              have hle' : (i' : Int) ≤ (k : Int) + 1 := by omega
              have hled : decide ((i' : Int) ≤ (k : Int) + 1) = true := decide_eq_true hle'
              have k1 : wr.cell? ⟨g, a, none⟩ = some (.int .u64 pv) := by rw [← HK.out.2.at_a]; exact HK.out.1.cell (by omega)
              obtain ⟨y, hy⟩ : ∃ y, dk[k + 1]! = y := ⟨_, rfl⟩
              have k2 : wr.cell? ⟨g, k + 1, none⟩ = some (.int .u64 y) := by rw [← hy]; exact HK.out.1.cell (by omega)
              have ni : (k : Int) + 1 < (n : Int) := by omega
              have HY : Hid (dk[k + 1]! = y) := hy
              clear hy
              go_wp2
              go_quiet (first | (go_at_call 90; refine Calls.quiet_of_same (less_u _ _ _)))
              cases hl : ltU pv y with
              | true =>
                go_wp2
                go_roundw
                case rel => exact ⟨k, by go_num, by omega, by omega, HK.out.1.drewN _, HK.out.2.down hle (by rw [HY.out, hl]; rfl)⟩
                case measure => simp [intOf]; omega
              | false =>
                go_wp2
                go_meet
                exact ⟨k + 1, by go_num, h1, h2, HK.out.1.drewN _, HK.out.2, fun _ => ⟨HJ.out.2.2 (by omega), by rw [HY.out]; exact hl⟩⟩
            · have hle' : ¬ (i' : Int) ≤ (j' : Int) := by omega
              have hled : decide ((i' : Int) ≤ (j' : Int)) = false := decide_eq_false hle'
              go_wp2
              go_quiet (fail)
              go_wp2
              go_meet
              exact ⟨j', rfl, h1, h2, HK.out.1.drewN _, HK.out.2, fun h => absurd h hle⟩
        case rest =>
          obtain ⟨j', rfl, hj1, hj2, HL⟩ := hcut
          clear HJ
          by_cases hle : i' ≤ j'
          · have hle' : ¬ (j' : Int) < (i' : Int) := by omega
            obtain ⟨t1, t2⟩ := HL.out.2.2 hle
            have hne : i' ≠ j' := fun e => by rw [e, t2] at t1; cases t1
            obtain ⟨k, rfl⟩ : ∃ k, j' = k + 1 := ⟨j' - 1, by omega⟩
            obtain ⟨y, hy⟩ : ∃ y, dk[i']! = y := ⟨_, rfl⟩
            obtain ⟨z, hz⟩ : ∃ z, dk[k + 1]! = z := ⟨_, rfl⟩
            have k1 : wc.cell? ⟨g, i', none⟩ = some (.int .u64 y) := by rw [← hy]; exact HL.out.1.cell (by omega)
            have k2 : wc.cell? ⟨g, k + 1, none⟩ = some (.int .u64 z) := by rw [← hz]; exact HL.out.1.cell (by omega)
            have u1 := HL.out.1.1.frozen i'
            have u2 := HL.out.1.1.frozen (k + 1)
            have ni : (i' : Int) < (n : Int) := by omega
            have nk : (k : Int) + 1 < (n : Int) := by omega
            have hlt : ¬ (k : Int) + 1 < (i' : Int) := by omega
            have HS : Hid (∀ q, Go1 w (((wc.setCell ⟨g, i', none⟩ (.int .u64 z)).setCell ⟨g, k + 1, none⟩ (.int .u64 y)).drewN q) base g cap n (swp dk i' (k + 1)) ∧ Mid a (c + 1) n d (swp dk i' (k + 1)) pv (fun y => !ltU pv y) (i' + 1) k) := fun q => ⟨(HL.out.1.swap (by omega) (by omega) hz hy).drewN q, HL.out.2.1.swap (by omega) (by rw [t1]; rfl) (by rw [t2]; rfl)⟩
            clear hy hz t1 t2
            go_wp2
            go_region
            all_goals go_wp2
            all_goals go_roundw
            all_goals try (case measure => simp [intOf]; omega)
            all_goals exact ⟨i' + 1, k, _, by go_num, by go_num, by omega, by omega, by omega, HS.out 1⟩
          · have hle' : (j' : Int) < (i' : Int) := by omega
            obtain rfl : i' = j' + 1 := by omega
            go_wp2
            go_ret
            have hM := HL.out.2.1
            refine ⟨j' + 1, dk, by go_num, HL.out.1, hM.perm, by omega, by omega, fun t t1 t2 => ?_, fun t t1 t2 => ?_⟩
            · by_cases e : t = a
              · rw [e, hM.at_a, HPV.out]; exact swoU.irrefl _
              · have := hM.left t (by omega) t2
                rw [HPV.out]
                simpa using this
            · have := hM.right t (by omega) t2
              rw [HPV.out]
              simpa using this
end Go.Proofs.Ytooaiomghbjpiaa
