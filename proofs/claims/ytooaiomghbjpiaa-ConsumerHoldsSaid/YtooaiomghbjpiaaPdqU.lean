/-
  slices.pdqsortOrdered at tags, of any length.
-/
import Derived.Test.YtooaiomghbjpiaaGlueU
namespace Go.Proofs.Ytooaiomghbjpiaa
open Go.RowKit Go.Sort Go.Shelf
set_option maxRecDepth 20000

/-- What pdqsort leaves of a to b. -/
def PdqP (w w' : World) (base g cap n a b : Nat) (d : Array Int) (e : Ending) : Prop := e = .returned (.tuple #[]) ∧ ∃ d', Go1 w w' base g cap n d' ∧ PermIn a b d d' ∧ SortedIn ltU a b d'
/-- How it stands in a round. -/
def PdqI (w W : World) (base g cap n a b : Nat) (d : Array Int) (a' b' : Nat) (dk : Array Int) : Prop := Go1 w W base g cap n dk ∧ Rest a b a' b' d dk ∧ Sort.Below ltU a' b' dk
theorem PdqI.perm {w W X : World} {base g cap n a b a' b' : Nat} {d dk dj : Array Int} (h : PdqI w W base g cap n a b d a' b' dk) (hb : b' ≤ n) (k : Go1 W X base g cap n dj) (p : PermIn a' b' dk dj) : PdqI w X base g cap n a b d a' b' dj :=
  ⟨h.1.trans k, h.2.1.perm p, Below.perm h.2.2 (by rw [h.1.2.1]; exact hb) p⟩
theorem PdqI.drewN {w W : World} {base g cap n a b a' b' : Nat} {d dk : Array Int} (h : PdqI w W base g cap n a b d a' b' dk) (q : Nat) : PdqI w (W.drewN q) base g cap n a b d a' b' dk := ⟨h.1.drewN q, h.2⟩
theorem PdqI.fin {w W X : World} {base g cap n a b a' b' : Nat} {d dk dj : Array Int} (h : PdqI w W base g cap n a b d a' b' dk) (k : Go1 W X base g cap n dj) (p : PermIn a' b' dk dj) (s : SortedIn ltU a' b' dj) : PdqP w X base g cap n a b d (.returned (.tuple #[])) :=
  ⟨rfl, dj, h.1.trans k, (h.2.1 dj p s).1, (h.2.1 dj p s).2⟩
set_option maxHeartbeats 8000000 in
theorem pdq_all (base g cap n : Nat) (hsz : n ≤ 1000000) : ∀ (N : Nat) (w : World) (a b lim : Nat) (d : Array Int), UR w base g cap d → d.size = n → a ≤ b → b ≤ n → b - a < N → lim ≤ 64 → Sort.Below ltU a b d →
    Calls Try.prog 77 #[.slice (some ⟨g, 0, none⟩) n cap, .int .i64 (a : Int), .int .i64 (b : Int), .int .i64 (lim : Int)] w fun e w' => PdqP w w' base g cap n a b d e := by
  intro N
  induction N with
  | zero => intro w a b lim d _ _ _ _ h; omega
  | succ N IH =>
  intro w a b lim d h hn hab hb hN hlim hB
  have H0 : Hid (PdqI w w base g cap n a b d a b d) := ⟨Go1.refl h hn, Rest.refl a b d, hB⟩
  clear h hB
  go_enter Try.func77, Try.ntmps77
  go_wp2
  go_loopw [1, 2, 3, 8, 9, 10, 11, 12, 13, 14, 15, 16, 17, 18] (fun u1 u2 u3 u8 u9 _ _ _ _ _ _ _ _ _ wr => ∃ (a' b' l : Nat) (B P : Bool) (dk : Array Int), u1 = .int .i64 (a' : Int) ∧ u2 = .int .i64 (b' : Int) ∧ u3 = .int .i64 (l : Int) ∧ u8 = .bool B ∧ u9 = .bool P ∧ a ≤ a' ∧ a' ≤ b' ∧ b' ≤ b ∧ l ≤ 64 ∧ Hid (PdqI w wr base g cap n a b d a' b' dk)) (fun u1 u2 _ _ _ _ _ _ _ _ _ _ _ _ _ => (intOf u2).toNat - (intOf u1).toNat)
  case atStart => exact ⟨a, b, lim, true, true, d, rfl, rfl, rfl, rfl, rfl, Nat.le_refl _, hab, Nat.le_refl _, hlim, H0⟩
  case round =>
    obtain ⟨a', b', l, B, P, dk, rfl, rfl, rfl, rfl, rfl, h1, h2, h3, h4, HI⟩ := hrel
    clear H0
    obtain ⟨L, hL⟩ : ∃ L, b' - a' = L := ⟨_, rfl⟩
    have e1 : (b' : Int) - (a' : Int) = (L : Int) := by omega
    by_cases hlen : L ≤ 12
    · have hlen' : (L : Int) ≤ 12 := by omega
      have hI := insertU wr base g cap n a' b' dk HI.out.1.1 HI.out.1.2.1 h2 (by omega) hsz
      go_wp2_with fail
      refine hI.mono ?_
      rintro e w1 ⟨rfl, hw⟩
      go_wp2
      refine bodyPost_ret (results_none rfl _ _ _) rfl ?_
      obtain ⟨s1, s2⟩ := insertionSort_holds (lt := ltU) swoU dk a' b' h2 (by rw [HI.out.1.2.1]; omega)
      exact HI.out.fin hw s1 s2
    · have hlen' : ¬ (L : Int) ≤ 12 := by omega
      cases l with
      | zero =>
        have hI := heapU wr base g cap n a' b' dk HI.out.1.1 HI.out.1.2.1 (by omega) (by omega) hsz
        go_wp2_with fail
        refine hI.mono ?_
        rintro e w1 ⟨rfl, d1, hw, s1, s2⟩
        go_wp2
        refine bodyPost_ret (results_none rfl _ _ _) rfl ?_
        exact HI.out.fin hw s1 s2
      | succ l =>
        have hl0 : ¬ (((l + 1 : Nat) : Int) = 0) := by omega
        go_upto_if 35 with fail
        go_cut [3, 8] from 19 to 133 (fun s3 s8 wx => ∃ (m : Nat) (dj : Array Int), s3 = .int .i64 (m : Int) ∧ s8 = .bool B ∧ m ≤ 64 ∧ Hid (PdqI w wx base g cap n a b d a' b' dj))
        case first =>
          cases B with
          | true =>
            go_wp2
            go_meet
            exact ⟨l + 1, dk, rfl, rfl, h4, HI⟩
          | false =>
            have hI := breakU wr base g cap n a' b' dk HI.out.1.1 HI.out.1.2.1 (by omega) (by omega) hsz
            go_wp2_with fail
            refine hI.mono ?_
            rintro e w1 ⟨rfl, d1, hw, s1⟩
            have H2 : Hid (PdqI w w1 base g cap n a b d a' b' d1) := HI.out.perm (by omega) hw s1
            clear hw s1 hI
            go_wp2
            go_meet
            exact ⟨l, d1, by go_num, rfl, by omega, H2⟩
        case rest =>
          obtain ⟨m, dj, rfl, rfl, hm, HJ⟩ := hcut
          clear HI h4 hl0
          have hP := pivotU wc base g cap n a' b' dj HJ.out.1.1 HJ.out.1.2.1 (by omega) (by omega) hsz
          go_wp2_with fail
          refine hP.mono ?_
          rintro e w1 ⟨p, t, rfl, p1, p2, t2, hw⟩
          have H2 : Hid (PdqI w w1 base g cap n a b d a' b' dj) := HJ.out.perm (by omega) hw (permIn_refl _ _ _)
          clear hw hP HJ
          go_upto_if 50 with fail
          go_cut [11, 12] from 19 to 133 (fun s11 s12 wx => ∃ (q s : Nat) (de : Array Int), s11 = .int .i64 (q : Int) ∧ s12 = .int .i64 (s : Int) ∧ a' ≤ q ∧ q < b' ∧ Hid (PdqI w wx base g cap n a b d a' b' de))
          case first =>
            by_cases h2t : t = 2
            · subst h2t
              have hR := reverseU w1 base g cap n a' b' dj H2.out.1.1 H2.out.1.2.1 (by omega) (by omega) hsz
              go_wp2_with fail
              refine hR.mono ?_
              rintro e w2 ⟨rfl, d2, hw, s1⟩
              have H3 : Hid (PdqI w w2 base g cap n a b d a' b' d2) := H2.out.perm (by omega) hw s1
              clear hw s1 hR
              go_wp2
              go_meet
              exact ⟨b' - 1 - (p - a'), 1, d2, by go_num, rfl, by omega, by omega, H3⟩
            · have h2t' : ¬ (t : Int) = 2 := by omega
              have h2b : ((t : Int) == 2) = false := by simpa using h2t'
              go_wp2
              go_meet
              exact ⟨p, t, dj, rfl, rfl, p1, p2, H2⟩
          case rest =>
            obtain ⟨q, s, de, rfl, rfl, q1, q2, HK⟩ := hcut
            clear H2
            go_upto_region 15 with fail
            go_cut [68] from 19 to 133 (fun s68 wx => ∃ c : Bool, s68 = .bool c ∧ Hid (PdqI w wx base g cap n a b d a' b' de))
            case first =>
              by_cases hs1 : s = 1
              · subst hs1
                cases B <;> cases P <;> (go_wp2; go_meet; exact ⟨_, rfl, HK⟩)
              · have hs1' : ¬ (s : Int) = 1 := by omega
                have hs1b : ((s : Int) == 1) = false := by simpa using hs1'
                cases B <;> cases P <;> (go_wp2; go_meet; exact ⟨_, rfl, HK⟩)
            case rest =>
              obtain ⟨c, rfl, HM⟩ := hcut
              clear HK
              go_upto_if 68 with fail
              go_cut [] from 19 to 133 (fun wx => ∃ df : Array Int, Hid (PdqI w wx base g cap n a b d a' b' df))
              case first =>
                cases c with
                | false =>
                  go_wp2
                  go_meet
                  exact ⟨de, HM⟩
                | true =>
                  have hS := pinsU wc base g cap n a' b' de HM.out.1.1 HM.out.1.2.1 (by omega) (by omega) hsz HM.out.2.2
                  go_wp2_with fail
                  refine hS.mono ?_
                  rintro e w2 ⟨r, d2, rfl, hw, s1, s2⟩
                  cases r with
                  | true =>
                    go_wp2
                    refine bodyPost_ret (results_none rfl _ _ _) rfl ?_
                    exact HM.out.fin hw s1 (s2 (by simp))
                  | false =>
                    have H9 : Hid (PdqI w w2 base g cap n a b d a' b' d2) := HM.out.perm (by omega) hw s1
                    clear hw s1 s2 hS
                    go_wp2
                    go_meet
                    exact ⟨d2, H9⟩
              case rest =>
                obtain ⟨df, HN⟩ := hcut
                clear HM
                obtain ⟨pv, hpv⟩ : ∃ y, df[q]! = y := ⟨_, rfl⟩
                have kq : wc.cell? ⟨g, q, none⟩ = some (.int .u64 pv) := by rw [← hpv]; exact HN.out.1.cell (by omega)
                have nq : (q : Int) < (n : Int) := by omega
                go_upto_region 17 with fail
                go_cut [87] from 19 to 133 (fun s87 wx => ∃ c : Bool, s87 = .bool c ∧ Hid ((c = true → 0 < a' ∧ ltU df[a' - 1]! df[q]! = false) ∧ PdqI w wx base g cap n a b d a' b' df))
                case first =>
                  by_cases ha0 : 0 < a'
                  · obtain ⟨k, hk⟩ : ∃ k, a' - 1 = k := ⟨_, rfl⟩
                    have ek : (a' : Int) - 1 = (k : Int) := by omega
                    have ha0' : (0 : Int) < (a' : Int) := by omega
                    have ha0d : decide ((0 : Int) < (a' : Int)) = true := decide_eq_true ha0'
                    obtain ⟨x, hx⟩ : ∃ x, df[k]! = x := ⟨_, rfl⟩
                    have kk : wc.cell? ⟨g, k, none⟩ = some (.int .u64 x) := by rw [← hx]; exact HN.out.1.cell (by omega)
                    have nk : (k : Int) < (n : Int) := by omega
                    have HX : Hid (∀ c, ltU x pv = c → ((!c) = true → 0 < a' ∧ ltU df[a' - 1]! df[q]! = false)) := fun c hc hc2 => ⟨ha0, by rw [hk, hx, hpv, hc]; simpa using hc2⟩
                    clear hx hpv hk
                    go_quiet (first | (go_at_call 90; refine Calls.quiet_of_same (less_u _ _ _)))
                    cases hl : ltU x pv with
                    | false =>
                      go_wp2
                      go_meet
                      exact ⟨true, rfl, HX.out false hl, HN.out.drewN _⟩
                    | true =>
                      go_wp2
                      go_meet
                      exact ⟨false, rfl, HX.out true hl, HN.out.drewN _⟩
                  · have ha0' : ¬ (0 : Int) < (a' : Int) := by omega
                    have ha0d : decide ((0 : Int) < (a' : Int)) = false := decide_eq_false ha0'
                    go_quiet (fail)
                    go_wp2
                    go_meet
                    exact ⟨false, rfl, fun h => absurd h (by simp), HN.out.drewN _⟩
                case rest =>
                  obtain ⟨c, rfl, HO⟩ := hcut
                  clear HN kq
                  cases c with
                  | true =>
                    have hE := partEqU wc base g cap n a' b' q df HO.out.2.1.1 HO.out.2.1.2.1 q1 q2 (by omega) hsz
                    go_wp2_with fail
                    refine hE.mono ?_
                    rintro e w2 ⟨i, d2, rfl, hw, s1, i1, i2, i3, i4⟩
                    have H9 : Hid (PdqI w w2 base g cap n a b d i b' d2) := by
                      have u := rest_eq (HO.out.1 (by simp)).1 (by rw [HO.out.2.1.2.1]; omega) HO.out.2.2.2 (HO.out.1 (by simp)).2 s1 i1 i2 i3 i4
                      exact ⟨HO.out.2.1.trans hw, HO.out.2.2.1.trans u.1, u.2⟩
                    clear hw s1 i3 i4 hE HO
                    go_wp2
                    go_roundw
                    case rel => exact ⟨i, b', m, B, P, d2, rfl, rfl, rfl, rfl, rfl, by omega, by omega, h3, hm, H9⟩
                    case measure => simp [intOf]; omega
                  | false =>
                    have hE := partU wc base g cap n a' b' q df HO.out.2.1.1 HO.out.2.1.2.1 q1 q2 (by omega) hsz
                    go_wp2_with fail
                    refine hE.mono ?_
                    rintro e w2 ⟨j, r, rfl, d2, hw, s1, j1, j2, j3, j4⟩
                    obtain ⟨q8, hq8⟩ : ∃ z, L / 8 = z := ⟨_, rfl⟩
                    have e8 : (L : Int) / 8 = (q8 : Int) := by omega
                    have e8' : (L : Int).tdiv 8 = (q8 : Int) := by rw [Int.tdiv_eq_ediv_of_nonneg (by omega)]; omega
                    obtain ⟨le, hle⟩ : ∃ z, j - a' = z := ⟨_, rfl⟩
                    obtain ⟨ri, hri⟩ : ∃ z, b' - j = z := ⟨_, rfl⟩
                    have el : (j : Int) - (a' : Int) = (le : Int) := by omega
                    have er : (b' : Int) - (j : Int) = (ri : Int) := by omega
                    have hbd : b' ≤ df.size := by rw [HO.out.2.1.2.1]; omega
                    clear hE
                    by_cases hlr : le < ri
                    · have hlr' : (le : Int) < (ri : Int) := by omega
                      have hQ := IH w2 a' j m d2 hw.1 hw.2.1 j1 (by omega) (by omega) hm (Below.mono (Below.perm HO.out.2.2.2 hbd s1) (by omega))
                      go_wp2_with fail
                      refine hQ.mono ?_
                      rintro e w3 ⟨rfl, d3, hw3, t1, t2⟩
                      have H9 : Hid (PdqI w w3 base g cap n a b d (j + 1) b' d3) := by
                        have u := rest_left hbd s1 j1 j2 j3 j4 t1 t2
                        exact ⟨HO.out.2.1.trans (hw.trans hw3), HO.out.2.2.1.trans u.1, u.2⟩
                      clear hw s1 j3 j4 HO hw3 t1 t2 hQ
                      go_wp2
                      go_roundw
                      case rel => exact ⟨j + 1, b', m, _, r, d3, by go_num, rfl, rfl, rfl, rfl, by omega, by omega, h3, hm, H9⟩
                      case measure => simp [intOf]; omega
                    · have hlr' : ¬ (le : Int) < (ri : Int) := by omega
                      have hQ := IH w2 (j + 1) b' m d2 hw.1 hw.2.1 (by omega) (by omega) (by omega) hm (Or.inr fun t t1 t2 => by rw [Nat.add_sub_cancel]; exact j4 t t1 t2)
                      rw [show ((j + 1 : Nat) : Int) = (j : Int) + 1 from rfl] at hQ
                      go_wp2_with fail
                      refine hQ.mono ?_
                      rintro e w3 ⟨rfl, d3, hw3, t1, t2⟩
                      have H9 : Hid (PdqI w w3 base g cap n a b d a' j d3) := by
                        have u := rest_right hbd HO.out.2.2.2 s1 j1 j2 j3 j4 t1 t2
                        exact ⟨HO.out.2.1.trans (hw.trans hw3), HO.out.2.2.1.trans u.1, u.2⟩
                      clear hw s1 j3 j4 HO hw3 t1 t2 hQ
                      go_wp2
                      go_roundw
                      case rel => exact ⟨a', j, m, _, r, d3, rfl, rfl, rfl, rfl, rfl, h1, j1, by omega, hm, H9⟩
                      case measure => simp [intOf]; omega
theorem pdqU_any {w : World} {base g cap n : Nat} {d : Array Int} (h : UR w base g cap d) (hn : d.size = n) (hsz : n ≤ 1000000) : PdqU w base g cap n d := fun lim hl => (pdq_all base g cap n hsz (n + 1) w 0 n lim d h hn (Nat.zero_le _) (Nat.le_refl _) (by omega) hl (Or.inl rfl)).mono fun _ _ h => h
end Go.Proofs.Ytooaiomghbjpiaa
