/-
  THE LAW TopicStars, walked.
-/
import Derived.Test.YtihoijepnoleoaaDoorLaws
namespace Go.Proofs.YtihoijepnoleoaaDoor
open Go.RowKit Go.Shelf

/-- So many * with dots between: one more than m. -/
def starsT : Nat → Txt
  | 0 => [42]
  | m + 1 => starsT m ++ [46, 42]
theorem stars_pieces (m : Nat) : pieces (starsT m) = List.replicate (m + 1) [42] := by
  induction m with
  | zero => rfl
  | succ m ih =>
    show pieces (starsT m ++ 46 :: [42]) = _
    rw [pieces_append, ih, show pieces [42] = [[42]] from rfl, ← List.replicate_succ']
theorem stars_ne (m : Nat) : starsT m ≠ [] := by cases m <;> simp [starsT]
theorem stars_words (m : Nat) : wordsL (starsT m) = List.replicate (m + 1) [42] := by
  unfold wordsL
  rw [if_neg (by simpa using stars_ne m), stars_pieces]
theorem stars_len (m : Nat) : (starsT m).length = 2 * m + 1 := by
  induction m with
  | zero => rfl
  | succ m ih => simp [starsT, ih]; omega
theorem all_wild (l : List Txt) (h : ∀ w ∈ l, w = [42] ∨ w = [35]) : l.all (fun w => lettersB w || wildB w) = true := by
  rw [List.all_eq_true]
  intro w hw
  rcases h w hw with rfl | rfl <;> decide
theorem stars_pat (m : Nat) (hm : m ≤ 9) : patB (starsT m) = true := by
  unfold patB ofB
  rw [stars_words, stars_len, all_wild _ (fun w hw => .inl (List.eq_of_mem_replicate hw)), List.length_replicate]
  simp; omega
theorem stars_many_words (m : Nat) : wordsL (starsT m ++ [46, 35]) = List.replicate (m + 1) [42] ++ [[35]] := by
  rw [show starsT m ++ [46, 35] = starsT m ++ 46 :: [35] from rfl, wordsL_append _ _ (stars_ne m) (by simp), stars_words]
  rfl
theorem many_stars_words (m : Nat) : wordsL ([35, 46] ++ starsT m) = [35] :: List.replicate (m + 1) [42] := by
  rw [show [35, 46] ++ starsT m = [35] ++ 46 :: starsT m from rfl, wordsL_append _ _ (by simp) (stars_ne m), stars_words]
  rfl
theorem stars_match (m : Nat) (hm : m ≤ 9) (k : Txt) : matchB (starsT m) k = (keyB k && decide ((wordsL k).length = m + 1)) := by
  unfold matchB
  rw [stars_pat m hm, Bool.true_and, stars_words]
  cases hk : keyB k
  · rfl
  · rw [Bool.true_and, Bool.true_and, fits_stars _ _ (fun w hw => (key_words hk w hw).1)]
theorem stars_many_match (m : Nat) (hm : m ≤ 9) (k : Txt) : matchB (starsT m ++ [46, 35]) k = (keyB k && decide (m + 1 ≤ (wordsL k).length)) := by
  have hp : patB (starsT m ++ [46, 35]) = true := by
    unfold patB ofB
    rw [stars_many_words, List.length_append, stars_len, all_wild, List.length_append, List.length_replicate]
    · simp; omega
    · intro w hw
      rcases List.mem_append.1 hw with h | h
      · exact .inl (List.eq_of_mem_replicate h)
      · exact .inr (by simpa using h)
  unfold matchB
  rw [hp, Bool.true_and, stars_many_words]
  cases hk : keyB k
  · rfl
  · rw [Bool.true_and, Bool.true_and, fits_stars_many _ _ (fun w hw => (key_words hk w hw).1)]
theorem many_stars_match (m : Nat) (hm : m ≤ 9) (k : Txt) : matchB ([35, 46] ++ starsT m) k = (keyB k && decide (m + 1 ≤ (wordsL k).length)) := by
  have hp : patB ([35, 46] ++ starsT m) = true := by
    unfold patB ofB
    rw [many_stars_words, List.length_append, stars_len, all_wild]
    · simp; omega
    · intro w hw
      rcases List.mem_cons.1 hw with h | h
      · exact .inr h
      · exact .inl (List.eq_of_mem_replicate h)
  unfold matchB
  rw [hp, Bool.true_and, many_stars_words]
  cases hk : keyB k
  · rfl
  · rw [Bool.true_and, Bool.true_and, fits_many_stars _ _ (fun w hw => (key_words hk w hw).1)]

set_option maxHeartbeats 4000000 in
theorem stars_law (n : Int) (key : ByteArray) (w : World) (hn : 0 ≤ n ∧ n ≤ 18446744073709551615) (hk : key.size ≤ maxLen) :
    Calls Tryd.prog 8 #[.int .u64 n, .string key] w fun e w' => e = .returned (.bool true) ∧ Below w.heap.size w w' := by
  have gk := great_any key
  by_cases tk : (2000 : Int) < (key.size : Int)
  · rw [decide_eq_true tk] at gk
    go_enter Tryd.func8, Tryd.ntmps8
    go_wp2_with fail
    refine (gk _).mono ?_
    rintro e w ⟨rfl, rfl⟩
    go_wp2_with fail
    refine (lives_any _).mono ?_
    rintro e w1 ⟨rfl, hb1⟩
    go_wp2
    go_ret
    exact ⟨rfl, hb1⟩
  · rw [decide_eq_false tk] at gk
    obtain ⟨m, hm⟩ : ∃ m : Nat, n % 10 = m := ⟨(n % 10).toNat, by omega⟩
    have hm9 : m ≤ 9 := by omega
    obtain ⟨hn0, hn1⟩ := hn
    go_enter Tryd.func8, Tryd.ntmps8
    go_wp2_with fail
    refine (gk _).mono ?_
    rintro e w ⟨rfl, rfl⟩
    go_wp2
    rw [hm]
    clear hm hn0 hn1
    have hB0 := Below.refl w.heap.size w
    go_loop [6, 7] (fun p i => ∃ j : Nat, j ≤ m ∧ i = .int .i64 (1 + (j : Int)) ∧ p = .string (str (starsT j))) (fun _ i => m + 1 - (intOf i).toNat)
    case atStart => exact ⟨0, Nat.zero_le _, rfl, rfl⟩
    case round =>
      obtain ⟨j, hj, rfl, rfl⟩ := hrel
      by_cases hlt : j < m
      · have hadd : ∀ W, (Op.stringOp .add (str (starsT j)) ⟨#[46, 42]⟩).run Tryd.prog W = .ok (.string (str (starsT (j + 1)))) W := fun W => by
          rw [run_plus W _ _ (by rw [← txt_length, txt_str, stars_len]; omega) (by decide), txt_str]
          rfl
        go_wp2
        go_round
        case rel => exact ⟨j + 1, by omega, by go_num, rfl⟩
        case measure => simp [intOf]; omega
      · obtain rfl : j = m := by omega
        have hadd1 : ∀ W, (Op.stringOp .add (str (starsT j)) ⟨#[46, 35]⟩).run Tryd.prog W = .ok (.string (str (starsT j ++ [46, 35]))) W := fun W => by
          rw [run_plus W _ _ (by rw [← txt_length, txt_str, stars_len]; omega) (by decide), txt_str]
          rfl
        have hadd2 : ∀ W, (Op.stringOp .add ⟨#[35, 46]⟩ (str (starsT j))).run Tryd.prog W = .ok (.string (str ([35, 46] ++ starsT j))) W := fun W => by
          rw [run_plus W _ _ (by decide) (by rw [← txt_length, txt_str, stars_len]; omega), txt_str]
          rfl
        have m1 := match_any (str (starsT j)) key
        have m2 := match_any (str (starsT j ++ [46, 35])) key
        have m3 := match_any (str ([35, 46] ++ starsT j)) key
        rw [txt_str, stars_match j hm9] at m1
        rw [txt_str, stars_many_match j hm9] at m2
        rw [txt_str, many_stars_match j hm9] at m3
        have z1 : (str (starsT j)).size ≤ maxLen := by rw [← txt_length, txt_str, stars_len]; unfold maxLen; omega
        have z2 : (str (starsT j ++ [46, 35])).size ≤ maxLen := by rw [← txt_length, txt_str, List.length_append, stars_len]; simp [maxLen]; omega
        have z3 : (str ([35, 46] ++ starsT j)).size ≤ maxLen := by rw [← txt_length, txt_str, List.length_append, stars_len]; simp [maxLen]; omega
        have hl : (strs (wordsL (txt key))).length = (wordsL (txt key)).length := strs_length _
        have hle := wordsL_le (txt key)
        rw [txt_length] at hle
        have wk := fun w => words_any key w (by omega)
        have ck := key_any key
        generalize (wordsL (txt key)).length = L at *
        cases hK : keyB (txt key) <;> rw [hK] at m1 m2 m3 ck
        · rw [Bool.false_and] at m1 m2 m3
          go_wp2_with fail
          refine (wk _).mono ?_
          rintro e w1 ⟨v1, rfl, ho1, hb1⟩
          have hB1 := Below.on hB0 hb1
          obtain ⟨a1, c1, hv1⟩ := ho1.row.sliceStrs
          rw [hl] at hv1
          subst hv1
          clear ho1
          go_wp2_with fail
          refine (m1 _ z1 hk).mono ?_
          rintro e w2 ⟨rfl, hb2⟩
          have hB2 := Below.on hB1 hb2
          go_wp2_with fail
          refine (ck _ hk).mono ?_
          rintro e w3 ⟨rfl, hb3⟩
          have hB3 := Below.on hB2 hb3
          go_wp2_with fail
          refine (m2 _ z2 hk).mono ?_
          rintro e w4 ⟨rfl, hb4⟩
          have hB4 := Below.on hB3 hb4
          go_wp2_with fail
          refine (ck _ hk).mono ?_
          rintro e w5 ⟨rfl, hb5⟩
          have hB5 := Below.on hB4 hb5
          go_wp2_with fail
          refine (m3 _ z3 hk).mono ?_
          rintro e w6 ⟨rfl, hb6⟩
          have hB6 := Below.on hB5 hb6
          go_wp2_with fail
          refine (ck _ hk).mono ?_
          rintro e w7 ⟨rfl, hb7⟩
          have hB7 := Below.on hB6 hb7
          go_wp2_with fail
          refine (lives_any _).mono ?_
          rintro e w8 ⟨rfl, hb8⟩
          have hB8 := Below.on hB7 hb8
          go_wp2
          go_ret
          exact ⟨rfl, hB8⟩
        · rw [Bool.true_and] at m1 m2 m3
          have e1 : decide (L = j + 1) = ((L : Int) == 1 + (j : Int)) := by rw [Bool.eq_iff_iff, decide_eq_true_eq, beq_iff_eq]; omega
          have e2 : decide (j + 1 ≤ L) = decide (1 + (j : Int) ≤ (L : Int)) := by rw [Bool.eq_iff_iff, decide_eq_true_eq, decide_eq_true_eq]; omega
          rw [e1] at m1
          rw [e2] at m2 m3
          clear e1 e2
          go_wp2_with fail
          refine (wk _).mono ?_
          rintro e w1 ⟨v1, rfl, ho1, hb1⟩
          have hB1 := Below.on hB0 hb1
          obtain ⟨a1, c1, hv1⟩ := ho1.row.sliceStrs
          rw [hl] at hv1
          subst hv1
          clear ho1
          go_wp2_with fail
          refine (m1 _ z1 hk).mono ?_
          rintro e w2 ⟨rfl, hb2⟩
          have hB2 := Below.on hB1 hb2
          go_wp2_with fail
          refine (ck _ hk).mono ?_
          rintro e w3 ⟨rfl, hb3⟩
          have hB3 := Below.on hB2 hb3
          go_wp2_with fail
          refine (m2 _ z2 hk).mono ?_
          rintro e w4 ⟨rfl, hb4⟩
          have hB4 := Below.on hB3 hb4
          go_wp2_with fail
          refine (ck _ hk).mono ?_
          rintro e w5 ⟨rfl, hb5⟩
          have hB5 := Below.on hB4 hb5
          go_wp2_with fail
          refine (m3 _ z3 hk).mono ?_
          rintro e w6 ⟨rfl, hb6⟩
          have hB6 := Below.on hB5 hb6
          go_wp2_with fail
          refine (ck _ hk).mono ?_
          rintro e w7 ⟨rfl, hb7⟩
          have hB7 := Below.on hB6 hb7
          go_wp2_with fail
          refine (lives_any _).mono ?_
          rintro e w8 ⟨rfl, hb8⟩
          have hB8 := Below.on hB7 hb8
          go_wp2
          go_ret
          exact ⟨rfl, hB8⟩
end Go.Proofs.YtihoijepnoleoaaDoor
