/-
  THE LAWS of layer 5, walked: TopicNames, TopicMatches, TopicSelf, TopicOver.
-/
import Derived.Test.YtihoijepnoleoaaDoorLives
namespace Go.Proofs.YtihoijepnoleoaaDoor
open Go.RowKit Go.Shelf

theorem great_any (s : ByteArray) (w : World) : Calls Tryd.prog 9 #[.string s] w fun e w' => e = .returned (.bool (decide (2000 < (s.size : Int)))) ∧ w' = w := by
  go_enter Tryd.func9, Tryd.ntmps9
  go_wp2
  go_ret
  exact ⟨rfl, rfl⟩

theorem Below.on {w a b : World} (h : Below w.heap.size w a) (k : Below a.heap.size a b) : Below w.heap.size w b := h.trans (k.mono h.size)

set_option maxHeartbeats 2000000 in
theorem names_law (s : ByteArray) (w : World) (hs : s.size ≤ maxLen) :
    Calls Tryd.prog 3 #[.string s] w fun e w' => e = .returned (.bool true) ∧ Below w.heap.size w w' := by
  by_cases hg : (2000 : Int) < (s.size : Int)
  · have hg' : decide ((2000 : Int) < (s.size : Int)) = true := decide_eq_true hg
    have hgr := great_any s w
    rw [hg'] at hgr
    go_enter Tryd.func3, Tryd.ntmps3
    go_wp2_with fail
    refine hgr.mono ?_
    rintro e w ⟨rfl, rfl⟩
    go_wp2_with fail
    refine (lives_any _).mono ?_
    rintro e w1 ⟨rfl, hb1⟩
    go_wp2
    go_ret
    exact ⟨rfl, hb1⟩
  · have hg' : decide ((2000 : Int) < (s.size : Int)) = false := decide_eq_false hg
    have hgr := great_any s w
    rw [hg'] at hgr
    have hle := wordsL_le (txt s)
    rw [txt_length] at hle
    go_enter Tryd.func3, Tryd.ntmps3
    go_wp2_with fail
    refine hgr.mono ?_
    rintro e w ⟨rfl, rfl⟩
    go_wp2_with fail
    refine (name_any s _ hs).mono ?_
    rintro e w1 ⟨rfl, hB1⟩
    go_wp2_with fail
    refine (rname_any s _ hs).mono ?_
    rintro e w1 ⟨rfl, rfl⟩
    go_wp2_with fail
    refine (key_any s _ hs).mono ?_
    rintro e w2 ⟨rfl, hb2⟩
    have hB2 := Below.on hB1 hb2
    go_wp2_with fail
    refine (rkey_any s _ hs).mono ?_
    rintro e w3 ⟨rfl, hb3⟩
    have hB3 := Below.on hB2 hb3
    go_wp2_with fail
    refine (pattern_any s _ hs).mono ?_
    rintro e w4 ⟨rfl, hb4⟩
    have hB4 := Below.on hB3 hb4
    go_wp2_with fail
    refine (rpattern_any s _ hs).mono ?_
    rintro e w5 ⟨rfl, hb5⟩
    have hB5 := Below.on hB4 hb5
    go_wp2_with fail
    refine (words_any s _ (by omega)).mono ?_
    rintro e w6 ⟨v6, rfl, ho6, hb6⟩
    have hB6 := Below.on hB5 hb6
    go_wp2_with fail
    refine (rwords_any s _ (by omega)).mono ?_
    rintro e w7 ⟨v7, rfl, ho7, hb7⟩
    have hB7 := Below.on hB6 hb7
    have htx := texts_any w7 v6 v7 _ _ (ho6.row.below hb7 (Nat.le_refl _)) ho7.row (by rw [strs_length]; omega) (by rw [strs_length]; omega)
    rw [show ((strs (wordsL (txt s))).map txt == (strs (wordsL (txt s))).map txt) = true from by simp] at htx
    go_wp2_with fail
    refine htx.mono ?_
    rintro e w8 ⟨rfl, n8, rfl⟩
    have hB8 := Below.on hB7 (below_drewN w7 n8 _)
    go_wp2_with fail
    refine (lives_any _).mono ?_
    rintro e w9 ⟨rfl, hb9⟩
    go_wp2
    go_ret
    exact ⟨rfl, Below.on hB8 hb9⟩

theorem match_all (k : Txt) : matchB [35] k = keyB k := by
  have h : patB [35] = true := by decide
  unfold matchB
  rw [h, show wordsL [35] = [[35]] from rfl, fits_all]
  simp
theorem over_all (k : Txt) : overB [35] k = patB k := by
  have h : patB [35] = true := by decide
  unfold overB
  rw [h, show wordsL [35] = [[35]] from rfl, fits_all]
  simp
theorem over_self (a : Txt) : overB a a = patB a := by
  unfold overB
  rw [fits_refl]
  simp
theorem match_self {a b : Txt} (h : keyB a = true) : matchB a b = (a == b) := by
  unfold matchB
  rw [keyB_pat h, Bool.eq_iff_iff, Bool.true_and, Bool.and_eq_true, fits_self_only _ _ (key_words h), beq_iff_eq]
  constructor
  · rintro ⟨_, e⟩
    exact wordsL_inj e
  · rintro rfl
    exact ⟨h, rfl⟩
theorem match_over {a b s : Txt} (h1 : overB a b = true) (h2 : matchB b s = true) : matchB a s = true := by
  unfold overB at h1
  unfold matchB at h2 ⊢
  simp only [Bool.and_eq_true] at h1 h2 ⊢
  exact ⟨⟨h1.1.1, h2.1.2⟩, fits_trans _ _ _ h1.2 h2.2⟩
theorem over_over {a b s : Txt} (h1 : overB a b = true) (h2 : overB b s = true) : overB a s = true := by
  unfold overB at *
  simp only [Bool.and_eq_true] at h1 h2 ⊢
  exact ⟨⟨h1.1.1, h2.1.2⟩, fits_trans _ _ _ h1.2 h2.2⟩
end Go.Proofs.YtihoijepnoleoaaDoor
