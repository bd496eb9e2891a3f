/-
  THE LAWS of layer 5, walked: TopicMatches, TopicSelf, TopicOver (written by gen-laws.py).
-/
import Derived.Test.YtihoijepnoleoaaDoorLaws
namespace Go.Proofs.YtihoijepnoleoaaDoor
open Go.RowKit Go.Shelf

set_option maxHeartbeats 2000000 in
theorem matches_law (p k o : ByteArray) (w : World) (hp : p.size ≤ maxLen) (hk : k.size ≤ maxLen) (ho : o.size ≤ maxLen) :
    Calls Tryd.prog 4 #[.string p, .string k, .string o] w fun e w' => e = .returned (.bool true) ∧ Below w.heap.size w w' := by
  have gp := great_any p
  have gk := great_any k
  have go := great_any o
  by_cases tp : (2000 : Int) < (p.size : Int)
  · rw [decide_eq_true tp] at gp
    go_enter Tryd.func4, Tryd.ntmps4
    have hB0 := Below.refl w.heap.size w
    go_wp2_with fail
    refine (gp _).mono ?_
    rintro e w' ⟨rfl, hw'⟩
    subst w'
    go_wp2_with fail
    refine (lives_any _).mono ?_
    rintro e w1 ⟨rfl, hb1⟩
    have hB1 := Below.on hB0 hb1
    go_wp2
    go_ret
    exact ⟨rfl, hB1⟩
  · rw [decide_eq_false tp] at gp
    by_cases tk : (2000 : Int) < (k.size : Int)
    · rw [decide_eq_true tk] at gk
      go_enter Tryd.func4, Tryd.ntmps4
      have hB0 := Below.refl w.heap.size w
      go_wp2_with fail
      refine (gp _).mono ?_
      rintro e w' ⟨rfl, hw'⟩
      subst w'
      go_wp2_with fail
      refine (gk _).mono ?_
      rintro e w' ⟨rfl, hw'⟩
      subst w'
      go_wp2_with fail
      refine (lives_any _).mono ?_
      rintro e w1 ⟨rfl, hb1⟩
      have hB1 := Below.on hB0 hb1
      go_wp2
      go_ret
      exact ⟨rfl, hB1⟩
    · rw [decide_eq_false tk] at gk
      by_cases to : (2000 : Int) < (o.size : Int)
      · rw [decide_eq_true to] at go
        go_enter Tryd.func4, Tryd.ntmps4
        have hB0 := Below.refl w.heap.size w
        go_wp2_with fail
        refine (gp _).mono ?_
        rintro e w' ⟨rfl, hw'⟩
        subst w'
        go_wp2_with fail
        refine (gk _).mono ?_
        rintro e w' ⟨rfl, hw'⟩
        subst w'
        go_wp2_with fail
        refine (go _).mono ?_
        rintro e w' ⟨rfl, hw'⟩
        subst w'
        go_wp2_with fail
        refine (lives_any _).mono ?_
        rintro e w1 ⟨rfl, hb1⟩
        have hB1 := Below.on hB0 hb1
        go_wp2
        go_ret
        exact ⟨rfl, hB1⟩
      · rw [decide_eq_false to] at go
        go_enter Tryd.func4, Tryd.ntmps4
        have hB0 := Below.refl w.heap.size w
        go_wp2_with fail
        refine (gp _).mono ?_
        rintro e w' ⟨rfl, hw'⟩
        subst w'
        go_wp2_with fail
        refine (gk _).mono ?_
        rintro e w' ⟨rfl, hw'⟩
        subst w'
        go_wp2_with fail
        refine (go _).mono ?_
        rintro e w' ⟨rfl, hw'⟩
        subst w'
        go_wp2_with fail
        refine (match_any p k _ hp hk).mono ?_
        rintro e w1 ⟨rfl, hb1⟩
        have hB1 := Below.on hB0 hb1
        go_wp2_with fail
        refine (rmatch_any p k _ hp hk).mono ?_
        rintro e w2 ⟨rfl, hb2⟩
        have hB2 := Below.on hB1 hb2
        go_wp2_with fail
        refine (over_any p o _ hp ho).mono ?_
        rintro e w3 ⟨rfl, hb3⟩
        have hB3 := Below.on hB2 hb3
        go_wp2_with fail
        refine (rover_any p o _ hp ho).mono ?_
        rintro e w4 ⟨rfl, hb4⟩
        have hB4 := Below.on hB3 hb4
        go_wp2_with fail
        refine (lives_any _).mono ?_
        rintro e w5 ⟨rfl, hb5⟩
        have hB5 := Below.on hB4 hb5
        go_wp2
        go_ret
        exact ⟨rfl, hB5⟩

set_option maxHeartbeats 2000000 in
theorem self_law (a b : ByteArray) (w : World) (ha : a.size ≤ maxLen) (hb : b.size ≤ maxLen) :
    Calls Tryd.prog 5 #[.string a, .string b] w fun e w' => e = .returned (.bool true) ∧ Below w.heap.size w w' := by
  have ga := great_any a
  have gb := great_any b
  by_cases ta : (2000 : Int) < (a.size : Int)
  · rw [decide_eq_true ta] at ga
    go_enter Tryd.func5, Tryd.ntmps5
    have hB0 := Below.refl w.heap.size w
    go_wp2_with fail
    refine (ga _).mono ?_
    rintro e w' ⟨rfl, hw'⟩
    subst w'
    go_wp2_with fail
    refine (lives_any _).mono ?_
    rintro e w1 ⟨rfl, hb1⟩
    have hB1 := Below.on hB0 hb1
    go_wp2
    go_ret
    exact ⟨rfl, hB1⟩
  · rw [decide_eq_false ta] at ga
    by_cases tb : (2000 : Int) < (b.size : Int)
    · rw [decide_eq_true tb] at gb
      go_enter Tryd.func5, Tryd.ntmps5
      have hB0 := Below.refl w.heap.size w
      go_wp2_with fail
      refine (ga _).mono ?_
      rintro e w' ⟨rfl, hw'⟩
      subst w'
      go_wp2_with fail
      refine (gb _).mono ?_
      rintro e w' ⟨rfl, hw'⟩
      subst w'
      go_wp2_with fail
      refine (lives_any _).mono ?_
      rintro e w1 ⟨rfl, hb1⟩
      have hB1 := Below.on hB0 hb1
      go_wp2
      go_ret
      exact ⟨rfl, hB1⟩
    · rw [decide_eq_false tb] at gb
      have cm := match_any ⟨#[35]⟩ a
      have co := over_any ⟨#[35]⟩ a
      have cs := over_any a a
      rw [show matchB (txt ⟨#[35]⟩) (txt a) = keyB (txt a) from match_all _] at cm
      rw [show overB (txt ⟨#[35]⟩) (txt a) = patB (txt a) from over_all _] at co
      rw [over_self] at cs
      cases hK : keyB (txt a)
      · have ck := key_any a
        rw [hK] at ck cm
        go_enter Tryd.func5, Tryd.ntmps5
        have hB0 := Below.refl w.heap.size w
        go_wp2_with fail
        refine (ga _).mono ?_
        rintro e w' ⟨rfl, hw'⟩
        subst w'
        go_wp2_with fail
        refine (gb _).mono ?_
        rintro e w' ⟨rfl, hw'⟩
        subst w'
        go_wp2_with fail
        refine (ck _ ha).mono ?_
        rintro e w1 ⟨rfl, hb1⟩
        have hB1 := Below.on hB0 hb1
        go_wp2_with fail
        refine (cm _ (small _) ha).mono ?_
        rintro e w2 ⟨rfl, hb2⟩
        have hB2 := Below.on hB1 hb2
        go_wp2_with fail
        refine (ck _ ha).mono ?_
        rintro e w3 ⟨rfl, hb3⟩
        have hB3 := Below.on hB2 hb3
        go_wp2_with fail
        refine (co _ (small _) ha).mono ?_
        rintro e w4 ⟨rfl, hb4⟩
        have hB4 := Below.on hB3 hb4
        go_wp2_with fail
        refine (pattern_any a _ ha).mono ?_
        rintro e w5 ⟨rfl, hb5⟩
        have hB5 := Below.on hB4 hb5
        go_wp2_with fail
        refine (cs _ ha ha).mono ?_
        rintro e w6 ⟨rfl, hb6⟩
        have hB6 := Below.on hB5 hb6
        go_wp2_with fail
        refine (pattern_any a _ ha).mono ?_
        rintro e w7 ⟨rfl, hb7⟩
        have hB7 := Below.on hB6 hb7
        go_wp2_with fail
        refine (ck _ ha).mono ?_
        rintro e w8 ⟨rfl, hb8⟩
        have hB8 := Below.on hB7 hb8
        go_wp2_with fail
        refine (lives_any _).mono ?_
        rintro e w9 ⟨rfl, hb9⟩
        have hB9 := Below.on hB8 hb9
        go_wp2
        go_ret
        exact ⟨rfl, hB9⟩
      · have ck := key_any a
        have cp := pattern_any a
        have cb := match_any a b
        have hab : (a.toList == b.toList) = matchB (txt a) (txt b) := by
          rw [ByteArray.toList_eq, ByteArray.toList_eq, match_self hK]
          rfl
        rw [hK] at ck cm
        rw [keyB_pat hK] at cp co cs
        go_enter Tryd.func5, Tryd.ntmps5
        have hB0 := Below.refl w.heap.size w
        go_wp2_with fail
        refine (ga _).mono ?_
        rintro e w' ⟨rfl, hw'⟩
        subst w'
        go_wp2_with fail
        refine (gb _).mono ?_
        rintro e w' ⟨rfl, hw'⟩
        subst w'
        go_wp2_with fail
        refine (ck _ ha).mono ?_
        rintro e w1 ⟨rfl, hb1⟩
        have hB1 := Below.on hB0 hb1
        go_wp2_with fail
        refine (cb _ ha hb).mono ?_
        rintro e w2 ⟨rfl, hb2⟩
        have hB2 := Below.on hB1 hb2
        go_wp2_with fail
        refine (cm _ (small _) ha).mono ?_
        rintro e w3 ⟨rfl, hb3⟩
        have hB3 := Below.on hB2 hb3
        go_wp2_with fail
        refine (ck _ ha).mono ?_
        rintro e w4 ⟨rfl, hb4⟩
        have hB4 := Below.on hB3 hb4
        go_wp2_with fail
        refine (co _ (small _) ha).mono ?_
        rintro e w5 ⟨rfl, hb5⟩
        have hB5 := Below.on hB4 hb5
        go_wp2_with fail
        refine (cp _ ha).mono ?_
        rintro e w6 ⟨rfl, hb6⟩
        have hB6 := Below.on hB5 hb6
        go_wp2_with fail
        refine (cs _ ha ha).mono ?_
        rintro e w7 ⟨rfl, hb7⟩
        have hB7 := Below.on hB6 hb7
        go_wp2_with fail
        refine (cp _ ha).mono ?_
        rintro e w8 ⟨rfl, hb8⟩
        have hB8 := Below.on hB7 hb8
        go_wp2_with fail
        refine (ck _ ha).mono ?_
        rintro e w9 ⟨rfl, hb9⟩
        have hB9 := Below.on hB8 hb9
        go_wp2_with fail
        refine (cp _ ha).mono ?_
        rintro e w10 ⟨rfl, hb10⟩
        have hB10 := Below.on hB9 hb10
        go_wp2_with fail
        refine (lives_any _).mono ?_
        rintro e w11 ⟨rfl, hb11⟩
        have hB11 := Below.on hB10 hb11
        go_wp2
        go_ret
        exact ⟨rfl, hB11⟩

set_option maxHeartbeats 2000000 in
theorem over_law (a b s : ByteArray) (w : World) (ha : a.size ≤ maxLen) (hb : b.size ≤ maxLen) (hs : s.size ≤ maxLen) :
    Calls Tryd.prog 6 #[.string a, .string b, .string s] w fun e w' => e = .returned (.bool true) ∧ Below w.heap.size w w' := by
  have ga := great_any a
  have gb := great_any b
  have gs := great_any s
  by_cases ta : (2000 : Int) < (a.size : Int)
  · rw [decide_eq_true ta] at ga
    go_enter Tryd.func6, Tryd.ntmps6
    have hB0 := Below.refl w.heap.size w
    go_wp2_with fail
    refine (ga _).mono ?_
    rintro e w' ⟨rfl, hw'⟩
    subst w'
    go_wp2_with fail
    refine (lives_any _).mono ?_
    rintro e w1 ⟨rfl, hb1⟩
    have hB1 := Below.on hB0 hb1
    go_wp2
    go_ret
    exact ⟨rfl, hB1⟩
  · rw [decide_eq_false ta] at ga
    by_cases tb : (2000 : Int) < (b.size : Int)
    · rw [decide_eq_true tb] at gb
      go_enter Tryd.func6, Tryd.ntmps6
      have hB0 := Below.refl w.heap.size w
      go_wp2_with fail
      refine (ga _).mono ?_
      rintro e w' ⟨rfl, hw'⟩
      subst w'
      go_wp2_with fail
      refine (gb _).mono ?_
      rintro e w' ⟨rfl, hw'⟩
      subst w'
      go_wp2_with fail
      refine (lives_any _).mono ?_
      rintro e w1 ⟨rfl, hb1⟩
      have hB1 := Below.on hB0 hb1
      go_wp2
      go_ret
      exact ⟨rfl, hB1⟩
    · rw [decide_eq_false tb] at gb
      by_cases ts : (2000 : Int) < (s.size : Int)
      · rw [decide_eq_true ts] at gs
        go_enter Tryd.func6, Tryd.ntmps6
        have hB0 := Below.refl w.heap.size w
        go_wp2_with fail
        refine (ga _).mono ?_
        rintro e w' ⟨rfl, hw'⟩
        subst w'
        go_wp2_with fail
        refine (gb _).mono ?_
        rintro e w' ⟨rfl, hw'⟩
        subst w'
        go_wp2_with fail
        refine (gs _).mono ?_
        rintro e w' ⟨rfl, hw'⟩
        subst w'
        go_wp2_with fail
        refine (lives_any _).mono ?_
        rintro e w1 ⟨rfl, hb1⟩
        have hB1 := Below.on hB0 hb1
        go_wp2
        go_ret
        exact ⟨rfl, hB1⟩
      · rw [decide_eq_false ts] at gs
        have cab := over_any a b
        have cbs := match_any b s
        have cas := match_any a s
        have obs := over_any b s
        have oas := over_any a s
        cases h1 : overB (txt a) (txt b)
        · rw [h1] at cab
          go_enter Tryd.func6, Tryd.ntmps6
          have hB0 := Below.refl w.heap.size w
          go_wp2_with fail
          refine (ga _).mono ?_
          rintro e w' ⟨rfl, hw'⟩
          subst w'
          go_wp2_with fail
          refine (gb _).mono ?_
          rintro e w' ⟨rfl, hw'⟩
          subst w'
          go_wp2_with fail
          refine (gs _).mono ?_
          rintro e w' ⟨rfl, hw'⟩
          subst w'
          go_wp2_with fail
          refine (cab _ ha hb).mono ?_
          rintro e w1 ⟨rfl, hb1⟩
          have hB1 := Below.on hB0 hb1
          go_wp2_with fail
          refine (lives_any _).mono ?_
          rintro e w2 ⟨rfl, hb2⟩
          have hB2 := Below.on hB1 hb2
          go_wp2
          go_ret
          exact ⟨rfl, hB2⟩
        · rw [h1] at cab
          cases h2 : matchB (txt b) (txt s) <;> cases h3 : overB (txt b) (txt s) <;> rw [h2] at cbs <;> rw [h3] at obs
          · go_enter Tryd.func6, Tryd.ntmps6
            have hB0 := Below.refl w.heap.size w
            go_wp2_with fail
            refine (ga _).mono ?_
            rintro e w' ⟨rfl, hw'⟩
            subst w'
            go_wp2_with fail
            refine (gb _).mono ?_
            rintro e w' ⟨rfl, hw'⟩
            subst w'
            go_wp2_with fail
            refine (gs _).mono ?_
            rintro e w' ⟨rfl, hw'⟩
            subst w'
            go_wp2_with fail
            refine (cab _ ha hb).mono ?_
            rintro e w1 ⟨rfl, hb1⟩
            have hB1 := Below.on hB0 hb1
            go_wp2_with fail
            refine (cbs _ hb hs).mono ?_
            rintro e w2 ⟨rfl, hb2⟩
            have hB2 := Below.on hB1 hb2
            go_wp2_with fail
            refine (obs _ hb hs).mono ?_
            rintro e w3 ⟨rfl, hb3⟩
            have hB3 := Below.on hB2 hb3
            go_wp2_with fail
            refine (lives_any _).mono ?_
            rintro e w4 ⟨rfl, hb4⟩
            have hB4 := Below.on hB3 hb4
            go_wp2
            go_ret
            exact ⟨rfl, hB4⟩
          · rw [over_over h1 h3] at oas
            go_enter Tryd.func6, Tryd.ntmps6
            have hB0 := Below.refl w.heap.size w
            go_wp2_with fail
            refine (ga _).mono ?_
            rintro e w' ⟨rfl, hw'⟩
            subst w'
            go_wp2_with fail
            refine (gb _).mono ?_
            rintro e w' ⟨rfl, hw'⟩
            subst w'
            go_wp2_with fail
            refine (gs _).mono ?_
            rintro e w' ⟨rfl, hw'⟩
            subst w'
            go_wp2_with fail
            refine (cab _ ha hb).mono ?_
            rintro e w1 ⟨rfl, hb1⟩
            have hB1 := Below.on hB0 hb1
            go_wp2_with fail
            refine (cbs _ hb hs).mono ?_
            rintro e w2 ⟨rfl, hb2⟩
            have hB2 := Below.on hB1 hb2
            go_wp2_with fail
            refine (obs _ hb hs).mono ?_
            rintro e w3 ⟨rfl, hb3⟩
            have hB3 := Below.on hB2 hb3
            go_wp2_with fail
            refine (oas _ ha hs).mono ?_
            rintro e w4 ⟨rfl, hb4⟩
            have hB4 := Below.on hB3 hb4
            go_wp2_with fail
            refine (lives_any _).mono ?_
            rintro e w5 ⟨rfl, hb5⟩
            have hB5 := Below.on hB4 hb5
            go_wp2
            go_ret
            exact ⟨rfl, hB5⟩
          · rw [match_over h1 h2] at cas
            go_enter Tryd.func6, Tryd.ntmps6
            have hB0 := Below.refl w.heap.size w
            go_wp2_with fail
            refine (ga _).mono ?_
            rintro e w' ⟨rfl, hw'⟩
            subst w'
            go_wp2_with fail
            refine (gb _).mono ?_
            rintro e w' ⟨rfl, hw'⟩
            subst w'
            go_wp2_with fail
            refine (gs _).mono ?_
            rintro e w' ⟨rfl, hw'⟩
            subst w'
            go_wp2_with fail
            refine (cab _ ha hb).mono ?_
            rintro e w1 ⟨rfl, hb1⟩
            have hB1 := Below.on hB0 hb1
            go_wp2_with fail
            refine (cbs _ hb hs).mono ?_
            rintro e w2 ⟨rfl, hb2⟩
            have hB2 := Below.on hB1 hb2
            go_wp2_with fail
            refine (cas _ ha hs).mono ?_
            rintro e w3 ⟨rfl, hb3⟩
            have hB3 := Below.on hB2 hb3
            go_wp2_with fail
            refine (obs _ hb hs).mono ?_
            rintro e w4 ⟨rfl, hb4⟩
            have hB4 := Below.on hB3 hb4
            go_wp2_with fail
            refine (lives_any _).mono ?_
            rintro e w5 ⟨rfl, hb5⟩
            have hB5 := Below.on hB4 hb5
            go_wp2
            go_ret
            exact ⟨rfl, hB5⟩
          · rw [match_over h1 h2] at cas
            rw [over_over h1 h3] at oas
            go_enter Tryd.func6, Tryd.ntmps6
            have hB0 := Below.refl w.heap.size w
            go_wp2_with fail
            refine (ga _).mono ?_
            rintro e w' ⟨rfl, hw'⟩
            subst w'
            go_wp2_with fail
            refine (gb _).mono ?_
            rintro e w' ⟨rfl, hw'⟩
            subst w'
            go_wp2_with fail
            refine (gs _).mono ?_
            rintro e w' ⟨rfl, hw'⟩
            subst w'
            go_wp2_with fail
            refine (cab _ ha hb).mono ?_
            rintro e w1 ⟨rfl, hb1⟩
            have hB1 := Below.on hB0 hb1
            go_wp2_with fail
            refine (cbs _ hb hs).mono ?_
            rintro e w2 ⟨rfl, hb2⟩
            have hB2 := Below.on hB1 hb2
            go_wp2_with fail
            refine (cas _ ha hs).mono ?_
            rintro e w3 ⟨rfl, hb3⟩
            have hB3 := Below.on hB2 hb3
            go_wp2_with fail
            refine (obs _ hb hs).mono ?_
            rintro e w4 ⟨rfl, hb4⟩
            have hB4 := Below.on hB3 hb4
            go_wp2_with fail
            refine (oas _ ha hs).mono ?_
            rintro e w5 ⟨rfl, hb5⟩
            have hB5 := Below.on hB4 hb5
            go_wp2_with fail
            refine (lives_any _).mono ?_
            rintro e w6 ⟨rfl, hb6⟩
            have hB6 := Below.on hB5 hb6
            go_wp2
            go_ret
            exact ⟨rfl, hB6⟩
end Go.Proofs.YtihoijepnoleoaaDoor
