/-
  THE LAW TopicJoins, walked (written by gen-joins.py).
-/
import Derived.Test.YtihoijepnoleoaaDoorLaws
namespace Go.Proofs.YtihoijepnoleoaaDoor
open Go.RowKit Go.Shelf

theorem ofB_append {may : Txt → Bool} {a b : Txt} (ha : ofB may a = true) (hb : ofB may b = true) (a0 : a ≠ []) (b0 : b ≠ []) (hl : a.length + b.length ≤ 59) (hw : (wordsL (a ++ 46 :: b)).length ≤ 12) : ofB may (a ++ 46 :: b) = true := by
  unfold ofB at *
  simp only [Bool.and_eq_true, decide_eq_true_eq] at ha hb ⊢
  refine ⟨⟨by simp; omega, ?_⟩, hw⟩
  rw [wordsL_append a b a0 b0, List.all_append, ha.1.2, hb.1.2]
  rfl
theorem joins_math {p q s : Txt} (hp : matchB p s = true) (hq : matchB q s = true) (p0 : p ≠ []) (q0 : q ≠ []) (s0 : s ≠ []) (lp : p.length ≤ 28) (lq : q.length ≤ 28) (ls : s.length ≤ 28)
    (wk : (wordsL (s ++ 46 :: s)).length ≤ 12) (wx : (wordsL (p ++ 46 :: q)).length ≤ 12) : matchB (p ++ 46 :: q) (s ++ 46 :: s) = true := by
  unfold matchB at *
  simp only [Bool.and_eq_true] at hp hq ⊢
  refine ⟨⟨ofB_append hp.1.1 hq.1.1 p0 q0 (by omega) wx, ofB_append hp.1.2 hp.1.2 s0 s0 (by omega) wk⟩, ?_⟩
  rw [wordsL_append p q p0 q0, wordsL_append s s s0 s0, fits_append]
  exact ⟨(wordsL s).length, by simp, by rw [List.take_left]; exact hp.2, by rw [List.drop_left]; exact hq.2⟩

set_option maxHeartbeats 4000000 in
theorem joins_law (p q s : ByteArray) (w : World) (hp : p.size ≤ maxLen) (hq : q.size ≤ maxLen) (hs : s.size ≤ maxLen) :
    Calls Tryd.prog 7 #[.string p, .string q, .string s] w fun e w' => e = .returned (.bool true) ∧ Below w.heap.size w w' := by
  by_cases t0 : (28 : Int) < (p.size : Int)
  · go_enter Tryd.func7, Tryd.ntmps7
    have hB0 := Below.refl w.heap.size w
    go_wp2_with fail
    refine (lives_any _).mono ?_
    rintro e w1 ⟨rfl, hb1⟩
    have hB1 := Below.on hB0 hb1
    go_wp2
    go_ret
    exact ⟨rfl, hB1⟩
  · have n0 : (p.size : Int) ≤ 28 := by omega
    by_cases t1 : (28 : Int) < (q.size : Int)
    · go_enter Tryd.func7, Tryd.ntmps7
      have hB0 := Below.refl w.heap.size w
      go_wp2_with fail
      refine (lives_any _).mono ?_
      rintro e w1 ⟨rfl, hb1⟩
      have hB1 := Below.on hB0 hb1
      go_wp2
      go_ret
      exact ⟨rfl, hB1⟩
    · have n1 : (q.size : Int) ≤ 28 := by omega
      by_cases t2 : (28 : Int) < (s.size : Int)
      · go_enter Tryd.func7, Tryd.ntmps7
        have hB0 := Below.refl w.heap.size w
        go_wp2_with fail
        refine (lives_any _).mono ?_
        rintro e w1 ⟨rfl, hb1⟩
        have hB1 := Below.on hB0 hb1
        go_wp2
        go_ret
        exact ⟨rfl, hB1⟩
      · have n2 : (s.size : Int) ≤ 28 := by omega
        cases e0 : p.toList.isEmpty
        rotate_left
        · go_enter Tryd.func7, Tryd.ntmps7
          have hB0 := Below.refl w.heap.size w
          go_wp2_with fail
          refine (lives_any _).mono ?_
          rintro e w1 ⟨rfl, hb1⟩
          have hB1 := Below.on hB0 hb1
          go_wp2
          go_ret
          exact ⟨rfl, hB1⟩
        cases e1 : q.toList.isEmpty
        rotate_left
        · go_enter Tryd.func7, Tryd.ntmps7
          have hB0 := Below.refl w.heap.size w
          go_wp2_with fail
          refine (lives_any _).mono ?_
          rintro e w1 ⟨rfl, hb1⟩
          have hB1 := Below.on hB0 hb1
          go_wp2
          go_ret
          exact ⟨rfl, hB1⟩
        cases e2 : s.toList.isEmpty
        rotate_left
        · go_enter Tryd.func7, Tryd.ntmps7
          have hB0 := Below.refl w.heap.size w
          go_wp2_with fail
          refine (lives_any _).mono ?_
          rintro e w1 ⟨rfl, hb1⟩
          have hB1 := Below.on hB0 hb1
          go_wp2
          go_ret
          exact ⟨rfl, hB1⟩
        have ck := key_any s
        have cp := match_any p s
        have cq := match_any q s
        cases hK : keyB (txt s) <;> rw [hK] at ck
        · go_enter Tryd.func7, Tryd.ntmps7
          have hB0 := Below.refl w.heap.size w
          go_wp2_with fail
          refine (ck _ hs).mono ?_
          rintro e w1 ⟨rfl, hb1⟩
          have hB1 := Below.on hB0 hb1
          go_wp2_with fail
          refine (lives_any _).mono ?_
          rintro e w2 ⟨rfl, hb2⟩
          have hB2 := Below.on hB1 hb2
          go_wp2
          go_ret
          exact ⟨rfl, hB2⟩
        cases hP : matchB (txt p) (txt s) <;> rw [hP] at cp
        · go_enter Tryd.func7, Tryd.ntmps7
          have hB0 := Below.refl w.heap.size w
          go_wp2_with fail
          refine (ck _ hs).mono ?_
          rintro e w1 ⟨rfl, hb1⟩
          have hB1 := Below.on hB0 hb1
          go_wp2_with fail
          refine (cp _ hp hs).mono ?_
          rintro e w2 ⟨rfl, hb2⟩
          have hB2 := Below.on hB1 hb2
          go_wp2_with fail
          refine (lives_any _).mono ?_
          rintro e w3 ⟨rfl, hb3⟩
          have hB3 := Below.on hB2 hb3
          go_wp2
          go_ret
          exact ⟨rfl, hB3⟩
        cases hQ : matchB (txt q) (txt s) <;> rw [hQ] at cq
        · go_enter Tryd.func7, Tryd.ntmps7
          have hB0 := Below.refl w.heap.size w
          go_wp2_with fail
          refine (ck _ hs).mono ?_
          rintro e w1 ⟨rfl, hb1⟩
          have hB1 := Below.on hB0 hb1
          go_wp2_with fail
          refine (cp _ hp hs).mono ?_
          rintro e w2 ⟨rfl, hb2⟩
          have hB2 := Below.on hB1 hb2
          go_wp2_with fail
          refine (cq _ hq hs).mono ?_
          rintro e w3 ⟨rfl, hb3⟩
          have hB3 := Below.on hB2 hb3
          go_wp2_with fail
          refine (lives_any _).mono ?_
          rintro e w4 ⟨rfl, hb4⟩
          have hB4 := Below.on hB3 hb4
          go_wp2
          go_ret
          exact ⟨rfl, hB4⟩
        have ne : ∀ v : ByteArray, v.toList.isEmpty = false → txt v ≠ [] := fun v h e => by
          rw [ByteArray.toList_eq, show v.data.toList = [] from e] at h
          cases h
        obtain ⟨k, hk⟩ : ∃ k, str (txt s ++ 46 :: txt s) = k := ⟨_, rfl⟩
        obtain ⟨x, hx⟩ : ∃ x, str (txt p ++ 46 :: txt q) = x := ⟨_, rfl⟩
        have tk : txt k = txt s ++ 46 :: txt s := by rw [← hk, txt_str]
        have tx : txt x = txt p ++ 46 :: txt q := by rw [← hx, txt_str]
        have zk : k.size ≤ 57 := by rw [← txt_length, tk]; simp [txt_length]; omega
        have zx : x.size ≤ 57 := by rw [← txt_length, tx]; simp [txt_length]; omega
        have a1 : ∀ W, (Op.stringOp .add s ⟨#[46]⟩).run Tryd.prog W = .ok (.string (str (txt s ++ [46]))) W := fun W => run_plus W s ⟨#[46]⟩ (by omega) (by decide)
        have a2 : ∀ W, (Op.stringOp .add (str (txt s ++ [46])) s).run Tryd.prog W = .ok (.string k) W := fun W => by
          rw [run_plus W _ s (by rw [← txt_length, txt_str]; simp [txt_length]; omega) (by omega), txt_str, ← hk, List.append_assoc]
          rfl
        have a3 : ∀ W, (Op.stringOp .add p ⟨#[46]⟩).run Tryd.prog W = .ok (.string (str (txt p ++ [46]))) W := fun W => run_plus W p ⟨#[46]⟩ (by omega) (by decide)
        have a4 : ∀ W, (Op.stringOp .add (str (txt p ++ [46])) q).run Tryd.prog W = .ok (.string x) W := fun W => by
          rw [run_plus W _ q (by rw [← txt_length, txt_str]; simp [txt_length]; omega) (by omega), txt_str, ← hx, List.append_assoc]
          rfl
        have cm := match_any x k
        have hmath : (wordsL (txt k)).length ≤ 12 → (wordsL (txt x)).length ≤ 12 → matchB (txt x) (txt k) = true := fun h1 h2 => by
          rw [tk] at h1 ⊢
          rw [tx] at h2 ⊢
          exact joins_math hP hQ (ne p e0) (ne q e1) (ne s e2) (by rw [txt_length]; omega) (by rw [txt_length]; omega) (by rw [txt_length]; omega) h1 h2
        have hlk : (strs (wordsL (txt k))).length = (wordsL (txt k)).length := strs_length _
        have hlx : (strs (wordsL (txt x))).length = (wordsL (txt x)).length := strs_length _
        clear hk hx tk tx ne
        generalize hnk : (wordsL (txt k)).length = nk at *
        generalize hnx : (wordsL (txt x)).length = nx at *
        have wk := fun w => words_any k w (by omega)
        have wx := fun w => words_any x w (by omega)
        have bk : nk ≤ 58 := by have := wordsL_le (txt k); rw [txt_length] at this; omega
        have bx : nx ≤ 58 := by have := wordsL_le (txt x); rw [txt_length] at this; omega
        clear hnk hnx
        by_cases gk : (12 : Int) < (nk : Int)
        · go_enter Tryd.func7, Tryd.ntmps7
          have hB0 := Below.refl w.heap.size w
          go_wp2_with fail
          refine (ck _ hs).mono ?_
          rintro e w1 ⟨rfl, hb1⟩
          have hB1 := Below.on hB0 hb1
          go_wp2_with fail
          refine (cp _ hp hs).mono ?_
          rintro e w2 ⟨rfl, hb2⟩
          have hB2 := Below.on hB1 hb2
          go_wp2_with fail
          refine (cq _ hq hs).mono ?_
          rintro e w3 ⟨rfl, hb3⟩
          have hB3 := Below.on hB2 hb3
          go_wp2_with fail
          refine (wk _).mono ?_
          rintro e w4 ⟨v4, rfl, ho4, hb4⟩
          have hB4 := Below.on hB3 hb4
          obtain ⟨a4, c4, hv4⟩ := ho4.row.sliceStrs
          rw [hlk] at hv4
          subst hv4
          clear ho4
          go_wp2_with fail
          refine (lives_any _).mono ?_
          rintro e w5 ⟨rfl, hb5⟩
          have hB5 := Below.on hB4 hb5
          go_wp2
          go_ret
          exact ⟨rfl, hB5⟩
        by_cases gx : (12 : Int) < (nx : Int)
        · go_enter Tryd.func7, Tryd.ntmps7
          have hB0 := Below.refl w.heap.size w
          go_wp2_with fail
          refine (ck _ hs).mono ?_
          rintro e w1 ⟨rfl, hb1⟩
          have hB1 := Below.on hB0 hb1
          go_wp2_with fail
          refine (cp _ hp hs).mono ?_
          rintro e w2 ⟨rfl, hb2⟩
          have hB2 := Below.on hB1 hb2
          go_wp2_with fail
          refine (cq _ hq hs).mono ?_
          rintro e w3 ⟨rfl, hb3⟩
          have hB3 := Below.on hB2 hb3
          go_wp2_with fail
          refine (wk _).mono ?_
          rintro e w4 ⟨v4, rfl, ho4, hb4⟩
          have hB4 := Below.on hB3 hb4
          obtain ⟨a4, c4, hv4⟩ := ho4.row.sliceStrs
          rw [hlk] at hv4
          subst hv4
          clear ho4
          go_wp2_with fail
          refine (wx _).mono ?_
          rintro e w5 ⟨v5, rfl, ho5, hb5⟩
          have hB5 := Below.on hB4 hb5
          obtain ⟨a5, c5, hv5⟩ := ho5.row.sliceStrs
          rw [hlx] at hv5
          subst hv5
          clear ho5
          go_wp2_with fail
          refine (lives_any _).mono ?_
          rintro e w6 ⟨rfl, hb6⟩
          have hB6 := Below.on hB5 hb6
          go_wp2
          go_ret
          exact ⟨rfl, hB6⟩
        rw [hmath (by omega) (by omega)] at cm
        go_enter Tryd.func7, Tryd.ntmps7
        have hB0 := Below.refl w.heap.size w
        go_wp2_with fail
        refine (ck _ hs).mono ?_
        rintro e w1 ⟨rfl, hb1⟩
        have hB1 := Below.on hB0 hb1
        go_wp2_with fail
        refine (cp _ hp hs).mono ?_
        rintro e w2 ⟨rfl, hb2⟩
        have hB2 := Below.on hB1 hb2
        go_wp2_with fail
        refine (cq _ hq hs).mono ?_
        rintro e w3 ⟨rfl, hb3⟩
        have hB3 := Below.on hB2 hb3
        go_wp2_with fail
        refine (wk _).mono ?_
        rintro e w4 ⟨v4, rfl, ho4, hb4⟩
        have hB4 := Below.on hB3 hb4
        obtain ⟨a4, c4, hv4⟩ := ho4.row.sliceStrs
        rw [hlk] at hv4
        subst hv4
        clear ho4
        go_wp2_with fail
        refine (wx _).mono ?_
        rintro e w5 ⟨v5, rfl, ho5, hb5⟩
        have hB5 := Below.on hB4 hb5
        obtain ⟨a5, c5, hv5⟩ := ho5.row.sliceStrs
        rw [hlx] at hv5
        subst hv5
        clear ho5
        go_wp2_with fail
        refine (cm _ (by unfold maxLen; omega) (by unfold maxLen; omega)).mono ?_
        rintro e w6 ⟨rfl, hb6⟩
        have hB6 := Below.on hB5 hb6
        go_wp2_with fail
        refine (lives_any _).mono ?_
        rintro e w7 ⟨rfl, hb7⟩
        have hB7 := Below.on hB6 hb7
        go_wp2
        go_ret
        exact ⟨rfl, hB7⟩
end Go.Proofs.YtihoijepnoleoaaDoor
