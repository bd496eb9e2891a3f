/-
  THE LAW FifoActs.
-/
import Derived.Test.YtocdfcaakflgpaaAlike
import Derived.Test.YtocdfcaakflgpaaCopy
namespace Go.Proofs.Ytocdfcaakflgpaa
open Go.RowKit Go.Sort Go.Shelf

theorem two_new6 {w w1 w2 : World} {pt pr n : Nat} {F1 F2 : Nat → Prop} (h1 : 1 ≤ n) (h2 : n ≤ 1000) (q1 : Q w1 pt F1 (newS n)) (hF : ∀ k, F1 k → w.heap.size ≤ k) (b1 : Below w.heap.size w w1) (q2 : R w2 pr F2 (newS n)) (hF2 : ∀ k, F2 k → w1.heap.size ≤ k) (b2 : Below w1.heap.size w1 w2) : Two w w2 pt F1 (newS n) pr F2 (newS n) :=
  ⟨q1.kept b2, q2, newS_ok h1 h2, newS_ok h1 h2, hF, fun k hk => Nat.le_trans b1.size (hF2 k hk), fun k hk he => by have := q1.lts k hk; have := hF2 k he; omega, b1.trans (b2.mono b1.size)⟩

set_option maxRecDepth 20000 in
set_option maxHeartbeats 8000000 in
theorem acts_law (n : Int) (v : Value) (l : List Ac) (w : World) (hr : RowOf acells w v l) (hf : ∀ a ∈ l, a.Fits) :
    Calls Try.prog 3 #[.int .i64 n, v] w fun e w' => e = .returned (.bool true) ∧ Below w.heap.size w w' := by
  obtain ⟨va, vc, rfl⟩ := hr.slice
  have hl : l.length ≤ maxLen := hr.acs.2.1
  have l63 : l.length ≤ 9223372036854775807 := by unfold maxLen at hl; omega
  have HR : Hid (RowOf acells w (.slice va l.length vc) l) := hr
  have HFt : Hid (∀ a ∈ l, a.Fits) := hf
  have HL : Hid (∀ V, Calls Try.prog 12 #[] V fun e w' => e = .returned (.bool true) ∧ Below V.heap.size V w') := lives_any
  have kLi : Hid (∀ V, Below w.heap.size w V → Calls Try.prog 11 #[.slice va l.length vc] V fun e w' => ∃ r, e = .returned (.bool r) ∧ (r = true → l.length ≤ 300) ∧ Below V.heap.size V w') := fun V hV => light_any _ l V (hr.below hV (Nat.le_refl _)) hf
  clear hr hf hl
  by_cases hn : 1 ≤ n ∧ n ≤ 1000
  · obtain ⟨m, rfl⟩ : ∃ m : Nat, n = m := ⟨n.toNat, by omega⟩
    have m1 : 1 ≤ m := by omega
    have m2 : m ≤ 1000 := by omega
    have kN := new_any m w m1 m2
    have kR : Hid _ := fun V => rnew_any m V m1 m2
    clear hn
    go_enter Try.func3, Try.ntmps3
    go_wp2_with (first
      | (go_at_call 9; refine kN.mono ?_; rintro e w1 ⟨pt, rfl, F1, q1, hF, b1⟩; clear kN)
      | (go_at_call 10; refine (kR.out w1).mono ?_; rintro e w2 ⟨pr, rfl, F2, q2, hF2, b2⟩; have H0 := two_new6 m1 m2 q1 hF b1 q2 hF2 b2; clear q1 hF b1 q2 hF2 b2)
      | (go_at_call 11; refine (kLi.out _ H0.bel).mono ?_; rintro e w3 ⟨r, rfl, _, b3⟩; have H3 := H0.below b3; clear H0 b3; cases r)
      | (go_at_call 12; refine (HL.out _).mono ?_; rintro e w4 ⟨rfl, b4⟩))
    · go_ret
      exact ⟨rfl, H3.bel.trans (b4.mono H3.bel.size)⟩
    · go_loopw [8, 9, 29] (fun u8 u9 u29 wr => ∃ (k : Nat) (Ft Fr : Nat → Prop) (s : St), u29 = .int .i64 k ∧ k ≤ l.length ∧ Two w wr pt Ft s pr Fr s) (fun u8 u9 u29 _ => l.length - (intOf u29).toNat)
      case atStart => exact ⟨0, _, _, _, rfl, Nat.zero_le _, H3⟩
      case round =>
        obtain ⟨k, Ft, Fr, s, rfl, hk, H⟩ := hrel
        clear H3
        by_cases hlt2 : k < l.length
        · have hlt : (k : Int) < (l.length : Int) := by omega
          obtain ⟨_, _, hAt⟩ := (HR.out.below H.bel (Nat.le_refl _)).acs
          obtain ⟨b, off, rfl, i0, i1, i2, i3, i4, i5, i6, i7⟩ := hAt k hlt2
          have hfa := HFt.out _ (List.getElem_mem hlt2)
          generalize l[k] = a at *
          clear hAt
          obtain ⟨X, foldX⟩ : ∃ X, wr.alloc (.cells (acells a).toArray 35) = X := ⟨_, rfl⟩
          have HX := H.box a foldX
          obtain ⟨e0, e1, e2, e3, e4, e5, e6, e7⟩ := HX.box
          have kA : Hid (∀ V, St8 w V pt Ft s pr Fr s wr.heap.size a → Calls Try.prog 17 #[.pointer (some ⟨pt, 0, none⟩), .pointer (some ⟨pr, 0, none⟩), av a] V fun e w' => e = .returned (.bool true) ∧ ∃ Ft' Fr', Two w w' pt Ft' (actT s a) pr Fr' (actT s a)) := fun V h => act_any a w V pt pr Ft Fr s h.two hfa.1
          have kL : Hid (∀ V Ft' Fr', Two w V pt Ft' (actT s a) pr Fr' (actT s a) → Calls Try.prog 18 #[.pointer (some ⟨pt, 0, none⟩), .pointer (some ⟨pr, 0, none⟩)] V fun e w' => e = .returned (.bool true) ∧ Below V.heap.size V w') := fun V Ft' Fr' h => alike_any w V pt pr Ft' Fr' _ h
          generalize actT s a = s' at kA kL
          have HS : Hid (St8 w X pt Ft s pr Fr s wr.heap.size a) := HX
          unfold acells at foldX
          clear H HX hfa
          by_cases hk5 : a.kind = 5
          · have kC := copy_any pt Ft s X HS.out.two.t HS.out.two.ok1
            have OK : Hid s.Ok := HS.out.two.ok1
            obtain ⟨kd, am, tg⟩ := a
            dsimp only at hk5
            subst hk5
            dsimp only at e0 e1 e2 e3 e4 e5 e6 e7 i0 i1 i2 i3 i4 i5 i6 i7 foldX
            have kG : Hid (∀ p F V, Q V p F s → Calls Try.prog 14 #[.pointer (some ⟨p, 0, none⟩)] V fun e w' => e = .returned (.tuple #[iv s.give.1, .bool s.give.2.1]) ∧ ∃ F', Q w' p F' s.give.2.2 ∧ Moved V w' F F') := fun p F V h => give_any p F s V h OK.out
            have OK2 : Hid s.give.2.2.Ok := OK.out.give
            generalize s.give.1 = gi at kG
            generalize s.give.2.1 = gb at kG
            generalize s.give.2.2 = s2 at kG OK2
            have kP : Hid (∀ p F V, Q V p F s2 → Calls Try.prog 15 #[.pointer (some ⟨p, 0, none⟩), mv am] V fun e w' => e = .returned (.int .i64 (s2.push am).1) ∧ ∃ F', Q w' p F' (s2.push am).2 ∧ Moved V w' F F') := fun p F V h => push_any p F s2 am V h OK2.out
            have OK3 : Hid (s2.push am).2.Ok := OK2.out.push am
            generalize (s2.push am).1 = pi at kP
            generalize (s2.push am).2 = s3 at kP OK3
            have kZ : Hid (∀ p F V, Q V p F s3 → Calls Try.prog 16 #[.pointer (some ⟨p, 0, none⟩)] V fun e w' => e = .returned (.int .i64 s3.reset.1) ∧ ∃ F', Q w' p F' s3.reset.2 ∧ Moved V w' F F') := fun p F V h => reset_any p F s3 V h OK3.out
            generalize s3.reset.1 = zi at kZ
            generalize s3.reset.2 = s4 at kZ
            go_wp2_with (first
              | (go_at_call 13; refine kC.mono ?_; rintro e w4 ⟨pc, rfl, Fc, qc, hFc, b4⟩; clear kC)
              | (go_at_call 14; refine (kG.out _ _ _ qc).mono ?_; rintro e w5 ⟨rfl, Fc5, qc5, mv5⟩; have b5 : Below X.heap.size X w5 := mv5.below hFc b4 b4.size; have hF5 : ∀ k, Fc5 k → X.heap.size ≤ k := mv5.from hFc b4.size; have HS5 : Hid (St8 w w5 pt Ft s pr Fr s wr.heap.size ⟨5, am, tg⟩) := HS.out.below b5; obtain ⟨f0, f1, f2, f3, f4, f5, f6, f7⟩ := HS5.out.box; dsimp only at f0 f1 f2 f3 f4 f5 f6 f7; clear mv5 qc hFc b4 e0 e1 e2 e3 e4 e5 e6 e7)
              | (go_at_call 15; refine (kP.out _ _ _ qc5).mono ?_; rintro e w6 ⟨rfl, Fc6, qc6, mv6⟩; have b6 : Below X.heap.size X w6 := mv6.below hF5 b5 b5.size; have hF6 : ∀ k, Fc6 k → X.heap.size ≤ k := mv6.from hF5 b5.size; clear mv6 qc5 hF5 b5 f0 f1 f2 f3 f4 f5 f6 f7 HS5)
              | (go_at_call 16; refine (kZ.out _ _ _ qc6).mono ?_; rintro e w7 ⟨rfl, Fc7, qc7, mv7⟩; have b7 : Below X.heap.size X w7 := mv7.below hF6 b6 b6.size; have HS7 : Hid (St8 w w7 pt Ft s pr Fr s wr.heap.size ⟨5, am, tg⟩) := HS.out.below b7; obtain ⟨f0, f1, f2, f3, f4, f5, f6, f7⟩ := HS7.out.box; dsimp only at f0 f1 f2 f3 f4 f5 f6 f7; clear mv7 qc6 hF6 b6 qc7)
              | (go_at_call 17; refine (kA.out _ HS7.out).mono ?_; rintro e w8 ⟨rfl, Ft4, Fr4, H4⟩; clear f0 f1 f2 f3 f4 f5 f6 f7 HS7 b7)
              | (go_at_call 18; refine (kL.out _ _ _ H4).mono ?_; rintro e w9 ⟨rfl, b9⟩; have H5 := H4.below b9; clear b9))
            exact ⟨⟨k + 1, _, _, _, by go_num, by omega, H5⟩, by simp [intOf]; omega⟩
          · go_wp2_with (first
              | (go_at_call 17; refine (kA.out _ HS.out).mono ?_; rintro e w4 ⟨rfl, Ft4, Fr4, H4⟩)
              | (go_at_call 18; refine (kL.out _ _ _ H4).mono ?_; rintro e w5 ⟨rfl, b5⟩; have H5 := H4.below b5; clear b5))
            exact ⟨⟨k + 1, _, _, _, by go_num, by omega, H5⟩, by simp [intOf]; omega⟩
        · obtain rfl : k = l.length := by omega
          have hbw := H.bel
          clear H
          go_wp2_with (go_at_call 12; refine (HL.out _).mono ?_; rintro e w4 ⟨rfl, b4⟩)
          go_ret
          exact ⟨rfl, hbw.trans (b4.mono hbw.size)⟩
  · have kN := new_none n w hn
    have kR := rnew_none n w hn
    go_enter Try.func3, Try.ntmps3
    go_wp2_with (first
      | (go_at_call 9; refine kN.mono ?_; rintro e w' ⟨rfl, rfl⟩)
      | (go_at_call 10; refine kR.mono ?_; rintro e w' ⟨rfl, rfl⟩)
      | (go_at_call 12; refine (HL.out _).mono ?_; rintro e w4 ⟨rfl, b4⟩))
    go_ret
    exact ⟨rfl, b4⟩
end Go.Proofs.Ytocdfcaakflgpaa
