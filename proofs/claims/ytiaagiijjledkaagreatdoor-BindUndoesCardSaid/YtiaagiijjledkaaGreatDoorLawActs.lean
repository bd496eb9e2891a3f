/-
  THE LAW BindActs.
-/
import Derived.Test.YtiaagiijjledkaaGreatDoorSame7
namespace Go.Proofs.YtiaagiijjledkaaGreatDoor
open Go.RowKit Go.Sort Go.Shelf

theorem two_new {w w1 W2 : World} {pt : Nat} {F1 : Nat → Prop} (q1 : T w1 pt F1 newT) (hF : ∀ k, F1 k → w.heap.size ≤ k) (b1 : Below w.heap.size w w1) (fold2 : w1.alloc (.cells #[.slice none 0 0, .slice none 0 0] 29) = W2) : Two w W2 pt F1 newT w1.heap.size (fun k => k = w1.heap.size) newT := by
  have bW : Below w1.heap.size w1 W2 := by rw [← fold2]; exact (Below.refl _ _).alloc (Nat.le_refl _) _
  refine ⟨q1.kept bW, by rw [← fold2]; exact rt_new w1, newT_ok, newT_ok, hF, fun k hk => ?_, fun k hk he => ?_, b1.trans (bW.mono b1.size)⟩
  · rw [hk]; exact b1.size
  · have := q1.lts k hk
    omega

set_option maxRecDepth 20000 in
set_option maxHeartbeats 8000000 in
theorem acts_law (v : Value) (l : List Ac) (w : World) (hr : RowOf acells w v l) (hf : ∀ a ∈ l, a.Fits) :
    Calls Tryz.prog 3 #[v] w fun e w' => e = .returned (.bool true) ∧ Below w.heap.size w w' := by
  obtain ⟨va, vc, rfl⟩ := hr.slice
  have hl : l.length ≤ maxLen := hr.acs.2.1
  have l63 : l.length ≤ 9223372036854775807 := by unfold maxLen at hl; omega
  have HR : Hid (RowOf acells w (.slice va l.length vc) l) := hr
  have HFt : Hid (∀ a ∈ l, a.Fits) := hf
  have HL : Hid (∀ V, Calls Tryz.prog 8 #[] V fun e w' => e = .returned (.bool true) ∧ Below V.heap.size V w') := lives_any
  have kLi : Hid (∀ V, Below w.heap.size w V → Calls Tryz.prog 7 #[.slice va l.length vc] V fun e w' => ∃ r, e = .returned (.bool r) ∧ (r = true → l.length ≤ 300) ∧ Below V.heap.size V w') := fun V hV => light_any _ l V (hr.below hV (Nat.le_refl _)) hf
  have kN := new_any w
  clear hr hf hl
  go_enter Tryz.func3, Tryz.ntmps3
  go_wp2_with fail
  refine kN.mono ?_
  rintro e w1 ⟨pt, rfl, F1, q1, hF, b1⟩
  obtain ⟨W2, fold2⟩ : ∃ W2, w1.alloc (.cells #[.slice none 0 0, .slice none 0 0] 29) = W2 := ⟨_, rfl⟩
  have H0 := two_new q1 hF b1 fold2
  clear q1 hF b1 kN
  go_wp2_with fail
  clear fold2
  refine (kLi.out W2 H0.bel).mono ?_
  rintro e w3 ⟨r, rfl, _, b3⟩
  have H3 := H0.below b3
  clear H0 b3
  cases r
  · have hb3 := H3.bel
    clear H3
    go_wp2_with (go_at_call 8; refine (HL.out _).mono ?_; rintro e w4 ⟨rfl, b4⟩)
    go_ret
    exact ⟨rfl, hb3.trans (b4.mono hb3.size)⟩
  · go_wp2
    go_loopw [24] (fun u24 wr => ∃ (k : Nat) (Ft Fr : Nat → Prop) (s : Tb), u24 = .int .i64 k ∧ k ≤ l.length ∧ Two w wr pt Ft s w1.heap.size Fr s) (fun u24 _ => l.length - (intOf u24).toNat)
    case atStart => exact ⟨0, _, _, _, rfl, Nat.zero_le _, H3⟩
    case round =>
      obtain ⟨k, Ft, Fr, s, rfl, hk, H⟩ := hrel
      clear H3
      by_cases hlt2 : k < l.length
      · have hlt : (k : Int) < (l.length : Int) := by omega
        obtain ⟨_, _, hAt⟩ := (HR.out.below H.bel (Nat.le_refl _)).acs
        obtain ⟨b, off, rfl, i0, i1, i2, i3, i4, i5, i6⟩ := hAt k hlt2
        have hfa := HFt.out _ (List.getElem_mem hlt2)
        generalize l[k] = a at *
        clear hAt
        obtain ⟨X, foldX⟩ : ∃ X, wr.alloc (.cells (acells a).toArray 37) = X := ⟨_, rfl⟩
        have HX := H.box a foldX
        obtain ⟨e0, e1, e2, e3, e4, e5, e6⟩ := HX.box
        have kA := act_any a w X pt w1.heap.size Ft Fr s HX.two hfa
        have hok := actT_ok H.ok1 a hfa.fit.1
        generalize actT s a = s' at kA hok
        have OK : Hid _ := hok
        unfold acells at foldX
        unfold acv at kA
        clear H HX hfa hok
        go_wp2_with (go_at_call 9; refine kA.mono ?_; clear kA; rintro e w4 ⟨rfl, Ft4, Fr4, H4⟩)
        refine (exchanges_any pt Ft4 s' w4 H4.t H4.ok1).mono ?_
        rintro e w5 ⟨v5, rfl, o5, b5⟩
        have H5 := H4.below b5
        obtain ⟨xa, xc, rfl⟩ := o5.rng.slice
        clear H4
        go_wp2_with fail
        refine (bindings_any pt Ft4 s' w5 H5.t H5.ok1).mono ?_
        rintro e w6 ⟨v6, rfl, o6, b6⟩
        have H6 := H5.below b6
        obtain ⟨ya, yc, rfl⟩ := o6.rng.slice
        have r5 := o5.rng.below b6 (Nat.le_refl _)
        clear H5 o5 b5
        go_wp2_with fail
        refine (same_any _ _ _ _ s' w6 r5 o6.rng H6.r).mono ?_
        rintro e w7 ⟨rfl, b7⟩
        have H7 := H6.below b7
        clear H6 o6 r5 b6 b7
        go_wp2
        exact ⟨⟨k + 1, _, _, _, by go_num, by omega, H7⟩, by simp [intOf]; omega⟩
      · obtain rfl : k = l.length := by omega
        have hbw := H.bel
        clear H
        go_wp2_with (go_at_call 8; refine (HL.out _).mono ?_; rintro e w4 ⟨rfl, b4⟩)
        go_ret
        exact ⟨rfl, hbw.trans (b4.mono hbw.size)⟩
end Go.Proofs.YtiaagiijjledkaaGreatDoor
