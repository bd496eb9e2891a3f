/-
  THE LAW SpanFroms, walked.
-/
import Derived.Test.YtdgbcjdikkmgdaaLawOrder
import Derived.Test.YtdgbcjdikkmgdaaJoin
import Derived.Test.YtdgbcjdikkmgdaaFrom
import Derived.Test.YtdgbcjdikkmgdaaRefs3
namespace Go.Proofs.Ytdgbcjdikkmgdaa
open Go.RowKit Go.Sort

theorem Below.on {w a b : World} (h : Below w.heap.size w a) (k : Below a.heap.size a b) : Below w.heap.size w b := h.trans (k.mono h.size)

theorem memB_or {la lb lj : List (Nat × Nat)} (h : ∀ m, Mem lj m ↔ Mem la m ∨ Mem lb m) (n : Nat) : memB lj n = (memB la n || memB lb n) := by
  rw [Bool.eq_iff_iff, Bool.or_eq_true, memB_iff, memB_iff, memB_iff]
  exact h n

set_option maxHeartbeats 4000000 in
set_option maxRecDepth 100000 in
theorem froms_law (va vb : Value) (la lb : List (Nat × Nat)) (n : Nat) (w : World) (ha : Rng w va la) (hb : Rng w vb lb) (ua : Upto 18446744073709551616 la) (ub : Upto 18446744073709551616 lb) (hn : n < 18446744073709551616)
    (l0 : la.length ≤ 17592186043904) (l1 : lb.length ≤ 17592186043904) :
    Calls Try.prog 4 #[va, vb, .int .u64 (n : Int)] w fun e w' => e = .returned (.bool true) ∧ Below w.heap.size w w' := by
  obtain ⟨a0, c0, rfl⟩ := ha.slice
  obtain ⟨a1, c1, rfl⟩ := hb.slice
  by_cases ta : (200 : Int) < (la.length : Int)
  · clear ha hb
    go_enter Try.func4, Try.ntmps4
    go_wp2_with (go_at_call 9; refine (lives_any _).mono ?_; rintro e w' ⟨rfl, b⟩)
    go_ret
    exact ⟨rfl, b⟩
  by_cases tb : (200 : Int) < (lb.length : Int)
  · clear ha hb
    go_enter Try.func4, Try.ntmps4
    go_wp2_with (go_at_call 9; refine (lives_any _).mono ?_; rintro e w' ⟨rfl, b⟩)
    go_ret
    exact ⟨rfl, b⟩
  have za : la.length ≤ 200 := by omega
  have zb : lb.length ≤ 200 := by omega
  have HA : Hid (Rng w (.slice a0 la.length c0) la) := ha
  have HB : Hid (Rng w (.slice a1 lb.length c1) lb) := hb
  have UA : Hid _ := ua
  have UB : Hid _ := ub
  clear ha hb ua ub
  cases gA : goodB 1 la
  · have key : ∀ w1, Below w.heap.size w w1 → Calls Try.prog 17 #[.slice a0 la.length c0] w1 fun e w' => e = .returned (.bool false) ∧ Below w1.heap.size w1 w' := fun w1 hb1 => by
      have := rgood_any _ la w1 (HA.out.below hb1 (Nat.le_refl _)) UA.out (by omega)
      rwa [gA] at this
    cases gB : goodB 1 lb
    · go_enter Try.func4, Try.ntmps4
      go_wp2_with fail
      refine (from_any _ la w HA.out UA.out (by omega)).mono ?_
      rintro e w1 ⟨b1, h | ⟨_, rfl⟩⟩
      · rw [gA] at h; cases h.1
      have hB1 := b1
      go_wp2_with fail
      refine (from_any _ lb w1 (HB.out.below hB1 (Nat.le_refl _)) UB.out (by omega)).mono ?_
      rintro e w2 ⟨b2, h | ⟨_, rfl⟩⟩
      · rw [gB] at h; cases h.1
      have hB2 := Below.on hB1 b2
      go_wp2_with fail
      refine (key w2 hB2).mono ?_
      rintro e w3 ⟨rfl, b3⟩
      have hB3 := Below.on hB2 b3
      have kb := rgood_any _ lb w3 (HB.out.below hB3 (Nat.le_refl _)) UB.out (by omega)
      rw [gB] at kb
      go_wp2_with fail
      refine kb.mono ?_
      rintro e w4 ⟨rfl, b4⟩
      have hB4 := Below.on hB3 b4
      go_wp2_with fail
      refine (lives_any _).mono ?_
      rintro e w5 ⟨rfl, b5⟩
      go_wp2
      go_ret
      exact ⟨rfl, Below.on hB4 b5⟩
    · go_enter Try.func4, Try.ntmps4
      go_wp2_with fail
      refine (from_any _ la w HA.out UA.out (by omega)).mono ?_
      rintro e w1 ⟨b1, h | ⟨_, rfl⟩⟩
      · rw [gA] at h; cases h.1
      have hB1 := b1
      go_wp2_with fail
      refine (from_any _ lb w1 (HB.out.below hB1 (Nat.le_refl _)) UB.out (by omega)).mono ?_
      rintro e w2 ⟨b2, ⟨_, B, vB, rfl, sB, fB⟩ | ⟨h, _⟩⟩
      case inr => rw [gB] at h; cases h
      have hB2 := Below.on hB1 b2
      go_wp2_with fail
      refine (key w2 hB2).mono ?_
      rintro e w3 ⟨rfl, b3⟩
      have hB3 := Below.on hB2 b3
      have kb := rgood_any _ lb w3 (HB.out.below hB3 (Nat.le_refl _)) UB.out (by omega)
      rw [gB] at kb
      go_wp2_with fail
      refine kb.mono ?_
      rintro e w4 ⟨rfl, b4⟩
      have hB4 := Below.on hB3 b4
      go_wp2_with fail
      refine (lives_any _).mono ?_
      rintro e w5 ⟨rfl, b5⟩
      go_wp2
      go_ret
      exact ⟨rfl, Below.on hB4 b5⟩
  · have key : ∀ w1, Below w.heap.size w w1 → Calls Try.prog 17 #[.slice a0 la.length c0] w1 fun e w' => e = .returned (.bool true) ∧ Below w1.heap.size w1 w' := fun w1 hb1 => by
      have := rgood_any _ la w1 (HA.out.below hb1 (Nat.le_refl _)) UA.out (by omega)
      rwa [gA] at this
    cases gB : goodB 1 lb
    · go_enter Try.func4, Try.ntmps4
      go_wp2_with fail
      refine (from_any _ la w HA.out UA.out (by omega)).mono ?_
      rintro e w1 ⟨b1, ⟨_, A, vA, rfl, sA, fA⟩ | ⟨h, _⟩⟩
      case inr => rw [gA] at h; cases h
      have hB1 := b1
      go_wp2_with fail
      refine (from_any _ lb w1 (HB.out.below hB1 (Nat.le_refl _)) UB.out (by omega)).mono ?_
      rintro e w2 ⟨b2, h | ⟨_, rfl⟩⟩
      · rw [gB] at h; cases h.1
      have hB2 := Below.on hB1 b2
      go_wp2_with fail
      refine (key w2 hB2).mono ?_
      rintro e w3 ⟨rfl, b3⟩
      have hB3 := Below.on hB2 b3
      have kb := rgood_any _ lb w3 (HB.out.below hB3 (Nat.le_refl _)) UB.out (by omega)
      rw [gB] at kb
      go_wp2_with fail
      refine kb.mono ?_
      rintro e w4 ⟨rfl, b4⟩
      have hB4 := Below.on hB3 b4
      go_wp2_with fail
      refine (lives_any _).mono ?_
      rintro e w5 ⟨rfl, b5⟩
      go_wp2
      go_ret
      exact ⟨rfl, Below.on hB4 b5⟩
    · have fa : Fine la := ⟨(goodB_iff la 1).1 gA, UA.out⟩
      have fb : Fine lb := ⟨(goodB_iff lb 1).1 gB, UB.out⟩
      have FA : Hid _ := fa
      have FB : Hid _ := fb
      clear fa fb
      go_enter Try.func4, Try.ntmps4
      go_wp2_with fail
      refine (from_any _ la w HA.out UA.out (by omega)).mono ?_
      rintro e w1 ⟨b1, ⟨_, A, vA, rfl, sA, fA⟩ | ⟨h, _⟩⟩
      case inr => rw [gA] at h; cases h
      have hB1 := b1
      have mA1 : Mine w.heap.size w w1 A vA la := ⟨sA, b1, fA, b1.size⟩
      go_wp2_with fail
      refine (from_any _ lb w1 (HB.out.below hB1 (Nat.le_refl _)) UB.out (by omega)).mono ?_
      rintro e w2 ⟨b2, ⟨_, B, vB, rfl, sB, fB⟩ | ⟨h, _⟩⟩
      case inr => rw [gB] at h; cases h
      have hB2 := Below.on hB1 b2
      have mA2 := mA1.go b2
      go_wp2_with fail
      refine (key w2 hB2).mono ?_
      rintro e w3 ⟨rfl, b3⟩
      have hB3 := Below.on hB2 b3
      have kb := rgood_any _ lb w3 (HB.out.below hB3 (Nat.le_refl _)) UB.out (by omega)
      rw [gB] at kb
      go_wp2_with fail
      refine kb.mono ?_
      rintro e w4 ⟨rfl, b4⟩
      have hB4 := Below.on hB3 b4
      have b24 : Below w2.heap.size w2 w4 := Below.on b3 b4
      have mA4 := mA2.go b24
      have sB4 := sB.kept b24 (Nat.le_refl _)
      clear key kb sA sB mA1 mA2
      go_wp2_with fail
      refine (join_any _ _ la lb w4 mA4.set.lies sB4.lies FA.out FB.out (by omega)).mono ?_
      rintro e w5 ⟨J, vj, lj, rfl, sJ, frJ, b5, fJ, mJ, zJ⟩
      have hB5 := Below.on hB4 b5
      have mA5 := mA4.go b5
      have sB5 := sB4.kept b5 (Nat.le_refl _)
      go_wp2_with fail
      refine (rjoin_any _ _ la lb w5 (HA.out.below hB5 (Nat.le_refl _)) (HB.out.below hB5 (Nat.le_refl _)) FA.out.1 UA.out (fun r hr => FB.out.1.lowR hr) UB.out (by omega)).mono ?_
      rintro e w6 ⟨vr, rfl, oR, b6⟩
      obtain ⟨ra, rc, hvr⟩ := oR.rng.slice
      subst hvr
      have hjl := joinL_ok lb la FA.out.1 (fun r hr => FB.out.1.lowR hr)
      obtain rfl : lj = joinL la lb := fJ.1.unique hjl.1 fun m => by rw [mJ m, hjl.2 m]
      have HM : Hid _ := memB_or mJ n
      clear hjl mJ
      generalize joinL la lb = lj at *
      have hB6 := Below.on hB5 b6
      have mA6 := mA5.go b6
      have sB6 := sB5.kept b6 (Nat.le_refl _)
      have sJ6 := sJ.kept b6 (Nat.le_refl _)
      clear mA4 mA5 sB4 sB5 sJ
      go_wp2_with fail
      refine (alike_any _ _ lj w6 sJ6.lies oR.rng fJ.1 (by omega)).mono ?_
      rintro e w7 ⟨rfl, b7⟩
      have hB7 := Below.on hB6 b7
      have mA7 := mA6.go b7
      have sB7 := sB6.kept b7 (Nat.le_refl _)
      have sJ7 := sJ6.kept b7 (Nat.le_refl _)
      go_wp2_with fail
      refine (alike_any _ _ la w7 mA7.set.lies (HA.out.below hB7 (Nat.le_refl _)) FA.out.1 (by omega)).mono ?_
      rintro e w8 ⟨rfl, b8⟩
      have hB8 := Below.on hB7 b8
      have mA8 := mA7.go b8
      have sB8 := sB7.kept b8 (Nat.le_refl _)
      have sJ8 := sJ7.kept b8 (Nat.le_refl _)
      clear mA6 mA7 sB6 sB7 sJ6 sJ7
      have cj := fun W h => has_any (.pointer (some ⟨J, 0, none⟩)) lj n W h fJ.1 (by omega)
      have ca := fun W h => has_any (.pointer (some ⟨A, 0, none⟩)) la n W h FA.out.1 (by omega)
      have cb := fun W h => has_any (.pointer (some ⟨B, 0, none⟩)) lb n W h FB.out.1 (by omega)
      rw [HM.out] at cj
      cases hmA : memB la n <;> rw [hmA] at cj ca
      · rw [Bool.false_or] at cj
        go_wp2_with fail
        refine (cj w8 sJ8.lies).mono ?_
        rintro e w9 ⟨rfl, b9⟩
        go_wp2_with fail
        refine (ca w9 (mA8.go b9).set.lies).mono ?_
        rintro e w10 ⟨rfl, b10⟩
        go_wp2_with fail
        refine (cb w10 (sB8.kept (Below.on b9 b10) (Nat.le_refl _)).lies).mono ?_
        rintro e w11 ⟨rfl, b11⟩
        have b811 : Below w8.heap.size w8 w11 := Below.on (Below.on b9 b10) b11
        have mA11 := mA8.go b811
        have hB11 := Below.on hB8 b811
        clear b9 b10 b11 b811 mA8 sB8 sJ8
        go_wp2_with fail
        refine (copy_any _ la w11 mA11.set.lies (by omega)).mono ?_
        rintro e w12 ⟨C, vc, rfl, sC, frC, b12⟩
        have hB12 := Below.on hB11 b12
        have mA12 := mA11.go b12
        have mC12 : Mine w.heap.size w w12 C vc la := ⟨sC, hB12, ⟨Nat.le_trans hB11.size frC.1, fun g hg => Nat.le_trans hB11.size (frC.2 g hg)⟩, hB12.size⟩
        have two : Two w.heap.size w w12 C vc la A vA la := ⟨mC12, mA12, fun e => by have h1 := mA11.set.lt; have h2 := frC.1; omega, fun g hg he => by have h1 := frC.2 g hg; have h2 := (World.ownsRow.lt mA11.set.own g he).2; omega⟩
        clear mA11 sC mA12 mC12
        go_wp2_with fail
        refine (alike_any _ _ la w12 two.a.set.lies (HA.out.below hB12 (Nat.le_refl _)) FA.out.1 (by omega)).mono ?_
        rintro e w13 ⟨rfl, b13⟩
        have hB13 := Below.on hB12 b13
        have two13 := two.go b13
        clear two
        go_wp2_with fail
        refine (radd_any _ la n w13 (HA.out.below hB13 (Nat.le_refl _)) FA.out.1 UA.out hn (by omega)).mono ?_
        rintro e w14 ⟨b14, h14⟩
        have hB14 := Below.on hB13 b14
        have two14 := two13.go b14
        have hx : ∃ vx, e = .returned (.tuple #[vx, .bool (newB la n)]) ∧ ∀ W, Below w14.heap.size w14 W ∨ (∃ v', Two w.heap.size w W C v' (addS la n) A vA la ∧ Turned w14 W C vc) → Rng W vx (addS la n) := by
          rcases h14 with ⟨h, rfl⟩ | ⟨h, vx, rfl, ox⟩
          · refine ⟨_, by rw [show newB la n = false by rw [Bool.eq_false_iff]; exact fun h' => (newB_true la n).1 h' h], fun W hW => ?_⟩
            rw [addS_no h]
            rcases hW with hW | ⟨v', hW, _⟩
            · exact HA.out.below (Below.on hB14 hW) (Nat.le_refl _)
            · exact HA.out.below hW.a.bel (Nat.le_refl _)
          · refine ⟨vx, by rw [(newB_true la n).2 h], fun W hW => ?_⟩
            rw [addS_yes h, ← put_eq_add FA.out.1 h]
            rcases hW with hW | ⟨v', _, ht⟩
            · exact (ox.kept hW (Nat.le_refl _)).rng
            · refine (ox.turned two14.a.set ht (fun g hg he => ?_)).rng
              have h5 := (World.ownsRow.lt ox g hg).1
              have h6 := (World.ownsRow.lt two13.a.set.own g he).2
              omega
        obtain ⟨vx, rfl, RX⟩ := hx
        obtain ⟨xa, xc, hvx⟩ := (RX w14 (.inl (Below.refl _ _))).slice
        subst hvx
        have HX : Hid _ := RX
        have l2 := addS_length (n := n) FA.out.1
        have f2 : Fine (addS la n) := Fine.add (l := la) FA.out hn
        have F2 : Hid _ := f2
        clear h14 two13 RX f2
        go_wp2_with fail
        refine (add_any C n vc la w14 two14.a.set FA.out.1 UA.out hn (by omega)).mono ?_
        rintro e w15 ⟨rfl, v15, s15, t15, n15⟩
        have two15 := two14.addA s15 t15 n15
        have rx15 := HX.out w15 (.inr ⟨v15, two15, t15⟩)
        have hB15 := two15.a.bel
        clear s15 t15 n15 HX two14
        generalize addS la n = lx at *
        go_wp2_with fail
        refine (alike_any _ _ lx w15 two15.a.set.lies rx15 F2.out.1 (by omega)).mono ?_
        rintro e w16 ⟨rfl, b16⟩
        have hB16 := Below.on hB15 b16
        have two16 := two15.go b16
        go_wp2_with fail
        refine (alike_any _ _ la w16 two16.b.set.lies (HA.out.below hB16 (Nat.le_refl _)) FA.out.1 (by omega)).mono ?_
        rintro e w17 ⟨rfl, b17⟩
        have hB17 := Below.on hB16 b17
        go_wp2_with fail
        refine (lives_any _).mono ?_
        rintro e w18 ⟨rfl, b18⟩
        go_wp2
        go_ret
        exact ⟨rfl, Below.on hB17 b18⟩
      · rw [Bool.true_or] at cj
        go_wp2_with fail
        refine (cj w8 sJ8.lies).mono ?_
        rintro e w9 ⟨rfl, b9⟩
        go_wp2_with fail
        refine (ca w9 (mA8.go b9).set.lies).mono ?_
        rintro e w11 ⟨rfl, b11⟩
        have b811 : Below w8.heap.size w8 w11 := Below.on b9 b11
        have mA11 := mA8.go b811
        have hB11 := Below.on hB8 b811
        clear b9 b11 b811 mA8 sB8 sJ8
        go_wp2_with fail
        refine (copy_any _ la w11 mA11.set.lies (by omega)).mono ?_
        rintro e w12 ⟨C, vc, rfl, sC, frC, b12⟩
        have hB12 := Below.on hB11 b12
        have mA12 := mA11.go b12
        have mC12 : Mine w.heap.size w w12 C vc la := ⟨sC, hB12, ⟨Nat.le_trans hB11.size frC.1, fun g hg => Nat.le_trans hB11.size (frC.2 g hg)⟩, hB12.size⟩
        have two : Two w.heap.size w w12 C vc la A vA la := ⟨mC12, mA12, fun e => by have h1 := mA11.set.lt; have h2 := frC.1; omega, fun g hg he => by have h1 := frC.2 g hg; have h2 := (World.ownsRow.lt mA11.set.own g he).2; omega⟩
        clear mA11 sC mA12 mC12
        go_wp2_with fail
        refine (alike_any _ _ la w12 two.a.set.lies (HA.out.below hB12 (Nat.le_refl _)) FA.out.1 (by omega)).mono ?_
        rintro e w13 ⟨rfl, b13⟩
        have hB13 := Below.on hB12 b13
        have two13 := two.go b13
        clear two
        go_wp2_with fail
        refine (radd_any _ la n w13 (HA.out.below hB13 (Nat.le_refl _)) FA.out.1 UA.out hn (by omega)).mono ?_
        rintro e w14 ⟨b14, h14⟩
        have hB14 := Below.on hB13 b14
        have two14 := two13.go b14
        have hx : ∃ vx, e = .returned (.tuple #[vx, .bool (newB la n)]) ∧ ∀ W, Below w14.heap.size w14 W ∨ (∃ v', Two w.heap.size w W C v' (addS la n) A vA la ∧ Turned w14 W C vc) → Rng W vx (addS la n) := by
          rcases h14 with ⟨h, rfl⟩ | ⟨h, vx, rfl, ox⟩
          · refine ⟨_, by rw [show newB la n = false by rw [Bool.eq_false_iff]; exact fun h' => (newB_true la n).1 h' h], fun W hW => ?_⟩
            rw [addS_no h]
            rcases hW with hW | ⟨v', hW, _⟩
            · exact HA.out.below (Below.on hB14 hW) (Nat.le_refl _)
            · exact HA.out.below hW.a.bel (Nat.le_refl _)
          · refine ⟨vx, by rw [(newB_true la n).2 h], fun W hW => ?_⟩
            rw [addS_yes h, ← put_eq_add FA.out.1 h]
            rcases hW with hW | ⟨v', _, ht⟩
            · exact (ox.kept hW (Nat.le_refl _)).rng
            · refine (ox.turned two14.a.set ht (fun g hg he => ?_)).rng
              have h5 := (World.ownsRow.lt ox g hg).1
              have h6 := (World.ownsRow.lt two13.a.set.own g he).2
              omega
        obtain ⟨vx, rfl, RX⟩ := hx
        obtain ⟨xa, xc, hvx⟩ := (RX w14 (.inl (Below.refl _ _))).slice
        subst hvx
        have HX : Hid _ := RX
        have l2 := addS_length (n := n) FA.out.1
        have f2 : Fine (addS la n) := Fine.add (l := la) FA.out hn
        have F2 : Hid _ := f2
        clear h14 two13 RX f2
        go_wp2_with fail
        refine (add_any C n vc la w14 two14.a.set FA.out.1 UA.out hn (by omega)).mono ?_
        rintro e w15 ⟨rfl, v15, s15, t15, n15⟩
        have two15 := two14.addA s15 t15 n15
        have rx15 := HX.out w15 (.inr ⟨v15, two15, t15⟩)
        have hB15 := two15.a.bel
        clear s15 t15 n15 HX two14
        generalize addS la n = lx at *
        go_wp2_with fail
        refine (alike_any _ _ lx w15 two15.a.set.lies rx15 F2.out.1 (by omega)).mono ?_
        rintro e w16 ⟨rfl, b16⟩
        have hB16 := Below.on hB15 b16
        have two16 := two15.go b16
        go_wp2_with fail
        refine (alike_any _ _ la w16 two16.b.set.lies (HA.out.below hB16 (Nat.le_refl _)) FA.out.1 (by omega)).mono ?_
        rintro e w17 ⟨rfl, b17⟩
        have hB17 := Below.on hB16 b17
        go_wp2_with fail
        refine (lives_any _).mono ?_
        rintro e w18 ⟨rfl, b18⟩
        go_wp2
        go_ret
        exact ⟨rfl, Below.on hB17 b18⟩
end Go.Proofs.Ytdgbcjdikkmgdaa
