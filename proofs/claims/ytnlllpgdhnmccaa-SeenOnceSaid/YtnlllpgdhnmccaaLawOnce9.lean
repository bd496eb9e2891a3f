/-
  THE LAW SeenOnce.
-/
import Derived.Test.YtnlllpgdhnmccaaFacts9
namespace Go.Proofs.Ytnlllpgdhnmccaa
open Go.RowKit Go.Sort

set_option maxRecDepth 20000 in
set_option maxHeartbeats 8000000 in
theorem seenOnce_law (v : Value) (ids : List (Int × Nat)) (ao : Int) (an : Nat) (w : World) (hr : K.RowOf ienc w v ids) (hn : ∀ x ∈ ids, x.2 < 18446744073709551616) (han : an < 18446744073709551616) :
    Calls Try.prog 5 #[v, .agg #[.int .i64 ao, .int .u64 (an : Int)]] w fun e w' => e = .returned (.bool true) ∧ Below w.heap.size w w' := by
  obtain ⟨va, vc, rfl⟩ := K.RowOf.slice hr
  obtain ⟨_, hl, _⟩ := ids_at hr
  have l63 : ids.length ≤ 9223372036854775807 := by unfold maxLen at hl; omega
  obtain ⟨W, fold⟩ : ∃ W, w.alloc (.cells #[.int .i64 ao, .int .u64 (an : Int)] 25) = W := ⟨_, rfl⟩
  have bW : Below w.heap.size w W := by rw [← fold]; exact (Below.refl _ _).alloc (Nat.le_refl _) _
  have hWs : w.heap.size < W.heap.size := by rw [← fold]; simp
  obtain ⟨a0, a1⟩ : W.cell? ⟨w.heap.size, 0, none⟩ = some (.int .i64 ao) ∧ W.cell? ⟨w.heap.size, 1, none⟩ = some (.int .u64 (an : Int)) := by rw [← fold]; exact id_cells w ao an
  have HAsk : Hid (∀ V, Below W.heap.size W V → V.cell? ⟨w.heap.size, 0, none⟩ = some (.int .i64 ao) ∧ V.cell? ⟨w.heap.size, 1, none⟩ = some (.int .u64 (an : Int))) := fun V hV => ⟨cell_on hV a0, cell_on hV a1⟩
  have HRow : Hid (K.RowOf ienc W (.slice va ids.length vc) ids) := hr.below bW (Nat.le_refl _)
  have HL : Hid (∀ V, Calls Try.prog 8 #[] V fun e w' => e = .returned (.bool true) ∧ Below V.heap.size V w') := livesB_any
  have HN : Hid (∀ x ∈ ids, x.2 < 18446744073709551616) := hn
  clear hr hl hn
  by_cases hlong : 100 < ids.length
  · have hlong' : (100 : Int) < (ids.length : Int) := by omega
    go_enter Try.func5, Try.ntmps5
    go_wp2_with (go_at_call 8; refine (HL.out _).mono ?_; rintro e w4 ⟨rfl, b4⟩)
    go_ret
    exact ⟨rfl, keptW bW b4⟩
  · have hlong' : ¬ ((100 : Int) < (ids.length : Int)) := by omega
    have hB := bnew_any W
    unfold ptrS at hB
    have ff0 := fineF_nil
    have fl0 := lenF_nil
    have hfirst := has_first ao an
    have hfn := fresh_none ao an
    obtain ⟨f0, h0⟩ : ∃ f0 : Nat → List (Nat × Nat), f0 = fun _ => [] := ⟨_, rfl⟩
    rw [← h0] at hB ff0 fl0 hfirst hfn
    have ff1 := ff0.add ao han
    have fl1 := fl0.add ff0 ao an
    have kAdd : ∀ (V : World) (F : Nat → Prop) (f : Nat → List (Nat × Nat)) (o : Int) (s : Nat), Bk V W.heap.size F f → FineF f → LenF 1000 f → s < 18446744073709551616 → Calls Try.prog 10 #[.pointer (some ⟨W.heap.size, 0, none⟩), .agg #[.int .i64 o, .int .u64 (s : Int)]] V fun e w' => e = .returned (.bool (freshF f o s)) ∧ ∃ F', Bk w' W.heap.size F' (addF f o s) ∧ Moved V w' F F' := fun V F f o s hb hf hl hs => badd_any _ F f o s V hb hf (hl.mono (by omega)) hs
    have kRng : ∀ (V : World) (F : Nat → Prop) (f : Nat → List (Nat × Nat)) (l : List (Nat × Nat)), ofF f ao = l → Bk V W.heap.size F f → l.length ≤ 1000 → Calls Try.prog 19 #[.pointer (some ⟨W.heap.size, 0, none⟩), .int .i64 ao] V fun e w' => ∃ v', e = .returned v' ∧ Own2 w' V.heap.size v' l ∧ Below V.heap.size V w' := fun V F f l hl hb hlen => by
      subst hl
      exact branges_any _ f ao V hb.told (by omega)
    obtain ⟨L, hL⟩ : ∃ L, ofF (addF f0 ao an) ao = L := ⟨_, rfl⟩
    have hLl : L.length ≤ 1000 := by rw [← hL]; exact Nat.le_trans (fl1.of ao) (by omega)
    have hLf : Fine L := by rw [← hL]; exact ff1.of ao
    generalize hz : freshF f0 ao an = z at *
    rw [hL] at hfirst
    have HfA : Hid (∀ f, ofF f ao = L → freshF f ao an = false) := fun f hf => by
      rw [fresh_of (g := addF f0 ao an) (hf.trans hL.symm)]
      exact fresh_again ff0
    have Hfirst : Hid (memB L an = z) := hfirst
    have HL0 : Hid (ofF (addF f0 ao an) ao = L) := hL
    have HZ : Hid (freshF f0 ao an = z) := hz
    have HFN : Hid (z = (decide (0 < an) && decide (1 ≤ ao) && decide (ao ≤ 8))) := hfn
    clear h0 hfirst hL hz hfn
    go_enter Try.func5, Try.ntmps5
    go_wp2_with (go_at_call 9; refine hB.mono ?_; rintro e w1 ⟨rfl, F1, b1, frm, bel⟩; obtain ⟨q0, q1⟩ := HAsk.out w1 bel)
    have H1 : Own9 W w1 W.heap.size F1 f0 := ⟨b1, ff0, frm, bel⟩
    clear frm bel hB
    refine (kAdd w1 F1 f0 ao an b1 ff0 (fl0.mono (by omega)) han).mono ?_
    rintro e w2 ⟨rfl, F2, b2, m2⟩
    have H2 := H1.to b2 m2 ff1
    obtain ⟨q2, q3⟩ := HAsk.out w2 H2.bel
    rw [HZ.out]
    clear H1 b1 m2 q0 q1
    go_wp2_with fail
    refine (kRng w2 F2 _ L HL0.out b2 hLl).mono ?_
    rintro e w3 ⟨v3, rfl, o3, b3⟩
    have H3 : Once9 W w3 W.heap.size F2 (addF f0 ao an) v3 L := ⟨H2.go b3, o3.mono (Nat.zero_le _), fun g hg hf => by have := (World.ownsRow.lt o3 g hg).1; have := b2.lts g hf; omega⟩
    obtain ⟨xa, xc, rfl⟩ := o3.rng.slice
    obtain ⟨q4, q5⟩ := HAsk.out w3 H3.own.bel
    clear H2 b2 o3 b3 q2 q3
    go_wp2
    go_loopw [28] (fun u28 wr => ∃ (k : Nat) (F : Nat → Prop) (f : Nat → List (Nat × Nat)), u28 = .int .i64 k ∧ k ≤ ids.length ∧ LenF (1 + k) f ∧ Once9 W wr W.heap.size F f (.slice xa L.length xc) L ∧ Hid (ofF f ao = L)) (fun u28 _ => ids.length - (intOf u28).toNat)
    case atStart => exact ⟨0, _, _, rfl, Nat.zero_le _, fl1, H3, HL0⟩
    case round =>
      obtain ⟨k, F, f, rfl, hk, hlf, H, HO⟩ := hrel
      clear H3 q4 q5
      by_cases hlt2 : k < ids.length
      · have hlt : (k : Int) < (ids.length : Int) := by omega
        obtain ⟨_, _, hAt⟩ := ids_at (HRow.out.below H.own.bel (Nat.le_refl _))
        obtain ⟨b, off, rfl, i0, i1⟩ := hAt k hlt2
        have hs := HN.out _ (List.getElem_mem hlt2)
        generalize ids[k] = x at *
        obtain ⟨o, s⟩ := x
        simp only at i0 i1 hs
        clear hAt
        obtain ⟨X, foldX⟩ : ∃ X, wr.alloc (.cells #[.int .i64 o, .int .u64 (s : Int)] 25) = X := ⟨_, rfl⟩
        have bX : Below wr.heap.size wr X := by rw [← foldX]; exact (Below.refl _ _).alloc (Nat.le_refl _) _
        obtain ⟨e0, e1⟩ : X.cell? ⟨wr.heap.size, 0, none⟩ = some (.int .i64 o) ∧ X.cell? ⟨wr.heap.size, 1, none⟩ = some (.int .u64 (s : Int)) := by rw [← foldX]; exact id_cells wr o s
        have HX := H.go bX
        obtain ⟨q0, q1⟩ := HAsk.out X HX.own.bel
        by_cases hoo : o = ao
        · subst hoo
          go_wp2
          exact ⟨⟨k + 1, _, _, by go_num, by omega, hlf.mono (by omega), HX, HO⟩, by simp [intOf]; omega⟩
        · have kA := kAdd X F f o s HX.own.b HX.own.fine (hlf.mono (by omega)) hs
          have ff' := HX.own.fine.add o hs
          have fl' := hlf.add HX.own.fine o s
          have HO' : Hid (ofF (addF f o s) ao = L) := (ofF_add_ne hoo).trans HO.out
          have FF : Hid (FineF (addF f o s)) := ff'
          have FL : Hid (LenF (1 + k + 1) (addF f o s)) := fl'
          clear hlf H HO ff' fl' bX
          go_wp2_with (go_at_call 10; refine kA.mono ?_; rintro e w4 ⟨rfl, F4, b4, m4⟩)
          have H4 := HX.to b4 m4 FF.out
          exact ⟨⟨k + 1, _, _, by go_num, by omega, FL.out, H4, HO'⟩, by simp [intOf]; omega⟩
      · obtain rfl : k = ids.length := by omega
        obtain ⟨q0, q1⟩ := HAsk.out wr H.own.bel
        go_wp2_with fail
        refine (kRng wr F f L HO.out H.own.b hLl).mono ?_
        rintro e w4 ⟨v4, rfl, o4, b4⟩
        obtain ⟨ya, yc, rfl⟩ := o4.rng.slice
        have H4 := H.go b4
        clear H
        go_wp2_with fail
        refine (same_any _ _ L L w4 o4.rng H4.row.rng).mono ?_
        rintro e w5 ⟨rfl, b5⟩
        have H5 := H4.go b5
        obtain ⟨q2, q3⟩ := HAsk.out w5 H5.own.bel
        rw [decide_eq_true rfl]
        have kH := bhas_any _ f ao an w5 H5.own.b.told (H5.own.fine.of ao).1 (Nat.le_trans (hlf.of ao) (by omega))
        rw [HO.out, Hfirst.out] at kH
        unfold ptrS at kH
        clear H4 o4 b4 b5 q0 q1
        go_wp2_with fail
        refine kH.mono ?_
        rintro e w6 ⟨rfl, b6⟩
        have H6 := H5.go b6
        obtain ⟨q4, q5⟩ := HAsk.out w6 H6.own.bel
        have kA := kAdd w6 F f ao an H6.own.b H6.own.fine (hlf.mono (by omega)) han
        rw [HfA.out f HO.out] at kA
        have FF : Hid (FineF (addF f ao an)) := H6.own.fine.add ao han
        have FL : Hid (LenF (1 + ids.length + 1) (addF f ao an)) := hlf.add H6.own.fine ao an
        clear H5 b6 q2 q3 kH
        go_wp2_with (go_at_call 10; refine kA.mono ?_; rintro e w7 ⟨rfl, F7, b7, m7⟩)
        have H7 := H6.own.to b7 m7 FF.out
        clear H6 b7 m7 q4 q5 kA hlf HO
        go_loopw [62] (fun u62 wr => ∃ (k : Nat) (F : Nat → Prop) (f : Nat → List (Nat × Nat)), u62 = .int .i64 k ∧ k ≤ ids.length ∧ LenF (1 + ids.length + 1 + k + k) f ∧ Own9 W wr W.heap.size F f) (fun u62 _ => ids.length - (intOf u62).toNat)
        case atStart => exact ⟨0, _, _, rfl, Nat.zero_le _, FL.out, H7⟩
        case round =>
          clear H7 FL FF
          obtain ⟨k, F, f, rfl, hk, hlf, H⟩ := hrel
          by_cases hlt2 : k < ids.length
          · have hlt : (k : Int) < (ids.length : Int) := by omega
            obtain ⟨_, _, hAt⟩ := ids_at (HRow.out.below H.bel (Nat.le_refl _))
            obtain ⟨b, off, rfl, i0, i1⟩ := hAt k hlt2
            have hs := HN.out _ (List.getElem_mem hlt2)
            generalize ids[k] = x at *
            obtain ⟨o, s⟩ := x
            simp only at i0 i1 hs
            clear hAt
            obtain ⟨X, foldX⟩ : ∃ X, wr.alloc (.cells #[.int .i64 o, .int .u64 (s : Int)] 25) = X := ⟨_, rfl⟩
            have bX : Below wr.heap.size wr X := by rw [← foldX]; exact (Below.refl _ _).alloc (Nat.le_refl _) _
            obtain ⟨e0, e1⟩ : X.cell? ⟨wr.heap.size, 0, none⟩ = some (.int .i64 o) ∧ X.cell? ⟨wr.heap.size, 1, none⟩ = some (.int .u64 (s : Int)) := by rw [← foldX]; exact id_cells wr o s
            have HX := H.go bX
            have hno : ¬ F wr.heap.size := fun hf => by have := H.b.lts _ hf; omega
            have kA := kAdd X F f o s HX.b HX.fine (hlf.mono (by omega)) hs
            have ff' := HX.fine.add o hs
            have fl' := hlf.add HX.fine o s
            have fa := fresh_again (o := o) (s := s) HX.fine
            have HBX : Hid (∀ V F', Moved X V F F' → V.cell? ⟨wr.heap.size, 0, none⟩ = some (.int .i64 o) ∧ V.cell? ⟨wr.heap.size, 1, none⟩ = some (.int .u64 (s : Int))) := fun V F' m => by
              have h2 := (m.miss hno (World.block_lt_of_cell? _ _ e0)).2
              exact ⟨(World.cell?_of_block (a := ⟨wr.heap.size, 0, none⟩) h2).trans e0, (World.cell?_of_block (a := ⟨wr.heap.size, 1, none⟩) h2).trans e1⟩
            have FF : Hid (FineF (addF f o s)) := ff'
            have FF2 : Hid (FineF (addF (addF f o s) o s)) := ff'.add o hs
            have FL2 : Hid (LenF (1 + ids.length + 1 + (k + 1) + (k + 1)) (addF (addF f o s) o s)) := (fl'.add ff' o s).mono (by omega)
            have kA2 : Hid (∀ V F', Bk V W.heap.size F' (addF f o s) → Calls Try.prog 10 #[.pointer (some ⟨W.heap.size, 0, none⟩), .agg #[.int .i64 o, .int .u64 (s : Int)]] V fun e w' => e = .returned (.bool false) ∧ ∃ F'', Bk w' W.heap.size F'' (addF (addF f o s) o s) ∧ Moved V w' F' F'') := fun V F' hb => by
              have := kAdd V F' (addF f o s) o s hb ff' (fl'.mono (by omega)) hs
              rw [fa] at this
              exact this
            clear hlf H ff' fl' bX hno fa
            go_wp2_with (go_at_call 10; refine kA.mono ?_; clear kA; rintro e w8 ⟨rfl, F8, b8, m8⟩; obtain ⟨q6, q7⟩ := HBX.out w8 F8 m8)
            refine (kA2.out w8 F8 b8).mono ?_
            rintro e w9 ⟨rfl, F9, b9, m9⟩
            have H9 := (HX.to b8 m8 FF.out).to b9 m9 FF2.out
            clear HX b8 m8 b9 m9 q6 q7
            go_wp2
            exact ⟨⟨k + 1, _, _, by go_num, by omega, FL2.out, H9⟩, by simp [intOf]; omega⟩
          · obtain rfl : k = ids.length := by omega
            obtain ⟨q0, q1⟩ := HAsk.out wr H.bel
            have hz := HFN.out
            have HE : Hid (Below w.heap.size w wr) := bW.trans (H.bel.mono bW.size)
            clear HFN H hlf
            by_cases x0 : 0 < an
            · by_cases x1 : 1 ≤ ao
              · by_cases x2 : ao ≤ 8
                · rw [decide_eq_true x0, decide_eq_true x1, decide_eq_true x2] at hz
                  subst hz
                  go_wp2_with (go_at_call 8; refine (HL.out _).mono ?_; rintro e w4 ⟨rfl, b4⟩)
                  go_ret
                  exact ⟨rfl, keptW HE.out b4⟩
                · rw [decide_eq_true x0, decide_eq_true x1, decide_eq_false x2] at hz
                  subst hz
                  go_wp2_with (go_at_call 8; refine (HL.out _).mono ?_; rintro e w4 ⟨rfl, b4⟩)
                  go_ret
                  exact ⟨rfl, keptW HE.out b4⟩
              · rw [decide_eq_true x0, decide_eq_false x1] at hz
                subst hz
                go_wp2_with (go_at_call 8; refine (HL.out _).mono ?_; rintro e w4 ⟨rfl, b4⟩)
                go_ret
                exact ⟨rfl, keptW HE.out b4⟩
            · rw [decide_eq_false x0] at hz
              subst hz
              obtain rfl : an = 0 := by omega
              rw [show ((0 : Nat) : Int) = 0 from rfl] at q1
              go_wp2_with (go_at_call 8; refine (HL.out _).mono ?_; rintro e w4 ⟨rfl, b4⟩)
              go_ret
              exact ⟨rfl, keptW HE.out b4⟩
end Go.Proofs.Ytnlllpgdhnmccaa
