/-
  THE LAW SeenAdds.
-/
import Derived.Test.YtnlllpgdhnmccaaTwo9
namespace Go.Proofs.Ytnlllpgdhnmccaa
open Go.RowKit Go.Sort

set_option maxRecDepth 20000 in
set_option maxHeartbeats 8000000 in
theorem seenAdds_law (v : Value) (ids : List (Int × Nat)) (ao : Int) (an : Nat) (w : World) (hr : K.RowOf ienc w v ids) (hn : ∀ x ∈ ids, x.2 < 18446744073709551616) :
    Calls Try.prog 3 #[v, .agg #[.int .i64 ao, .int .u64 (an : Int)]] w fun e w' => e = .returned (.bool true) ∧ Below w.heap.size w w' := by
  obtain ⟨va, vc, rfl⟩ := K.RowOf.slice hr
  obtain ⟨_, hl, _⟩ := ids_at hr
  have l63 : ids.length ≤ 9223372036854775807 := by unfold maxLen at hl; omega
  obtain ⟨W, fold⟩ : ∃ W, w.alloc (.cells #[.int .i64 ao, .int .u64 (an : Int)] 25) = W := ⟨_, rfl⟩
  have bW : Below w.heap.size w W := by rw [← fold]; exact (Below.refl _ _).alloc (Nat.le_refl _) _
  have hWs : w.heap.size < W.heap.size := by rw [← fold]; simp
  obtain ⟨a0, a1⟩ : W.cell? ⟨w.heap.size, 0, none⟩ = some (.int .i64 ao) ∧ W.cell? ⟨w.heap.size, 1, none⟩ = some (.int .u64 (an : Int)) := by rw [← fold]; exact id_cells w ao an
  have HAsk : Hid (∀ V, Below W.heap.size W V → V.cell? ⟨w.heap.size, 0, none⟩ = some (.int .i64 ao) ∧ V.cell? ⟨w.heap.size, 1, none⟩ = some (.int .u64 (an : Int))) := fun V hV => ⟨cell_on hV a0, cell_on hV a1⟩
  have HRow : Hid (K.RowOf ienc W (.slice va ids.length vc) ids) := hr.below bW (Nat.le_refl _)
  have HL : Hid (∀ V, Calls Try.prog 8 #[] V fun e w' => e = .returned (.bool true) ∧ Below V.heap.size V w') := livesB_any
  have HN : Hid (∀ x ∈ ids, x.2 < 18446744073709551616) := hn
  clear hr hl hn
  by_cases hlong : 100 < ids.length
  · have hlong' : (100 : Int) < (ids.length : Int) := by omega
    go_enter Try.func3, Try.ntmps3
    go_wp2_with (go_at_call 8; refine (HL.out _).mono ?_; rintro e w4 ⟨rfl, b4⟩)
    go_ret
    exact ⟨rfl, keptW bW b4⟩
  · have hlong' : ¬ ((100 : Int) < (ids.length : Int)) := by omega
    have hB := bnew_any W
    unfold ptrS at hB
    go_enter Try.func3, Try.ntmps3
    go_wp2_with (go_at_call 9; refine hB.mono ?_; rintro e w1 ⟨rfl, F1, b1, frm, bel⟩; obtain ⟨W2, fold2⟩ : ∃ W2, w1.alloc (.cells #[.slice none 0 0, .slice none 0 0, .slice none 0 0, .slice none 0 0, .slice none 0 0, .slice none 0 0, .slice none 0 0, .slice none 0 0, .slice none 0 0] 33) = W2 := ⟨_, rfl⟩; have H0 : Hid (Two9 W W2 W.heap.size F1 (fun _ => []) w1.heap.size (fun k => k = w1.heap.size) (fun _ => [])) := two9_new b1 frm bel fold2; clear b1 frm bel)
    clear fold fold2 hB
    go_loopw [20] (fun u20 wr => ∃ (k : Nat) (F G : Nat → Prop) (f : Nat → List (Nat × Nat)), u20 = .int .i64 k ∧ k ≤ ids.length ∧ LenF k f ∧ Two9 W wr W.heap.size F f w1.heap.size G f) (fun u20 _ => ids.length - (intOf u20).toNat)
    case atStart => exact ⟨0, _, _, _, rfl, Nat.zero_le _, lenF_nil, H0.out⟩
    case round =>
      obtain ⟨k, F, G, f, rfl, hk, hlf, H⟩ := hrel
      clear H0
      by_cases hlt2 : k < ids.length
      · have hlt : (k : Int) < (ids.length : Int) := by omega
        obtain ⟨_, _, hAt⟩ := ids_at (HRow.out.below H.bel (Nat.le_refl _))
        obtain ⟨b, off, rfl, i0, i1⟩ := hAt k hlt2
        have hs := HN.out _ (List.getElem_mem hlt2)
        generalize ids[k] = x at *
        obtain ⟨o, s⟩ := x
        simp only at i0 i1 hs
        clear hAt
        obtain ⟨X, foldX⟩ : ∃ X, wr.alloc (.cells #[.int .i64 o, .int .u64 (s : Int)] 25) = X := ⟨_, rfl⟩
        have HX := H.box foldX
        have HD : St9 W X.drew W.heap.size F f w1.heap.size G f wr.heap.size o s := HX.go (Below.refl _ _).drew
        have e0 := HX.c0
        have e1 := HX.c1
        obtain ⟨q0, q1⟩ := HAsk.out X HX.two.bel
        have hlf' : LenF 100000 f := hlf.mono (by omega)
        have fl' := hlf.add H.ff o s
        have ff' := H.ff.add o hs
        have kB := badd_any W.heap.size F f o s X.drew HD.two.b H.ff hlf' hs
        have kR : Hid (∀ V F' f', St9 W V W.heap.size F' f' w1.heap.size G f wr.heap.size o s → Calls Try.prog 11 #[.pointer (some ⟨w1.heap.size, 0, none⟩), .agg #[.int .i64 o, .int .u64 (s : Int)]] V fun e w' => e = .returned (.bool (freshF f o s)) ∧ ∃ G', Rb w' w1.heap.size G' (addF f o s) ∧ Moved V w' G G') := fun V F' f' hV => rbadd_any _ G f o s V hV.two.r H.ff hlf' hs
        have HK : Hid (∀ {V : World} {F' G' : Nat → Prop} {f' g' : Nat → List (Nat × Nat)}, St9 W V W.heap.size F' f' w1.heap.size G' g' wr.heap.size o s → V.cell? ⟨wr.heap.size, 0, none⟩ = some (.int .i64 o) ∧ V.cell? ⟨wr.heap.size, 1, none⟩ = some (.int .u64 (s : Int)) ∧ V.cell? ⟨w.heap.size, 0, none⟩ = some (.int .i64 ao) ∧ V.cell? ⟨w.heap.size, 1, none⟩ = some (.int .u64 (an : Int))) := fun hV => ⟨hV.c0, hV.c1, HAsk.out _ hV.two.bel⟩
        generalize freshF f o s = z at kB kR
        have HE : Hid (∀ V F' G', St9 W V W.heap.size F' (addF f o s) w1.heap.size G' (addF f o s) wr.heap.size o s → LenF (k + 1) (addF f o s) → Two9 W V W.heap.size F' (addF f o s) w1.heap.size G' (addF f o s)) := fun V F' G' hV _ => hV.two
        have kA : Hid (∀ V F' G', St9 W V W.heap.size F' (addF f o s) w1.heap.size G' (addF f o s) wr.heap.size o s → Calls Try.prog 12 #[.pointer (some ⟨W.heap.size, 0, none⟩), .pointer (some ⟨w1.heap.size, 0, none⟩)] V fun e w' => e = .returned (.bool true) ∧ Below V.heap.size V w') := fun V F' G' hV => alikeB_any _ _ _ _ _ V hV.two.b hV.two.r ff' (fl'.mono (by omega))
        have kH : Hid (∀ V F' G', St9 W V W.heap.size F' (addF f o s) w1.heap.size G' (addF f o s) wr.heap.size o s → Calls Try.prog 13 #[.pointer (some ⟨W.heap.size, 0, none⟩), .agg #[.int .i64 ao, .int .u64 (an : Int)]] V fun e w' => e = .returned (.bool (memB (ofF (addF f o s) ao) an)) ∧ Below V.heap.size V w') := fun V F' G' hV => bhas_any _ _ ao an V hV.two.b.told (ff'.of ao).1 ((fl'.mono (by omega)).of ao)
        have kRH : Hid (∀ V F' G', St9 W V W.heap.size F' (addF f o s) w1.heap.size G' (addF f o s) wr.heap.size o s → Calls Try.prog 14 #[.pointer (some ⟨w1.heap.size, 0, none⟩), .agg #[.int .i64 ao, .int .u64 (an : Int)]] V fun e w' => e = .returned (.bool (memB (ofF (addF f o s) ao) an)) ∧ Below V.heap.size V w') := fun V F' G' hV => rbhas_any _ _ _ ao an V hV.two.r
        generalize memB (ofF (addF f o s) ao) an = y at kH kRH
        have HF' : Hid (LenF (k + 1) (addF f o s)) := fl'
        have FF : Hid (FineF (addF f o s)) := ff'
        unfold ptrS at kB
        clear H HX HAsk hlf hlf' fl' ff' hs
        go_wp2
        first | (go_region_held3 (fun w' => w'.cell? ⟨wr.heap.size, 0, none⟩ = some (.int .i64 o) ∧ w'.cell? ⟨wr.heap.size, 1, none⟩ = some (.int .u64 (s : Int)) ∧ w'.cell? ⟨w.heap.size, 0, none⟩ = some (.int .i64 ao) ∧ w'.cell? ⟨w.heap.size, 1, none⟩ = some (.int .u64 (an : Int))) (go_keep) (first
          | (go_at_call 10; refine kB.mono ?_; rintro e wx ⟨rfl, Fx, bx, mx⟩; have Sx := HD.goB bx mx FF.out; obtain ⟨k0, k1, k2, k3⟩ := HK.out Sx; clear bx mx)
          | (go_at_call 11; refine (kR.out wx _ _ Sx).mono ?_; rintro e wy ⟨rfl, Gy, bY, my⟩; have Sy := Sx.goR bY my FF.out; obtain ⟨k4, k5, k6, k7⟩ := HK.out Sy; clear bY my)
          | (go_at_call 12; refine (kA.out wy _ _ Sy).mono ?_; rintro e wz ⟨rfl, bz⟩; have Sz := Sy.go bz; obtain ⟨k8, k9, k10, k11⟩ := HK.out Sz; clear bz)
          | (go_at_call 13; refine (kH.out wz _ _ Sz).mono ?_; rintro e wu ⟨rfl, bu⟩; have Su := Sz.go bu; obtain ⟨k12, k13, k14, k15⟩ := HK.out Su; clear bu)
          | (go_at_call 14; refine (kRH.out wu _ _ Su).mono ?_; rintro e wv ⟨rfl, bv⟩; have Sv := Su.go bv; obtain ⟨k16, k17, k18, k19⟩ := HK.out Sv; clear bv))) | fail
        all_goals go_wp2
        all_goals exact ⟨⟨k + 1, _, _, _, by go_num, by omega, HF'.out, Sv.two⟩, by simp [intOf]; omega⟩
      · obtain rfl : k = ids.length := by omega
        go_wp2_with (go_at_call 8; refine (HL.out _).mono ?_; rintro e w4 ⟨rfl, b4⟩)
        go_ret
        exact ⟨rfl, bW.trans ((keptW H.bel b4).mono bW.size)⟩
end Go.Proofs.Ytnlllpgdhnmccaa
