/-
  THE DOCUMENT's put, by its contract.
-/
import Derived.Test.YtocdfcaakflgpaaSwap8
import Derived.BigRegion
import Derived.BigQuiet
import Derived.Deep.RegionLaw
import Derived.Deep.CutRange
namespace Go.Proofs.Ytocdfcaakflgpaa
open Go.RowKit Go.Sort

set_option maxRecDepth 20000 in
set_option maxHeartbeats 4000000 in
theorem rput_any (v : Value) (l : List It) (x : It) (w : World) (hr : Rows w v l) (hlen : l.length ≤ 1000) (hrise : Rise l) (hnew : ∀ y ∈ l, y.tag ≠ x.tag) :
    Calls Try.prog 51 #[v, iv x] w fun e w' => ∃ v', e = .returned v' ∧ Own8 w' w.heap.size v' (ins x l) ∧ Below w.heap.size w w' := by
  obtain ⟨a, cap, rfl⟩ := hr.slice
  obtain ⟨W, fold⟩ : ∃ W, w.alloc (.cells #[.int .u64 (x.tag : Int), .int .i64 x.m.o, .int .u64 x.m.s, .int .i64 x.m.hop, .string x.m.ex, .string x.m.key, .string x.m.body, .bool x.again] 38) = W := ⟨_, rfl⟩
  have bW : Below w.heap.size w W := by rw [← fold]; exact below_alloc _ _
  have iW : ItAt W w.heap.size 0 x := by rw [← fold]; exact itAt_new w x _ rfl
  have hWs : w.heap.size < W.heap.size := by rw [← fold]; simp
  obtain ⟨i0, hi0, hz0, hzs, hzb⟩ := itemInfo
  have hrW := hr.below bW (Nat.le_refl _)
  obtain ⟨X, hX⟩ : ∃ X : Obj, X = .cells #[.int .u64 (x.tag : Int), .int .i64 x.m.o, .int .u64 x.m.s, .int .i64 x.m.hop, .string x.m.ex, .string x.m.key, .string x.m.body, .bool x.again] 38 := ⟨_, rfl⟩
  have belD : Below W.heap.size W W.drew := (Below.refl _ _).drew
  have belA : Below W.heap.size W (W.drew.alloc (.cells #[] 38)) := belD.alloc (Nat.le_refl _) _
  have belC : Below W.heap.size W ((W.drew.alloc (.cells #[] 38)).alloc X) := belA.alloc (by simp) _
  have belF : Below W.heap.size W ((W.drew.alloc X).alloc (.cells #[] 38)) := (belD.alloc (Nat.le_refl _) _).alloc (by simp) _
  have eA : Own8 (W.drew.alloc (.cells #[] 38)) W.heap.size (.slice (some ⟨W.heap.size, 0, none⟩) 0 0) [] := ownOf_empty W.drew W.heap.size (Nat.le_refl _)
  have eC : Own8 ((W.drew.alloc (.cells #[] 38)).alloc X) W.heap.size (.slice (some ⟨W.heap.size, 0, none⟩) 0 0) [] := eA.alloc X
  have eF : Own8 ((W.drew.alloc X).alloc (.cells #[] 38)) W.heap.size (.slice (some ⟨W.heap.size + 1, 0, none⟩) 0 0) [] := by
    have := ownOf_empty (enc := icells) (K := 8) (T := 38) (W.drew.alloc X) W.heap.size (by simp)
    rwa [World.size_alloc] at this
  have rA : Rows _ (.slice a l.length cap) l := hrW.below belA (Nat.le_refl _)
  have rC : Rows _ (.slice a l.length cap) l := hrW.below belC (Nat.le_refl _)
  have rF : Rows _ (.slice a l.length cap) l := hrW.below belF (Nat.le_refl _)
  -- behind the first append
  have FA : Hid (∀ w1, (W.drew.alloc (.cells #[] 38)).grownBy w1 (some W.heap.size) → ItAt w1 w.heap.size 0 x ∧ Below W.heap.size W w1) := fun w1 gr => by
    refine ⟨(iW.below belA (Nat.le_refl _)).same (gr.block _ (by simp; omega) (fun h => by injection h with h; omega)), belA.grown gr (by simp) (fun k hk => by injection hk with hk; omega)⟩
  have FC : Hid (∀ w1, ((W.drew.alloc (.cells #[] 38)).alloc X).grownBy w1 (some W.heap.size) → Rows w1 (.slice (some ⟨W.heap.size + 1, 0, none⟩) 1 1) [x] ∧ Below W.heap.size W w1) := fun w1 gr => by
    have h1 : Rows ((W.drew.alloc (.cells #[] 38)).alloc X) (.slice (some ⟨W.heap.size + 1, 0, none⟩) 1 1) [x] := by rw [hX]; exact row_one _ x _ (by simp)
    refine ⟨h1.same fun g hg => ?_, belC.grown gr (by simp; omega) (fun k hk => by injection hk with hk; omega)⟩
    have hg' : g = W.heap.size + 1 := (Option.some.inj hg).symm
    subst hg'
    exact gr.block _ (by simp) (fun h => by injection h with h; omega)
  have FF : Hid (∀ w1, ((W.drew.alloc X).alloc (.cells #[] 38)).grownBy w1 (some (W.heap.size + 1)) → Rows w1 (.slice (some ⟨W.heap.size, 0, none⟩) 1 1) [x] ∧ Below W.heap.size W w1) := fun w1 gr => by
    have h0 : Rows (W.drew.alloc X) (.slice (some ⟨W.heap.size, 0, none⟩) 1 1) [x] := by rw [hX]; exact row_one W.drew x _ rfl
    have h1 : Rows ((W.drew.alloc X).alloc (.cells #[] 38)) (.slice (some ⟨W.heap.size, 0, none⟩) 1 1) [x] := h0.below (below_alloc _ _) (Nat.le_refl _)
    refine ⟨h1.same fun g hg => ?_, belF.grown gr (by simp; omega) (fun k hk => by injection hk with hk; omega)⟩
    have hg' : g = W.heap.size := (Option.some.inj hg).symm
    subst hg'
    exact gr.block _ (by simp; omega) (fun h => by injection h with h; omega)
  have xa := fun o => cell_alloc_r (W := W.drew) o iW.c0
  obtain ⟨x0, x1, x2, x3, x4, x5, x6, x7⟩ := iW
  have y0 := fun o => cell_alloc_r (W := W.drew) o x0
  have y1 := fun o => cell_alloc_r (W := W.drew) o x1
  have y2 := fun o => cell_alloc_r (W := W.drew) o x2
  have y3 := fun o => cell_alloc_r (W := W.drew) o x3
  have y4 := fun o => cell_alloc_r (W := W.drew) o x4
  have y5 := fun o => cell_alloc_r (W := W.drew) o x5
  have y6 := fun o => cell_alloc_r (W := W.drew) o x6
  have y7 := fun o => cell_alloc_r (W := W.drew) o x7
  have z0 := fun o => cell_alloc_r (W := W) o x0
  have z1 := fun o => cell_alloc_r (W := W) o x1
  have z2 := fun o => cell_alloc_r (W := W) o x2
  have z3 := fun o => cell_alloc_r (W := W) o x3
  have z4 := fun o => cell_alloc_r (W := W) o x4
  have z5 := fun o => cell_alloc_r (W := W) o x5
  have z6 := fun o => cell_alloc_r (W := W) o x6
  have z7 := fun o => cell_alloc_r (W := W) o x7
  simp only [Nat.zero_add] at x0 x1 x2 x3 x4 x5 x6 x7 y0 y1 y2 y3 y4 y5 y6 y7 z0 z1 z2 z3 z4 z5 z6 z7
  clear xa hr
  have HWS : Hid (w.heap.size < W.heap.size) := hWs
  have hpn : ¬ w.heap.size = W.heap.size := by omega
  have sb1 : ([] : List It).length + l.length ≤ maxLen := by unfold maxLen; simp; omega
  have sb2 : (([] : List It).length + l.length) * 88 ≤ 140737488355328 := by simp; omega
  subst hX
  go_enter Try.func51, Try.ntmps51
  go_wp2
  have HBW : Hid (Below w.heap.size w W) := bW
  have HRI : Hid (Rise l) := hrise
  have HNW : Hid (∀ y ∈ l, y.tag ≠ x.tag) := hnew
  have HLE : Hid (l.length ≤ 1000) := hlen
  clear hrise hnew
  go_cut [5] from 6 to 51 (fun u5 wx => Own8 wx W.heap.size u5 (l ++ [x]) ∧ Below W.heap.size W wx)
  case first =>
    go_region_law (first
      | (refine step_append_rows (enc := icells) rfl (.tmp 7) (.tmp 8) 47 rfl Try.underlying47 i0 _ 88 hi0 hz0 hzs hzb rfl W.heap.size (.slice (some ⟨W.heap.size, 0, none⟩) 0 0) (.slice a l.length cap) [] l (by simp [Act.eval]) (by simp [Act.eval]) eA rA sb1 sb2 (by simp) ?_; intro v1 w1 own1 gr1 nw1; obtain ⟨i1, b1⟩ := FA.out w1 gr1; obtain ⟨va1, vc1, hv1⟩ := own1.rng.slice; rw [List.nil_append] at hv1 own1; subst hv1; obtain ⟨c0, c1, c2, c3, c4, c5, c6, c7⟩ := i1; simp only [Nat.zero_add] at c0 c1 c2 c3 c4 c5 c6 c7; clear gr1 nw1)
      | (refine step_append_rows (enc := icells) rfl (.tmp 7) (.tmp 8) 47 rfl Try.underlying47 i0 _ 88 hi0 hz0 hzs hzb rfl W.heap.size (.slice (some ⟨W.heap.size, 0, none⟩) 0 0) (.slice a l.length cap) [] l (by simp [Act.eval]) (by simp [Act.eval]) eC rC sb1 sb2 (by simp; omega) ?_; intro v1 w1 own1 gr1 nw1; obtain ⟨rx, b1⟩ := FC.out w1 gr1; obtain ⟨va1, vc1, hv1⟩ := own1.rng.slice; rw [List.nil_append] at hv1 own1; subst hv1; clear gr1 nw1)
      | (refine step_append_rows (enc := icells) rfl (.tmp 7) (.tmp 8) 47 rfl Try.underlying47 i0 _ 88 hi0 hz0 hzs hzb rfl W.heap.size (.slice (some ⟨W.heap.size + 1, 0, none⟩) 0 0) (.slice a l.length cap) [] l (by simp [Act.eval]) (by simp [Act.eval]) eF rF sb1 sb2 (by simp; omega) ?_; intro v1 w1 own1 gr1 nw1; obtain ⟨rx, b1⟩ := FF.out w1 gr1; obtain ⟨va1, vc1, hv1⟩ := own1.rng.slice; rw [List.nil_append] at hv1 own1; subst hv1; clear gr1 nw1)
      | (refine step_append_rows (enc := icells) rfl (.tmp 9) (.tmp 11) 47 rfl Try.underlying47 i0 _ 88 hi0 hz0 hzs hzb rfl W.heap.size (.slice va1 l.length vc1) _ l [x] (by simp [Act.eval]) rfl own1 rx (by unfold maxLen; simp; omega) (by simp; omega) b1.size ?_; intro v2 w2 own2 gr2 nw2; have HB : Hid (Below W.heap.size W w2) := own1.below gr2 b1 b1.size (Nat.le_refl _); obtain ⟨va2, vc2, hv2⟩ := own2.rng.slice; rw [List.length_append, List.length_singleton] at hv2; subst hv2; clear gr2 nw2)
      | (refine step_append_rows (enc := icells) rfl (.tmp 9) (.tmp 11) 47 rfl Try.underlying47 i0 _ 88 hi0 hz0 hzs hzb rfl W.heap.size (.slice va1 l.length vc1) _ l [x] (by simp [Act.eval]) rfl (own1.alloc _) (row_one _ _ _ rfl) (by unfold maxLen; simp; omega) (by simp; omega) (by have := b1.size; simp; omega) ?_; intro v2 w2 own2 gr2 nw2; have HB : Hid (Below W.heap.size W w2) := (own1.alloc _).below gr2 (b1.alloc b1.size _) (by have := b1.size; simp; omega) (Nat.le_refl _); obtain ⟨va2, vc2, hv2⟩ := own2.rng.slice; rw [List.length_append, List.length_singleton] at hv2; subst hv2; clear gr2 nw2))
    all_goals go_wp2
    all_goals go_meet
    all_goals exact ⟨own2, HB.out⟩
  case rest =>
    obtain ⟨own0, bel0⟩ := hcut
    rcases own0.split with ⟨_, hnil⟩ | ⟨g, cc, T0, hu, hg, hblk, hcc, hcm⟩
    · simp at hnil
    obtain ⟨N, hN⟩ : ∃ N, N = l.length + 1 := ⟨_, rfl⟩
    have hl1 : (l ++ [x]).length = N := by simp [hN]
    rw [hl1] at hu
    subst hu
    have HNN : Hid (N = l.length + 1) := hN
    have hwW := HBW.out.size
    have FIN : Hid (∀ wr pre suf, Own8 wr W.heap.size (.slice (some ⟨g, 0, none⟩) N cc) (pre ++ x :: suf) → Below W.heap.size W wr → ins x (pre ++ suf) = pre ++ x :: suf → l = pre ++ suf → Own8 wr w.heap.size (.slice (some ⟨g, 0, none⟩) N cc) (ins x l) ∧ Below w.heap.size w wr) := fun wr pre suf ho hb hi hs => by
      rw [hs, hi]
      exact ⟨ho.mono hwW, HBW.out.trans (hb.mono hwW)⟩
    clear x0 x1 x2 x3 x4 x5 x6 x7 y0 y1 y2 y3 y4 y5 y6 y7 z0 z1 z2 z3 z4 z5 z6 z7 FA FC FF rA rC rF eA eC eF belA belC belD belF hblk hl1 hN sb1 sb2 hlen bW hWs hrW hwW fold hpn
    have hN1 : IntKind.i64.wrap ((N : Int) - 1) = (l.length : Int) := by rw [IntKind.wrap_i64]; have := HNN.out; have := HLE.out; omega
    go_wp2
    go_loopw [6] (fun u6 wr => ∃ (k : Nat) (pre suf : List It), u6 = .int .i64 k ∧ pre.length = k ∧ l = pre ++ suf ∧ (∀ y ∈ suf, x.tag < y.tag) ∧ Own8 wr W.heap.size (.slice (some ⟨g, 0, none⟩) N cc) (pre ++ x :: suf) ∧ Below W.heap.size W wr) (fun u6 wr => (intOf u6).toNat)
    case atStart => exact ⟨l.length, l, [], by first | rfl | (congr 1; have := HNN.out; omega), rfl, by simp, by simp, own0, bel0⟩
    case round =>
      obtain ⟨k, pre, suf, rfl, hk, hps, hsuf, hown, hbr⟩ := hrel
      by_cases hk0 : k = 0
      · subst hk0
        have hpre : pre = [] := List.eq_nil_of_length_eq_zero hk
        have HI : Hid (ins x (pre ++ suf) = pre ++ x :: suf) := ins_mid (by rw [hpre]; simp) hsuf
        have HE : Hid (∀ n, Own8 (wr.drewN n) w.heap.size (.slice (some ⟨g, 0, none⟩) N cc) (ins x l) ∧ Below w.heap.size w (wr.drewN n)) := fun n => FIN.out (wr.drewN n) pre suf hown (hbr.trans ⟨rfl, rfl, rfl, Nat.le_refl _, fun _ _ => rfl⟩) HI.out hps
        clear hown hbr hsuf hps hpre hk
        go_wp2
        go_quiet (fail)
        go_wp2
        go_ret
        exact ⟨_, rfl, HE.out _⟩
      · obtain ⟨pre', y, rfl⟩ : ∃ pre' y, pre = pre' ++ [y] := by
          rcases List.eq_nil_or_concat pre with rfl | ⟨pre', y, rfl⟩
          · simp at hk; omega
          · exact ⟨pre', y, by simp⟩
        obtain ⟨j, hj⟩ : ∃ j, pre'.length = j := ⟨_, rfl⟩
        have hkj : k = j + 1 := by rw [← hk, ← hj]; simp
        have hne : y.tag ≠ x.tag := HNW.out y (by rw [hps]; simp)
        have hjl : j + 1 ≤ l.length := by rw [hps]; simp; omega
        have hord : Rise ((pre' ++ [y]) ++ suf) := by rw [← hps]; exact HRI.out
        have he := hown.rng.items.2.2
        have ey := he j (by simp; omega)
        have ex := he (j + 1) (by simp; omega)
        obtain ⟨gb, go', hga, ey⟩ := ey
        obtain ⟨gb2, go2, hga2, ex⟩ := ex
        injection hga with hga
        injection hga with hga1 hga2'
        subst hga1 hga2'
        injection hga2 with hga2
        injection hga2 with hgb1 hgb2
        subst hgb1 hgb2
        rw [Nat.zero_add] at ey ex
        have iy : ((pre' ++ [y]) ++ x :: suf)[j]'(by simp; omega) = y := by simp [hj]
        have ix : ((pre' ++ [y]) ++ x :: suf)[j + 1]'(by simp; omega) = x := by simp [hj]
        rw [iy] at ey
        rw [ix, ← hkj] at ex
        obtain ⟨n0, n1, n2, n3, n4, n5, n6, n7⟩ := ey
        obtain ⟨m0, m1, m2, m3, m4, m5, m6, m7⟩ := ex
        have o5 : ∀ q, wr.frozen? ⟨g, q, none⟩ = false := by
          rcases hown.split with ⟨hv, _⟩ | ⟨g', c', R, hv, _, hg', _⟩
          · cases hv
          · injection hv with h1
            injection h1 with h1
            injection h1 with h1
            subst h1
            exact frozen_of_list hg'
        have hkN : (k : Int) < (N : Int) := by have := HNN.out; omega
        have hjN : (j : Int) < (N : Int) := by have := HNN.out; omega
        have hpos : decide (0 < k) = true := decide_eq_true (by omega)
        have hpos' : 0 < k := by omega
        have hsub : IntKind.i64.wrap ((k : Int) - 1) = (j : Int) := by rw [IntKind.wrap_i64]; have := HLE.out; omega
        have HKJ : Hid (k = j + 1) := hkj
        have HJ : Hid (pre'.length = j) := hj
        clear iy ix
        clear he hk hjl hkj hk0 hj
        by_cases hcc : y.tag < x.tag
        · have HI : Hid (ins x ((pre' ++ [y]) ++ suf) = (pre' ++ [y]) ++ x :: suf) := ins_mid (pre_rise (by simpa using hord) hcc) hsuf
          have HE : Hid (∀ n, Own8 (wr.drewN n) w.heap.size (.slice (some ⟨g, 0, none⟩) N cc) (ins x l) ∧ Below w.heap.size w (wr.drewN n)) := fun n => FIN.out (wr.drewN n) _ suf hown (hbr.trans ⟨rfl, rfl, rfl, Nat.le_refl _, fun _ _ => rfl⟩) HI.out hps
          have hd : decide ((x.tag : Int) < (y.tag : Int)) = false := decide_eq_false (by omega)
          have hd' : ¬ x.tag < y.tag := by omega
          clear hown hbr hsuf hps hord hne hcc
          go_wp2
          go_quiet (fail)
          go_wp2
          go_ret
          exact ⟨_, rfl, HE.out _⟩
        · have hxy : x.tag < y.tag := by omega
          have HS1 : Hid (∀ V', Own8 V' W.heap.size (.slice (some ⟨g, 0, none⟩) N cc) ((pre' ++ [y]) ++ x :: suf) → Below W.heap.size W V' → Own8 (put8o (put8o V' g (j * 8) (.int .u64 (x.tag : Int)) (.int .i64 x.m.o) (.int .u64 x.m.s) (.int .i64 x.m.hop) (.string x.m.ex) (.string x.m.key) (.string x.m.body) (.bool x.again)) g (k * 8) (.int .u64 (y.tag : Int)) (.int .i64 y.m.o) (.int .u64 y.m.s) (.int .i64 y.m.hop) (.string y.m.ex) (.string y.m.key) (.string y.m.body) (.bool y.again)) W.heap.size (.slice (some ⟨g, 0, none⟩) N cc) (pre' ++ x :: (y :: suf)) ∧ Below W.heap.size W (put8o (put8o V' g (j * 8) (.int .u64 (x.tag : Int)) (.int .i64 x.m.o) (.int .u64 x.m.s) (.int .i64 x.m.hop) (.string x.m.ex) (.string x.m.key) (.string x.m.body) (.bool x.again)) g (k * 8) (.int .u64 (y.tag : Int)) (.int .i64 y.m.o) (.int .u64 y.m.s) (.int .i64 y.m.hop) (.string y.m.ex) (.string y.m.key) (.string y.m.body) (.bool y.again))) := fun V' h0 hb => by
            rw [show (pre' ++ [y]) ++ x :: suf = pre' ++ y :: (x :: suf) by simp] at h0
            have h1 := own_put8 (enc := icells) x rfl h0
            rw [show pre' ++ x :: x :: suf = (pre' ++ [x]) ++ x :: suf by simp] at h1
            have h2 := own_put8 (enc := icells) y rfl h1
            rw [show (pre' ++ [x]) ++ y :: suf = pre' ++ x :: (y :: suf) by simp] at h2
            have hj : pre'.length = j := HJ.out
            rw [hj] at h2
            rw [show (pre' ++ [x]).length = k by rw [HKJ.out]; simp [hj]] at h2
            exact ⟨h2, put8o_below _ _ _ _ _ _ _ _ (put8o_below _ _ _ _ _ _ _ _ hb hg) hg⟩
          have HPS : Hid (l = pre' ++ (y :: suf) ∧ ∀ z ∈ y :: suf, x.tag < z.tag) := ⟨by rw [hps]; simp, fun z hz => by
            rcases List.mem_cons.1 hz with rfl | hz
            · exact hxy
            · exact hsuf z hz⟩
          have O1 : Hid _ := hown
          have O2 : Hid _ := hbr
          have hd : decide ((x.tag : Int) < (y.tag : Int)) = true := decide_eq_true (by omega)
          clear hown hbr hsuf hps hord hne hcc
          go_wp2
          go_quiet (fail)
          go_wp2
          have b0 : (0 : Int) ≤ (j : Int) := by omega
          have b2 : (j : Int) + 1 < (N : Int) := by have := HKJ.out; omega
          have b3 : (j : Int) + 1 ≤ 9223372036854775807 := by have := HLE.out; have := HNN.out; omega
          have hkj : k = j + 1 := HKJ.out
          subst hkj
          clear hsub hkN hpos hpos' hd hxy hjN
          have b1 : (j : Int) < (N : Int) := by omega
          go_region
          all_goals go_wp2
          all_goals exact ⟨⟨j, pre', y :: suf, rfl, HJ.out, HPS.out.1, HPS.out.2, (HS1.out (wr.drewN _) O1.out (Below.trans O2.out ⟨rfl, rfl, rfl, Nat.le_refl _, fun _ _ => rfl⟩)).1, (HS1.out (wr.drewN _) O1.out (Below.trans O2.out ⟨rfl, rfl, rfl, Nat.le_refl _, fun _ _ => rfl⟩)).2⟩, by simp [intOf]⟩
end Go.Proofs.Ytocdfcaakflgpaa
