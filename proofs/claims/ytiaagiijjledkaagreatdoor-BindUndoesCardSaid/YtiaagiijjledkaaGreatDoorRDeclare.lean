/-
  THE DOCUMENT's Declare, by its contract.
-/
import Derived.Test.YtiaagiijjledkaaGreatDoorSwap3
import Derived.BigRegion
import Derived.BigQuiet
import Derived.Deep.RegionLaw
import Derived.Deep.CutRange
namespace Go.Proofs.YtiaagiijjledkaaGreatDoor
open Go.RowKit Go.Sort

theorem rmoved_keep {w w' : World} {p : Nat} {F : Nat → Prop} {s : Tb} (h : RT w p F s) (b : Below w.heap.size w w') : ∃ F', RT w' p F' s ∧ Moved w w' F F' := ⟨F, h.kept b, .of_below b⟩

set_option maxRecDepth 20000 in
set_option maxHeartbeats 4000000 in
theorem rdeclare_any (p : Nat) (F : Nat → Prop) (s : Tb) (x : Ex) (w : World) (h : RT w p F s) (ok : s.Ok) (hs : x.name.size ≤ maxLen) :
    Calls Tryz.prog 21 #[.pointer (some ⟨p, 0, none⟩), xv x] w fun e w' => e = .returned (.int .i64 (s.declare x).1) ∧ ∃ F', RT w' p F' (s.declare x).2 ∧ Moved w w' F F' := by
  obtain ⟨W, fold⟩ : ∃ W, w.alloc (.cells #[.string x.name, .int .i64 x.kind, .bool x.fed] 33) = W := ⟨_, rfl⟩
  have bW : Below w.heap.size w W := by rw [← fold]; exact (Below.refl _ _).alloc (Nat.le_refl _) _
  have x0 : W.cell? ⟨w.heap.size, 0, none⟩ = some (.string x.name) := by rw [← fold]; exact cell_of_list (C := xcells x) (heap_alloc_new w _) 0
  have x1 : W.cell? ⟨w.heap.size, 1, none⟩ = some (.int .i64 x.kind) := by rw [← fold]; exact cell_of_list (C := xcells x) (heap_alloc_new w _) 1
  have x2 : W.cell? ⟨w.heap.size, 2, none⟩ = some (.bool x.fed) := by rw [← fold]; exact cell_of_list (C := xcells x) (heap_alloc_new w _) 2
  have hG := rgood_any x W hs
  have HX : Hid (∀ V, Below W.heap.size W V → V.cell? ⟨w.heap.size, 0, none⟩ = some (.string x.name) ∧ V.cell? ⟨w.heap.size, 1, none⟩ = some (.int .i64 x.kind) ∧ V.cell? ⟨w.heap.size, 2, none⟩ = some (.bool x.fed)) := fun V hV =>
    ⟨(hV.cell (p := ⟨w.heap.size, 0, none⟩) (World.block_lt_of_cell? _ _ x0)).trans x0, (hV.cell (p := ⟨w.heap.size, 1, none⟩) (World.block_lt_of_cell? _ _ x1)).trans x1, (hV.cell (p := ⟨w.heap.size, 2, none⟩) (World.block_lt_of_cell? _ _ x2)).trans x2⟩
  have HEnd : Hid (∀ V, Below W.heap.size W V → ∃ F', RT V p F' s ∧ Moved w V F F') := fun V hV => rmoved_keep h (bW.trans (hV.mono bW.size))
  have HR : Hid (∀ V, Below W.heap.size W V → RT V p F s) := fun V hV => (h.kept bW).kept hV
  have hlen : s.xs.length ≤ 1000000 := by have := ok.nx; omega
  cases hg : goodX x with
  | false =>
    have hd : s.declare x = (2, s) := by unfold Tb.declare; rw [if_pos hg]
    rw [hd]
    rw [hg] at hG
    go_enter Tryz.func21, Tryz.ntmps21
    go_wp2_with fail
    refine hG.mono ?_
    rintro e w2 ⟨rfl, b2⟩
    go_wp2
    go_ret
    exact ⟨rfl, HEnd.out _ b2⟩
  | true =>
    rw [hg] at hG
    have HG : Hid (goodX x = true) := hg
    clear hg
    go_enter Tryz.func21, Tryz.ntmps21
    go_wp2_with fail
    refine hG.mono ?_
    rintro e w2 ⟨rfl, b2⟩
    obtain ⟨y0, y1, y2⟩ := HX.out w2 b2
    have hFi := rfind_any p F s x.name w2 (HR.out w2 b2) hlen
    clear x0 x1 x2 hG fold
    go_wp2_with fail
    refine hFi.mono ?_
    rintro e w3 ⟨rfl, b3⟩
    have B3 := b2.trans (b3.mono b2.size)
    clear y0 y1 y2 hFi
    cases hf : findX s.xs x.name with
    | some y =>
      simp only [Option.getD_some, Option.isSome_some]
      obtain ⟨V, foldV⟩ : ∃ V, w3.alloc (.cells #[.string y.name, .int .i64 y.kind, .bool y.fed] 33) = V := ⟨_, rfl⟩
      have BV : Below W.heap.size W V := by rw [← foldV]; exact B3.alloc B3.size _
      obtain ⟨v0, v1, v2⟩ := HX.out V BV
      have z0 : V.cell? ⟨w3.heap.size, 0, none⟩ = some (.string y.name) := by rw [← foldV]; exact cell_of_list (C := xcells y) (heap_alloc_new w3 _) 0
      have z1 : V.cell? ⟨w3.heap.size, 1, none⟩ = some (.int .i64 y.kind) := by rw [← foldV]; exact cell_of_list (C := xcells y) (heap_alloc_new w3 _) 1
      have z2 : V.cell? ⟨w3.heap.size, 2, none⟩ = some (.bool y.fed) := by rw [← foldV]; exact cell_of_list (C := xcells y) (heap_alloc_new w3 _) 2
      have hyn := (findX_some hf).2
      have HE : Hid _ := HEnd.out V BV
      have HD : Hid (s.declare x = if y = x then (0, s) else (12, s)) := by show _ = _; unfold Tb.declare; rw [if_neg (by rw [HG.out]; decide), hf]
      by_cases hyx : y = x
      · have HD' : Hid (s.declare x = (0, s)) := by show _ = _; rw [HD.out, if_pos hyx]
        subst hyx
        clear hf hyn HD BV b2 b3 B3
        go_wp2
        go_ret
        rw [HD'.out]
        exact ⟨rfl, HE.out⟩
      · have HD' : Hid (s.declare x = (12, s)) := by show _ = _; rw [HD.out, if_neg hyx]
        have hdiff : x.kind = y.kind → ¬ x.fed = y.fed := fun h1 h2 => hyx (by cases y; cases x; simp only at h1 h2 hyn; rw [h1, h2, hyn])
        have hnn : (x.name.toList == y.name.toList) = true := by rw [same_dec, decide_eq_true hyn.symm]
        have HDF : Hid _ := hdiff
        clear hf hyn HD BV b2 b3 B3 hyx hdiff
        go_wp2
        · rename_i h1 h2
          exact absurd h2 (HDF.out h1)
        all_goals go_ret
        all_goals (rw [HD'.out]; exact ⟨rfl, HE.out⟩)
    | none =>
      simp only [Option.getD_none, Option.isSome_none]
      generalize zeroEx = yy
      obtain ⟨V, foldV⟩ : ∃ V, w3.alloc (.cells #[.string yy.name, .int .i64 yy.kind, .bool yy.fed] 33) = V := ⟨_, rfl⟩
      have BV : Below W.heap.size W V := by rw [← foldV]; exact B3.alloc B3.size _
      obtain ⟨v0, v1, v2⟩ := HX.out V BV
      have HE : Hid _ := HEnd.out V BV
      obtain ⟨vx, vb, hq, hF, hlt⟩ := HR.out V BV
      obtain ⟨c0, c1⟩ := cells2 hq.blk
      obtain ⟨ax, cx, rfl⟩ := hq.x.slice
      have HQ : Hid (RTAt V p (.slice ax s.xs.length cx) vb s ∧ (∀ k, F k ↔ rfootT p (.slice ax s.xs.length cx) vb k) ∧ ∀ k, F k → k < V.heap.size) := ⟨hq, hF, hlt⟩
      have HBV : Hid (Below w.heap.size w V) := bW.trans (BV.mono bW.size)
      have hwV : w.heap.size < V.heap.size := World.block_lt_of_cell? _ _ v0
      have hpV : p < V.heap.size := World.block_lt_of_cell? _ _ c0
      by_cases h8 : 8 ≤ s.xs.length
      · have HD : Hid (s.declare x = (5, s)) := by show s.declare x = (5, s); unfold Tb.declare; rw [if_neg (by rw [HG.out]; decide), hf]; simp [h8]
        have h8' : (8 : Int) ≤ (s.xs.length : Int) := by omega
        clear hf BV b2 b3 B3 hq hF hlt
        go_wp2
        go_ret
        rw [HD.out]
        exact ⟨rfl, HE.out⟩
      · have HD : Hid (s.declare x = (0, { s with xs := insC cmpX x s.xs })) := by show s.declare x = _; unfold Tb.declare; rw [if_neg (by rw [HG.out]; decide), hf]; simp [h8]
        have HN : Hid (∀ y ∈ s.xs, y.name ≠ x.name) := findX_none hf
        have h8' : ¬ (8 : Int) ≤ (s.xs.length : Int) := by omega
        have hrV := hq.x
        clear hf BV b2 b3 B3 hq hF hlt
        obtain ⟨i0, hi0, hz0, hzs, hzb⟩ := xInfo
        obtain ⟨X, hX⟩ : ∃ X : Obj, X = .cells #[.string x.name, .int .i64 x.kind, .bool x.fed] 33 := ⟨_, rfl⟩
        have belD : Below V.heap.size V V.drew := (Below.refl _ _).drew
        have belA : Below V.heap.size V (V.drew.alloc (.cells #[] 33)) := belD.alloc (Nat.le_refl _) _
        have belC : Below V.heap.size V ((V.drew.alloc (.cells #[] 33)).alloc X) := belA.alloc (by simp) _
        have belF : Below V.heap.size V ((V.drew.alloc X).alloc (.cells #[] 33)) := (belD.alloc (Nat.le_refl _) _).alloc (by simp) _
        have eA : OwnX (V.drew.alloc (.cells #[] 33)) V.heap.size (.slice (some ⟨V.heap.size, 0, none⟩) 0 0) [] := ownOf_empty V.drew V.heap.size (Nat.le_refl _)
        have eC : OwnX ((V.drew.alloc (.cells #[] 33)).alloc X) V.heap.size (.slice (some ⟨V.heap.size, 0, none⟩) 0 0) [] := eA.alloc X
        have eF : OwnX ((V.drew.alloc X).alloc (.cells #[] 33)) V.heap.size (.slice (some ⟨V.heap.size + 1, 0, none⟩) 0 0) [] := by
          have := ownOf_empty (enc := xcells) (K := 3) (T := 33) (V.drew.alloc X) V.heap.size (by simp)
          rwa [World.size_alloc] at this
        have rA := hrV.below belA (Nat.le_refl _)
        have rC := hrV.below belC (Nat.le_refl _)
        have rF := hrV.below belF (Nat.le_refl _)
        have FA : Hid (∀ w1, (V.drew.alloc (.cells #[] 33)).grownBy w1 (some V.heap.size) → XeAt w1 w.heap.size 0 x ∧ Below V.heap.size V w1) := fun w1 gr => by
          have hbb : Below V.heap.size V w1 := belA.grown gr (by simp) (fun k hk => by injection hk with hk; omega)
          exact ⟨(show XeAt V w.heap.size 0 x from ⟨v0, v1, v2⟩).below hbb (Nat.le_refl _), hbb⟩
        have FC : Hid (∀ w1, ((V.drew.alloc (.cells #[] 33)).alloc X).grownBy w1 (some V.heap.size) → RowOf xcells w1 (.slice (some ⟨V.heap.size + 1, 0, none⟩) 1 1) [x] ∧ Below V.heap.size V w1) := fun w1 gr => by
          have h1 : RowOf xcells ((V.drew.alloc (.cells #[] 33)).alloc X) (.slice (some ⟨V.heap.size + 1, 0, none⟩) 1 1) [x] := by rw [hX]; exact rowK_one _ x _ (by simp)
          refine ⟨h1.same fun g hg => ?_, belC.grown gr (by simp; omega) (fun k hk => by injection hk with hk; omega)⟩
          have hg' : g = V.heap.size + 1 := (Option.some.inj hg).symm
          subst hg'
          exact gr.block _ (by simp) (fun h => by injection h with h; omega)
        have FF : Hid (∀ w1, ((V.drew.alloc X).alloc (.cells #[] 33)).grownBy w1 (some (V.heap.size + 1)) → RowOf xcells w1 (.slice (some ⟨V.heap.size, 0, none⟩) 1 1) [x] ∧ Below V.heap.size V w1) := fun w1 gr => by
          have h0 : RowOf xcells (V.drew.alloc X) (.slice (some ⟨V.heap.size, 0, none⟩) 1 1) [x] := by rw [hX]; exact rowK_one V.drew x _ rfl
          have h1 : RowOf xcells ((V.drew.alloc X).alloc (.cells #[] 33)) (.slice (some ⟨V.heap.size, 0, none⟩) 1 1) [x] := h0.below ((Below.refl _ _).alloc (Nat.le_refl _) _) (Nat.le_refl _)
          refine ⟨h1.same fun g hg => ?_, belF.grown gr (by simp; omega) (fun k hk => by injection hk with hk; omega)⟩
          have hg' : g = V.heap.size := (Option.some.inj hg).symm
          subst hg'
          exact gr.block _ (by simp; omega) (fun h => by injection h with h; omega)
        have p0 := fun o => cell_allocK (w := V.drew) o v0
        have p1 := fun o => cell_allocK (w := V.drew) o v1
        have p2 := fun o => cell_allocK (w := V.drew) o v2
        have p3 := fun o => cell_allocK (w := V.drew) o c0
        have q0 := fun o => cell_allocK (w := V) o v0
        have q1 := fun o => cell_allocK (w := V) o v1
        have q2 := fun o => cell_allocK (w := V) o v2
        have q3 := fun o => cell_allocK (w := V) o c0
        have sb1 : ([] : List Ex).length + s.xs.length ≤ maxLen := by unfold maxLen; simp; omega
        have sb2 : (([] : List Ex).length + s.xs.length) * 32 ≤ 140737488355328 := by simp; omega
        subst hX
        go_wp2
        clear foldV
        go_cut [7] from 9 to 78 (fun u7 wx => OwnX wx V.heap.size u7 (s.xs ++ [x]) ∧ Below V.heap.size V wx)
        case first =>
          go_region_law (first
            | (refine step_append_rows (enc := xcells) rfl (.tmp 29) (.tmp 33) 26 rfl Tryz.underlying26 i0 _ 32 hi0 hz0 hzs hzb rfl V.heap.size (.slice (some ⟨V.heap.size, 0, none⟩) 0 0) (.slice ax s.xs.length cx) [] s.xs (by simp [Act.eval]) (by simp [Act.eval]) eA rA sb1 sb2 (by simp) ?_; intro v1 w1 own1 gr1 nw1; obtain ⟨i1, b1⟩ := FA.out w1 gr1; obtain ⟨va1, vc1, hv1⟩ := own1.rng.slice; rw [List.nil_append] at hv1 own1; subst hv1; obtain ⟨g0, g1, g2⟩ := i1; simp only [Nat.zero_add] at g0 g1 g2; clear gr1 nw1)
            | (refine step_append_rows (enc := xcells) rfl (.tmp 29) (.tmp 33) 26 rfl Tryz.underlying26 i0 _ 32 hi0 hz0 hzs hzb rfl V.heap.size (.slice (some ⟨V.heap.size, 0, none⟩) 0 0) (.slice ax s.xs.length cx) [] s.xs (by simp [Act.eval]) (by simp [Act.eval]) eC rC sb1 sb2 (by simp; omega) ?_; intro v1 w1 own1 gr1 nw1; obtain ⟨rx, b1⟩ := FC.out w1 gr1; obtain ⟨va1, vc1, hv1⟩ := own1.rng.slice; rw [List.nil_append] at hv1 own1; subst hv1; clear gr1 nw1)
            | (refine step_append_rows (enc := xcells) rfl (.tmp 29) (.tmp 33) 26 rfl Tryz.underlying26 i0 _ 32 hi0 hz0 hzs hzb rfl V.heap.size (.slice (some ⟨V.heap.size + 1, 0, none⟩) 0 0) (.slice ax s.xs.length cx) [] s.xs (by simp [Act.eval]) (by simp [Act.eval]) eF rF sb1 sb2 (by simp; omega) ?_; intro v1 w1 own1 gr1 nw1; obtain ⟨rx, b1⟩ := FF.out w1 gr1; obtain ⟨va1, vc1, hv1⟩ := own1.rng.slice; rw [List.nil_append] at hv1 own1; subst hv1; clear gr1 nw1)
            | (refine step_append_rows (enc := xcells) rfl (.tmp 34) (.tmp 36) 26 rfl Tryz.underlying26 i0 _ 32 hi0 hz0 hzs hzb rfl V.heap.size (.slice va1 s.xs.length vc1) _ s.xs [x] (by simp [Act.eval]) rfl own1 rx (by unfold maxLen; simp; omega) (by simp; omega) b1.size ?_; intro v2 w2 own2 gr2 nw2; have HB : Hid (Below V.heap.size V w2) := own1.below gr2 b1 b1.size (Nat.le_refl _); obtain ⟨va2, vc2, hv2⟩ := own2.rng.slice; rw [List.length_append, List.length_singleton] at hv2; subst hv2; clear gr2 nw2)
            | (refine step_append_rows (enc := xcells) rfl (.tmp 34) (.tmp 36) 26 rfl Tryz.underlying26 i0 _ 32 hi0 hz0 hzs hzb rfl V.heap.size (.slice va1 s.xs.length vc1) _ s.xs [x] (by simp [Act.eval]) rfl (own1.alloc _) (rowK_one _ _ _ rfl) (by unfold maxLen; simp; omega) (by simp; omega) (by have := b1.size; simp; omega) ?_; intro v2 w2 own2 gr2 nw2; have HB : Hid (Below V.heap.size V w2) := (own1.alloc _).below gr2 (b1.alloc b1.size _) (by have := b1.size; simp; omega) (Nat.le_refl _); obtain ⟨va2, vc2, hv2⟩ := own2.rng.slice; rw [List.length_append, List.length_singleton] at hv2; subst hv2; clear gr2 nw2))
          all_goals go_wp2
          all_goals go_meet
          all_goals exact ⟨own2, HB.out⟩
        case rest =>
          obtain ⟨own0, bel0⟩ := hcut
          rcases own0.split with ⟨_, hnil⟩ | ⟨g, cc, T0, hu, hg, hblk, hcc, hcm⟩
          · simp at hnil
          have hl1 : (s.xs ++ [x]).length = s.xs.length + 1 := by simp
          rw [hl1] at hu
          subst hu
          clear hl1
          have lx : s.xs.length < 8 := by omega
          have HP : Hid (p < V.heap.size) := hpV
          have FIN : Hid (∀ wr pre suf, OwnX wr V.heap.size (.slice (some ⟨g, 0, none⟩) (s.xs.length + 1) cc) (pre ++ x :: suf) → Below V.heap.size V wr → insC cmpX x (pre ++ suf) = pre ++ x :: suf → s.xs = pre ++ suf → ∃ F', RT (wr.setCell ⟨p, 0, none⟩ (.slice (some ⟨g, 0, none⟩) (s.xs.length + 1) cc)) p F' (s.declare x).2 ∧ Moved w (wr.setCell ⟨p, 0, none⟩ (.slice (some ⟨g, 0, none⟩) (s.xs.length + 1) cc)) F F') := fun wr pre suf ho hb hi hs => by
            rw [HD.out]
            rw [← hi, ← hs] at ho
            obtain ⟨F', h1, h2⟩ := rt_setX HQ.out.1 HQ.out.2.1 HQ.out.2.2 hb ho
            exact ⟨F', h1, (Moved.of_below HBV.out).trans h2⟩
          clear p0 p1 p2 p3 q0 q1 q2 q3 FA FC FF rA rC rF eA eC eF belA belC belD belF v0 v1 v2 c0 c1 hblk
          go_wp2
          go_loopw [8] (fun u8 wr => ∃ (k : Nat) (pre suf : List Ex), u8 = .int .i64 k ∧ pre.length = k ∧ s.xs = pre ++ suf ∧ (∀ y ∈ suf, cmpX x y < 0) ∧ OwnX wr V.heap.size (.slice (some ⟨g, 0, none⟩) (s.xs.length + 1) cc) (pre ++ x :: suf) ∧ Below V.heap.size V wr) (fun u8 wr => (intOf u8).toNat)
          case atStart => exact ⟨s.xs.length, s.xs, [], by go_num, rfl, by simp, by simp, own0, bel0⟩
          case round =>
            obtain ⟨k, pre, suf, rfl, hk, hps, hsuf, hown, hbr⟩ := hrel
            have HFIN : Hid (∀ n, insC cmpX x (pre ++ suf) = pre ++ x :: suf → ∃ F', RT ((wr.drewN n).setCell ⟨p, 0, none⟩ (.slice (some ⟨g, 0, none⟩) (s.xs.length + 1) cc)) p F' (s.declare x).2 ∧ Moved w ((wr.drewN n).setCell ⟨p, 0, none⟩ (.slice (some ⟨g, 0, none⟩) (s.xs.length + 1) cc)) F F') := fun n hi => FIN.out (wr.drewN n) pre suf hown (hbr.trans ⟨rfl, rfl, rfl, Nat.le_refl _, fun _ _ => rfl⟩) hi hps
            have hpb := (hbr.block p HP.out).trans HQ.out.1.blk
            have d0 : wr.cell? ⟨p, 0, none⟩ = some (.slice ax s.xs.length cx) := (cells2 hpb).1
            have f0 := frozen_of_list hpb 0
            by_cases hk0 : k = 0
            · subst hk0
              have hpre : pre = [] := List.eq_nil_of_length_eq_zero hk
              have HI : Hid (insC cmpX x (pre ++ suf) = pre ++ x :: suf) := insC_mid cmpX3 (by rw [hpre]; simp) hsuf
              clear hown hbr hpb hsuf hps hpre hk
              go_wp2
              go_quiet (fail)
              go_wp2
              go_ret
              exact ⟨by rw [HD.out]; rfl, HFIN.out _ HI.out⟩
            · obtain ⟨j, rfl⟩ : ∃ j, k = j + 1 := ⟨k - 1, by omega⟩
              obtain ⟨pre', y, rfl⟩ : ∃ pre' y, pre = pre' ++ [y] := by
                rcases List.eq_nil_or_concat pre with rfl | ⟨pre', y, rfl⟩
                · simp at hk
                · exact ⟨pre', y, by simp⟩
              have hj : pre'.length = j := by simp at hk; exact hk
              have hyx : ¬ y.name = x.name := HN.out y (by rw [hps]; simp)
              have hjl : j + 1 ≤ s.xs.length := by rw [hps]; simp; omega
              have hord : Ord cmpX ((pre' ++ [y]) ++ suf) := by rw [← hps]; exact ok.ox
              have he := hown.rng.exs
              have ey := he j (by simp; omega)
              have ex := he (j + 1) (by simp; omega)
              obtain ⟨gb, go', hga, ey⟩ := ey
              obtain ⟨gb2, go2, hga2, ex⟩ := ex
              injection hga with hga
              injection hga with hga1 hga2'
              subst hga1 hga2'
              injection hga2 with hga2
              injection hga2 with hgb1 hgb2
              subst hgb1 hgb2
              rw [Nat.zero_add] at ey ex
              have iy : ((pre' ++ [y]) ++ x :: suf)[j]'(by simp; omega) = y := by simp [hj]
              have ix : ((pre' ++ [y]) ++ x :: suf)[j + 1]'(by simp; omega) = x := by simp [hj]
              rw [iy] at ey
              rw [ix] at ex
              obtain ⟨y0, y1, y2⟩ := ey
              obtain ⟨m0, m1, m2⟩ := ex
              have hblk2 : ∀ q, wr.frozen? ⟨g, q, none⟩ = false := by
                rcases hown.split with ⟨hv, _⟩ | ⟨g', c', R, hv, _, hg', _⟩
                · cases hv
                · injection hv with h1
                  injection h1 with h1
                  injection h1 with h1
                  subst h1
                  exact frozen_of_list hg'
              have b0 : (0 : Int) ≤ (j : Int) := by omega
              have b1 : (j : Int) < (s.xs.length : Int) + 1 := by omega
              have b2 : (j : Int) + 1 < (s.xs.length : Int) + 1 := by omega
              have b3 : (j : Int) + 1 ≤ 9223372036854775807 := by omega
              have hpos : decide ((0 : Int) < ((j + 1 : Nat) : Int)) = true := decide_eq_true (by omega)
              have sd : (y.name.toList == x.name.toList) = false := by rw [same_dec, decide_eq_false hyx]
              have lc := less_cmp y.name x.name
              clear he hpb
              by_cases hcc : cmpS y.name x.name < 0
              · rw [decide_eq_true hcc] at lc
                have HI : Hid (insC cmpX x ((pre' ++ [y]) ++ suf) = (pre' ++ [y]) ++ x :: suf) := insC_mid cmpX3 (pre_all cmpX3 (by simpa using hord) hcc) hsuf
                clear hown hbr hsuf hps hord hyx hcc iy ix
                go_wp2
                go_quiet (fail)
                go_wp2
                go_ret
                exact ⟨by rw [HD.out]; rfl, HFIN.out _ HI.out⟩
              · rw [decide_eq_false hcc] at lc
                have hxy : cmpX x y < 0 := by
                  have h1 := cmpS3.neg y.name x.name
                  have h2 : cmpS y.name x.name ≠ 0 := fun e => hyx (cmpS_eq e)
                  show cmpS x.name y.name < 0
                  omega
                have HS1 : Hid (∀ n, OwnX (put3o (put3o (wr.drewN n) g (j * 3) (.string x.name) (.int .i64 x.kind) (.bool x.fed)) g ((j + 1) * 3) (.string y.name) (.int .i64 y.kind) (.bool y.fed)) V.heap.size (.slice (some ⟨g, 0, none⟩) (s.xs.length + 1) cc) (pre' ++ x :: (y :: suf)) ∧ Below V.heap.size V (put3o (put3o (wr.drewN n) g (j * 3) (.string x.name) (.int .i64 x.kind) (.bool x.fed)) g ((j + 1) * 3) (.string y.name) (.int .i64 y.kind) (.bool y.fed))) := fun n => by
                  have h0 : OwnX (wr.drewN n) V.heap.size (.slice (some ⟨g, 0, none⟩) (s.xs.length + 1) cc) (pre' ++ y :: (x :: suf)) := by
                    have h00 := hown
                    rw [show (pre' ++ [y]) ++ x :: suf = pre' ++ y :: (x :: suf) by simp] at h00
                    exact h00
                  have h1 := own_put (enc := xcells) x rfl h0
                  rw [show pre' ++ x :: x :: suf = (pre' ++ [x]) ++ x :: suf by simp] at h1
                  have h2 := own_put (enc := xcells) y rfl h1
                  rw [show (pre' ++ [x]) ++ y :: suf = pre' ++ x :: (y :: suf) by simp] at h2
                  rw [hj] at h2
                  rw [show (pre' ++ [x]).length = j + 1 by simp [hj]] at h2
                  exact ⟨h2, put3o_below _ _ _ (put3o_below _ _ _ (hbr.trans ⟨rfl, rfl, rfl, Nat.le_refl _, fun _ _ => rfl⟩) hg) hg⟩
                have HPS : Hid (s.xs = pre' ++ (y :: suf) ∧ ∀ z ∈ y :: suf, cmpX x z < 0) := ⟨by rw [hps]; simp, fun z hz => by
                  rcases List.mem_cons.1 hz with rfl | hz
                  · exact hxy
                  · exact hsuf z hz⟩
                clear hown hbr hsuf hps hord hyx hcc iy ix hxy
                go_wp2
                go_quiet (fail)
                go_wp2
                go_region
                all_goals go_wp2
                all_goals exact ⟨⟨j, pre', y :: suf, rfl, hj, HPS.out.1, HPS.out.2, (HS1.out _).1, (HS1.out _).2⟩, by simp [intOf]⟩
end Go.Proofs.YtiaagiijjledkaaGreatDoor
