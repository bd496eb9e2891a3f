/-
  THE DOCUMENT's Bind, by its contract.
-/
import Derived.Test.YtiaagiijjledkaaGreatDoorRDeclare
import Derived.Deep.RegionHeld3
namespace Go.Proofs.YtiaagiijjledkaaGreatDoor
open Go.RowKit Go.Sort Go.Shelf

theorem cellK {w w' : World} {b j : Nat} {v : Value} (hb : Below w.heap.size w w') (h : w.cell? ⟨b, j, none⟩ = some v) : w'.cell? ⟨b, j, none⟩ = some v :=
  (hb.cell (p := ⟨b, j, none⟩) (World.block_lt_of_cell? _ _ h)).trans h

set_option maxRecDepth 20000 in
set_option maxHeartbeats 4000000 in
theorem rbind_any (p : Nat) (F : Nat → Prop) (s : Tb) (x : Bd) (w : World) (h : RT w p F s) (ok : s.Ok) (hx : x.Fit) :
    Calls Tryz.prog 24 #[.pointer (some ⟨p, 0, none⟩), bv x] w fun e w' => e = .returned (.int .i64 (s.bind x).1) ∧ ∃ F', RT w' p F' (s.bind x).2 ∧ Moved w w' F F' := by
  obtain ⟨W, fold⟩ : ∃ W, w.alloc (.cells #[.string x.ex, .string x.que, .string x.pat] 35) = W := ⟨_, rfl⟩
  have bW : Below w.heap.size w W := by rw [← fold]; exact (Below.refl _ _).alloc (Nat.le_refl _) _
  have x0 : W.cell? ⟨w.heap.size, 0, none⟩ = some (.string x.ex) := by rw [← fold]; exact cell_of_list (C := bcells x) (heap_alloc_new w _) 0
  have x1 : W.cell? ⟨w.heap.size, 1, none⟩ = some (.string x.que) := by rw [← fold]; exact cell_of_list (C := bcells x) (heap_alloc_new w _) 1
  have x2 : W.cell? ⟨w.heap.size, 2, none⟩ = some (.string x.pat) := by rw [← fold]; exact cell_of_list (C := bcells x) (heap_alloc_new w _) 2
  have hG := rname_any x.que W hx.2.1
  have HX : Hid (∀ V, Below W.heap.size W V → V.cell? ⟨w.heap.size, 0, none⟩ = some (.string x.ex) ∧ V.cell? ⟨w.heap.size, 1, none⟩ = some (.string x.que) ∧ V.cell? ⟨w.heap.size, 2, none⟩ = some (.string x.pat)) := fun V hV => ⟨cellK hV x0, cellK hV x1, cellK hV x2⟩
  have HEnd : Hid (∀ V, Below W.heap.size W V → ∃ F', RT V p F' s ∧ Moved w V F F') := fun V hV => rmoved_keep h (bW.trans (hV.mono bW.size))
  have HR : Hid (∀ V, Below W.heap.size W V → RT V p F s) := fun V hV => (h.kept bW).kept hV
  have hlen : s.xs.length ≤ 1000000 := by have := ok.nx; omega
  have hlenb : s.bs.length ≤ 1000000 := by have := ok.nb; omega
  cases hg0 : nameB (txt x.que) with
  | false =>
    have hd : s.bind x = (2, s) := by unfold Tb.bind; rw [if_pos hg0]
    rw [hd]
    rw [hg0] at hG
    go_enter Tryz.func24, Tryz.ntmps24
    go_wp2_with fail
    refine hG.mono ?_
    rintro e W ⟨rfl, rfl⟩
    go_wp2
    go_ret
    exact ⟨rfl, HEnd.out _ (Below.refl _ _)⟩
  | true =>
    rw [hg0] at hG
    have HG : Hid (nameB (txt x.que) = true) := hg0
    have hFi := rfind_any p F s x.ex W (HR.out W (Below.refl _ _)) hlen
    clear hg0
    go_enter Tryz.func24, Tryz.ntmps24
    go_wp2_with fail
    refine hG.mono ?_
    rintro e W ⟨rfl, rfl⟩
    clear fold
    go_wp2_with fail
    refine hFi.mono ?_
    rintro e w3 ⟨rfl, b3⟩
    clear x0 x1 x2 hG hFi
    cases hf : findX s.xs x.ex with
    | none =>
      simp only [Option.getD_none, Option.isSome_none]
      generalize zeroEx = yy
      have HD : Hid (s.bind x = (3, s)) := by show s.bind x = (3, s); unfold Tb.bind; rw [if_neg (by rw [HG.out]; decide), hf]
      clear hf
      go_wp2
      go_ret
      rw [HD.out]
      exact ⟨rfl, HEnd.out _ (b3.alloc b3.size _)⟩
    | some xe =>
      simp only [Option.getD_some, Option.isSome_some]
      obtain ⟨V0, foldV⟩ : ∃ V0, w3.alloc (.cells #[.string xe.name, .int .i64 xe.kind, .bool xe.fed] 33) = V0 := ⟨_, rfl⟩
      have BV0 : Below W.heap.size W V0 := by rw [← foldV]; exact b3.alloc b3.size _
      obtain ⟨u0, u1, u2⟩ := HX.out V0 BV0
      have z1 : V0.cell? ⟨w3.heap.size, 1, none⟩ = some (.int .i64 xe.kind) := by rw [← foldV]; exact cell_of_list (C := xcells xe) (heap_alloc_new w3 _) 1
      have hM := rmay_any xe.kind x.pat V0 hx.2.2
      have HDD : Hid (s.bind x = if mayP xe.kind x.pat = false then (2, s) else if x ∈ s.bs then (0, s) else if 32 ≤ s.bs.length then (5, s) else (0, { s with bs := insC cmpB x s.bs })) := by show s.bind x = _; unfold Tb.bind; rw [if_neg (by rw [HG.out]; decide), hf]
      clear hf
      go_wp2_with fail
      refine hM.mono ?_
      rintro e w4 ⟨rfl, b4⟩
      have B4 := BV0.trans (b4.mono BV0.size)
      clear u0 u1 u2 z1 hM foldV
      cases hmy : mayP xe.kind x.pat
      · have HD : Hid (s.bind x = (2, s)) := by show s.bind x = (2, s); rw [HDD.out, if_pos hmy]
        clear hmy
        go_wp2
        go_ret
        rw [HD.out]
        exact ⟨rfl, HEnd.out _ B4⟩
      have HMY : Hid _ := hmy
      obtain ⟨t0, t1, t2⟩ := HX.out w4 B4
      have hH := rhas_any p F s x w4 (HR.out w4 B4) hlenb
      clear hmy
      go_wp2_with fail
      refine hH.mono ?_
      rintro e V ⟨rfl, b5⟩
      have BV := B4.trans (b5.mono B4.size)
      clear t0 t1 t2 hH
      by_cases hin : x ∈ s.bs
      · have HD : Hid (s.bind x = (0, s)) := by show s.bind x = (0, s); rw [HDD.out, if_neg (by rw [HMY.out]; decide), if_pos hin]
        have HIN : Hid _ := decide_eq_true hin
        clear hin
        rw [HIN.out]
        go_wp2
        go_ret
        rw [HD.out]
        exact ⟨rfl, HEnd.out _ BV⟩
      have HN : Hid (x ∉ s.bs) := hin
      have HNF : Hid _ := decide_eq_false hin
      rw [HNF.out]
      obtain ⟨v0, v1, v2⟩ := HX.out V BV
      have HE : Hid _ := HEnd.out V BV
      obtain ⟨vx, vb, hq, hF, hlt⟩ := HR.out V BV
      obtain ⟨c1, c0⟩ := cells2 hq.blk
      obtain ⟨ax, cx, rfl⟩ := hq.b.slice
      have HQ : Hid (RTAt V p vx (.slice ax s.bs.length cx) s ∧ (∀ k, F k ↔ rfootT p vx (.slice ax s.bs.length cx) k) ∧ ∀ k, F k → k < V.heap.size) := ⟨hq, hF, hlt⟩
      have HBV : Hid (Below w.heap.size w V) := bW.trans (BV.mono bW.size)
      have hwV : w.heap.size < V.heap.size := World.block_lt_of_cell? _ _ v0
      have hpV : p < V.heap.size := World.block_lt_of_cell? _ _ c0
      by_cases h8 : 32 ≤ s.bs.length
      · have HD : Hid (s.bind x = (5, s)) := by show s.bind x = (5, s); rw [HDD.out, if_neg (by rw [HMY.out]; decide), if_neg hin, if_pos h8]
        have h8' : (32 : Int) ≤ (s.bs.length : Int) := by omega
        clear BV b3 b4 b5 B4 BV0 hq hF hlt hin
        go_wp2
        go_ret
        rw [HD.out]
        exact ⟨rfl, HE.out⟩
      · have HD : Hid (s.bind x = (0, { s with bs := insC cmpB x s.bs })) := by show s.bind x = _; rw [HDD.out, if_neg (by rw [HMY.out]; decide), if_neg hin, if_neg h8]
        have h8' : ¬ (32 : Int) ≤ (s.bs.length : Int) := by omega
        have hrV := hq.b
        clear BV b3 b4 b5 B4 BV0 hq hF hlt hin
        obtain ⟨i0, hi0, hz0, hzs, hzb⟩ := bInfo
        obtain ⟨X, hX⟩ : ∃ X : Obj, X = .cells #[.string x.ex, .string x.que, .string x.pat] 35 := ⟨_, rfl⟩
        have belD : Below V.heap.size V V.drew := (Below.refl _ _).drew
        have belA : Below V.heap.size V (V.drew.alloc (.cells #[] 35)) := belD.alloc (Nat.le_refl _) _
        have belC : Below V.heap.size V ((V.drew.alloc (.cells #[] 35)).alloc X) := belA.alloc (by simp) _
        have belF : Below V.heap.size V ((V.drew.alloc X).alloc (.cells #[] 35)) := (belD.alloc (Nat.le_refl _) _).alloc (by simp) _
        have eA : OwnB (V.drew.alloc (.cells #[] 35)) V.heap.size (.slice (some ⟨V.heap.size, 0, none⟩) 0 0) [] := ownOf_empty V.drew V.heap.size (Nat.le_refl _)
        have eC : OwnB ((V.drew.alloc (.cells #[] 35)).alloc X) V.heap.size (.slice (some ⟨V.heap.size, 0, none⟩) 0 0) [] := eA.alloc X
        have eF : OwnB ((V.drew.alloc X).alloc (.cells #[] 35)) V.heap.size (.slice (some ⟨V.heap.size + 1, 0, none⟩) 0 0) [] := by
          have := ownOf_empty (enc := bcells) (K := 3) (T := 35) (V.drew.alloc X) V.heap.size (by simp)
          rwa [World.size_alloc] at this
        have rA := hrV.below belA (Nat.le_refl _)
        have rC := hrV.below belC (Nat.le_refl _)
        have rF := hrV.below belF (Nat.le_refl _)
        have FA : Hid (∀ w1, (V.drew.alloc (.cells #[] 35)).grownBy w1 (some V.heap.size) → BeAt w1 w.heap.size 0 x ∧ Below V.heap.size V w1) := fun w1 gr => by
          have hbb : Below V.heap.size V w1 := belA.grown gr (by simp) (fun k hk => by injection hk with hk; omega)
          exact ⟨(show BeAt V w.heap.size 0 x from ⟨v0, v1, v2⟩).below hbb (Nat.le_refl _), hbb⟩
        have FC : Hid (∀ w1, ((V.drew.alloc (.cells #[] 35)).alloc X).grownBy w1 (some V.heap.size) → RowOf bcells w1 (.slice (some ⟨V.heap.size + 1, 0, none⟩) 1 1) [x] ∧ Below V.heap.size V w1) := fun w1 gr => by
          have h1 : RowOf bcells ((V.drew.alloc (.cells #[] 35)).alloc X) (.slice (some ⟨V.heap.size + 1, 0, none⟩) 1 1) [x] := by rw [hX]; exact rowK_one _ x _ (by simp)
          refine ⟨h1.same fun g hg => ?_, belC.grown gr (by simp; omega) (fun k hk => by injection hk with hk; omega)⟩
          have hg' : g = V.heap.size + 1 := (Option.some.inj hg).symm
          subst hg'
          exact gr.block _ (by simp) (fun h => by injection h with h; omega)
        have FF : Hid (∀ w1, ((V.drew.alloc X).alloc (.cells #[] 35)).grownBy w1 (some (V.heap.size + 1)) → RowOf bcells w1 (.slice (some ⟨V.heap.size, 0, none⟩) 1 1) [x] ∧ Below V.heap.size V w1) := fun w1 gr => by
          have h0 : RowOf bcells (V.drew.alloc X) (.slice (some ⟨V.heap.size, 0, none⟩) 1 1) [x] := by rw [hX]; exact rowK_one V.drew x _ rfl
          have h1 : RowOf bcells ((V.drew.alloc X).alloc (.cells #[] 35)) (.slice (some ⟨V.heap.size, 0, none⟩) 1 1) [x] := h0.below ((Below.refl _ _).alloc (Nat.le_refl _) _) (Nat.le_refl _)
          refine ⟨h1.same fun g hg => ?_, belF.grown gr (by simp; omega) (fun k hk => by injection hk with hk; omega)⟩
          have hg' : g = V.heap.size := (Option.some.inj hg).symm
          subst hg'
          exact gr.block _ (by simp; omega) (fun h => by injection h with h; omega)
        have p0 := fun o => cell_allocK (w := V.drew) o v0
        have p1 := fun o => cell_allocK (w := V.drew) o v1
        have p2 := fun o => cell_allocK (w := V.drew) o v2
        have p3 := fun o => cell_allocK (w := V.drew) o c0
        have q0 := fun o => cell_allocK (w := V) o v0
        have q1 := fun o => cell_allocK (w := V) o v1
        have q2 := fun o => cell_allocK (w := V) o v2
        have q3 := fun o => cell_allocK (w := V) o c0
        have sb1 : ([] : List Bd).length + s.bs.length ≤ maxLen := by unfold maxLen; simp; omega
        have sb2 : (([] : List Bd).length + s.bs.length) * 48 ≤ 140737488355328 := by simp; omega
        subst hX
        go_wp2
        go_cut [7] from 9 to 88 (fun u7 wx => OwnB wx V.heap.size u7 (s.bs ++ [x]) ∧ Below V.heap.size V wx)
        case first =>
          go_region_law (first
            | (refine step_append_rows (enc := bcells) rfl (.tmp 41) (.tmp 45) 27 rfl Tryz.underlying27 i0 _ 48 hi0 hz0 hzs hzb rfl V.heap.size (.slice (some ⟨V.heap.size, 0, none⟩) 0 0) (.slice ax s.bs.length cx) [] s.bs (by simp [Act.eval]) (by simp [Act.eval]) eA rA sb1 sb2 (by simp) ?_; intro v1 w1 own1 gr1 nw1; obtain ⟨i1, b1⟩ := FA.out w1 gr1; obtain ⟨va1, vc1, hv1⟩ := own1.rng.slice; rw [List.nil_append] at hv1 own1; subst hv1; obtain ⟨g0, g1, g2⟩ := i1; simp only [Nat.zero_add] at g0 g1 g2; clear gr1 nw1)
            | (refine step_append_rows (enc := bcells) rfl (.tmp 41) (.tmp 45) 27 rfl Tryz.underlying27 i0 _ 48 hi0 hz0 hzs hzb rfl V.heap.size (.slice (some ⟨V.heap.size, 0, none⟩) 0 0) (.slice ax s.bs.length cx) [] s.bs (by simp [Act.eval]) (by simp [Act.eval]) eC rC sb1 sb2 (by simp; omega) ?_; intro v1 w1 own1 gr1 nw1; obtain ⟨rx, b1⟩ := FC.out w1 gr1; obtain ⟨va1, vc1, hv1⟩ := own1.rng.slice; rw [List.nil_append] at hv1 own1; subst hv1; clear gr1 nw1)
            | (refine step_append_rows (enc := bcells) rfl (.tmp 41) (.tmp 45) 27 rfl Tryz.underlying27 i0 _ 48 hi0 hz0 hzs hzb rfl V.heap.size (.slice (some ⟨V.heap.size + 1, 0, none⟩) 0 0) (.slice ax s.bs.length cx) [] s.bs (by simp [Act.eval]) (by simp [Act.eval]) eF rF sb1 sb2 (by simp; omega) ?_; intro v1 w1 own1 gr1 nw1; obtain ⟨rx, b1⟩ := FF.out w1 gr1; obtain ⟨va1, vc1, hv1⟩ := own1.rng.slice; rw [List.nil_append] at hv1 own1; subst hv1; clear gr1 nw1)
            | (refine step_append_rows (enc := bcells) rfl (.tmp 46) (.tmp 48) 27 rfl Tryz.underlying27 i0 _ 48 hi0 hz0 hzs hzb rfl V.heap.size (.slice va1 s.bs.length vc1) _ s.bs [x] (by simp [Act.eval]) rfl own1 rx (by unfold maxLen; simp; omega) (by simp; omega) b1.size ?_; intro v2 w2 own2 gr2 nw2; have HB : Hid (Below V.heap.size V w2) := own1.below gr2 b1 b1.size (Nat.le_refl _); obtain ⟨va2, vc2, hv2⟩ := own2.rng.slice; rw [List.length_append, List.length_singleton] at hv2; subst hv2; clear gr2 nw2)
            | (refine step_append_rows (enc := bcells) rfl (.tmp 46) (.tmp 48) 27 rfl Tryz.underlying27 i0 _ 48 hi0 hz0 hzs hzb rfl V.heap.size (.slice va1 s.bs.length vc1) _ s.bs [x] (by simp [Act.eval]) rfl (own1.alloc _) (rowK_one _ _ _ rfl) (by unfold maxLen; simp; omega) (by simp; omega) (by have := b1.size; simp; omega) ?_; intro v2 w2 own2 gr2 nw2; have HB : Hid (Below V.heap.size V w2) := (own1.alloc _).below gr2 (b1.alloc b1.size _) (by have := b1.size; simp; omega) (Nat.le_refl _); obtain ⟨va2, vc2, hv2⟩ := own2.rng.slice; rw [List.length_append, List.length_singleton] at hv2; subst hv2; clear gr2 nw2))
          all_goals go_wp2
          all_goals go_meet
          all_goals exact ⟨own2, HB.out⟩
        case rest =>
          obtain ⟨own0, bel0⟩ := hcut
          rcases own0.split with ⟨_, hnil⟩ | ⟨g, cc, T0, hu, hg, hblk, hcc, hcm⟩
          · simp at hnil
          obtain ⟨N, hN⟩ : ∃ N, N = s.bs.length + 1 := ⟨_, rfl⟩
          have hl1 : (s.bs ++ [x]).length = N := by simp [hN]
          rw [hl1] at hu
          subst hu
          have HNN : Hid (N = s.bs.length + 1) := hN
          have n33 : N ≤ 33 := by omega
          have n1 : 1 ≤ N := by omega
          have HP : Hid (p < V.heap.size) := hpV
          have FIN : Hid (∀ wr pre suf, OwnB wr V.heap.size (.slice (some ⟨g, 0, none⟩) N cc) (pre ++ x :: suf) → Below V.heap.size V wr → insC cmpB x (pre ++ suf) = pre ++ x :: suf → s.bs = pre ++ suf → ∃ F', RT (wr.setCell ⟨p, 1, none⟩ (.slice (some ⟨g, 0, none⟩) N cc)) p F' (s.bind x).2 ∧ Moved w (wr.setCell ⟨p, 1, none⟩ (.slice (some ⟨g, 0, none⟩) N cc)) F F') := fun wr pre suf ho hb hi hs => by
            rw [HD.out]
            rw [← hi, ← hs] at ho
            obtain ⟨F', h1, h2⟩ := rt_setB HQ.out.1 HQ.out.2.1 HQ.out.2.2 hb ho
            exact ⟨F', h1, (Moved.of_below HBV.out).trans h2⟩
          have HOK : Hid (Ord cmpB s.bs) := ok.ob
          have HLEN : Hid (s.bs.length ≤ 32) := ok.nb
          clear p0 p1 p2 p3 q0 q1 q2 q3 FA FC FF rA rC rF eA eC eF belA belC belD belF v0 v1 v2 c0 c1 hblk hl1 hN h8 h8' sb1 sb2 hlen hlenb
          go_wp2
          go_loopw [8] (fun u8 wr => ∃ (k : Nat) (pre suf : List Bd), u8 = .int .i64 k ∧ pre.length = k ∧ s.bs = pre ++ suf ∧ (∀ y ∈ suf, cmpB x y < 0) ∧ OwnB wr V.heap.size (.slice (some ⟨g, 0, none⟩) N cc) (pre ++ x :: suf) ∧ Below V.heap.size V wr) (fun u8 wr => (intOf u8).toNat)
          case atStart => exact ⟨s.bs.length, s.bs, [], by congr 1; have := HNN.out; omega, rfl, by simp, by simp, own0, bel0⟩
          case round =>
            obtain ⟨k, pre, suf, rfl, hk, hps, hsuf, hown, hbr⟩ := hrel
            have hpb := (hbr.block p HP.out).trans HQ.out.1.blk
            have d0 : wr.cell? ⟨p, 1, none⟩ = some (.slice ax s.bs.length cx) := (cells2 hpb).2
            have f0 := frozen_of_list hpb 1
            by_cases hk0 : k = 0
            · subst hk0
              have hpre : pre = [] := List.eq_nil_of_length_eq_zero hk
              have HFIN : Hid (∀ n, insC cmpB x (pre ++ suf) = pre ++ x :: suf → ∃ F', RT ((wr.drewN n).setCell ⟨p, 1, none⟩ (.slice (some ⟨g, 0, none⟩) N cc)) p F' (s.bind x).2 ∧ Moved w ((wr.drewN n).setCell ⟨p, 1, none⟩ (.slice (some ⟨g, 0, none⟩) N cc)) F F') := fun n hi => FIN.out (wr.drewN n) pre suf hown (hbr.trans ⟨rfl, rfl, rfl, Nat.le_refl _, fun _ _ => rfl⟩) hi hps
              have HI : Hid (insC cmpB x (pre ++ suf) = pre ++ x :: suf) := insC_mid cmpB3 (by rw [hpre]; simp) hsuf
              clear hown hbr hpb hsuf hps hpre hk
              go_wp2
              go_quiet (fail)
              go_wp2
              go_ret
              exact ⟨by rw [HD.out]; rfl, HFIN.out _ HI.out⟩
            · obtain ⟨pre', y, rfl⟩ : ∃ pre' y, pre = pre' ++ [y] := by
                rcases List.eq_nil_or_concat pre with rfl | ⟨pre', y, rfl⟩
                · simp at hk; omega
                · exact ⟨pre', y, by simp⟩
              obtain ⟨j, hj⟩ : ∃ j, pre'.length = j := ⟨_, rfl⟩
              have hkj : k = j + 1 := by rw [← hk, ← hj]; simp
              have hyx : ¬ y = x := fun e => HN.out (by rw [hps, ← e]; simp)
              have hjl : j + 1 ≤ s.bs.length := by rw [hps]; simp; omega
              have hord : Ord cmpB ((pre' ++ [y]) ++ suf) := by rw [← hps]; exact HOK.out
              have he := hown.rng.bds
              have ey := he j (by simp; omega)
              have ex := he (j + 1) (by simp; omega)
              obtain ⟨gb, go', hga, ey⟩ := ey
              obtain ⟨gb2, go2, hga2, ex⟩ := ex
              injection hga with hga
              injection hga with hga1 hga2'
              subst hga1 hga2'
              injection hga2 with hga2
              injection hga2 with hgb1 hgb2
              subst hgb1 hgb2
              rw [Nat.zero_add] at ey ex
              have iy : ((pre' ++ [y]) ++ x :: suf)[j]'(by simp; omega) = y := by simp [hj]
              have ix : ((pre' ++ [y]) ++ x :: suf)[j + 1]'(by simp; omega) = x := by simp [hj]
              rw [iy] at ey
              rw [ix, ← hkj] at ex
              obtain ⟨y0, y1, y2⟩ := ey
              obtain ⟨m0, m1, m2⟩ := ex
              have KEEP : Hid (∀ V', Below wr.heap.size wr V' → OwnB V' V.heap.size (.slice (some ⟨g, 0, none⟩) N cc) ((pre' ++ [y]) ++ x :: suf) ∧ Below V.heap.size V V' ∧ V'.cell? ⟨p, 1, none⟩ = some (.slice ax s.bs.length cx) ∧ V'.frozen? ⟨p, 1, none⟩ = false ∧ (∀ q, V'.frozen? ⟨g, q, none⟩ = false) ∧ (V'.cell? ⟨g, j * 3, none⟩ = some (.string y.ex) ∧ V'.cell? ⟨g, j * 3 + 1, none⟩ = some (.string y.que) ∧ V'.cell? ⟨g, j * 3 + 2, none⟩ = some (.string y.pat)) ∧ (V'.cell? ⟨g, k * 3, none⟩ = some (.string x.ex) ∧ V'.cell? ⟨g, k * 3 + 1, none⟩ = some (.string x.que) ∧ V'.cell? ⟨g, k * 3 + 2, none⟩ = some (.string x.pat))) := fun V' hV' => by
                have o1 := hown.kept hV' (Nat.le_refl _)
                have o2 := hbr.trans (hV'.mono hbr.size)
                have hpb' := (o2.block p HP.out).trans HQ.out.1.blk
                refine ⟨o1, o2, (cells2 hpb').2, frozen_of_list hpb' 1, ?_, ⟨cellK hV' y0, cellK hV' y1, cellK hV' y2⟩, ⟨cellK hV' m0, cellK hV' m1, cellK hV' m2⟩⟩
                rcases o1.split with ⟨hv, _⟩ | ⟨g', c', R, hv, _, hg', _⟩
                · cases hv
                · injection hv with h1
                  injection h1 with h1
                  injection h1 with h1
                  subst h1
                  exact frozen_of_list hg'
              have hA := fun (m : Nat) (os : Array Obj) => rahead_grew x y (grow (wr.drewN m) os)
              have y0' := fun m os => cell_grown (World.block_lt_of_cell? _ _ y0) y0 m os
              have y1' := fun m os => cell_grown (World.block_lt_of_cell? _ _ y1) y1 m os
              have y2' := fun m os => cell_grown (World.block_lt_of_cell? _ _ y2) y2 m os
              have m0' := fun m os => cell_grown (World.block_lt_of_cell? _ _ m0) m0 m os
              have m1' := fun m os => cell_grown (World.block_lt_of_cell? _ _ m1) m1 m os
              have m2' := fun m os => cell_grown (World.block_lt_of_cell? _ _ m2) m2 m os
              have mixed : Tryz.prog.follows .mixedOrders = true := by kernel_rfl
              have hkN : (k : Int) < (N : Int) := by have := HNN.out; omega
              have hjN : (j : Int) < (N : Int) := by have := HNN.out; omega
              have hpos : decide (0 < k) = true := decide_eq_true (by omega)
              have hpos' : 0 < k := by omega
              have hsub : IntKind.i64.wrap ((k : Int) - 1) = (j : Int) := by rw [IntKind.wrap_i64]; have := HLEN.out; omega
              have HKJ : Hid (k = j + 1) := hkj
              have HJ : Hid _ := hj
              clear iy ix
              clear he hpb hk hjl hkj hk0 y0 y1 y2 m0 m1 m2 d0 f0 hj n33 n1
              by_cases hcc : cmpB y x < 0
              · have hnx : ¬ cmpB x y < 0 := by have := cmpB3.neg x y; omega
                simp only [decide_eq_false hnx] at hA
                have HI : Hid (insC cmpB x ((pre' ++ [y]) ++ suf) = (pre' ++ [y]) ++ x :: suf) := insC_mid cmpB3 (pre_all cmpB3 (by simpa using hord) hcc) hsuf
                have HPS : Hid _ := hps
                clear hown hbr hsuf hps hord hyx hcc hnx
                go_wp2
                refine wp_region_quiet_grown (by assumption) (by kernel_rfl) ?_
                repeat (first | go_big_quiet_step ((go_at_call 46; exact Calls.grown_of (hA _ _))) | quiet_step ((go_at_call 46; exact Calls.grown_of (hA _ _))))
                refine wpQuiet_nil ?_
                intro _ hw'
                obtain ⟨⟨nq, osq⟩, hw''⟩ := hw'
                subst hw''
                obtain ⟨wq, hwq⟩ : ∃ wq, wq = grow (wr.drewN 0) osq := ⟨_, rfl⟩
                rw [show grow (wr.drewN nq) osq = wq.drewN nq from by rw [hwq]; rfl]
                obtain ⟨o1, o2, o3, o4, o5, ⟨n0, n1, n2⟩, r0, r1, r2⟩ := KEEP.out wq (by rw [hwq]; exact below_grown _ wr 0 osq (Nat.le_refl _))
                clear hwq y0' y1' y2' m0' m1' m2' hA
                go_wp2
                go_ret
                exact ⟨by rw [HD.out]; rfl, FIN.out (wq.drewN _) _ suf o1 (o2.trans ⟨rfl, rfl, rfl, Nat.le_refl _, fun _ _ => rfl⟩) HI.out HPS.out⟩
              · have hxy : cmpB x y < 0 := by
                  have h1 := cmpB3.neg y x
                  have h2 : cmpB y x ≠ 0 := fun e => hyx (cmpB_eq e)
                  omega
                simp only [decide_eq_true hxy] at hA
                have HS1 : Hid (∀ V', OwnB V' V.heap.size (.slice (some ⟨g, 0, none⟩) N cc) ((pre' ++ [y]) ++ x :: suf) → Below V.heap.size V V' → OwnB (put3o (put3o V' g (j * 3) (.string x.ex) (.string x.que) (.string x.pat)) g (k * 3) (.string y.ex) (.string y.que) (.string y.pat)) V.heap.size (.slice (some ⟨g, 0, none⟩) N cc) (pre' ++ x :: (y :: suf)) ∧ Below V.heap.size V (put3o (put3o V' g (j * 3) (.string x.ex) (.string x.que) (.string x.pat)) g (k * 3) (.string y.ex) (.string y.que) (.string y.pat))) := fun V' h0 hb => by
                  rw [show (pre' ++ [y]) ++ x :: suf = pre' ++ y :: (x :: suf) by simp] at h0
                  have h1 := own_put (enc := bcells) x rfl h0
                  rw [show pre' ++ x :: x :: suf = (pre' ++ [x]) ++ x :: suf by simp] at h1
                  have h2 := own_put (enc := bcells) y rfl h1
                  rw [show (pre' ++ [x]) ++ y :: suf = pre' ++ x :: (y :: suf) by simp] at h2
                  have hj : pre'.length = j := HJ.out
                  rw [hj] at h2
                  rw [show (pre' ++ [x]).length = k by rw [HKJ.out]; simp [hj]] at h2
                  exact ⟨h2, put3o_below _ _ _ (put3o_below _ _ _ hb hg) hg⟩
                have HPS : Hid (s.bs = pre' ++ (y :: suf) ∧ ∀ z ∈ y :: suf, cmpB x z < 0) := ⟨by rw [hps]; simp, fun z hz => by
                  rcases List.mem_cons.1 hz with rfl | hz
                  · exact hxy
                  · exact hsuf z hz⟩
                clear hown hbr hsuf hps hord hyx hcc hxy
                go_wp2
                refine wp_region_quiet_grown (by assumption) (by kernel_rfl) ?_
                repeat (first | go_big_quiet_step ((go_at_call 46; exact Calls.grown_of (hA _ _))) | quiet_step ((go_at_call 46; exact Calls.grown_of (hA _ _))))
                refine wpQuiet_nil ?_
                intro _ hw'
                obtain ⟨⟨nq, osq⟩, hw''⟩ := hw'
                subst hw''
                obtain ⟨wq, hwq⟩ : ∃ wq, wq = grow (wr.drewN 0) osq := ⟨_, rfl⟩
                rw [show grow (wr.drewN nq) osq = wq.drewN nq from by rw [hwq]; rfl]
                obtain ⟨o1, o2, o3, o4, o5, ⟨n0, n1, n2⟩, r0, r1, r2⟩ := KEEP.out wq (by rw [hwq]; exact below_grown _ wr 0 osq (Nat.le_refl _))
                clear hwq y0' y1' y2' m0' m1' m2' hA
                have b0 : (0 : Int) ≤ (j : Int) := by omega
                have b2 : (j : Int) + 1 < (N : Int) := by have := HKJ.out; omega
                have b3 : (j : Int) + 1 ≤ 9223372036854775807 := by have := HLEN.out; have := HNN.out; omega
                have hkj : k = j + 1 := HKJ.out
                subst hkj
                have O1 : Hid _ := o1
                have O2 : Hid _ := o2
                clear hsub hkN hpos hpos' o1 o2 o3 o4 hjN mixed
                have b1 : (j : Int) < (N : Int) := by omega
                go_wp2
                go_region
                all_goals go_wp2
                all_goals exact ⟨⟨j, pre', y :: suf, rfl, HJ.out, HPS.out.1, HPS.out.2, (HS1.out (wq.drewN _) O1.out (Below.trans O2.out ⟨rfl, rfl, rfl, Nat.le_refl _, fun _ _ => rfl⟩)).1, (HS1.out (wq.drewN _) O1.out (Below.trans O2.out ⟨rfl, rfl, rfl, Nat.le_refl _, fun _ _ => rfl⟩)).2⟩, by simp [intOf]⟩
end Go.Proofs.YtiaagiijjledkaaGreatDoor
