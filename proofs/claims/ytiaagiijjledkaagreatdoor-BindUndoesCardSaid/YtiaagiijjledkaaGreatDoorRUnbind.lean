/-
  THE DOCUMENT's Unbind, by its contract.
-/
import Derived.Test.YtiaagiijjledkaaGreatDoorRForget
import Derived.Test.YtiaagiijjledkaaGreatDoorUnbind
namespace Go.Proofs.YtiaagiijjledkaaGreatDoor
open Go.RowKit Go.Sort

set_option maxRecDepth 20000 in
set_option maxHeartbeats 4000000 in
theorem runbind_any (p : Nat) (F : Nat → Prop) (s : Tb) (y : Bd) (w : World) (h : RT w p F s) (ok : s.Ok) :
    Calls Tryz.prog 25 #[.pointer (some ⟨p, 0, none⟩), bv y] w fun e w' => e = .returned (.int .i64 (s.unbind y).1) ∧ ∃ F', RT w' p F' (s.unbind y).2 ∧ Moved w w' F F' := by
  obtain ⟨W0, fold⟩ : ∃ W0, w.alloc (.cells #[.string y.ex, .string y.que, .string y.pat] 35) = W0 := ⟨_, rfl⟩
  have bW : Below w.heap.size w W0 := by rw [← fold]; exact (Below.refl _ _).alloc (Nat.le_refl _) _
  have x0 : W0.cell? ⟨w.heap.size, 0, none⟩ = some (.string y.ex) := by rw [← fold]; exact cell_of_list (C := bcells y) (heap_alloc_new w _) 0
  have x1 : W0.cell? ⟨w.heap.size, 1, none⟩ = some (.string y.que) := by rw [← fold]; exact cell_of_list (C := bcells y) (heap_alloc_new w _) 1
  have x2 : W0.cell? ⟨w.heap.size, 2, none⟩ = some (.string y.pat) := by rw [← fold]; exact cell_of_list (C := bcells y) (heap_alloc_new w _) 2
  have hH := rhas_any p F s y W0 (h.kept bW) (by have := ok.nb; omega)
  have HR : Hid (∀ V, Below W0.heap.size W0 V → RT V p F s ∧ Below w.heap.size w V) := fun V hV => ⟨(h.kept bW).kept hV, bW.trans (hV.mono bW.size)⟩
  have HX : Hid (∀ V, Below W0.heap.size W0 V → V.cell? ⟨w.heap.size, 0, none⟩ = some (.string y.ex) ∧ V.cell? ⟨w.heap.size, 1, none⟩ = some (.string y.que) ∧ V.cell? ⟨w.heap.size, 2, none⟩ = some (.string y.pat)) := fun V hV =>
    ⟨(hV.cell (p := ⟨w.heap.size, 0, none⟩) (World.block_lt_of_cell? _ _ x0)).trans x0, (hV.cell (p := ⟨w.heap.size, 1, none⟩) (World.block_lt_of_cell? _ _ x1)).trans x1, (hV.cell (p := ⟨w.heap.size, 2, none⟩) (World.block_lt_of_cell? _ _ x2)).trans x2⟩
  by_cases hin : y ∈ s.bs
  rotate_left
  · have hu : s.unbind y = (3, s) := by unfold Tb.unbind; rw [if_neg hin]
    rw [hu]
    rw [decide_eq_false hin] at hH
    clear hin
    go_enter Tryz.func25, Tryz.ntmps25
    go_wp2_with fail
    refine hH.mono ?_
    rintro e w1 ⟨rfl, b1⟩
    obtain ⟨h1, h2⟩ := HR.out w1 b1
    go_wp2
    go_ret
    exact ⟨rfl, F, h1, .of_below h2⟩
  have hu : s.unbind y = (0, { s with bs := keepB (fun b => decide (b = y)) s.bs }) := by unfold Tb.unbind; rw [if_pos hin]; rfl
  rw [hu]
  rw [decide_eq_true hin] at hH
  clear hin h hu
  obtain ⟨i0, hi0, hz0, hzs, hzb⟩ := bInfo
  have nb := ok.nb
  obtain ⟨pd, hpd⟩ : ∃ pd : Bd → Bool, pd = fun b => decide (b = y) := ⟨_, rfl⟩
  rw [← hpd]
  have HPD : Hid (∀ b, pd b = decide (b = y)) := fun b => by rw [hpd]
  clear hpd
  go_enter Tryz.func25, Tryz.ntmps25
  go_wp2_with fail
  refine hH.mono ?_
  rintro e W ⟨rfl, bH⟩
  obtain ⟨hRT, bWW⟩ := HR.out W bH
  obtain ⟨vx, vb, hq, hF, hlt⟩ := hRT
  obtain ⟨c0, c1⟩ := cells2 hq.blk
  obtain ⟨ax, cx, rfl⟩ := hq.b.slice
  have hB := hq.b.bds
  have hp : p < W.heap.size := (Array.getElem?_eq_some_iff.1 hq.blk).1
  have HQ : Hid (RTAt W p vx (.slice ax s.bs.length cx) s ∧ (∀ k, F k ↔ rfootT p vx (.slice ax s.bs.length cx) k) ∧ ∀ k, F k → k < W.heap.size) := ⟨hq, hF, hlt⟩
  have HXW : Hid (∀ V, Below W.heap.size W V → V.cell? ⟨w.heap.size, 0, none⟩ = some (.string y.ex) ∧ V.cell? ⟨w.heap.size, 1, none⟩ = some (.string y.que) ∧ V.cell? ⟨w.heap.size, 2, none⟩ = some (.string y.pat)) := fun V hV => HX.out V (bH.trans (hV.mono bH.size))
  have HBW : Hid _ := bWW
  clear hq hF hlt fold x0 x1 x2 hH bH bWW
  go_wp2
  clear c0 c1
  go_loopw [5, 7, 17] (fun u5 u7 u17 wr => ∃ k : Nat, u17 = .int .i64 k ∧ k ≤ s.bs.length ∧ OwnB wr W.heap.size u5 (keepB pd (s.bs.take k)) ∧ Below W.heap.size W wr) (fun u5 u7 u17 wr => s.bs.length - (intOf u17).toNat)
  case atStart => exact ⟨0, rfl, Nat.zero_le _, ownOf_nil _ _, Below.refl _ _⟩
  case round =>
    obtain ⟨k, rfl, hkl, hown, hbr⟩ := hrel
    by_cases hlt2 : k < s.bs.length
    · have hlt : (k : Int) < (s.bs.length : Int) := by omega
      obtain ⟨eb, eo, rfl, hi⟩ := hB k hlt2
      obtain ⟨e0, e1, e2⟩ := hi.below hbr (Nat.le_refl _)
      have hkt := keep_take (pd := pd) hlt2
      have hkn : (keepB pd (s.bs.take k)).length ≤ 32 := Nat.le_trans (keepB_le _ _) (by rw [List.length_take]; omega)
      clear hB hi
      generalize s.bs[k] = b at *
      rw [HPD.out b] at hkt
      generalize keepB pd (s.bs.take k) = G at *
      obtain ⟨X, foldX⟩ : ∃ X, wr.alloc (.cells #[.string b.ex, .string b.que, .string b.pat] 35) = X := ⟨_, rfl⟩
      have bX : Below W.heap.size W X := by rw [← foldX]; exact hbr.alloc hbr.size _
      have z0 : X.cell? ⟨wr.heap.size, 0, none⟩ = some (.string b.ex) := by rw [← foldX]; exact cell_of_list (C := bcells b) (heap_alloc_new wr _) 0
      have z1 : X.cell? ⟨wr.heap.size, 1, none⟩ = some (.string b.que) := by rw [← foldX]; exact cell_of_list (C := bcells b) (heap_alloc_new wr _) 1
      have z2 : X.cell? ⟨wr.heap.size, 2, none⟩ = some (.string b.pat) := by rw [← foldX]; exact cell_of_list (C := bcells b) (heap_alloc_new wr _) 2
      obtain ⟨t0, t1, t2⟩ := HXW.out X bX
      have oX : OwnB X W.heap.size u5 G := by rw [← foldX]; exact hown.alloc _
      obtain ⟨da, dc, rfl⟩ := hown.rng.slice
      have HBX : Hid _ := bX
      have HOX : Hid _ := oX
      have HK : Hid _ := hkt
      clear hkt bX hown
      go_wp2_with (at_builtin; refine wpList_append_rows (enc := bcells) rfl (.tmp 24) (.tmp 26) 27 rfl Tryz.underlying27 i0 _ 48 hi0 hz0 hzs hzb rfl W.heap.size (.slice da G.length dc) _ G [b] rfl rfl (oX.alloc _) (rowK_one _ _ _ rfl) (by unfold maxLen; simp; omega) (by simp; omega) (by have := Below.size HBX.out; simp; omega) ?_; intro v' w' own' gr' _; have HW : Hid (Below W.heap.size W w') := (oX.alloc _).below gr' (Below.alloc HBX.out (Below.size HBX.out) _) (by have := Below.size HBX.out; simp; omega) (Nat.le_refl _); obtain ⟨va', vc', hv'⟩ := own'.rng.slice; rw [List.length_append, List.length_singleton] at hv'; subst hv')
      · rename_i h1 h2 h3
        refine ⟨⟨k + 1, by go_num, by omega, ?_, HBX.out⟩, by simp [intOf]; omega⟩
        rw [HK.out, if_pos (decide_eq_true (bd_same h1 h2 h3)), List.append_nil]
        exact HOX.out
      all_goals (
        have hne : ¬ b = y := by
          intro e
          first
            | exact absurd (congrArg (fun z : Bd => z.pat.toList) e) ‹¬ b.pat.toList = y.pat.toList›
            | exact absurd (congrArg (fun z : Bd => z.que.toList) e) ‹¬ b.que.toList = y.que.toList›
            | exact absurd (congrArg (fun z : Bd => z.ex.toList) e) ‹¬ b.ex.toList = y.ex.toList›
        refine ⟨⟨k + 1, by go_num, by omega, ?_, HW.out⟩, by simp [intOf]; omega⟩
        rw [HK.out, if_neg (by simp [hne])]
        exact own')
    · obtain rfl : k = s.bs.length := by omega
      rw [List.take_length] at hown
      obtain ⟨G, hG⟩ : ∃ G, keepB pd s.bs = G := ⟨_, rfl⟩
      rw [hG] at hown
      have HG : Hid _ := hG
      clear hG
      obtain ⟨da, dc, rfl⟩ := hown.rng.slice
      have hpb := (hbr.block p hp).trans HQ.out.1.blk
      obtain ⟨_, d1⟩ := cells2 hpb
      have f1 := frozen_of_list hpb 1
      have hE := rt_setB HQ.out.1 HQ.out.2.1 HQ.out.2.2 hbr hown
      have HE : Hid _ := hE
      clear hB hown hpb hE
      go_wp2
      go_ret
      obtain ⟨F', r1, r2⟩ := HE.out
      rw [HG.out]
      exact ⟨rfl, F', r1, (Moved.of_below HBW.out).trans r2⟩
end Go.Proofs.YtiaagiijjledkaaGreatDoor
