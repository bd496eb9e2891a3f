/-
  TopoFlows: the law's walk.
-/
import Derived.Test.YtcfagojkeholmaaFlowMem
import Derived.Deep.RegionHeld3
namespace Go.Proofs.Ytcfagojkeholmaa
open Go.RowKit Go.Sort Go.Shelf

theorem NowOk.level {H o : Int} {l : List (Int × Int)} {L : Nat} {now : List Int} (h : NowOk l o H L now) (hn : now ≠ []) : L ≤ 8 := by
  obtain ⟨x, hx⟩ := List.exists_mem_of_ne_nil _ hn
  have := (h.mem x).1 hx
  have := far_range l o x
  omega
theorem RowB.slice {w : World} {lo hi : Nat} {v : Value} {l : List Int} (h : RowB w lo hi v l) : ∃ a cap, v = .slice a l.length cap := by
  rcases h with ⟨rfl, rfl⟩ | ⟨g, cap, rfl, _⟩
  · exact ⟨_, _, rfl⟩
  · exact ⟨_, _, rfl⟩

theorem flow_start {w W : World} {S H : Int} {v : Value} {l : List (Int × Int)} {ga gu o0 : Nat} (hg : GoodT S l H) (ho : 1 ≤ (o0 : Int) ∧ (o0 : Int) ≤ S) (hB : Boxed w W S v H) (hA : Arr W ga 34 9 (fun _ => .int .i64 0)) (hU : Arr W gu 36 81 (fun _ => .bool false)) (g1 : w.heap.size < ga) (g2 : ga < gu) :
    FlowIn w ((W.setCell ⟨ga, o0, none⟩ (.int .i64 1)).alloc (.cells #[.int .i64 (o0 : Int)] 3)) S v H ga gu (atF l o0 H 0) (fun _ => false) (.slice (some ⟨W.heap.size, 0, none⟩) 1 1) [(o0 : Int)] (W.heap.size + 1) := by
  have h0 : FlowIn w W S v H ga gu (fun _ => 0) (fun _ => false) (.slice none 0 0) [] W.heap.size := ⟨hB, hA, hU, g1, g2, hU.lt, Nat.le_refl _, .inl ⟨rfl, rfl⟩⟩
  have h1 := h0.putAt o0 1 (atF l o0 H 0) fun i _ => atF_start hg ho i
  have h2 : FlowIn w ((W.setCell ⟨ga, o0, none⟩ (.int .i64 1)).alloc (.cells #[.int .i64 (o0 : Int)] 3)) S v H ga gu (atF l o0 H 0) (fun _ => false) (.slice none 0 0) [] W.heap.size := h1.next (B := W.heap.size) ((Below.refl _ _).alloc (by simp) _) (Nat.le_refl _)
  have hlt := hU.lt
  refine ⟨h2.bx, h2.at', h2.us, g1, g2, by omega, by simp, .inr ⟨W.heap.size, 1, rfl, by omega, by omega, Nat.le_refl _, by simp [maxLen], fun j hj => ?_⟩⟩
  have hj0 : j = 0 := by simp at hj; omega
  subst hj0
  have hb : ((W.setCell ⟨ga, o0, none⟩ (.int .i64 1)).alloc (.cells #[.int .i64 (o0 : Int)] 3)).heap[W.heap.size]? = some (.cells #[.int .i64 (o0 : Int)] 3 (0, 0)) := by
    have := heap_alloc_new (W.setCell ⟨ga, o0, none⟩ (.int .i64 1)) (.cells #[.int .i64 (o0 : Int)] 3)
    simpa using this
  exact ⟨by rw [cell_of_row _ _ _ _ _ (0, 0) hb]; rfl, Arr.free (n := 1) (f := fun _ => .int .i64 (o0 : Int)) (show Arr _ W.heap.size 3 1 _ from hb) _⟩

set_option linter.unusedSimpArgs false in
set_option maxRecDepth 20000 in
set_option maxHeartbeats 8000000 in
theorem flows_law (S H o : Int) (v : Value) (l : List (Int × Int)) (w : World) (hr : RowOf ecells w v l) :
    Calls Try.prog 5 #[tv S v H, .int .i64 o] w fun e w' => e = .returned (.bool true) ∧ Below w.heap.size w w' := by
  obtain ⟨ad, cap, rfl⟩ := hr.slice
  have hG0 := fun W hW => good_any S H (.slice ad l.length cap) l W hW
  have hB0 : Hid (Boxed w (w.alloc (.cells #[.int .i64 S, .slice ad l.length cap, .int .i64 H] 24)) S (.slice ad l.length cap) H) := boxed_new _ _ _ _
  have HR : Hid (RowOf ecells w (.slice ad l.length cap) l) := hr
  have HL : Hid (∀ V, Calls Try.prog 8 #[] V fun e w' => e = .returned (.bool true) ∧ Below V.heap.size V w') := lives_any
  clear hr
  by_cases hg : GoodT S l H
  · rw [goodB_true hg] at hG0
    have hfew := hg.few
    have h200 : ¬ (200 : Int) < (l.length : Int) := by omega
    have HG : Hid (GoodT S l H) := hg
    have s8 : S ≤ 8 := hg.1.2.1
    have hh8 : 0 ≤ H ∧ H ≤ 8 := ⟨hg.1.2.2.1, hg.1.2.2.2⟩
    clear hg
    by_cases ho : 1 ≤ o ∧ o ≤ S
    · have HO : Hid (1 ≤ o ∧ o ≤ S) := ho
      obtain ⟨ho1, ho2⟩ := ho
      obtain ⟨o0, rfl⟩ : ∃ n : Nat, o = n := ⟨o.toNat, by omega⟩
      have o9 : o0 < 9 := by omega
      have o9' : (o0 : Int) < 9 := by omega
      have z9 := zeroI9
      have z81 := zeroB81
      go_enter Try.func5, Try.ntmps5
      go_upto_region 3 with (go_at_call 9; refine (hG0 _ (hB0.out.row HR.out)).mono ?_; rintro e w2 ⟨rfl, b2⟩; have hB1 : Hid (Boxed w w2 S (.slice ad l.length cap) H) := hB0.out.next b2 hB0.out.lt; have p0 := hB1.out.c0; have p1 := hB1.out.c1; have p2 := hB1.out.c2; clear b2)
      obtain ⟨W, fold⟩ : ∃ W, (w2.alloc (.cells (blank 9 (.int .i64 0)) 34)).alloc (.cells (blank 81 (.bool false)) 36) = W := ⟨_, rfl⟩
      have hA : Hid (Arr W w2.heap.size 34 9 (fun _ => .int .i64 0)) := by rw [← fold]; exact (arr_blank w2 9 (.int .i64 0) 34).same (Below.heap_alloc _ _ _ (by simp))
      have hU : Hid (Arr W (w2.heap.size + 1) 36 81 (fun _ => .bool false)) := by
        have := arr_blank (w2.alloc (.cells (blank 9 (.int .i64 0)) 34)) 81 (.bool false) 36
        rw [World.size_alloc] at this
        rw [← fold]; exact this
      have hBW : Hid (Boxed w W S (.slice ad l.length cap) H) := by rw [← fold]; exact hB1.out.next (((Below.refl _ _).alloc (Nat.le_refl _) _).alloc (by simp) _) hB1.out.lt
      have hF0 : Hid _ := flow_start (l := l) (o0 := o0) HG.out HO.out hBW.out hA.out hU.out hB1.out.lt (Nat.lt_succ_self _)
      have a0 : W.cell? ⟨w2.heap.size, o0, none⟩ = some (.int .i64 0) := hA.out.cell o9
      have af := hA.out.free o0
      clear hA hU hBW hB1 hG0 hB0
      go_wp2
      clear z9 z81 fold a0 af p0 p1 p2
      generalize w2.heap.size = ga at *
      go_loopg [7, 8] 20 (fun g u7 u8 wr => ∃ (L : Nat) (now : List Int) (u : Nat → Bool) (hi : Nat), u8 = .int .i64 ((L : Int) + 1) ∧ L ≤ 19 ∧ g = 20 - L ∧ Hid (FlowIn w wr S (.slice ad l.length cap) H ga (ga + 1) (atF l o0 H L) u u7 now hi) ∧ Hid (NowOk l o0 H L now) ∧ Hid (UsedOk l o0 L u))
      case atStart => exact ⟨0, _, _, _, rfl, by omega, rfl, hF0, now_start HG.out HO.out, fun x y _ _ h => by cases h⟩
      case round =>
        obtain ⟨L, now, u, hi, rfl, hL, rfl, hF, hN, hU⟩ := hrel
        clear hF0
        obtain ⟨na, nc, rfl⟩ := hF.out.now.slice
        by_cases hnow : now = []
        · have HE : Hid (FlowIn w wr S (.slice ad l.length cap) H ga (ga + 1) (atE l o0 H) u (.slice na now.length nc) now hi) := ⟨hF.out.bx, hF.out.at'.congr fun i _ => by rw [atF_end HG.out HO.out hN.out (.inl hnow)], hF.out.us, hF.out.g1, hF.out.g2, hF.out.g3, hF.out.g4, hF.out.now⟩
          clear hF hN hU
          generalize hnl : now.length = nl at *
          have hnl0 : nl = 0 := by rw [← hnl, hnow]; rfl
          subst hnl0
          go_wp2
          clear hnl hnow hL
          go_loopg [14] S.toNat (fun g u14 wr => ∃ n : Nat, u14 = .int .i64 (n : Int) ∧ 1 ≤ n ∧ (n : Int) ≤ S + 1 ∧ g = S.toNat + 1 - n ∧ Hid (FlowIn w wr S (.slice ad l.length cap) H ga (ga + 1) (atE l o0 H) u (.slice na 0 nc) now hi))
          case atStart => exact ⟨1, rfl, Nat.le_refl _, by omega, by omega, HE⟩
          case round =>
            obtain ⟨n, rfl, hn0, hn, rfl, hE⟩ := hrel
            clear HE
            have p0 := hE.out.bx.c0
            have p1 := hE.out.bx.c1
            have p2 := hE.out.bx.c2
            by_cases hlt : (n : Int) ≤ S
            · have n9 : n < 9 := by omega
              have n9' : (n : Int) < 9 := by omega
              have hWi := fun W hW => within_any S H o0 (.slice ad l.length cap) l W hW
              have hwl := withinT_len S H o0 l s8
              have hft : farT S l H o0 (n : Int) = far l o0 (n : Int) := by rw [farT, if_pos ⟨HG.out, HO.out, by omega⟩]
              have hwm : Hid ((n : Int) ∈ withinT S l H o0 ↔ 0 ≤ far l o0 (n : Int) ∧ far l o0 (n : Int) ≤ H) := by
                show (n : Int) ∈ withinT S l H o0 ↔ _
                unfold withinT
                rw [List.mem_filter, mem_sites, hft]
                simp; omega
              have hFa : Hid _ := fun W hW => far_any S H o0 (n : Int) (.slice ad l.length cap) l W hW
              have hat : Hid (atE l o0 H (n : Int) = if 0 ≤ far l o0 (n : Int) ∧ far l o0 (n : Int) ≤ H then far l o0 (n : Int) + 1 else 0) := rfl
              have hfr := far_range l o0 (n : Int)
              rw [hft] at hFa
              clear hft
              generalize far l o0 (n : Int) = y at *
              generalize withinT S l H o0 = LW at *
              go_wp2_with (go_at_call 16; refine (hWi _ (hE.out.bx.row HR.out)).mono ?_; rintro e w3 ⟨v3, rfl, r3, b3⟩; have hE1 : Hid (FlowIn w w3 S (.slice ad l.length cap) H ga (ga + 1) (atE l o0 H) u (.slice na 0 nc) now hi) := hE.out.next b3 hE.out.g4; obtain ⟨va, vc, rfl⟩ := r3.slice; have hRow : Hid (Row w3 (.slice va LW.length vc) (icells LW)) := r3.row; clear r3 b3)
              clear p0 p1 p2 hWi hE
              go_loopg [15, 108] LW.length (fun g u15 u108 wr => ∃ j : Nat, u108 = .int .i64 j ∧ j ≤ LW.length ∧ g = LW.length - j ∧ u15 = .bool (decide ((n : Int) ∈ LW.take j)) ∧ wr = w3)
              case atStart => exact ⟨0, rfl, Nat.zero_le _, rfl, by simp, rfl⟩
              case round =>
                obtain ⟨j, rfl, hj, rfl, rfl, rfl⟩ := hrel
                by_cases hlt3 : j < LW.length
                · have hlt3' : (j : Int) < (LW.length : Int) := by omega
                  obtain ⟨qb, qo, qc, hv, _, _, hcell⟩ := hRow.out.atInts (by omega)
                  have hcj := hcell j hlt3
                  injection hv with hv1 _ hv3
                  subst hv1 hv3
                  have htk : Hid (decide ((n : Int) ∈ LW.take (j + 1)) = (decide ((n : Int) ∈ LW.take j) || (LW[j] == (n : Int)))) := by
                    show decide ((n : Int) ∈ LW.take (j + 1)) = _
                    rw [List.take_succ_eq_append_getElem hlt3]
                    by_cases h1 : (n : Int) ∈ LW.take j
                    · rw [decide_eq_true (List.mem_append.2 (.inl h1)), decide_eq_true h1]; rfl
                    · by_cases h2 : LW[j] = (n : Int)
                      · rw [decide_eq_true (List.mem_append.2 (.inr (by rw [h2]; exact List.mem_cons_self))), decide_eq_false h1, h2]; simp
                      · rw [decide_eq_false (fun h => (List.mem_append.1 h).elim h1 (fun h' => h2 (List.mem_singleton.1 h').symm)), decide_eq_false h1, beq_eq_false_iff_ne.2 h2]; rfl
                  clear hcell
                  generalize LW[j] = z at *
                  by_cases h1 : (n : Int) ∈ LW.take j
                  · rw [decide_eq_true h1] at htk ⊢
                    rw [Bool.true_or] at htk
                    clear h1
                    go_wp2
                    go_roundg (LW.length - (j + 1))
                    case measure => omega
                    case rel => exact ⟨j + 1, by go_num, by omega, rfl, by rw [htk.out], rfl⟩
                  · rw [decide_eq_false h1] at htk ⊢
                    rw [Bool.false_or] at htk
                    clear h1
                    by_cases h2 : z = (n : Int)
                    · subst h2
                      rw [show ((n : Int) == (n : Int)) = true by simp] at htk
                      go_wp2
                      go_roundg (LW.length - (j + 1))
                      case measure => omega
                      case rel => exact ⟨j + 1, by go_num, by omega, rfl, by rw [htk.out], rfl⟩
                    · have h3 : (z == (n : Int)) = false := by simpa using h2
                      rw [h3] at htk
                      go_wp2
                      go_roundg (LW.length - (j + 1))
                      case measure => omega
                      case rel => exact ⟨j + 1, by go_num, by omega, rfl, by rw [htk.out], rfl⟩
                · obtain rfl : j = LW.length := by omega
                  rw [List.take_length]
                  have c0 : wr.cell? ⟨ga, n, none⟩ = some (.int .i64 (atE l o0 H (n : Int))) := hE1.out.at'.cell (i := n) n9
                  have p0 := hE1.out.bx.c0
                  have p1 := hE1.out.bx.c1
                  have p2 := hE1.out.bx.c2
                  by_cases hin : (n : Int) ∈ LW
                  · have hy := hwm.out.1 hin
                    rw [hat.out, if_pos hy] at c0
                    rw [decide_eq_true hin]
                    have hy1 : 0 < y + 1 := by omega
                    have hsb : IntKind.i64.wrap (y + 1 - 1) = y := by rw [IntKind.wrap_i64]; omega
                    have hyH : y ≤ H := hy.2
                    have hwy : IntKind.i64.wrap y = y := by rw [IntKind.wrap_i64]; omega
                    clear hin hwm hat
                    go_wp2
                    have hED : Hid (FlowIn w wr.drew S (.slice ad l.length cap) H ga (ga + 1) (atE l o0 H) u (.slice na 0 nc) now hi) := hE1.out.next (Below.refl _ _).drew hE1.out.g4
                    refine wp_region_noPanic ?_
                    refine wp_region_held_drew (S := fun w' => w'.cell? ⟨w.heap.size, 0, none⟩ = some (.int .i64 S) ∧ w'.cell? ⟨w.heap.size, 1, none⟩ = some (.slice ad l.length cap) ∧ w'.cell? ⟨w.heap.size, 2, none⟩ = some (.int .i64 H) ∧ w'.cell? ⟨ga, n, none⟩ = some (.int .i64 (y + 1))) (by kernel_rfl) ⟨p0, p1, p2, c0⟩ (fun hHeld => ?_)
                    refine wpAnyH_take (i := 0) (v := ?_) (by simp only [List.getElem?_toArray, List.getElem?_cons_succ, List.getElem?_cons_zero]; rfl) (by kernel_rfl) (by kernel_rfl) (by kernel_rfl) (fun _ _ _ h => h) (Or.inl ⟨by rfl, ?_⟩) (by assumption) ?_
                    rotate_left
                    · (intro w hSw; (try dsimp only at hSw); go_simp; try with_reducible rfl)
                    try simp only [Act.put, List.setIfInBounds_toArray, List.set_cons_zero, List.set_cons_succ]
                    refine wpAnyH_take (i := 1) (v := ?_) (by simp only [List.getElem?_toArray, List.getElem?_cons_succ, List.getElem?_cons_zero]; rfl) (by kernel_rfl) (by kernel_rfl) (by kernel_rfl) (fun _ _ _ h => h) (Or.inl ⟨by rfl, ?_⟩) (by assumption) ?_
                    rotate_left
                    · (intro w hSw; (try dsimp only at hSw); go_simp; try with_reducible rfl)
                    try simp only [Act.put, List.setIfInBounds_toArray, List.set_cons_zero, List.set_cons_succ]
                    refine wpAnyH_take (i := 2) (v := ?_) (by simp only [List.getElem?_toArray, List.getElem?_cons_succ, List.getElem?_cons_zero]; rfl) (by kernel_rfl) (by kernel_rfl) (by kernel_rfl) (fun _ _ _ h => h) (Or.inl ⟨by rfl, ?_⟩) (by assumption) ?_
                    rotate_left
                    · (intro w hSw; (try dsimp only at hSw); go_simp; try with_reducible rfl)
                    try simp only [Act.put, List.setIfInBounds_toArray, List.set_cons_zero, List.set_cons_succ]
                    refine wpAnyH_take (i := 3) (v := ?_) (by simp only [List.getElem?_toArray, List.getElem?_cons_succ, List.getElem?_cons_zero]; rfl) (by kernel_rfl) (by kernel_rfl) (by kernel_rfl) (fun _ _ _ h => h) (Or.inl ⟨by rfl, ?_⟩) (by assumption) ?_
                    rotate_left
                    · (intro w hSw; (try dsimp only at hSw); go_simp; try with_reducible rfl)
                    try simp only [Act.put, List.setIfInBounds_toArray, List.set_cons_zero, List.set_cons_succ]
                    refine wpAnyH_take (i := 4) (v := ?_) (by simp only [List.getElem?_toArray, List.getElem?_cons_succ, List.getElem?_cons_zero]; rfl) (by kernel_rfl) (by kernel_rfl) (by kernel_rfl) (fun _ _ _ h => h) (Or.inl ⟨by rfl, ?_⟩) (by assumption) ?_
                    rotate_left
                    · (intro w hSw; (try dsimp only at hSw); go_simp; try with_reducible rfl)
                    try simp only [Act.put, List.setIfInBounds_toArray, List.set_cons_zero, List.set_cons_succ]
                    refine wpAnyH_take (i := 5) (v := ?_) (by simp only [List.getElem?_toArray, List.getElem?_cons_succ, List.getElem?_cons_zero]; rfl) (by kernel_rfl) (by kernel_rfl) (by kernel_rfl) (fun _ _ _ h => h) (Or.inl ⟨by rfl, ?_⟩) (by assumption) ?_
                    rotate_left
                    · (intro w hSw; (try dsimp only at hSw); go_simp; try with_reducible rfl)
                    try simp only [Act.put, List.setIfInBounds_toArray, List.set_cons_zero, List.set_cons_succ]
                    refine wpAnyH_take (i := 6) (v := ?_) (by simp only [List.getElem?_toArray, List.getElem?_cons_succ, List.getElem?_cons_zero]; rfl) (by kernel_rfl) (by kernel_rfl) (by kernel_rfl) (fun _ _ _ h => h) (Or.inl ⟨by rfl, ?_⟩) (by assumption) ?_
                    rotate_left
                    · (intro w hSw; (try dsimp only at hSw); go_simp; try with_reducible rfl)
                    try simp only [Act.put, List.setIfInBounds_toArray, List.set_cons_zero, List.set_cons_succ]
                    refine wpAnyH_take (i := 7) (v := ?_) (by simp only [List.getElem?_toArray, List.getElem?_cons_succ, List.getElem?_cons_zero]; rfl) (by kernel_rfl) (by kernel_rfl) (by kernel_rfl) (fun _ _ _ h => h) (Or.inl ⟨by rfl, ?_⟩) (by assumption) ?_
                    rotate_left
                    · (intro w hSw; (try dsimp only at hSw); go_simp; try with_reducible rfl)
                    try simp only [Act.put, List.setIfInBounds_toArray, List.set_cons_zero, List.set_cons_succ]
                    refine wpAnyH_take (i := 8) (v := ?_) (by simp only [List.getElem?_toArray, List.getElem?_cons_succ, List.getElem?_cons_zero]; rfl) (by kernel_rfl) (by kernel_rfl) (by kernel_rfl) (fun _ _ _ h => h) (Or.inl ⟨by rfl, ?_⟩) (by assumption) ?_
                    rotate_left
                    · (intro w hSw; (try dsimp only at hSw); go_simp; try with_reducible rfl)
                    try simp only [Act.put, List.setIfInBounds_toArray, List.set_cons_zero, List.set_cons_succ]
                    refine wpAnyH_take (i := 9) (v := ?_) (by simp only [List.getElem?_toArray, List.getElem?_cons_succ, List.getElem?_cons_zero]; rfl) (by kernel_rfl) (by kernel_rfl) (by kernel_rfl) (fun _ _ _ h => h) (Or.inl ⟨by rfl, ?_⟩) (by assumption) ?_
                    rotate_left
                    · (intro w hSw; (try dsimp only at hSw); go_simp; try with_reducible rfl)
                    try simp only [Act.put, List.setIfInBounds_toArray, List.set_cons_zero, List.set_cons_succ]
                    refine wpAnyH_take (i := 10) (v := ?_) (by simp only [List.getElem?_toArray, List.getElem?_cons_succ, List.getElem?_cons_zero]; rfl) (by kernel_rfl) (by kernel_rfl) (by kernel_rfl) (fun _ _ _ h => h) (Or.inl ⟨by rfl, ?_⟩) (by assumption) ?_
                    rotate_left
                    · (intro w hSw; (try dsimp only at hSw); go_simp; try with_reducible rfl)
                    try simp only [Act.put, List.setIfInBounds_toArray, List.set_cons_zero, List.set_cons_succ]
                    refine wpAnyH_take (i := 11) (v := ?_) (by simp only [List.getElem?_toArray, List.getElem?_cons_succ, List.getElem?_cons_zero]; rfl) (by kernel_rfl) (by kernel_rfl) (by kernel_rfl) (fun _ _ _ h => h) (Or.inl ⟨by rfl, ?_⟩) (by assumption) ?_
                    rotate_left
                    · (intro w hSw; (try dsimp only at hSw); go_simp; try with_reducible rfl)
                    try simp only [Act.put, List.setIfInBounds_toArray, List.set_cons_zero, List.set_cons_succ]
                    refine wpAnyH_take (i := 13) (v := ?_) (by simp only [List.getElem?_toArray, List.getElem?_cons_succ, List.getElem?_cons_zero]; rfl) (by kernel_rfl) (by kernel_rfl) (by kernel_rfl) (fun _ _ _ h => h) (Or.inl ⟨by rfl, ?_⟩) (by assumption) ?_
                    rotate_left
                    · (intro w hSw; (try dsimp only at hSw); go_simp; try with_reducible rfl)
                    try simp only [Act.put, List.setIfInBounds_toArray, List.set_cons_zero, List.set_cons_succ]
                    refine wpAnyH_take (i := 14) (v := ?_) (by simp only [List.getElem?_toArray, List.getElem?_cons_succ, List.getElem?_cons_zero]; rfl) (by kernel_rfl) (by kernel_rfl) (by kernel_rfl) (fun _ _ _ h => h) (Or.inl ⟨by rfl, ?_⟩) (by assumption) ?_
                    rotate_left
                    · (intro w hSw; (try dsimp only at hSw); go_simp; try with_reducible rfl)
                    try simp only [Act.put, List.setIfInBounds_toArray, List.set_cons_zero, List.set_cons_succ]
                    refine wpAnyH_take (i := 15) (v := ?_) (by simp only [List.getElem?_toArray, List.getElem?_cons_succ, List.getElem?_cons_zero]; rfl) (by kernel_rfl) (by kernel_rfl) (by kernel_rfl) (fun _ _ _ h => h) (Or.inl ⟨by rfl, ?_⟩) (by assumption) ?_
                    rotate_left
                    · (intro w hSw; (try dsimp only at hSw); go_simp; try with_reducible rfl)
                    try simp only [Act.put, List.setIfInBounds_toArray, List.set_cons_zero, List.set_cons_succ]
                    refine wpAnyH_take (i := 16) (v := ?_) (by simp only [List.getElem?_toArray, List.getElem?_cons_succ, List.getElem?_cons_zero]; rfl) (by kernel_rfl) (by kernel_rfl) (by kernel_rfl) (fun _ _ _ h => h) (Or.inl ⟨by rfl, ?_⟩) (by assumption) ?_
                    rotate_left
                    · (intro w hSw; (try dsimp only at hSw); go_simp; try with_reducible rfl)
                    try simp only [Act.put, List.setIfInBounds_toArray, List.set_cons_zero, List.set_cons_succ]
                    refine wpAnyH_ready (rs := [12]) (by kernel_rfl) (by simp) ?_
                    refine AllReadyH.cons rfl (fun K hK => ?_) AllReadyH.nil
                    go_simp
                    go_at_call 14
                    refine (hFa.out _ (hED.out.bx.row HR.out)).mono ?_
                    rintro e wq ⟨rfl, bq⟩
                    have hE2 : Hid (FlowIn w wq S (.slice ad l.length cap) H ga (ga + 1) (atE l o0 H) u (.slice na 0 nc) now hi) := hED.out.next bq hED.out.g4
                    dsimp only
                    refine hK.out _ _ ⟨hE2.out.bx.c0, hE2.out.bx.c1, hE2.out.bx.c2, cell_on bq c0⟩ (fun hHeld => ?_)
                    clear hK K bq
                    try simp only [Act.put, List.setIfInBounds_toArray, List.set_cons_zero, List.set_cons_succ]
                    refine wpAnyH_take (i := 17) (v := ?_) (by simp only [List.getElem?_toArray, List.getElem?_cons_succ, List.getElem?_cons_zero]; rfl) (by kernel_rfl) (by kernel_rfl) (by kernel_rfl) (fun _ _ _ h => h) (Or.inl ⟨by rfl, ?_⟩) (by assumption) ?_
                    rotate_left
                    · (intro w hSw; (try dsimp only at hSw); go_simp; try with_reducible rfl)
                    try simp only [Act.put, List.setIfInBounds_toArray, List.set_cons_zero, List.set_cons_succ]
                    refine wpAnyH_take (i := 18) (v := ?_) (by simp only [List.getElem?_toArray, List.getElem?_cons_succ, List.getElem?_cons_zero]; rfl) (by kernel_rfl) (by kernel_rfl) (by kernel_rfl) (fun _ _ _ h => h) (Or.inl ⟨by rfl, ?_⟩) (by assumption) ?_
                    rotate_left
                    · (intro w hSw; (try dsimp only at hSw); go_simp; try with_reducible rfl)
                    try simp only [Act.put, List.setIfInBounds_toArray, List.set_cons_zero, List.set_cons_succ]
                    refine wpAnyH_take (i := 19) (v := ?_) (by simp only [List.getElem?_toArray, List.getElem?_cons_succ, List.getElem?_cons_zero]; rfl) (by kernel_rfl) (by kernel_rfl) (by kernel_rfl) (fun _ _ _ h => h) (Or.inl ⟨by rfl, ?_⟩) (by assumption) ?_
                    rotate_left
                    · (intro w hSw; (try dsimp only at hSw); go_simp; try with_reducible rfl)
                    try simp only [Act.put, List.setIfInBounds_toArray, List.set_cons_zero, List.set_cons_succ]
                    refine wpAnyH_take (i := 20) (v := ?_) (by simp only [List.getElem?_toArray, List.getElem?_cons_succ, List.getElem?_cons_zero]; rfl) (by kernel_rfl) (by kernel_rfl) (by kernel_rfl) (fun _ _ _ h => h) (Or.inl ⟨by rfl, ?_⟩) (by assumption) ?_
                    rotate_left
                    · (intro w hSw; (try dsimp only at hSw); go_simp; try with_reducible rfl)
                    try simp only [Act.put, List.setIfInBounds_toArray, List.set_cons_zero, List.set_cons_succ]
                    refine wpAnyH_take (i := 21) (v := ?_) (by simp only [List.getElem?_toArray, List.getElem?_cons_succ, List.getElem?_cons_zero]; rfl) (by kernel_rfl) (by kernel_rfl) (by kernel_rfl) (fun _ _ _ h => h) (Or.inl ⟨by rfl, ?_⟩) (by assumption) ?_
                    rotate_left
                    · (intro w hSw; (try dsimp only at hSw); go_simp; try with_reducible rfl)
                    try simp only [Act.put, List.setIfInBounds_toArray, List.set_cons_zero, List.set_cons_succ]
                    refine wpAnyH_take (i := 22) (v := ?_) (by simp only [List.getElem?_toArray, List.getElem?_cons_succ, List.getElem?_cons_zero]; rfl) (by kernel_rfl) (by kernel_rfl) (by kernel_rfl) (fun _ _ _ h => h) (Or.inl ⟨by rfl, ?_⟩) (by assumption) ?_
                    rotate_left
                    · (intro w hSw; (try dsimp only at hSw); go_simp; try with_reducible rfl)
                    try simp only [Act.put, List.setIfInBounds_toArray, List.set_cons_zero, List.set_cons_succ]
                    refine wpAnyH_take (i := 23) (v := ?_) (by simp only [List.getElem?_toArray, List.getElem?_cons_succ, List.getElem?_cons_zero]; rfl) (by kernel_rfl) (by kernel_rfl) (by kernel_rfl) (fun _ _ _ h => h) (Or.inl ⟨by rfl, ?_⟩) (by assumption) ?_
                    rotate_left
                    · (intro w hSw; (try dsimp only at hSw); go_simp; try with_reducible rfl)
                    try simp only [Act.put, List.setIfInBounds_toArray, List.set_cons_zero, List.set_cons_succ]
                    refine wpAnyH_take (i := 24) (v := ?_) (by simp only [List.getElem?_toArray, List.getElem?_cons_succ, List.getElem?_cons_zero]; rfl) (by kernel_rfl) (by kernel_rfl) (by kernel_rfl) (fun _ _ _ h => h) (Or.inl ⟨by rfl, ?_⟩) (by assumption) ?_
                    rotate_left
                    · (intro w hSw; (try dsimp only at hSw); go_simp; try with_reducible rfl)
                    try simp only [Act.put, List.setIfInBounds_toArray, List.set_cons_zero, List.set_cons_succ]
                    refine wpAnyH_take (i := 25) (v := ?_) (by simp only [List.getElem?_toArray, List.getElem?_cons_succ, List.getElem?_cons_zero]; rfl) (by kernel_rfl) (by kernel_rfl) (by kernel_rfl) (fun _ _ _ h => h) (Or.inl ⟨by rfl, ?_⟩) (by assumption) ?_
                    rotate_left
                    · (intro w hSw; (try dsimp only at hSw); go_simp; try with_reducible rfl)
                    try simp only [Act.put, List.setIfInBounds_toArray, List.set_cons_zero, List.set_cons_succ]
                    refine wpAnyH_take (i := 26) (v := ?_) (by simp only [List.getElem?_toArray, List.getElem?_cons_succ, List.getElem?_cons_zero]; rfl) (by kernel_rfl) (by kernel_rfl) (by kernel_rfl) (fun _ _ _ h => h) (Or.inl ⟨by rfl, ?_⟩) (by assumption) ?_
                    rotate_left
                    · (intro w hSw; (try dsimp only at hSw); go_simp; try with_reducible rfl)
                    try simp only [Act.put, List.setIfInBounds_toArray, List.set_cons_zero, List.set_cons_succ]
                    refine wpAnyH_take (i := 27) (v := ?_) (by simp only [List.getElem?_toArray, List.getElem?_cons_succ, List.getElem?_cons_zero]; rfl) (by kernel_rfl) (by kernel_rfl) (by kernel_rfl) (fun _ _ _ h => h) (Or.inl ⟨by rfl, ?_⟩) (by assumption) ?_
                    rotate_left
                    · (intro w hSw; (try dsimp only at hSw); go_simp; try with_reducible rfl)
                    try simp only [Act.put, List.setIfInBounds_toArray, List.set_cons_zero, List.set_cons_succ]
                    refine wpAnyH_take (i := 28) (v := ?_) (by simp only [List.getElem?_toArray, List.getElem?_cons_succ, List.getElem?_cons_zero]; rfl) (by kernel_rfl) (by kernel_rfl) (by kernel_rfl) (fun _ _ _ h => h) (Or.inl ⟨by rfl, ?_⟩) (by assumption) ?_
                    rotate_left
                    · (intro w hSw; (try dsimp only at hSw); go_simp; try with_reducible rfl)
                    try simp only [Act.put, List.setIfInBounds_toArray, List.set_cons_zero, List.set_cons_succ]
                    refine wpAnyH_done (by kernel_rfl) ?_ _
                    refine NoPanic.normal ?_
                    go_wp2
                    go_roundg (S.toNat + 1 - (n + 1))
                    case measure => omega
                    case rel => exact ⟨n + 1, by go_num, by omega, by omega, rfl, hE2⟩
                  · have hy : ¬ (0 ≤ y ∧ y ≤ H) := fun h => hin (hwm.out.2 h)
                    rw [hat.out, if_neg hy] at c0
                    rw [decide_eq_false hin]
                    clear hin hwm hat hy
                    go_wp2
                    go_quiet (fail)
                    go_wp2
                    go_roundg (S.toNat + 1 - (n + 1))
                    case measure => omega
                    case rel => exact ⟨n + 1, by go_num, by omega, by omega, rfl, hE1.out.next (B := wr.heap.size) ⟨rfl, rfl, rfl, Nat.le_refl _, fun _ _ => rfl⟩ hE1.out.g4⟩
            · have hFa := fun W hW => far_any S H o0 o0 (.slice ad l.length cap) l W hW
              rw [show farT S l H o0 o0 = 0 by rw [farT, if_pos ⟨HG.out, HO.out, HO.out⟩]; exact far_self _ _] at hFa
              go_wp2_with (first
                | (go_at_call 14; refine (hFa _ (hE.out.bx.row HR.out)).mono ?_; rintro e w3 ⟨rfl, b3⟩; have hE1 : Hid (Below w.heap.size w w3) := keptW hE.out.bx.bel b3; clear b3)
                | (go_at_call 8; refine (HL.out _).mono ?_; rintro e w4 ⟨rfl, b4⟩))
              go_ret
              exact ⟨rfl, hE1.out.trans (b4.mono hE1.out.size)⟩
        · have hL8 := hN.out.level hnow
          have hnl : 0 < now.length := List.length_pos_iff.2 hnow
          have hnl' : (0 : Int) < (now.length : Int) := by omega
          have hL20 : (L : Int) + 1 < 20 := by omega
          have hX0 : Hid (Fx w wr S (.slice ad l.length cap) H ga (ga + 1) (atM l o0 H L []) u (.slice na now.length nc) now hi (.slice none 0 0) []) := ⟨⟨hF.out.bx, hF.out.at'.congr fun i _ => by rw [atM_begin], hF.out.us, hF.out.g1, hF.out.g2, hF.out.g3, hF.out.g4, hF.out.now⟩, ownOf_nil _ _⟩
          have hU0 : Hid (∀ a, UsedM l o0 L now 0 a [] u) := fun a => used_begin a hU.out
          have hnm : now.length ≤ 9223372036854775807 := by have := (hF.out.now.rowI hF.out.g4).short; unfold maxLen at this; omega
          clear hF hU
          go_wp2
          clear hnl hnl' hnow
          go_loopg [9, 53] now.length (fun g u9 u53 wr => ∃ (i : Nat) (nx : List Int) (u : Nat → Bool), u53 = .int .i64 i ∧ i ≤ now.length ∧ g = now.length - i ∧ Hid (Fx w wr S (.slice ad l.length cap) H ga (ga + 1) (atM l o0 H L nx) u (.slice na now.length nc) now hi u9 nx) ∧ Hid (MidOk S H o0 l L now i [] nx) ∧ Hid (∀ a, UsedM l o0 L now i a [] u))
          case atStart => exact ⟨0, [], u, rfl, Nat.zero_le _, rfl, hX0, mid_begin _ _ _ _ _ _, hU0⟩
          case round =>
            obtain ⟨i, nx, u, rfl, hi', rfl, hX, hM, hUM⟩ := hrel
            clear hX0 hU0
            by_cases hlt : i < now.length
            · have hlt' : (i : Int) < (now.length : Int) := by omega
              obtain ⟨rb, ro, rc, hv, _, _, hcell⟩ := (hX.out.fi.now.rowI hX.out.fi.g4).row.atInts (by omega)
              have hci := hcell i hlt
              injection hv with hv1 _ hv3
              subst hv1 hv3
              have hfa : Hid (far l o0 now[i] = L ∧ (L : Int) ≤ H) := (hN.out.mem _).1 (List.getElem_mem hlt)
              have hsa := far_site HG.out HO.out (x := now[i]) (by have := hfa.out.1; omega)
              have hnot : Hid (∀ (cur : List Int) (u : Nat → Bool), UsedM l o0 L now i now[i] cur u → ∀ m n : Nat, (m : Int) = now[i] → m < 9 → n < 9 → (n : Int) ∉ cur → u (m * 9 + n) = false) := fun cur u hu m n hm hm9 hn9 hc => used_not hN.out hlt hu hm hm9 hn9 hc
              have hnext : Hid (∀ nx, MidOk S H o0 l L now i (onwardT S l H o0 now[i]) nx → MidOk S H o0 l L now (i + 1) [] nx) := fun nx h => h.next hlt
              have hunext : Hid (∀ cur u, UsedM l o0 L now i now[i] cur u → ∀ a', UsedM l o0 L now (i + 1) a' [] u) := fun cur u h a' => used_next hlt a' h
              have hOn := fun W hW => onward_any S H o0 now[i] (.slice ad l.length cap) l W hW
              have hmem : Hid (∀ b ∈ onwardT S l H o0 now[i], (0 ≤ far l o0 now[i] ∧ far l o0 now[i] < H) ∧ (now[i], b) ∈ l ∧ b ≠ o0) := fun b hb => (mem_onward HG.out HO.out hsa).1 hb
              have hfree : Hid (∀ cur nx b, MidOk S H o0 l L now i cur nx → b ∈ onwardT S l H o0 now[i] → (atM l o0 H L nx b = 0 ↔ b ∉ nx ∧ far l o0 b = (L : Int) + 1)) := fun cur nx b h hb => mid_free HG.out HO.out h hfa.out.1 hb
              have hond := onward_nodup S H o0 now[i] l
              have hons := onward_short S H o0 now[i] l
              have hUa : Hid (UsedM l o0 L now i now[i] [] u) := hUM.out _
              clear hcell hUM
              generalize now[i] = a at *
              generalize onwardT S l H o0 a = LO at *
              obtain ⟨m, rfl⟩ : ∃ m : Nat, a = m := ⟨a.toNat, by omega⟩
              have m9 : m < 9 := by omega
              have m9' : (m : Int) < 9 := by omega
              have HON : Hid LO.Nodup := hond
              have p0 := hX.out.fi.bx.c0
              have p1 := hX.out.fi.bx.c1
              have p2 := hX.out.fi.bx.c2
              clear hond
              go_wp2_with (go_at_call 18; refine (hOn _ (hX.out.fi.bx.row HR.out)).mono ?_; rintro e w3 ⟨v3, rfl, r3, b3⟩; obtain ⟨va, vc, rfl⟩ := r3.slice; have hO0 : Hid (Fo w w3 S (.slice ad l.length cap) H ga (ga + 1) (atM l o0 H L nx) u (.slice (some ⟨rb, ro, none⟩) now.length nc) now hi u9 nx wr.heap.size (.slice va LO.length vc) LO) := ⟨hX.out.next b3, r3, hX.out.fi.g4, fun g hg hne => by have h1 := (hX.out.own.lt hg).2; rcases r3 with ⟨hv, _⟩ | ⟨g', c', hv, hge, _⟩; (rw [hv] at hne; cases hne); (rw [hv] at hne; have : g' = g := Option.some.inj hne; omega)⟩; clear r3 b3)
              clear p0 p1 p2 hci hOn hX hlt'
              generalize wr.heap.size = lo at *
              go_loopg [9, 62] LO.length (fun g u9 u62 wr => ∃ (j : Nat) (nx : List Int) (u : Nat → Bool), u62 = .int .i64 j ∧ j ≤ LO.length ∧ g = LO.length - j ∧ Hid (Fo w wr S (.slice ad l.length cap) H ga (ga + 1) (atM l o0 H L nx) u (.slice (some ⟨rb, ro, none⟩) now.length nc) now hi u9 nx lo (.slice va LO.length vc) LO) ∧ Hid (MidOk S H o0 l L now i (LO.take j) nx) ∧ Hid (UsedM l o0 L now i m (LO.take j) u))
              case atStart => exact ⟨0, nx, u, rfl, Nat.zero_le _, rfl, hO0, by simpa using hM, by simpa using hUa⟩
              case round =>
                clear hO0 hM hUa
                obtain ⟨j, nx, u, rfl, hj, rfl, hO, hM, hUM⟩ := hrel
                by_cases hlt3 : j < LO.length
                · have hlt3' : (j : Int) < (LO.length : Int) := by omega
                  obtain ⟨qb, qo, qc, hv, _, _, hcell⟩ := hO.out.on.row.atInts (by omega)
                  have hcj := hcell j hlt3
                  injection hv with hv1 _ hv3
                  subst hv1 hv3
                  have hm1 := hmem.out _ (List.getElem_mem hlt3)
                  have hfr := hfree.out _ nx _ hM.out (List.getElem_mem hlt3)
                  have hbok := HG.out.2.1 _ hm1.2.1
                  have htk : Hid (LO.take (j + 1) = LO.take j ++ [LO[j]]) := List.take_succ_eq_append_getElem hlt3
                  have hnin : Hid (LO[j] ∉ LO.take j) := fun hin => by
                    have := HON.out
                    rw [← List.take_append_drop j LO, List.drop_eq_getElem_cons hlt3, List.nodup_append] at this
                    exact this.2.2 _ hin LO[j] List.mem_cons_self rfl
                  have hLH : Hid ((L : Int) < H) := by have h1 := hfa.out; have h2 := hm1.1; show (L : Int) < H; omega
                  clear hcell
                  generalize LO[j] = b at *
                  obtain ⟨n, rfl⟩ : ∃ n : Nat, b = n := ⟨b.toNat, by have := hbok.2.1.1; omega⟩
                  have hb1 : 1 ≤ (n : Int) := hbok.2.1.1
                  have hb2 : (n : Int) ≤ 8 := by have := hbok.2.1.2; omega
                  have n9 : n < 9 := by omega
                  have n9' : (n : Int) < 9 := by omega
                  have hcu := hO.out.fx.fi.used m n m9 n9
                  rw [hnot.out _ u hUM.out m n rfl m9 n9 hnin.out] at hcu
                  have huf := hO.out.fx.fi.us.free (m * 9 + n)
                  have hU1 : Hid (UsedM l o0 L now i m (LO.take (j + 1)) (fun c => if c = m * 9 + n then true else u c)) := by rw [htk.out]; exact used_put hUM.out rfl rfl n9
                  have hO1 := hO.out.putUs (m * 9 + n)
                  generalize (fun c => if c = m * 9 + n then true else u c) = u1 at hU1 hO1
                  generalize hw1 : wr.setCell ⟨ga + 1, m * 9 + n, none⟩ (.bool true) = W1 at hO1
                  have HO1 : Hid (Fo w W1 S (.slice ad l.length cap) H ga (ga + 1) (atM l o0 H L nx) u1 (.slice (some ⟨rb, ro, none⟩) now.length nc) now hi u9 nx lo (.slice (some ⟨qb, qo, none⟩) LO.length vc) LO) := hO1
                  have hca := hO1.fx.fi.at'.cell n9
                  have haf := hO1.fx.fi.at'.free n
                  clear hO1 hUM hm1 hbok
                  obtain ⟨xa, xc, hx9⟩ := HO1.out.fx.own.rng.slice
                  subst hx9
                  by_cases hz : atM l o0 H L nx n = 0
                  · rw [hz] at hca
                    have hbb := hfr.1 hz
                    have hM1 : Hid (MidOk S H o0 l L now i (LO.take (j + 1)) (nx ++ [(n : Int)])) := by rw [htk.out]; exact hM.out.put hbb hLH.out
                    have hO2 := HO1.out.putAt n ((L : Int) + 2) (atM l o0 H L (nx ++ [(n : Int)])) fun i _ => atM_put i
                    have hsh := hM.out.short HG.out HO.out
                    generalize hw2 : W1.setCell ⟨ga, n, none⟩ (.int .i64 ((L : Int) + 2)) = W2 at hO2
                    have HO2 : Hid (Fo w W2 S (.slice ad l.length cap) H ga (ga + 1) (atM l o0 H L (nx ++ [(n : Int)])) u1 (.slice (some ⟨rb, ro, none⟩) now.length nc) now hi (.slice xa nx.length xc) nx lo (.slice (some ⟨qb, qo, none⟩) LO.length vc) LO) := hO2
                    have hadd : IntKind.i64.wrap ((L : Int) + 1 + 1) = (L : Int) + 2 := by rw [IntKind.wrap_i64]; omega
                    have hadd2 : (L : Int) + 1 + 1 = (L : Int) + 2 := by omega
                    obtain ⟨ii, hii, hiz, hizs, hizb⟩ := intInfo
                    have HSZ : Hid (hi ≤ W2.heap.size) := HO2.out.fx.fi.g4
                    clear hfr hz hbb hO2 hM
                    go_wp2_with (at_builtin; refine wpList_append_rows (enc := encI) rfl (.tmp 91) (.tmp 93) 28 rfl Try.underlying28 ii _ 8 hii hiz hizs hizb rfl hi (.slice xa nx.length xc) _ nx [(n : Int)] rfl rfl (HO2.out.fx.own.alloc _) (rowK_one _ (n : Int) _ rfl) (by unfold maxLen; simp; omega) (by simp; omega) (by have := HSZ.out; simp; omega) ?_; intro v4 w4 own4 gr4 nw4; have HO3 : Hid (Fo w w4 S (.slice ad l.length cap) H ga (ga + 1) (atM l o0 H L (nx ++ [(n : Int)])) u1 (.slice (some ⟨rb, ro, none⟩) now.length nc) now hi v4 (nx ++ [(n : Int)]) lo (.slice (some ⟨qb, qo, none⟩) LO.length vc) LO) := HO2.out.app _ own4 gr4 nw4; clear own4 gr4 nw4)
                    go_roundg (LO.length - (j + 1))
                    case measure => omega
                    case rel => exact ⟨j + 1, _, u1, by go_num, by omega, rfl, HO3, hM1, hU1⟩
                  · have hM1 : Hid (MidOk S H o0 l L now i (LO.take (j + 1)) nx) := by rw [htk.out]; exact hM.out.skip (fun h => hz (hfr.2 h))
                    generalize atM l o0 H L nx n = z at hca hz
                    clear hfr hM
                    go_wp2
                    go_roundg (LO.length - (j + 1))
                    case measure => omega
                    case rel => exact ⟨j + 1, nx, u1, by go_num, by omega, rfl, HO1, hM1, hU1⟩
                · obtain rfl : j = LO.length := by omega
                  have hM1 : Hid (MidOk S H o0 l L now (i + 1) [] nx) := hnext.out nx (by have := hM.out; rwa [List.take_length] at this)
                  have hU1 : Hid (∀ a, UsedM l o0 L now (i + 1) a [] u) := fun a => hunext.out _ u hUM.out a
                  have hX1 : Hid (Fx w wr S (.slice ad l.length cap) H ga (ga + 1) (atM l o0 H L nx) u (.slice (some ⟨rb, ro, none⟩) now.length nc) now hi u9 nx) := hO.out.fx
                  clear hM hUM hO
                  go_wp2
                  go_roundg (now.length - (i + 1))
                  case measure => omega
                  case rel => exact ⟨i + 1, nx, u, by go_num, by omega, rfl, hX1, hM1, hU1⟩
            · obtain rfl : i = now.length := by omega
              have hN2 : Hid (NowOk l o0 H (L + 1) nx) := hM.out.done HG.out HO.out hN.out
              have hR := (rowI_of_own (own1_encI hX.out.own)).rowB
              have h3 := hX.out.fi.g3
              have hF2 : Hid (FlowIn w wr S (.slice ad l.length cap) H ga (ga + 1) (atF l o0 H (L + 1)) u u9 nx wr.heap.size) := ⟨hX.out.fi.bx, hX.out.fi.at'.congr fun i _ => by rw [atM_done hN2.out], hX.out.fi.us, hX.out.fi.g1, hX.out.fi.g2, Nat.lt_of_lt_of_le h3 hX.out.fi.g4, Nat.le_refl _, hR.mono (by omega)⟩
              have hU2 : Hid (UsedOk l o0 (L + 1) u) := used_done hN.out (hUM.out 0)
              clear hR h3 hX hM hUM
              go_wp2
              go_roundg (20 - (L + 1))
              case measure => omega
              case rel => exact ⟨L + 1, nx, u, _, by go_num, by omega, rfl, hF2, hN2, hU2⟩
    · rcases (by omega : o < 1 ∨ (1 ≤ o ∧ S < o)) with h1 | ⟨h1, h2⟩
      · go_enter Try.func5, Try.ntmps5
        go_wp2_with (first
          | (go_at_call 9; refine (hG0 _ (hB0.out.row HR.out)).mono ?_; rintro e w2 ⟨rfl, b2⟩; have hB1 : Hid (Boxed w w2 S (.slice ad l.length cap) H) := hB0.out.next b2 hB0.out.lt; have p0 := hB1.out.c0; have p1 := hB1.out.c1; have p2 := hB1.out.c2; clear b2)
          | (go_at_call 8; refine (HL.out _).mono ?_; rintro e w4 ⟨rfl, b4⟩))
        go_ret
        exact ⟨rfl, hB1.out.bel.trans (b4.mono hB1.out.bel.size)⟩
      · have d1 : decide (o < 1) = false := decide_eq_false (by omega)
        go_enter Try.func5, Try.ntmps5
        go_wp2_with (first
          | (go_at_call 9; refine (hG0 _ (hB0.out.row HR.out)).mono ?_; rintro e w2 ⟨rfl, b2⟩; have hB1 : Hid (Boxed w w2 S (.slice ad l.length cap) H) := hB0.out.next b2 hB0.out.lt; have p0 := hB1.out.c0; have p1 := hB1.out.c1; have p2 := hB1.out.c2; clear b2)
          | (go_at_call 8; refine (HL.out _).mono ?_; rintro e w4 ⟨rfl, b4⟩))
        go_ret
        exact ⟨rfl, hB1.out.bel.trans (b4.mono hB1.out.bel.size)⟩
  · rw [goodB_false hg] at hG0
    go_enter Try.func5, Try.ntmps5
    go_wp2_with (first
      | (go_at_call 9; refine (hG0 _ (hB0.out.row HR.out)).mono ?_; rintro e w2 ⟨rfl, b2⟩; have hB1 : Hid (Boxed w w2 S (.slice ad l.length cap) H) := hB0.out.next b2 hB0.out.lt; have p0 := hB1.out.c0; have p1 := hB1.out.c1; have p2 := hB1.out.c2; clear b2)
      | (go_at_call 8; refine (HL.out _).mono ?_; rintro e w4 ⟨rfl, b4⟩))
    go_ret
    exact ⟨rfl, hB1.out.bel.trans (b4.mono hB1.out.bel.size)⟩
end Go.Proofs.Ytcfagojkeholmaa
