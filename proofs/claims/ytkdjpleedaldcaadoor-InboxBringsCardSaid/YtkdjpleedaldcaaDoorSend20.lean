/-
  waits and Send, by their contracts.
-/
import Derived.Test.YtkdjpleedaldcaaDoorBase20
import Derived.Deep.LoopGhost
import Derived.OneCell
import Derived.WalkMore
import Derived.Deep.CutRange
namespace Go.Proofs.YtkdjpleedaldcaaDoor.W
open Go.RowKit
set_option maxRecDepth 20000


theorem Only.row {p : Nat} {w w' : World} {base : Nat} {e : TypeId} {v : Value} {cs : List Value} (h : Own1 w base e v cs) (ho : Only p w w') (hp : p < base) : Own1 w' base e v cs := by
  refine ⟨h.1, ?_⟩
  rcases h.2 with h2 | ⟨g, cap, cur, h3, h4, h5, h6⟩
  · exact .inl h2
  · have hlt : g < w.heap.size := by
      rcases Nat.lt_or_ge g w.heap.size with hg | hg
      · exact hg
      · have : w.heap[g]? = none := by simpa using hg
        rw [this] at h5; cases h5
    exact .inr ⟨g, cap, cur, h3, h4, (ho.block g hlt (by omega)).trans h5, h6⟩


theorem Only.next {p : Nat} {a b c : World} (h : Only p a b) (k : Below a.heap.size b c) (hs : a.heap.size ≤ c.heap.size) : Only p a c :=
  ⟨k.os.trans h.os, k.tape.trans h.tape, k.output.trans h.output, hs, fun i hi hn => (k.block i hi).trans (h.block i hi hn)⟩


theorem lookN_lt {m : Wn} {hv : Int} {k : Nat} (hk : k < lookN m hv) : (k : Int) < hv ∧ (k : Int) < m.s := by unfold lookN at hk; omega

theorem lookN_end {m : Wn} {hv : Int} (h : ¬ (hv ≤ 0)) : (lookN m hv : Int) = min hv m.s := by unfold lookN; omega


section

variable {w : World} {p : Nat} {m : Wn}

theorem waits_at (h : WAt w p m) (ok : m.Ok) {k now : Nat} (hk : k < m.s) (hn : now ≤ 1125899906842624) : Calls Tryd.prog 20 #[.pointer (some ⟨p, 0, none⟩), .int .i64 k, .int .i64 now] w fun e w' =>
    e = .returned (.bool (m.sent.testBit k && decide ((now : Int) - m.tick k < m.t))) ∧ ∃ n, w' = w.drewN n := by
  have hs2 := ok.s2
  have c3 : w.cell? ⟨p, 3, none⟩ = some (.int .u64 m.sent) := h.cell (i := 3) (by decide)
  have c1 : w.cell? ⟨p, 1, none⟩ = some (.int .i64 m.t) := h.cell (i := 1) (by decide)
  have ct := h.tick (i := k) (by omega)
  have he := ok.early k
  have hset := ok.setS
  have hb := hasS_test hset k
  have hH : ∀ n, Calls Tryd.prog 19 #[.int .u64 m.sent, .int .i64 k] (w.drewN n) fun e w' => e = .returned (.bool (hasS m.sent k)) ∧ w' = w.drewN n := fun n => has_any _ _ _ hset
  clear h
  have hk32 : (k : Int) < 32 := by omega
  have hw : wrap64 ((now : Int) - (m.tick k : Int)) = (now : Int) - (m.tick k : Int) := by unfold wrap64; omega
  generalize m.tick k = tk at *
  cases hs : m.sent.testBit k with
  | true =>
    rw [hb, hs] at hH
    go_enter Tryd.func20, Tryd.ntmps20
    go_wp2
    go_quiet (first | (go_at_call 19; refine Calls.quiet_of_same (hH _)))
    go_wp2
    go_ret
    exact ⟨rfl, _, rfl⟩
  | false =>
    rw [hb, hs] at hH
    go_enter Tryd.func20, Tryd.ntmps20
    go_wp2
    go_quiet (first | (go_at_call 19; refine Calls.quiet_of_same (hH _)))
    go_wp2
    go_ret
    exact ⟨rfl, _, rfl⟩


/-- The first k places are gone through. -/
structure Snd (w wr : World) (p : Nat) (m : Wn) (now k : Nat) (v : Value) : Prop where
  own : Own1 wr w.heap.size 3 v (icells (sendL m now k))
  «at» : WAt wr p (sendM m now k)
  only : Only p w wr

theorem send_at (h : WAt w p m) (ok : m.Ok) (hv now : Int) : Calls Tryd.prog 7 #[.pointer (some ⟨p, 0, none⟩), .int .i64 hv, .int .i64 now] w fun e w' =>
    ∃ v, e = .returned v ∧ Own1 w' w.heap.size 3 v (icells (sendL m (nowN now) (lookN m hv))) ∧ WAt w' p (sendM m (nowN now) (lookN m hv)) ∧ Only p w w' := by
  have hs1 := ok.s1
  have hs2 := ok.s2
  have hM := made_at h
  rw [decide_eq_true (by omega)] at hM
  have hlt := h.lt
  have hnl := nowN_le now
  have hll := lookN_le m hv
  obtain ⟨N, hN⟩ : ∃ N, N = nowN now := ⟨_, rfl⟩
  have hNi : (N : Int) = min (max now 0) 1125899906842624 := by rw [hN]; unfold nowN; omega
  obtain ⟨K, hK⟩ : ∃ K, K = lookN m hv := ⟨_, rfl⟩
  have hKl : Hid (∀ k : Nat, k < K ↔ ((k : Int) < hv ∧ (k : Int) < m.s)) := fun k => by rw [hK]; unfold lookN; omega
  rw [← hN, ← hK]
  rw [← hN] at hnl
  rw [← hK] at hll
  clear hN hK
  have hA : Hid (WAt w p m) := h
  have hO : Hid m.Ok := ok
  clear h ok
  go_enter Tryd.func7, Tryd.ntmps7
  go_wp2
  go_step3
  go_wp2_with fail
  refine hM.mono ?_
  rintro e w ⟨rfl, rfl⟩
  go_upto_region 3 with fail
  go_cut [2] from 12 to 14 (fun u2 wx => u2 = .int .i64 N ∧ wx = w)
  case first =>
    go_wp2_with fail
    all_goals go_meet
    all_goals exact ⟨congrArg (Value.int .i64) (by omega), rfl⟩
  case rest =>
    obtain ⟨rfl, rfl⟩ := hcut
    have HN : Hid _ := hNi
    clear hNi
    go_wp2_with fail
    go_step3
    go_wp2_with fail
    obtain ⟨W, hW⟩ : ∃ W, W = wc := ⟨_, rfl⟩
    subst hW
    go_loopg [7, 8] 33 (fun g u7 u8 wr => ∃ k : Nat, u8 = .int .i64 k ∧ k ≤ K ∧ g = 33 - k ∧ Hid (Snd W wr p m N k u7))
    case atStart => exact ⟨0, rfl, Nat.zero_le _, rfl, ⟨own1_nil _ _ _, hA.out, Only.refl _ _⟩⟩
    case round =>
      obtain ⟨k, rfl, hk, rfl, hS⟩ := hrel
      obtain ⟨M, hMM⟩ : ∃ M, M = sendM m N k := ⟨_, rfl⟩
      obtain ⟨L, hLL⟩ : ∃ L, L = sendL m N k := ⟨_, rfl⟩
      have hOM : M.Ok := by rw [hMM]; exact sendM_ok hO.out hnl k (by omega)
      have hMs : M.s = m.s := by rw [hMM]; exact (sendM_same m N k).1
      have hA1 : Hid (WAt wr p M) := by rw [hMM]; exact hS.out.at
      have hL1 : Hid (Own1 wr W.heap.size 3 u7 (icells L)) := by rw [hLL]; exact hS.out.own
      have hLlen : L.length ≤ k := by rw [hLL]; exact sendL_len m N k
      have hB1 : Hid (Only p W wr) := hS.out.only
      have hsm : Hid (sendM m N (k + 1) = if dueB M N k then putW M k N else M) := by rw [hMM]; rfl
      have hsl : Hid (sendL m N (k + 1) = if dueB M N k then L ++ [(k : Int)] else L) := by rw [hMM, hLL]; rfl
      clear hS
      have c0 : wr.cell? ⟨p, 0, none⟩ = some (.int .i64 m.s) := by rw [← hMs]; exact hA1.out.cell (i := 0) (by decide)
      have c4 : wr.cell? ⟨p, 4, none⟩ = some (.int .u64 M.there) := hA1.out.cell (i := 4) (by decide)
      have HMM : Hid _ := hMM
      have HLL : Hid _ := hLL
      clear hMM hLL
      by_cases hlt2 : k < K
      · obtain ⟨hlh, hls⟩ := (hKl.out k).1 hlt2
        have h1 : ¬ hv ≤ (k : Int) := by omega
        have h2 : ¬ (m.s : Int) ≤ (k : Int) := by omega
        have hT := hOM.setT
        have hH : Calls Tryd.prog 19 #[.int .u64 M.there, .int .i64 k] wr fun e w' => e = .returned (.bool (M.there.testBit k)) ∧ w' = wr := by rw [← hasS_test hT k]; exact has_any _ _ _ hT
        have hWt := waits_at hA1.out hOM (k := k) (now := N) (by omega) hnl
        cases ht : M.there.testBit k with
        | true =>
          rw [ht] at hH
          go_wp2_with (go_at_call 19; refine hH.mono ?_; rintro e w ⟨rfl, rfl⟩)
          have hd : dueB M N k = false := by unfold dueB; rw [ht]; rfl
          go_roundg (33 - (k + 1))
          case measure => omega
          case rel =>
            refine ⟨k + 1, by go_num, by omega, rfl, ?_, ?_, ?_⟩
            · rw [hsl.out, hd]; exact hL1.out
            · rw [hsm.out, hd]; exact hA1.out
            · exact hB1.out
        | false =>
          rw [ht] at hH
          cases hwb : (M.sent.testBit k && decide ((N : Int) - M.tick k < M.t)) with
          | true =>
            rw [hwb] at hWt
            have hd : dueB M N k = false := by unfold dueB; rw [ht, hwb]; rfl
            go_wp2_with (first | (go_at_call 19; refine hH.mono ?_; rintro e w ⟨rfl, rfl⟩) | (go_at_call 20; refine hWt.mono ?_; rintro e w' ⟨rfl, q, rfl⟩))
            go_roundg (33 - (k + 1))
            case measure => omega
            case rel =>
              refine ⟨k + 1, by go_num, by omega, rfl, ?_, ?_, ?_⟩
              · rw [hsl.out, hd]; exact hL1.out
              · rw [hsm.out, hd]; exact hA1.out.same rfl
              · exact hB1.out.trans (Only.of_below (below_drewN (Below.refl _ _) _))
          | false =>
            rw [hwb] at hWt
            have hd : dueB M N k = true := by unfold dueB; rw [ht, hwb]; rfl
            have c3 : wr.cell? ⟨p, 3, none⟩ = some (.int .u64 M.sent) := hA1.out.cell (i := 3) (by decide)
            have hS1 := hOM.setS
            go_upto_region 10 with (first
              | (go_at_call 19; refine hH.mono ?_; rintro e w ⟨rfl, rfl⟩)
              | (go_at_call 20; refine hWt.mono ?_; rintro e w' ⟨rfl, q, rfl⟩)
              | (go_at_call 21; refine (with_any M.sent k _ hS1).mono ?_; rintro e w1 ⟨rfl, b1⟩; have a1 : Hid (WAt w1 p M) := hA1.out.below ((below_drewN (Below.refl _ _) q).trans b1) hA1.out.lt; have f3 := a1.out.free 3; have d3 : w1.cell? ⟨p, 3, none⟩ = some (.int .u64 M.sent) := a1.out.cell (i := 3) (by decide)))
            have o1 : Hid (Only p W w1) := hB1.out.trans (Only.of_below ((below_drewN (Below.refl _ _) q).trans b1))
            have l1 : Hid (Own1 w1 W.heap.size 3 u7 (icells L)) := Only.row hL1.out (Only.of_below ((below_drewN (Below.refl _ _) q).trans b1)) hlt
            have a2 : Hid (WAt (w1.setCell ⟨p, 3, none⟩ (.int .u64 (withS M.sent k))) p { M with sent := withS M.sent k }) := a1.out.set 3 _ (fun i hi => by
              rcases i with _ | _ | _ | _ | _ | i <;> first | rfl | exact (if_neg (by omega)).symm)
            have o2 : Hid (Only p W (w1.setCell ⟨p, 3, none⟩ (.int .u64 (withS M.sent k)))) := o1.out.trans (Only.set _ _ _ _)
            have l2 : Hid (Own1 (w1.setCell ⟨p, 3, none⟩ (.int .u64 (withS M.sent k))) W.heap.size 3 u7 (icells L)) := Only.row l1.out (Only.set _ p 3 _) hlt
            generalize hw2 : w1.setCell ⟨p, 3, none⟩ (.int .u64 (withS M.sent k)) = w2 at a2 o2 l2
            clear hw2 l1 o1 a1 d3 f3 b1 c0 c4 c3 hH hWt hA1 hB1 hL1
            have f5 := a2.out.free (5 + k)
            have d5 : w2.cell? ⟨p, 5 + k, none⟩ = some (.int .i64 (M.tick k)) := a2.out.tick (i := k) (by omega)
            have hk32 : (k : Int) < 32 := by omega
            go_upto_region 11 with fail
            have a3 : Hid (WAt (w2.setCell ⟨p, 5 + k, none⟩ (.int .i64 N)) p (putW M k N)) := a2.out.set (5 + k) _ (fun i hi => by
              rcases i with _ | _ | _ | _ | _ | i
              · exact (if_neg (by omega)).symm
              · exact (if_neg (by omega)).symm
              · exact (if_neg (by omega)).symm
              · exact (if_neg (by omega)).symm
              · exact (if_neg (by omega)).symm
              · show Value.int .i64 ((if i = k then N else M.tick i : Nat) : Int) = _
                by_cases hik : i = k
                · rw [if_pos hik, if_pos (by omega)]
                · rw [if_neg hik, if_neg (by omega)]; rfl)
            have o3 : Hid (Only p W (w2.setCell ⟨p, 5 + k, none⟩ (.int .i64 N))) := o2.out.trans (Only.set _ _ _ _)
            have l3 : Hid (Own1 (w2.setCell ⟨p, 5 + k, none⟩ (.int .i64 N)) W.heap.size 3 u7 (icells L)) := Only.row l2.out (Only.set _ p (5 + k) _) hlt
            generalize hw3 : w2.setCell ⟨p, 5 + k, none⟩ (.int .i64 N) = w3 at a3 o3 l3
            clear hw3 l2 o2 a2 d5 f5
            have hlen2 : (icells L).length ≤ 64 := by rw [icells_length]; omega
            have hsz3 := o3.out.size
            go_wp2_with (at_builtin; refine wpList_append_row rfl _ _ 30 3 _ _ isI rfl W.heap.size _ _ (icells L) [.int .i64 k] rfl rfl (World.ownsRow.alloc l3.out _) (row_one _ _ _) (by simp [Value.oneCell']) (by simp only [List.length_singleton]; omega) (by simp only [List.length_singleton]; omega) (by simp; omega) ?_; intro v2 w4 own2 bel2 sz2)
            go_roundg (33 - (k + 1))
            case measure => omega
            case rel =>
              have o4 : Only p W w4 := (o3.out.trans (Only.of_below ((Below.refl _ _).alloc (Nat.le_refl _) _))).next bel2 sz2
              refine ⟨k + 1, by go_num, by omega, rfl, ?_, ?_, o4⟩
              · rw [hsl.out, hd, if_pos rfl, icells_append]; exact own2
              · rw [hsm.out, hd, if_pos rfl]
                exact (a3.out.same (Below.heap_alloc _ _ _ a3.out.lt)).below bel2 hlt
      · have hnot := fun h => hlt2 ((hKl.out k).2 h)
        obtain rfl : k = K := by omega
        have hS2 : Snd W wr p m N k u7 := ⟨by rw [← HLL.out]; exact hL1.out, by rw [← HMM.out]; exact hA1.out, hB1.out⟩
        by_cases hv1 : hv ≤ (k : Int)
        · go_wp2
          rw [Exit.noGoto_ret]
          go_ret
          exact ⟨_, rfl, hS2.own, hS2.at, hS2.only⟩
        · have hv2 : (m.s : Int) ≤ (k : Int) := by
            by_cases h : (k : Int) < m.s
            · exact (hnot ⟨by omega, h⟩).elim
            · omega
          go_wp2
          go_ret
          exact ⟨_, rfl, hS2.own, hS2.at, hS2.only⟩

end

end Go.Proofs.YtkdjpleedaldcaaDoor.W
