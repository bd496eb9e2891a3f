/-
  PACKAGE inbox: places and Ack, by their contracts.
-/
import Derived.Test.YtkdjpleedaldcaaOps21
import Derived.Test.YtkdjpleedaldcaaLists
import Derived.RangeFuncNested
import Derived.RangeFuncBound
import Derived.RangeFuncCalls
import Derived.RangeFuncLeaves
import Derived.RangeFuncBox
import Derived.Shelf.Abstract
import Derived.Shelf.RegionOpen
import Derived.OwnWalkIn
import Derived.TacticsInMore
import Derived.LoopNIn
import Derived.LoopIn
import Derived.Maps.AppendAt
namespace Go.Proofs.Ytkdjpleedaldcaa
open Go.RowKit Go.Maps Go.Shelf
set_option maxRecDepth 20000

attribute [local go_sem] Oper.semAt_some

/-- The places of those that hold something, below k. -/
def liveK (m : Ib) (k : Nat) : List Nat := (List.range k).filter fun i => (m.h i).isSome
theorem liveK_all (m : Ib) : liveK m m.s = liveI m := rfl
theorem liveK_len (m : Ib) (k : Nat) : (liveK m k).length ≤ k := by
  have := List.length_filter_le (fun i => (m.h i).isSome) (List.range k)
  simpa [liveK] using this
theorem liveK_yes {m : Ib} {k : Nat} (h : (m.h k).isSome = true) : liveK m (k + 1) = liveK m k ++ [k] := by simp [liveK, List.range_succ, List.filter_append, h]
theorem liveK_no {m : Ib} {k : Nat} (h : (m.h k).isSome = false) : liveK m (k + 1) = liveK m k := by simp [liveK, List.range_succ, List.filter_append, h]
theorem liveK_pre {m : Ib} {k n : Nat} (h : k ≤ n) : liveK m k <+: liveK m n := by
  obtain ⟨d, rfl⟩ := Nat.exists_eq_add_of_le h
  induction d with
  | zero => exact List.prefix_refl _
  | succ d ih =>
    refine (ih (by omega)).trans ?_
    rw [← Nat.add_assoc]
    cases ht : (m.h (k + d)).isSome with
    | true => rw [liveK_yes ht]; exact List.prefix_append _ _
    | false => rw [liveK_no ht]; exact List.prefix_refl _

/-- What a round keeps. -/
def KeepB (n₀ Bn : Nat) (W W' : World) : Prop := Below n₀ W W' ∧ W'.heap[Bn]? = W.heap[Bn]?
theorem keepB_t {n₀ Bn : Nat} {A B C : World} (h : KeepB n₀ Bn A B) (k : KeepB n₀ Bn B C) : KeepB n₀ Bn A C := ⟨h.1.trans k.1, k.2.trans h.2⟩
theorem keepB_b {n₀ Bn : Nat} {w : World} (hn : n₀ ≤ w.heap.size) (hB : Bn < w.heap.size) (W : World) (l : Nat) (o o' : Obj) (hl : w.heap.size ≤ l) (h : W.heap[l]? = some o) (h1 : o.isCells = false) (h2 : o.isWalk = false) : KeepB n₀ Bn W (W.putObj l o') :=
  ⟨belowK_b hn W l o o' hl h h1 h2, World.putObj_heap_other (by omega)⟩

theorem places_any (q : Option Addr) (w : World) :
    Calls Try.prog 31 #[.pointer q] w fun e w' => e = .returned (.func (.func 35) #[] #[.pointer (some ⟨w.heap.size, 0, none⟩)]) ∧ w' = w.alloc (.cells #[.pointer q] 23) := by
  go_enter Try.func31, Try.ntmps31
  go_wp2
  go_ret
  exact ⟨rfl, rfl⟩

set_option maxRecDepth 100000 in
set_option maxHeartbeats 2000000 in
theorem places1_in (n : Nat) (_hn : 1 ≤ n) (l Bn p b : Nat) (m : Ib) (ok : m.Ok) (w : World) (hg : IAt w p b m) (J Jx : List Nat → World → Prop)
    (hY : ∀ (pre : List Nat) (x : Nat) (W : World), J pre W → pre.length < m.s → YieldAt Fence.wide (n - 1) Try.prog l #[.int .i64 (x : Int)] W fun e W' =>
      (e = .returned (.bool true) ∧ J (pre ++ [x]) W' ∧ KeepB w.heap.size Bn W W') ∨ (e = .returned (.bool false) ∧ Jx (pre ++ [x]) W'))
    (hJ : ∀ pre V V', J pre V → V.grownBy V' none → J pre V')
    (W : World) (hW : Below w.heap.size w W) (hBn : W.cell? ⟨Bn, 0, none⟩ = some (.pointer (some ⟨p, 0, none⟩))) (h0 : J [] W) :
    CallsIn Fence.wide n Try.prog 35 #[.func (.yield l) #[] #[], .pointer (some ⟨Bn, 0, none⟩)] W fun e W' => (∃ v, e = .returned v) ∧
      ((∃ ys, ys = liveI m ∧ J ys W') ∨ (∃ pre, pre <+: liveI m ∧ Jx pre W')) := by
  have hmx : Try.prog.follows .mixedOrders = true := by kernel_rfl
  refine callsIn_of_wp Try.func35 rfl trivial ?_ rfl
  simp only [Try.ntmps35, List.size_toArray, List.length_cons, List.length_nil, Nat.reduceAdd, Nat.reduceSub, Array.replicate_succ, Array.replicate_zero, List.push_toArray, List.append_toArray, List.nil_append, List.cons_append]
  have HG : Hid (IAt w p b m) := hg
  have hs2 := ok.s2
  have HK : Hid m.Ok := ok
  have hp := hg.lt
  obtain ⟨c0, _, _⟩ := (hg.below hW hg.lt hg.map.lt).cells
  clear hg ok
  gi_wp2
  gi_loopw [8] (fun q wr => ∃ k : Nat, q = .int .i64 (k : Int) ∧ k ≤ m.s ∧ Below w.heap.size w wr ∧ wr.cell? ⟨Bn, 0, none⟩ = some (.pointer (some ⟨p, 0, none⟩)) ∧ J (liveK m k) wr)
    (fun q _ => m.s - (intOf q).toNat)
  case atStart => exact ⟨0, rfl, by omega, hW, hBn, h0⟩
  case round =>
    obtain ⟨k, rfl, hk, hB, hc, hJk⟩ := hrel
    clear c0
    by_cases hlt : k < m.s
    · have hlt' : (k : Int) < (m.s : Int) := by omega
      have hI := HG.out.below hB HG.out.lt HG.out.map.lt
      obtain ⟨_, c1, _⟩ := hI.cells
      have hH : Calls Try.prog 28 #[.pointer (some ⟨p, 0, none⟩), .int .u16 (keyI m k : Nat)] wr.drew fun e w' => e = .returned (.bool (lookI m (keyI m k)).isSome) ∧ Below wr.heap.size wr w' := (has_at (hI.same (w' := wr.drew) rfl rfl) HK.out (num := keyI m k) (Nat.mod_lt _ (by decide))).mono fun e w' h => ⟨h.1, ((Below.refl _ wr).drew).trans h.2⟩
      rw [look_key HK.out hlt] at hH
      have hmv : moveI (m.n : Int) (k : Int) = (keyI m k : Int) := by unfold moveI keyI; omega
      have hst := @liveK_yes m k
      have hst2 := @liveK_no m k
      have HP : Hid (liveK m k ++ [k] = liveK m (k + 1) → liveK m k ++ [k] <+: liveI m) := fun e => by rw [e, ← liveK_all]; exact liveK_pre (by omega)
      have hYk := fun V hV => hY (liveK m k) k V hV (by have := liveK_len m k; omega)
      have HJ : Hid (∀ V, Below wr.heap.size wr V → J (liveK m k) V) := fun V b1 => hJ _ wr V hJk ⟨b1.os, b1.tape, b1.output, b1.size, fun i hi _ => b1.block i hi⟩
      have HB : Hid (Below w.heap.size w wr ∧ wr.cell? ⟨Bn, 0, none⟩ = some (.pointer (some ⟨p, 0, none⟩))) := ⟨hB, hc⟩
      clear hI hY hJ hJk hB
      cases hs : (m.h k).isSome with
      | true =>
        rw [hs] at hH
        have HS : Hid (liveK m (k + 1) = liveK m k ++ [k]) := hst hs
        clear hst hst2 hs
        have HY : Hid (∀ V, Below wr.heap.size wr V → YieldAt Fence.wide (n - 1) Try.prog l #[.int .i64 (k : Int)] V fun e W' => ∃ c, e = .returned (.bool c) ∧ Hid ((c = true ∧ J (liveK m k ++ [k]) W' ∧ KeepB w.heap.size Bn V W') ∨ (c = false ∧ Jx (liveK m k ++ [k]) W'))) := fun V b1 => by
          obtain ⟨fn, tmps, assign, body, hy, hR⟩ := hYk V (HJ.out V b1)
          refine ⟨fn, tmps, assign, body, hy, hR.mono ?_⟩
          rintro e W' (⟨rfl, h1⟩ | ⟨rfl, h1⟩)
          · exact ⟨true, rfl, .inl ⟨rfl, h1⟩⟩
          · exact ⟨false, rfl, .inr ⟨rfl, h1⟩⟩
        clear hYk
        gi_wp2
        gi_region_with_o (first
          | (refine ⟨trivial, ?_⟩; gi_at_call 30; refine (callsIn_wide.2 (move_any _ _ _)).mono ?_; rintro e w' ⟨rfl, rfl⟩; try rw [hmv])
          | (refine ⟨trivial, ?_⟩; gi_at_call 28; refine (callsIn_wide.2 hH).mono ?_; rintro e w2 ⟨rfl, b2⟩; obtain ⟨fn, tmps, assign, body, hy, hR⟩ := HY.out w2 b2)
          | (refine hR.mono ?_; rintro e W3 ⟨c3, rfl, H3⟩))
        all_goals (
          rcases H3.out with ⟨rfl, hJ3, hk3⟩ | ⟨rfl, hJx3⟩
          · gi_wp2
            go_roundw
            case rel => exact ⟨k + 1, by go_num, by omega, HB.out.1.trans ((b2.mono HB.out.1.size).trans hk3.1), (World.cell?_of_block (a := ⟨Bn, 0, none⟩) hk3.2).trans (cell_on b2 HB.out.2), by rw [HS.out]; exact hJ3⟩
            case measure => simp [intOf]; omega
          · gi_wp2
            refine bodyPost_ret (results_none rfl _ _ _) rfl ?_
            exact ⟨⟨_, rfl⟩, .inr ⟨_, HP.out HS.out.symm, hJx3⟩⟩)
      | false =>
        rw [hs] at hH
        have HS : Hid (liveK m (k + 1) = liveK m k) := hst2 hs
        clear hst hst2 hs
        gi_wp2
        first | (gi_region_with_o (first
          | (refine ⟨trivial, ?_⟩; gi_at_call 30; refine (callsIn_wide.2 (move_any _ _ _)).mono ?_; rintro e w' ⟨rfl, rfl⟩; try rw [hmv])
          | (refine ⟨trivial, ?_⟩; gi_at_call 28; refine (callsIn_wide.2 hH).mono ?_; rintro e w2 ⟨rfl, b2⟩)
          | (refine ⟨fun f h => (by cases h), ?_⟩))) | fail
        all_goals gi_wp2
        all_goals go_roundw
        all_goals first
          | (simp [intOf]; omega)
          | exact ⟨k + 1, by go_num, by omega, HB.out.1.trans (b2.mono HB.out.1.size), cell_on b2 HB.out.2, by rw [HS.out]; exact HJ.out _ b2⟩
    · obtain rfl : k = m.s := by omega
      have hlt' : ¬ (m.s : Int) < (m.s : Int) := by omega
      gi_wp2
      go_end0
      exact ⟨⟨_, rfl⟩, .inl hJk⟩
end Go.Proofs.Ytkdjpleedaldcaa
