/-
  PACKAGE seen: the function that all hands back, by its contract.
-/
import Derived.Test.YtnlllpgdhnmccaaOf
import Derived.RangeFuncNested
import Derived.RangeFuncBound
import Derived.RangeFuncCalls
import Derived.RangeFuncLeaves
import Derived.RangeFuncBox
import Derived.Shelf.Abstract
import Derived.Shelf.RegionOpen
import Derived.OwnWalkIn
import Derived.TacticsInMore
import Derived.LoopNIn
import Derived.LoopIn
import Derived.Maps.AppendAt
namespace Go.Proofs.Ytnlllpgdhnmccaa
open Go.RowKit Go.Shelf

attribute [local go_sem] Oper.semAt_some

/-- The places of those of which there is something, below k. -/
def liveK (f : Nat → List (Nat × Nat)) (k : Nat) : List Nat := (List.range k).filter fun i => decide (0 < topL (f i))
def liveL (f : Nat → List (Nat × Nat)) : List Nat := liveK f 8
theorem liveK_len (f : Nat → List (Nat × Nat)) (k : Nat) : (liveK f k).length ≤ k := by
  have := List.length_filter_le (fun i => decide (0 < topL (f i))) (List.range k)
  simpa [liveK] using this
theorem liveK_yes {f : Nat → List (Nat × Nat)} {k : Nat} (h : 0 < topL (f k)) : liveK f (k + 1) = liveK f k ++ [k] := by simp [liveK, List.range_succ, List.filter_append, h]
theorem liveK_no {f : Nat → List (Nat × Nat)} {k : Nat} (h : ¬ 0 < topL (f k)) : liveK f (k + 1) = liveK f k := by simp [liveK, List.range_succ, List.filter_append, h]
theorem liveK_pre {f : Nat → List (Nat × Nat)} {k m : Nat} (h : k ≤ m) : liveK f k <+: liveK f m := by
  obtain ⟨d, rfl⟩ := Nat.exists_eq_add_of_le h
  induction d with
  | zero => exact List.prefix_refl _
  | succ d ih =>
    refine (ih (by omega)).trans ?_
    rw [← Nat.add_assoc]
    by_cases ht : 0 < topL (f (k + d))
    · rw [liveK_yes ht]; exact List.prefix_append _ _
    · rw [liveK_no ht]; exact List.prefix_refl _

/-- What a book hands back for each origin, however memory grows. -/
def Gives (w : World) (b : Value) (s : Nat → Value) (f : Nat → List (Nat × Nat)) : Prop := ∀ V, Below w.heap.size w V → ∀ i : Nat, i < 8 → Calls Try.prog 25 #[b, .int .i64 ((i : Int) + 1)] V (fun e w' => e = .returned (s i) ∧ w' = V) ∧ Lies V (s i) (f i)
theorem Told.gives {w : World} {b : Value} {f : Nat → List (Nat × Nat)} (h : Told w b f) : ∃ s, Gives w b s f := by
  rcases h.way with ⟨rfl, rfl⟩ | ⟨p, s, rfl, hp, hs⟩
  · exact ⟨fun _ => .pointer none, fun V _ i _ => ⟨of_none _ _ V (.inl rfl) (.inl rfl), .inl ⟨rfl, rfl⟩⟩⟩
  · exact ⟨s, fun V hV i hi => ⟨of_ptr p i _ s V hi rfl (by rw [hV.block p (Array.getElem?_eq_some_iff.1 hp).1]; exact hp), (hs i hi).below hV (Nat.le_refl _)⟩⟩
/-- What a round keeps. -/
def KeepB (n₀ Bn : Nat) (W W' : World) : Prop := Below n₀ W W' ∧ W'.heap[Bn]? = W.heap[Bn]?
theorem keepB_t {n₀ Bn : Nat} {A B C : World} (h : KeepB n₀ Bn A B) (k : KeepB n₀ Bn B C) : KeepB n₀ Bn A C := ⟨h.1.trans k.1, k.2.trans h.2⟩
theorem keepB_b {n₀ Bn : Nat} {w : World} (hn : n₀ ≤ w.heap.size) (hB : Bn < w.heap.size) (W : World) (l : Nat) (o o' : Obj) (hl : w.heap.size ≤ l) (h : W.heap[l]? = some o) (h1 : o.isCells = false) (h2 : o.isWalk = false) : KeepB n₀ Bn W (W.putObj l o') :=
  ⟨belowK_b hn W l o o' hl h h1 h2, World.putObj_heap_other (by omega)⟩

theorem all_any (q : Option Addr) (w : World) :
    Calls Try.prog 39 #[.pointer q] w fun e w' => e = .returned (.func (.func 53) #[] #[.pointer (some ⟨w.heap.size, 0, none⟩)]) ∧ w' = w.alloc (.cells #[.pointer q] 27) := by
  go_enter Try.func39, Try.ntmps39
  go_wp2
  go_ret
  exact ⟨rfl, rfl⟩

set_option maxRecDepth 100000 in
set_option maxHeartbeats 2000000 in
theorem all1_in (n : Nat) (_hn : 1 ≤ n) (l Bn : Nat) (b : Value) (s : Nat → Value) (f : Nat → List (Nat × Nat)) (w : World) (hg : Gives w b s f) (J Jx : List Nat → World → Prop)
    (hY : ∀ (pre : List Nat) (x : Nat) (W : World), x < 8 → J pre W → pre.length < 8 → YieldAt Fence.wide (n - 1) Try.prog l #[.int .i64 ((x : Int) + 1), s x] W fun e W' =>
      (e = .returned (.bool true) ∧ J (pre ++ [x]) W' ∧ KeepB w.heap.size Bn W W') ∨ (e = .returned (.bool false) ∧ Jx (pre ++ [x]) W'))
    (W : World) (hW : Below w.heap.size w W) (hBn : W.cell? ⟨Bn, 0, none⟩ = some b) (h0 : J [] W) :
    CallsIn Fence.wide n Try.prog 53 #[.func (.yield l) #[] #[], .pointer (some ⟨Bn, 0, none⟩)] W fun e W' => (∃ v, e = .returned v) ∧
      ((∃ ys, ys = liveL f ∧ J ys W') ∨ (∃ pre, pre <+: liveL f ∧ Jx pre W')) := by
  refine callsIn_of_wp Try.func53 rfl trivial ?_ rfl
  simp only [Try.ntmps53, List.size_toArray, List.length_cons, List.length_nil, Nat.reduceAdd, Nat.reduceSub, Array.replicate_succ, Array.replicate_zero, List.push_toArray, List.append_toArray, List.nil_append, List.cons_append]
  gi_wp2
  gi_loopw [3] (fun p wr => ∃ k : Nat, p = .int .i64 ((k : Int) + 1) ∧ k ≤ 8 ∧ Below w.heap.size w wr ∧ wr.cell? ⟨Bn, 0, none⟩ = some b ∧ J (liveK f k) wr)
    (fun p _ => 9 - (intOf p).toNat)
  case atStart => exact ⟨0, rfl, by omega, hW, hBn, h0⟩
  case round =>
    obtain ⟨k, rfl, hk, hB, hc, hJ⟩ := hrel
    have hKn := known_any ((k : Int) + 1) wr
    by_cases hlt : k < 8
    · rw [show knownB ((k : Int) + 1) = true from decide_eq_true (by omega)] at hKn
      obtain ⟨hO, hL⟩ := hg wr hB k hlt
      have hT := top_any (s k) (f k) wr hL
      obtain ⟨q, hq⟩ := hL.ptr
      have hst := @liveK_yes f k
      have hst2 := @liveK_no f k
      have HP : Hid (liveK f k ++ [k] = liveK f (k + 1) → liveK f k ++ [k] <+: liveL f) := fun e => by rw [e]; exact liveK_pre (by omega)
      have hYk := hY (liveK f k) k wr hlt hJ (by have := liveK_len f k; omega)
      rw [hq] at hO hT hYk
      generalize hm : topL (f k) = m at hT hst hst2
      clear hm hL hY
      by_cases hp : 0 < m
      · have hd : decide ((0 : Int) < (m : Int)) = true := decide_eq_true (by omega)
        have HS : Hid (liveK f (k + 1) = liveK f k ++ [k]) := hst hp
        clear hst hst2
        obtain ⟨fn, tmps, assign, body, hy, hR⟩ := hYk
        gi_wp2_with (first
          | (refine ⟨trivial, ?_⟩; gi_at_call 36; refine (callsIn_wide.2 hKn).mono ?_; rintro e w' ⟨rfl, rfl⟩)
          | (refine ⟨trivial, ?_⟩; gi_at_call 25; refine (callsIn_wide.2 hO).mono ?_; rintro e w' ⟨rfl, rfl⟩)
          | (refine ⟨trivial, ?_⟩; gi_at_call 54; refine (callsIn_wide.2 hT).mono ?_; rintro e w' ⟨rfl, rfl⟩))
        refine hR.mono ?_
        rintro e W3 (⟨rfl, hJ3, hk3⟩ | ⟨rfl, hJx3⟩)
        · gi_wp2
          go_roundw
          case rel => exact ⟨k + 1, by go_num, by omega, hB.trans hk3.1, (World.cell?_of_block (a := ⟨Bn, 0, none⟩) hk3.2).trans hc, by rw [HS.out]; exact hJ3⟩
          case measure => simp [intOf]; omega
        · gi_wp2
          refine bodyPost_ret (results_none rfl _ _ _) rfl ?_
          exact ⟨⟨_, rfl⟩, .inr ⟨_, HP.out HS.out.symm, hJx3⟩⟩
      · have HS : Hid (liveK f (k + 1) = liveK f k) := hst2 hp
        clear hst hst2
        obtain rfl : m = 0 := by omega
        rw [show ((0 : Nat) : Int) = 0 from rfl] at hT
        gi_wp2_with (first
          | (refine ⟨trivial, ?_⟩; gi_at_call 36; refine (callsIn_wide.2 hKn).mono ?_; rintro e w' ⟨rfl, rfl⟩)
          | (refine ⟨trivial, ?_⟩; gi_at_call 25; refine (callsIn_wide.2 hO).mono ?_; rintro e w' ⟨rfl, rfl⟩)
          | (refine ⟨trivial, ?_⟩; gi_at_call 54; refine (callsIn_wide.2 hT).mono ?_; rintro e w' ⟨rfl, rfl⟩))
        refine ⟨fun f h => (by cases h), ?_⟩
        gi_wp2
        go_roundw
        case rel => exact ⟨k + 1, by go_num, by omega, hB, hc, by rw [HS.out]; exact hJ⟩
        case measure => simp [intOf]; omega
    · obtain rfl : k = 8 := by omega
      rw [show knownB (((8 : Nat) : Int) + 1) = false from rfl] at hKn
      gi_wp2_with (refine ⟨trivial, ?_⟩; gi_at_call 36; refine (callsIn_wide.2 hKn).mono ?_; rintro e w' ⟨rfl, rfl⟩)
      go_end0
      exact ⟨⟨_, rfl⟩, .inl ⟨_, rfl, hJ⟩⟩
end Go.Proofs.Ytnlllpgdhnmccaa
