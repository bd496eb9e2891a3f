/-
  Next, Far, Within, by their contracts.
-/
import Derived.Test.YtjagaankkcbjmaaGreatDoorJ29
import Derived.Test.YtjagaankkcbjmaaGreatDoorJ24
import Derived.Test.YtjagaankkcbjmaaGreatDoorJ20
import Derived.Test.YtjagaankkcbjmaaGreatDoorJ22
import Derived.Test.YtjagaankkcbjmaaGreatDoorJ28
import Derived.Deep.RegionHeld3
namespace Go.Proofs.YtjagaankkcbjmaaGreatDoor.K
end Go.Proofs.YtjagaankkcbjmaaGreatDoor.K
namespace Go.Proofs.YtjagaankkcbjmaaGreatDoor.O
open Go.Proofs.YtjagaankkcbjmaaGreatDoor.K
open Go.RowKit Go.Sort Go.Shelf

theorem isI : Elem Tryz.prog 87 3 (.int .i64 0) 8 := by
  have hinfo : (Tryz.prog.info? 3).map (fun i => (i.zero, i.size, i.bytes)) = some (some (.int .i64 0), 1, 8) := by kernel_rfl
  obtain ⟨i0, hi, hz0, hz1, hz2⟩ := info_parts hinfo
  exact ⟨Tryz.underlying87, ⟨i0, hi, hz0, hz1, hz2⟩, rfl⟩

/-- A call with a topology in a box. -/
structure Boxed (w wr : World) (S : Int) (v : Value) (H : Int) : Prop where
  bel : Below w.heap.size w wr
  box : wr.heap[w.heap.size]? = some (.cells #[.int .i64 S, v, .int .i64 H] 24 (0, 0))
theorem boxed_new (w : World) (S : Int) (v : Value) (H : Int) : Boxed w (w.alloc (.cells #[.int .i64 S, v, .int .i64 H] 24)) S v H :=
  ⟨(Below.refl _ _).alloc (Nat.le_refl _) _, heap_alloc_new w _⟩
theorem Boxed.lt {w wr : World} {S H : Int} {v : Value} (h : Boxed w wr S v H) : w.heap.size < wr.heap.size := (Array.getElem?_eq_some_iff.1 h.box).1
theorem Boxed.next {w wr wq : World} {S H : Int} {v : Value} {B : Nat} (h : Boxed w wr S v H) (hb : Below B wr wq) (hB : w.heap.size < B) : Boxed w wq S v H :=
  ⟨h.bel.trans (hb.mono (Nat.le_of_lt hB)), by rw [hb.block _ hB]; exact h.box⟩
theorem Boxed.c0 {w wr : World} {S H : Int} {v : Value} (h : Boxed w wr S v H) : wr.cell? ⟨w.heap.size, 0, none⟩ = some (.int .i64 S) := by
  rw [cell_of_row wr w.heap.size 0 _ _ (0, 0) h.box]; rfl
theorem Boxed.c1 {w wr : World} {S H : Int} {v : Value} (h : Boxed w wr S v H) : wr.cell? ⟨w.heap.size, 1, none⟩ = some v := by
  rw [cell_of_row wr w.heap.size 1 _ _ (0, 0) h.box]; rfl
theorem Boxed.c2 {w wr : World} {S H : Int} {v : Value} (h : Boxed w wr S v H) : wr.cell? ⟨w.heap.size, 2, none⟩ = some (.int .i64 H) := by
  rw [cell_of_row wr w.heap.size 2 _ _ (0, 0) h.box]; rfl
theorem Boxed.row {w wr : World} {S H : Int} {v : Value} {l : List (Int × Int)} (h : Boxed w wr S v H) (hr : RowOf ecells w v l) : RowOf ecells wr v l := hr.below h.bel (Nat.le_refl _)

theorem row_one' (w : World) (e : TypeId) (u : Value) (n : Nat) (hn : n = w.heap.size) : Row (w.alloc (.cells #[u] e)) (.slice (some ⟨n, 0, none⟩) 1 1) [u] := by
  subst hn; exact row_one w e u

/-- The numbers that edges lead to. -/
def tosOf (a : Int) (l : List (Int × Int)) : List Int := (l.filter fun e => e.1 == a).map (·.2)

set_option maxRecDepth 20000 in
set_option maxHeartbeats 2000000 in
theorem next_any (S H a : Int) (v : Value) (l : List (Int × Int)) (w : World) (hr : RowOf ecells w v l) :
    Calls Tryz.prog 78 #[tv S v H, .int .i64 a] w fun e w' => ∃ v', e = .returned v' ∧ RowI w' w.heap.size v' (nextT S l H a) ∧ Below w.heap.size w w' := by
  obtain ⟨ad, cap, rfl⟩ := hr.slice
  have hG0 := fun W hW => good_any S H (.slice ad l.length cap) l W hW
  have hB0 : Hid (Boxed w (w.alloc (.cells #[.int .i64 S, .slice ad l.length cap, .int .i64 H] 24)) S (.slice ad l.length cap) H) := boxed_new _ _ _ _
  by_cases hg : GoodT S l H
  · rw [goodB_true hg] at hG0
    have hfew := hg.few
    have HG : Hid (GoodT S l H) := hg
    clear hg
    obtain ⟨_, _, hA⟩ := hr.eds
    have hA' : Hid (∀ i (hi : i < l.length), ∃ b off, ad = some ⟨b, off, none⟩ ∧ EdAt w b (off + i * 2) l[i]) := hA
    clear hA
    go_enter Tryz.func78, Tryz.ntmps78
    go_wp2_with (go_at_call 24; refine (hG0 _ (hB0.out.row hr)).mono ?_; rintro e w2 ⟨rfl, b2⟩; have hB1 : Hid (Boxed w w2 S (.slice ad l.length cap) H) := hB0.out.next b2 hB0.out.lt; have c1 := hB1.out.c1)
    clear hG0 b2 hr c1
    go_loopw [5, 7, 14] (fun u5 u7 u14 wr => ∃ k : Nat, u14 = .int .i64 k ∧ k ≤ l.length ∧ Hid (Own1 wr (w.heap.size + 1) 3 u5 (icells (tosOf a (l.take k)))) ∧ (tosOf a (l.take k)).length ≤ k ∧ Hid (Boxed w wr S (.slice ad l.length cap) H)) (fun u5 u7 u14 wr => l.length - (intOf u14).toNat)
    case atStart => exact ⟨0, rfl, Nat.zero_le _, own1_nil _ _ _, by simp [tosOf], hB1⟩
    case round =>
      obtain ⟨k, rfl, hk, hO, hlen, hB⟩ := hrel
      clear hB0 hB1
      by_cases hlt2 : k < l.length
      · have hlt : (k : Int) < (l.length : Int) := by omega
        obtain ⟨b, off, rfl, hi⟩ := hA'.out k hlt2
        obtain ⟨e0, e1⟩ := hi.below hB.out.bel (Nat.le_refl _)
        have hx : Hid (tosOf a (l.take (k + 1)) = tosOf a (l.take k) ++ tosOf a [l[k]]) := by
          show tosOf a (l.take (k + 1)) = _
          rw [List.take_succ_eq_append_getElem hlt2]; unfold tosOf; rw [List.filter_append, List.map_append]
        clear hA' hi
        generalize l[k] = x at *
        obtain ⟨x1, x2⟩ := x
        generalize hout : tosOf a (l.take k) = out at *
        have hsz := hB.out.lt
        have HS : Hid (w.heap.size < wr.heap.size) := hsz
        obtain ⟨oa, oc, rfl⟩ : ∃ oa oc, u5 = .slice oa out.length oc := by
          obtain ⟨oa, oc, h⟩ := hO.out.row.sliceInts; exact ⟨oa, oc, h⟩
        by_cases hxa : x1 = a
        · subst hxa
          rw [show tosOf x1 [(x1, x2)] = [x2] by simp [tosOf]] at hx
          go_wp2_with (at_builtin; refine wpList_append_row rfl _ _ 87 3 (.int .i64 0) 8 isI rfl (w.heap.size + 1) _ _ (icells out) [.int .i64 x2] rfl rfl (World.ownsRow.alloc (World.ownsRow.alloc hO.out _) _) (row_one' _ _ _ _ (by simp)) (by simp [Value.oneCell']) (by rw [icells_length]; simp; omega) (by rw [icells_length]; simp; omega) (by have := HS.out; simp; omega) ?_; intro v' w4 hown' hb4 hs4)
          go_roundw
          case rel =>
            refine ⟨k + 1, by go_num, by omega, ?_, by rw [hx.out]; simp; omega, hB.out.next ((((Below.refl (w.heap.size + 1) wr).alloc HS.out _).alloc (by have := HS.out; simp; omega) _).trans hb4) (Nat.lt_succ_self _)⟩
            rw [hx.out, icells_append]
            exact hown'
          case measure => simp [intOf]; omega
        · rw [show tosOf a [(x1, x2)] = [] by simp [tosOf, hxa], List.append_nil] at hx
          go_wp2
          refine ⟨⟨k + 1, by go_num, by omega, ?_, by rw [hx.out]; omega, hB.out.next ((Below.refl _ _).alloc (Nat.le_refl _) _) HS.out⟩, by simp [intOf]; omega⟩
          rw [hx.out]
          exact World.ownsRow.alloc hO.out _
      · obtain rfl : k = l.length := by omega
        have hR := rowI_of_own hO.out
        rw [List.take_length] at hR hlen
        go_wp2_with (go_at_call 163; refine (sort_any _ _ _ _ hR (by omega) (by have := hB.out.lt; omega)).mono ?_; rintro e w3 ⟨rfl, hR3, b3⟩)
        go_ret
        refine ⟨_, rfl, ?_, (hB.out.bel.trans (b3.mono (Nat.le_succ _)))⟩
        have he : (tosOf a l).mergeSort (fun x y => decide (x ≤ y)) = nextT S l H a := by
          rw [nextT, if_pos HG.out]
          refine sorted_unique ((List.mergeSort_perm _ _).trans (next_perm HG.out a)) ?_ ((nextL_lt S l a).imp fun h => Int.le_of_lt h)
          have := List.pairwise_mergeSort (le := fun x y : Int => decide (x ≤ y)) (fun x y z h1 h2 => by simp at *; omega) (fun x y => by simp; omega) (tosOf a l)
          exact this.imp fun h => by simpa using h
        rw [he] at hR3
        exact hR3.mono (Nat.le_succ _)
  · rw [goodB_false hg] at hG0
    go_enter Tryz.func78, Tryz.ntmps78
    go_wp2_with (go_at_call 24; refine (hG0 _ (hB0.out.row hr)).mono ?_; rintro e w2 ⟨rfl, b2⟩; have hB1 : Hid (Boxed w w2 S (.slice ad l.length cap) H) := hB0.out.next b2 hB0.out.lt)
    go_ret
    exact ⟨_, rfl, .inl ⟨rfl, by rw [nextT, if_neg hg]⟩, hB1.out.bel⟩

theorem known_yes (S H n : Int) (a : Option Addr) (l c : Nat) (h : 1 ≤ n ∧ n ≤ S) (w : World) : Calls Tryz.prog 71 #[tv S (.slice a l c) H, .int .i64 n] w fun e w' => e = .returned (.bool true) ∧ Grew w w' := by
  have := known_any S H n a l c w
  rw [decide_eq_true h] at this; exact this
theorem known_no (S H n : Int) (a : Option Addr) (l c : Nat) (h : ¬ (1 ≤ n ∧ n ≤ S)) (w : World) : Calls Tryz.prog 71 #[tv S (.slice a l c) H, .int .i64 n] w fun e w' => e = .returned (.bool false) ∧ Grew w w' := by
  have := known_any S H n a l c w
  rw [decide_eq_false h] at this; exact this

set_option maxRecDepth 20000 in
set_option maxHeartbeats 2000000 in
theorem far_any (S H a x : Int) (v : Value) (l : List (Int × Int)) (w : World) (hr : RowOf ecells w v l) :
    Calls Tryz.prog 76 #[tv S v H, .int .i64 a, .int .i64 x] w fun e w' => e = .returned (.int .i64 (farT S l H a x)) ∧ Below w.heap.size w w' := by
  obtain ⟨ad, cap, rfl⟩ := hr.slice
  have hG0 := fun W hW => good_any S H (.slice ad l.length cap) l W hW
  have hB0 : Hid (Boxed w (w.alloc (.cells #[.int .i64 S, .slice ad l.length cap, .int .i64 H] 24)) S (.slice ad l.length cap) H) := boxed_new _ _ _ _
  have HR : Hid (RowOf ecells w (.slice ad l.length cap) l) := hr
  clear hr
  by_cases hg : GoodT S l H
  · rw [goodB_true hg] at hG0
    have HG : Hid (GoodT S l H) := hg
    have hs8 : S ≤ 8 := hg.1.2.1
    clear hg
    by_cases ha : 1 ≤ a ∧ a ≤ S
    · by_cases hx : 1 ≤ x ∧ x ≤ S
      · have HW : Hid _ := fun W hW => ways_any S H a (.slice ad l.length cap) l W hW HG.out ha
        have hf : Hid (farT S l H a x = far l a x) := by show farT S l H a x = _; rw [farT, if_pos ⟨HG.out, ha, hx⟩]
        obtain ⟨n, rfl⟩ : ∃ n : Nat, x = n := ⟨x.toNat, by omega⟩
        have hix := index9 (far l a) n (by omega)
        go_enter Tryz.func76, Tryz.ntmps76
        go_wp2_with (first
          | (go_at_call 24; refine (hG0 _ (hB0.out.row HR.out)).mono ?_; rintro e w2 ⟨rfl, b2⟩; have hB1 : Hid (Boxed w w2 S (.slice ad l.length cap) H) := hB0.out.next b2 hB0.out.lt; have p0 := hB1.out.c0; have p1 := hB1.out.c1; have p2 := hB1.out.c2; clear b2)
          | (go_at_call 71; refine (known_yes _ _ _ _ _ _ (by assumption) _).mono ?_; rintro e w3 ⟨rfl, g3⟩; have hB2 : Hid (Boxed w w3 S (.slice ad l.length cap) H) := hB1.out.next (Grew.below g3 (Nat.le_refl _)) hB1.out.lt; clear p0 p1 p2 g3; have p0 := hB2.out.c0; have p1 := hB2.out.c1; have p2 := hB2.out.c2)
          | (go_at_call 71; refine (known_yes _ _ _ _ _ _ (by assumption) _).mono ?_; rintro e w4 ⟨rfl, g4⟩; have hB3 : Hid (Boxed w w4 S (.slice ad l.length cap) H) := hB2.out.next (Grew.below g4 (Nat.le_refl _)) hB2.out.lt; clear p0 p1 p2 g4; have p0 := hB3.out.c0; have p1 := hB3.out.c1; have p2 := hB3.out.c2)
          | (go_at_call 161; refine (HW.out _ (hB3.out.row HR.out)).mono ?_; rintro e w5 ⟨rfl, b5⟩))
        go_ret
        exact ⟨ret_int hf.out.symm, hB3.out.bel.trans (b5.mono (Nat.le_of_lt hB3.out.lt))⟩
      · have hf : Hid (farT S l H a x = -1) := by show farT S l H a x = _; rw [farT, if_neg (fun h => hx h.2.2)]
        go_enter Tryz.func76, Tryz.ntmps76
        go_wp2_with (first
          | (go_at_call 24; refine (hG0 _ (hB0.out.row HR.out)).mono ?_; rintro e w2 ⟨rfl, b2⟩; have hB1 : Hid (Boxed w w2 S (.slice ad l.length cap) H) := hB0.out.next b2 hB0.out.lt; have p0 := hB1.out.c0; have p1 := hB1.out.c1; have p2 := hB1.out.c2; clear b2)
          | (go_at_call 71; refine (known_yes _ _ _ _ _ _ (by assumption) _).mono ?_; rintro e w3 ⟨rfl, g3⟩; have hB2 : Hid (Boxed w w3 S (.slice ad l.length cap) H) := hB1.out.next (Grew.below g3 (Nat.le_refl _)) hB1.out.lt; clear p0 p1 p2 g3; have p0 := hB2.out.c0; have p1 := hB2.out.c1; have p2 := hB2.out.c2)
          | (go_at_call 71; refine (known_no _ _ _ _ _ _ (by assumption) _).mono ?_; rintro e w4 ⟨rfl, g4⟩; have hB3 : Hid (Boxed w w4 S (.slice ad l.length cap) H) := hB2.out.next (Grew.below g4 (Nat.le_refl _)) hB2.out.lt; clear p0 p1 p2 g4))
        go_ret
        exact ⟨ret_int hf.out.symm, hB3.out.bel⟩
    · have hf : Hid (farT S l H a x = -1) := by show farT S l H a x = _; rw [farT, if_neg (fun h => ha h.2.1)]
      go_enter Tryz.func76, Tryz.ntmps76
      go_wp2_with (first
        | (go_at_call 24; refine (hG0 _ (hB0.out.row HR.out)).mono ?_; rintro e w2 ⟨rfl, b2⟩; have hB1 : Hid (Boxed w w2 S (.slice ad l.length cap) H) := hB0.out.next b2 hB0.out.lt; have p0 := hB1.out.c0; have p1 := hB1.out.c1; have p2 := hB1.out.c2; clear b2)
        | (go_at_call 71; refine (known_no _ _ _ _ _ _ (by assumption) _).mono ?_; rintro e w3 ⟨rfl, g3⟩; have hB2 : Hid (Boxed w w3 S (.slice ad l.length cap) H) := hB1.out.next (Grew.below g3 (Nat.le_refl _)) hB1.out.lt; clear p0 p1 p2 g3))
      go_ret
      exact ⟨ret_int hf.out.symm, hB2.out.bel⟩
  · rw [goodB_false hg] at hG0
    have hf : Hid (farT S l H a x = -1) := by show farT S l H a x = _; rw [farT, if_neg (fun h => hg h.1)]
    go_enter Tryz.func76, Tryz.ntmps76
    go_wp2_with (go_at_call 24; refine (hG0 _ (hB0.out.row HR.out)).mono ?_; rintro e w2 ⟨rfl, b2⟩; have hB1 : Hid (Boxed w w2 S (.slice ad l.length cap) H) := hB0.out.next b2 hB0.out.lt; clear b2)
    go_ret
    exact ⟨ret_int hf.out.symm, hB1.out.bel⟩
end Go.Proofs.YtjagaankkcbjmaaGreatDoor.O

/-
  Within, Onward, Rounds, by their contracts.
-/
namespace Go.Proofs.YtjagaankkcbjmaaGreatDoor.K
end Go.Proofs.YtjagaankkcbjmaaGreatDoor.K
namespace Go.Proofs.YtjagaankkcbjmaaGreatDoor.O
open Go.Proofs.YtjagaankkcbjmaaGreatDoor.K
open Go.RowKit Go.Sort Go.Shelf

/-- Who is within, among the first k places of the array. -/
def inUpto (l : List (Int × Int)) (H a : Int) (k : Nat) : List Int := ((List.range k).map fun i : Nat => (i : Int)).filter fun n => decide (far l a n ≠ -1 ∧ far l a n ≤ H)

end Go.Proofs.YtjagaankkcbjmaaGreatDoor.O

/-
  Onward, Rounds, by their contracts.
-/
namespace Go.Proofs.YtjagaankkcbjmaaGreatDoor.K
end Go.Proofs.YtjagaankkcbjmaaGreatDoor.K
namespace Go.Proofs.YtjagaankkcbjmaaGreatDoor.O
open Go.Proofs.YtjagaankkcbjmaaGreatDoor.K
open Go.RowKit Go.Sort Go.Shelf


set_option maxRecDepth 20000 in
set_option maxHeartbeats 2000000 in
theorem onward_any (S H a x : Int) (v : Value) (l : List (Int × Int)) (w : World) (hr : RowOf ecells w v l) :
    Calls Tryz.prog 26 #[tv S v H, .int .i64 a, .int .i64 x] w fun e w' => ∃ v', e = .returned v' ∧ RowI w' w.heap.size v' (onwardT S l H a x) ∧ Below w.heap.size w w' := by
  obtain ⟨ad, cap, rfl⟩ := hr.slice
  have hF := fun W hW => far_any S H a x (.slice ad l.length cap) l W hW
  have hN : Hid _ := fun W hW => next_any S H x (.slice ad l.length cap) l W hW
  have hB0 : Hid (Boxed w ((w.alloc (.cells #[.int .i64 S, .slice ad l.length cap, .int .i64 H] 24)).alloc (.cells #[.int .i64 a] 3)) S (.slice ad l.length cap) H) := (boxed_new _ _ _ _).next ((Below.refl _ _).alloc (Nat.le_refl _) _) (by simp)
  have hO0 : Hid (((w.alloc (.cells #[.int .i64 S, .slice ad l.length cap, .int .i64 H] 24)).alloc (.cells #[.int .i64 a] 3)).cell? ⟨w.heap.size + 1, 0, none⟩ = some (.int .i64 a)) := by
    show World.cell? _ _ = _
    rw [World.cell?_alloc_at _ _ _ _ (by simp)]; rfl
  have HR : Hid (RowOf ecells w (.slice ad l.length cap) l) := hr
  clear hr
  have hrg := farT_range S l H a x
  have hq : Hid (∀ y, farT S l H a x = y → (¬ (0 ≤ y ∧ y < H) → onwardT S l H a x = []) ∧ (0 ≤ y ∧ y < H → onwardT S l H a x = (nextT S l H x).filter fun n => !(n == a))) := fun y hy => ⟨fun h => by rw [onwardT, hy, if_neg h], fun h => by rw [onwardT, hy, if_pos h]⟩
  generalize hd : farT S l H a x = d at *
  have hQ := hq.out d rfl
  have HQ : Hid ((¬ (0 ≤ d ∧ d < H) → onwardT S l H a x = []) ∧ (0 ≤ d ∧ d < H → onwardT S l H a x = (nextT S l H x).filter fun n => !(n == a))) := hQ
  clear hq hQ hd
  by_cases hin : 0 ≤ d ∧ d < H
  · have hn1 : ¬ d = -1 := by omega
    have hn2 : decide (H ≤ d) = false := decide_eq_false (by omega)
    go_enter Tryz.func26, Tryz.ntmps26
    go_wp2_with (first
      | (go_at_call 76; refine (hF _ (hB0.out.row HR.out)).mono ?_; rintro e w2 ⟨rfl, b2⟩; have hB1 : Hid (Boxed w w2 S (.slice ad l.length cap) H) := hB0.out.next b2 hB0.out.lt; have hO1 : Hid (w2.cell? ⟨w.heap.size + 1, 0, none⟩ = some (.int .i64 a)) := (b2.cell (p := ⟨w.heap.size + 1, 0, none⟩) (World.block_lt_of_cell? _ _ hO0.out)).trans hO0.out; have p0 := hB1.out.c0; have p1 := hB1.out.c1; have p2 := hB1.out.c2; clear b2)
      | (go_at_call 78; refine (hN.out _ (hB1.out.row HR.out)).mono ?_; rintro e w3 ⟨v3, rfl, r3, b3⟩; have hB2 : Hid (Boxed w w3 S (.slice ad l.length cap) H) := hB1.out.next b3 hB1.out.lt; have hO2 : Hid (w3.cell? ⟨w.heap.size + 1, 0, none⟩ = some (.int .i64 a)) := (b3.cell (p := ⟨w.heap.size + 1, 0, none⟩) (World.block_lt_of_cell? _ _ hO1.out)).trans hO1.out; have hlt : Hid (w.heap.size + 1 < w2.heap.size) := World.block_lt_of_cell? _ _ hO1.out; have hle : Hid (w2.heap.size ≤ w3.heap.size) := b3.size; clear p0 p1 p2 b3)
      | (go_at_call 77; refine (del_any _ _ _ _ a (w.heap.size + 1) r3 hle.out hlt.out hO2.out).mono ?_; rintro e w4 ⟨v4, rfl, r4, b4⟩))
    go_ret
    refine ⟨_, rfl, ?_, hB2.out.bel.trans (b4.mono (by have := hlt.out; omega))⟩
    rw [HQ.out.2 hin]
    exact r4.mono (by have := hlt.out; omega)
  · have hE := HQ.out.1 hin
    by_cases hn1 : d = -1
    · subst hn1
      go_enter Tryz.func26, Tryz.ntmps26
      go_wp2_with (go_at_call 76; refine (hF _ (hB0.out.row HR.out)).mono ?_; rintro e w2 ⟨rfl, b2⟩; have hB1 : Hid (Boxed w w2 S (.slice ad l.length cap) H) := hB0.out.next b2 hB0.out.lt; clear b2)
      go_ret
      exact ⟨_, rfl, .inl ⟨rfl, hE⟩, hB1.out.bel⟩
    · have hn2 : H ≤ d := by omega
      go_enter Tryz.func26, Tryz.ntmps26
      go_wp2_with (go_at_call 76; refine (hF _ (hB0.out.row HR.out)).mono ?_; rintro e w2 ⟨rfl, b2⟩; have hB1 : Hid (Boxed w w2 S (.slice ad l.length cap) H) := hB0.out.next b2 hB0.out.lt; have p2 := hB1.out.c2; clear b2)
      go_ret
      exact ⟨_, rfl, .inl ⟨rfl, hE⟩, hB1.out.bel⟩

/-- The greatest way of the first i sites. -/
def mostUpto (S : Int) (l : List (Int × Int)) (H : Int) (i : Nat) : Int := ((sites S).take i).foldl (fun m a => mostOf S l H m a (withinT S l H a)) 0

end Go.Proofs.YtjagaankkcbjmaaGreatDoor.O

/-
  onward, linkIsFull, queueIsFull, by their contracts.
-/
namespace Go.Proofs.YtjagaankkcbjmaaGreatDoor
open Go.RowKit

/-- A message in a box, beside a state. -/
structure BoxM (w W : World) (m : Ms) : Prop where
  bel : Below w.heap.size w W
  box : W.heap[w.heap.size]? = some (.cells (mcells m).toArray 40 (0, 0))
theorem boxM_new (w : World) (m : Ms) : BoxM w (w.alloc (.cells (mcells m).toArray 40)) m := ⟨box_below w _, heap_alloc_new w _⟩
theorem cellsM {w : World} {p : Nat} {t : TypeId} {m : Ms} (h : w.heap[p]? = some (.cells (mcells m).toArray t (0, 0))) : w.cell? ⟨p, 0, none⟩ = some (.int .i64 m.origin) ∧ w.cell? ⟨p, 1, none⟩ = some (.int .u64 m.seq) ∧ w.cell? ⟨p, 2, none⟩ = some (.int .i64 m.hop) ∧ w.cell? ⟨p, 3, none⟩ = some (.string m.ex) ∧ w.cell? ⟨p, 4, none⟩ = some (.string m.key) ∧ w.cell? ⟨p, 5, none⟩ = some (.string m.body) :=
  ⟨box_at h rfl, box_at h rfl, box_at h rfl, box_at h rfl, box_at h rfl, box_at h rfl⟩
set_option maxRecDepth 20000 in
set_option maxHeartbeats 1000000 in
theorem onward14_any (p : Nat) (G : Nat → Prop) (s : Sm) (m : Ms) (w : World) (h : SS w p G s) :
    Calls Tryz.prog 246 #[.pointer (some ⟨p, 0, none⟩), mv m] w fun e w' => ∃ v', e = .returned v' ∧ O.RowI w' w.heap.size v' (O.onwardT s.S s.E s.H m.origin s.site) ∧ Below w.heap.size w w' := by
  obtain ⟨W, fold⟩ : ∃ W, w.alloc (.cells #[.int .i64 m.origin, .int .u64 m.seq, .int .i64 m.hop, .string m.ex, .string m.key, .string m.body] 40) = W := ⟨_, rfl⟩
  have hB : BoxM w W m := by rw [← fold]; exact boxM_new w m
  have hW := (h.kept hB.bel).kept (drew_below W)
  obtain ⟨ft, d, hs', hF⟩ := hW
  have hD := O.onward_any s.S s.H m.origin s.site d.ev s.E W.drew hs'.edges.rng
  obtain ⟨c0, c1, c2, c3, c4, c5, c6, c7, c8, c9⟩ := cells10 hs'.blk
  obtain ⟨x0, x1, x2, x3, x4, x5⟩ := cellsM hB.box
  obtain ⟨ea, ec, hev⟩ := hs'.edges.rng.slice
  obtain ⟨n, hn⟩ : ∃ z, s.E.length = z := ⟨_, rfl⟩
  rw [hn] at hev
  rw [hev] at hD c2
  have k0 : W.cell? ⟨p, 0, none⟩ = some (.int .i64 s.site) := c0
  have k1 : W.cell? ⟨p, 1, none⟩ = some (.int .i64 s.S) := c1
  have k2 : W.cell? ⟨p, 2, none⟩ = some (.slice ea n ec) := c2
  have k3 : W.cell? ⟨p, 3, none⟩ = some (.int .i64 s.H) := c3
  have HK : Hid (Below w.heap.size w W ∧ ∀ V, Below W.drew.heap.size W.drew V → V.cell? ⟨p, 0, none⟩ = some (.int .i64 s.site) ∧ V.cell? ⟨p, 1, none⟩ = some (.int .i64 s.S) ∧ V.cell? ⟨p, 2, none⟩ = some (.slice ea n ec) ∧ V.cell? ⟨p, 3, none⟩ = some (.int .i64 s.H) ∧ V.cell? ⟨w.heap.size, 0, none⟩ = some (.int .i64 m.origin)) := ⟨hB.bel, fun V b => ⟨cell_on b k0, cell_on b k1, cell_on b k2, cell_on b k3, cell_on b x0⟩⟩
  obtain ⟨L, hL⟩ : ∃ z, O.onwardT s.S s.E s.H m.origin s.site = z := ⟨_, rfl⟩
  rw [hL] at hD ⊢
  clear hs' hF hB c0 c1 c2 c3 c4 c5 c6 c7 c8 c9 x1 x2 x3 x4 x5 h hev hn hL
  go_enter Tryz.func246, Tryz.ntmps246
  go_wp2
  try rw [fold]
  (go_region_held3 (fun w' => w'.cell? ⟨p, 0, none⟩ = some (.int .i64 s.site) ∧ w'.cell? ⟨p, 1, none⟩ = some (.int .i64 s.S) ∧ w'.cell? ⟨p, 2, none⟩ = some (.slice ea n ec) ∧ w'.cell? ⟨p, 3, none⟩ = some (.int .i64 s.H) ∧ w'.cell? ⟨w.heap.size, 0, none⟩ = some (.int .i64 m.origin)) (first | exact ⟨k0, k1, k2, k3, x0⟩ | go_keep) (first
    | (go_at_call 26; refine hD.mono ?_; rintro e w2 ⟨v2, rfl, r2, b2⟩; have H2 : Hid (O.RowI w2 W.drew.heap.size v2 L ∧ Below W.drew.heap.size W.drew w2) := ⟨r2, b2⟩; obtain ⟨f0, f1, f2, f3, f4⟩ := HK.out.2 w2 b2; clear r2 b2 hD)))
  all_goals go_wp2
  all_goals go_ret
  all_goals exact ⟨_, rfl, H2.out.1.mono HK.out.1.size, keptW (keptW HK.out.1 (drew_below W)) H2.out.2⟩
set_option maxRecDepth 20000 in
theorem linkFull_any (p : Nat) (G : Nat → Prop) (s : Sm) (t : Int) (w : World) (h : SS w p G s) (fit : s.Fit) (ht : I64 t) :
    Calls Tryz.prog 183 #[.pointer (some ⟨p, 0, none⟩), .int .i64 t] w fun e w' => e = .returned (.bool (decide (200 ≤ (linkOf s.lk t).length))) ∧ w' = w := by
  obtain ⟨ft, d, hs, _⟩ := h
  obtain ⟨c0, c1, c2, c3, c4, c5, c6, c7, c8, c9⟩ := cells10 hs.blk
  have hl := hs.lmap.look (hs.ll fit) ht
  have ho := hs.linkAt fit t
  generalize (((findL d.es t).map Prod.snd).getD (.slice none 0 0)) = v at hl ho
  obtain ⟨va, vc, rfl⟩ := ho.rng.slice
  generalize (linkOf s.lk t).length = n at hl ⊢
  clear ho hs c0 c1 c2 c3 c4 c5 c6 c7 c8
  by_cases hn : 200 ≤ n
  · have hn' : (200 : Int) ≤ (n : Int) := by omega
    rw [decide_eq_true hn]
    go_enter Tryz.func183, Tryz.ntmps183
    go_wp2
    go_ret
    exact ⟨by simp, rfl⟩
  · have hn' : ¬ (200 : Int) ≤ (n : Int) := by omega
    rw [decide_eq_false hn]
    go_enter Tryz.func183, Tryz.ntmps183
    go_wp2
    go_ret
    exact ⟨by simp, rfl⟩
/-- Can nothing be pushed? -/
def fullQ (q : F.St) : Bool := decide ((q.most : Int) - q.rdy.length - q.out.length < 1) || decide (q.next = 18446744073709551615)
set_option maxRecDepth 20000 in
theorem queueFull_any (p : Nat) (G : Nat → Prop) (s : Sm) (n : ByteArray) (q : F.St) (w : World) (h : SS w p G s) (fit : s.Fit) (hn : n.size ≤ maxLen) (hq : findQ s.qs n = some q) (ok : q.Ok) :
    Calls Tryz.prog 181 #[.pointer (some ⟨p, 0, none⟩), .string n] w fun e w' => e = .returned (.bool (fullQ q)) ∧ ∃ k, w' = w.drewN k := by
  obtain ⟨ft, d, hs, _⟩ := h
  obtain ⟨c0, c1, c2, c3, c4, c5, c6, c7, c8, c9⟩ := cells10 hs.blk
  have hl := hs.qmap.look (hs.dl fit) hn
  rcases hs.queueAt fit n with ⟨q1, q2⟩ | ⟨q', b, q1, q2, q3, q4⟩
  · rw [q1] at hq; cases hq
  · obtain rfl := Option.some.inj (q1.symm.trans hq)
    rw [q2] at hl
    replace hl : (Instr.lookup 92 (.map (some d.qm)) (.string n) false).run Tryz.prog w = .ok (.pointer (some ⟨b, 0, none⟩)) w := hl
    have hR := F.room_any b (ft (.queue n)) q' w q4 ok
    have hN : Hid (∀ k, Calls Tryz.prog 81 #[.pointer (some ⟨b, 0, none⟩)] (w.drewN k) fun e w' => e = .returned (.int .u64 (q'.next : Int)) ∧ w' = w.drewN k) := fun k => F.next_any b (ft (.queue n)) q' (w.drewN k) (q4.same fun _ _ => rfl)
    unfold fullQ
    generalize (q'.most : Int) - q'.rdy.length - q'.out.length = r at hR ⊢
    generalize q'.next = nx at hN ⊢
    clear hs q1 q2 q3 q4 c0 c1 c2 c3 c4 c5 c6 c8 c9 hq ok
    by_cases hr : r < 1
    · rw [decide_eq_true hr, Bool.true_or]
      go_enter Tryz.func181, Tryz.ntmps181
      go_wp2_with fail
      refine hR.mono ?_
      rintro e w2 ⟨rfl, k, rfl⟩
      clear hR hN
      go_wp2
      go_ret
      exact ⟨rfl, k, rfl⟩
    · rw [decide_eq_false hr, Bool.false_or]
      go_enter Tryz.func181, Tryz.ntmps181
      go_wp2_with fail
      refine hR.mono ?_
      rintro e w2 ⟨rfl, k, rfl⟩
      have hN' := hN.out k
      clear hR hN
      by_cases hx : nx = 18446744073709551615
      · subst hx
        go_wp2_with fail
        refine hN'.mono ?_
        rintro e w3 ⟨rfl, rfl⟩
        clear hN'
        go_wp2
        go_ret
        exact ⟨rfl, k, rfl⟩
      · have hx' : ¬ (nx : Int) = 18446744073709551615 := by omega
        go_wp2_with fail
        refine hN'.mono ?_
        rintro e w3 ⟨rfl, rfl⟩
        clear hN'
        go_wp2
        go_ret
        exact ⟨by simp_all, k, rfl⟩
end Go.Proofs.YtjagaankkcbjmaaGreatDoor

/-
  New, by its contract.
-/
namespace Go.Proofs.YtjagaankkcbjmaaGreatDoor
open Go.RowKit

/-- A new state. -/
def newSm (site S : Int) (E : List (Int × Int)) (H : Int) : Sm := ⟨site, S, E, H, 0, 0, B.newT, [], fun _ => [], []⟩
theorem cells3 {w : World} {g : Nat} {a b c : Value} {t : TypeId} {fz : Nat × Nat} (h : w.heap[g]? = some (.cells #[a, b, c] t fz)) :
    w.cell? ⟨g, 0, none⟩ = some a ∧ w.cell? ⟨g, 1, none⟩ = some b ∧ w.cell? ⟨g, 2, none⟩ = some c := by
  refine ⟨?_, ?_, ?_⟩ <;> (simp only [World.cell?]; rw [h]; rfl)
theorem cell_allocN {w : World} {b j : Nat} {v : Value} (o : Obj) (h : w.cell? ⟨b, j, none⟩ = some v) : (w.alloc o).cell? ⟨b, j, none⟩ = some v := cell_on (box_below w o) h
/-- The parts of a new state, made one behind another in whatever order. -/
theorem new_end {w X : World} {site N0 H : Int} {E : List (Int × Int)} {ev : Value} {tp qm bp lm : Nat} {Ft Fb : Nat → Prop} {We Wt Wb Wq Wl : World} {e0 t0 b0 t1 b1 : Nat}
    (hX : Below w.heap.size w X) (he : OwnE We e0 ev E) (beX : Below We.heap.size We X) (he0 : w.heap.size ≤ e0)
    (ht : B.T Wt tp Ft B.newT) (btX : Below Wt.heap.size Wt X) (ft0 : ∀ k, Ft k → t0 ≤ k) (ft1 : Wt.heap.size ≤ t1)
    (hb : S.Bk Wb bp Fb (fun _ => [])) (bbX : Below Wb.heap.size Wb X) (fb0 : ∀ k, Fb k → b0 ≤ k) (fb1 : Wb.heap.size ≤ b1)
    (hq : DAt Wq qm []) (bqX : Below Wq.heap.size Wq X) (hl : LAt Wl lm []) (blX : Below Wl.heap.size Wl X)
    (wt : w.heap.size ≤ t0) (wb : w.heap.size ≤ b0) (wq : w.heap.size ≤ qm) (wl : w.heap.size ≤ lm) (et : We.heap.size ≤ t0) (eb : We.heap.size ≤ b0) (eq : We.heap.size ≤ qm) (el : We.heap.size ≤ lm)
    (tb : t1 ≤ b0 ∨ b1 ≤ t0) (tq : t1 ≤ qm ∨ qm < t0) (tl : t1 ≤ lm ∨ lm < t0) (bq : b1 ≤ qm ∨ qm < b0) (bl : b1 ≤ lm ∨ lm < b0) (ql : qm ≠ lm) :
    ∃ F, SS (X.alloc (.cells #[.int .i64 site, .int .i64 N0, ev, .int .i64 H, .int .u64 0, .int .u64 0, .pointer (some ⟨tp, 0, none⟩), .map (some qm), .pointer (some ⟨bp, 0, none⟩), .map (some lm)] 96)) X.heap.size F (newSm site N0 E H) ∧ (∀ k, F k → w.heap.size ≤ k) ∧ Below w.heap.size w (X.alloc (.cells #[.int .i64 site, .int .i64 N0, ev, .int .i64 H, .int .u64 0, .int .u64 0, .pointer (some ⟨tp, 0, none⟩), .map (some qm), .pointer (some ⟨bp, 0, none⟩), .map (some lm)] 96)) := by
  obtain ⟨o, ho⟩ : ∃ o : Obj, Obj.cells #[.int .i64 site, .int .i64 N0, ev, .int .i64 H, .int .u64 0, .int .u64 0, .pointer (some ⟨tp, 0, none⟩), .map (some qm), .pointer (some ⟨bp, 0, none⟩), .map (some lm)] 96 = o := ⟨_, rfl⟩
  rw [ho]
  have bX := box_below X o
  have ltE : ∀ k, ev.ownBlock = some k → e0 ≤ k ∧ k < We.heap.size := fun k hk => he.lt hk
  have ltT := ht.lts
  have ltB := hb.lts
  have ltQ := hq.lt
  have ltL := hl.lt
  have sE := beX.size
  have sT := btX.size
  have sB := bbX.size
  have sQ := bqX.size
  have sL := blX.size
  let ft : Ix → Nat → Prop := fun a => match a with
    | .main => fun k => k = X.heap.size
    | .edges => fun k => ev.ownBlock = some k
    | .table => Ft
    | .qmap => fun k => k = qm
    | .book => Fb
    | .lmap => fun k => k = lm
    | .queue _ => fun _ => False
    | .link _ => fun _ => False
  refine ⟨fun k => ∃ a, ft a k, ⟨ft, ⟨ev, tp, qm, bp, lm, [], []⟩, ⟨?_, fun k => Iff.rfl, ?_, fun k => Iff.rfl, ?_, ?_, fun k => Iff.rfl, ?_, ?_, fun k => Iff.rfl, rfl, (fun n q h => by cases h), (fun _ _ _ => id), rfl, (fun t l h => by cases h), (fun _ _ _ => id), ?_⟩, fun k => Iff.rfl⟩, ?_, keptW hX bX⟩
  · rw [← ho]; exact heap_alloc_new X _
  · exact (he.mono (Nat.zero_le _)).kept (keptW beX bX) (Nat.le_refl _)
  · exact ht.kept (keptW btX bX)
  · exact hq.same ((keptW bqX bX).block _ ltQ)
  · exact hb.kept (keptW bbX bX)
  · exact hl.same ((keptW blX bX).block _ ltL)
  · intro a c k ha hc
    cases a <;> cases c <;> first | rfl | exact ha.elim | exact hc.elim | skip
    all_goals exfalso
    all_goals simp only [ft] at ha hc
    · have := ltE k hc; omega
    · have := ltT k hc; omega
    · omega
    · have := ltB k hc; omega
    · omega
    · have := ltE k ha; omega
    · have := ltE k ha; have := ft0 k hc; omega
    · have := ltE k ha; omega
    · have := ltE k ha; have := fb0 k hc; omega
    · have := ltE k ha; omega
    · have := ltT k ha; omega
    · have := ltE k hc; have := ft0 k ha; omega
    · have := ltT k ha; have := ft0 k ha; omega
    · have := ltT k ha; have := ft0 k ha; have := ltB k hc; have := fb0 k hc; omega
    · have := ltT k ha; have := ft0 k ha; omega
    · omega
    · have := ltE k hc; omega
    · have := ltT k hc; have := ft0 k hc; omega
    · have := ltB k hc; have := fb0 k hc; omega
    · omega
    · have := ltB k ha; omega
    · have := ltE k hc; have := fb0 k ha; omega
    · have := ltT k hc; have := ft0 k hc; have := ltB k ha; have := fb0 k ha; omega
    · have := ltB k ha; have := fb0 k ha; omega
    · have := ltB k ha; have := fb0 k ha; omega
    · omega
    · have := ltE k hc; omega
    · have := ltT k hc; have := ft0 k hc; omega
    · omega
    · have := ltB k hc; have := fb0 k hc; omega
  · rintro k ⟨a, ha⟩
    cases a <;> simp only [ft] at ha
    · have := hX.size; omega
    · have := ltE k ha; omega
    · have := ft0 k ha; omega
    · omega
    · have := fb0 k ha; omega
    · omega
end Go.Proofs.YtjagaankkcbjmaaGreatDoor
