/-
  Next, Far, Within, by their contracts.
-/
import Derived.Test.YtcfagojkeholmaaIntRows
namespace Go.Proofs.Ytcfagojkeholmaa
open Go.RowKit Go.Sort Go.Shelf

theorem isI : Elem Try.prog 28 3 (.int .i64 0) 8 := by
  have hinfo : (Try.prog.info? 3).map (fun i => (i.zero, i.size, i.bytes)) = some (some (.int .i64 0), 1, 8) := by kernel_rfl
  obtain ⟨i0, hi, hz0, hz1, hz2⟩ := info_parts hinfo
  exact ⟨Try.underlying28, ⟨i0, hi, hz0, hz1, hz2⟩, rfl⟩

/-- A call with a topology in a box. -/
structure Boxed (w wr : World) (S : Int) (v : Value) (H : Int) : Prop where
  bel : Below w.heap.size w wr
  box : wr.heap[w.heap.size]? = some (.cells #[.int .i64 S, v, .int .i64 H] 24 (0, 0))
theorem boxed_new (w : World) (S : Int) (v : Value) (H : Int) : Boxed w (w.alloc (.cells #[.int .i64 S, v, .int .i64 H] 24)) S v H :=
  ⟨(Below.refl _ _).alloc (Nat.le_refl _) _, heap_alloc_new w _⟩
theorem Boxed.lt {w wr : World} {S H : Int} {v : Value} (h : Boxed w wr S v H) : w.heap.size < wr.heap.size := (Array.getElem?_eq_some_iff.1 h.box).1
theorem Boxed.next {w wr wq : World} {S H : Int} {v : Value} {B : Nat} (h : Boxed w wr S v H) (hb : Below B wr wq) (hB : w.heap.size < B) : Boxed w wq S v H :=
  ⟨h.bel.trans (hb.mono (Nat.le_of_lt hB)), by rw [hb.block _ hB]; exact h.box⟩
theorem Boxed.c0 {w wr : World} {S H : Int} {v : Value} (h : Boxed w wr S v H) : wr.cell? ⟨w.heap.size, 0, none⟩ = some (.int .i64 S) := by
  rw [cell_of_row wr w.heap.size 0 _ _ (0, 0) h.box]; rfl
theorem Boxed.c1 {w wr : World} {S H : Int} {v : Value} (h : Boxed w wr S v H) : wr.cell? ⟨w.heap.size, 1, none⟩ = some v := by
  rw [cell_of_row wr w.heap.size 1 _ _ (0, 0) h.box]; rfl
theorem Boxed.c2 {w wr : World} {S H : Int} {v : Value} (h : Boxed w wr S v H) : wr.cell? ⟨w.heap.size, 2, none⟩ = some (.int .i64 H) := by
  rw [cell_of_row wr w.heap.size 2 _ _ (0, 0) h.box]; rfl
theorem Boxed.row {w wr : World} {S H : Int} {v : Value} {l : List (Int × Int)} (h : Boxed w wr S v H) (hr : RowOf ecells w v l) : RowOf ecells wr v l := hr.below h.bel (Nat.le_refl _)

theorem row_one' (w : World) (e : TypeId) (u : Value) (n : Nat) (hn : n = w.heap.size) : Row (w.alloc (.cells #[u] e)) (.slice (some ⟨n, 0, none⟩) 1 1) [u] := by
  subst hn; exact row_one w e u

/-- The numbers that edges lead to. -/
def tosOf (a : Int) (l : List (Int × Int)) : List Int := (l.filter fun e => e.1 == a).map (·.2)

set_option maxRecDepth 20000 in
set_option maxHeartbeats 2000000 in
theorem next_any (S H a : Int) (v : Value) (l : List (Int × Int)) (w : World) (hr : RowOf ecells w v l) :
    Calls Try.prog 12 #[tv S v H, .int .i64 a] w fun e w' => ∃ v', e = .returned v' ∧ RowI w' w.heap.size v' (nextT S l H a) ∧ Below w.heap.size w w' := by
  obtain ⟨ad, cap, rfl⟩ := hr.slice
  have hG0 := fun W hW => good_any S H (.slice ad l.length cap) l W hW
  have hB0 : Hid (Boxed w (w.alloc (.cells #[.int .i64 S, .slice ad l.length cap, .int .i64 H] 24)) S (.slice ad l.length cap) H) := boxed_new _ _ _ _
  by_cases hg : GoodT S l H
  · rw [goodB_true hg] at hG0
    have hfew := hg.few
    have HG : Hid (GoodT S l H) := hg
    clear hg
    obtain ⟨_, _, hA⟩ := hr.eds
    have hA' : Hid (∀ i (hi : i < l.length), ∃ b off, ad = some ⟨b, off, none⟩ ∧ EdAt w b (off + i * 2) l[i]) := hA
    clear hA
    go_enter Try.func12, Try.ntmps12
    go_wp2_with (go_at_call 9; refine (hG0 _ (hB0.out.row hr)).mono ?_; rintro e w2 ⟨rfl, b2⟩; have hB1 : Hid (Boxed w w2 S (.slice ad l.length cap) H) := hB0.out.next b2 hB0.out.lt; have c1 := hB1.out.c1)
    clear hG0 b2 hr c1
    go_loopw [5, 7, 14] (fun u5 u7 u14 wr => ∃ k : Nat, u14 = .int .i64 k ∧ k ≤ l.length ∧ Hid (Own1 wr (w.heap.size + 1) 3 u5 (icells (tosOf a (l.take k)))) ∧ (tosOf a (l.take k)).length ≤ k ∧ Hid (Boxed w wr S (.slice ad l.length cap) H)) (fun u5 u7 u14 wr => l.length - (intOf u14).toNat)
    case atStart => exact ⟨0, rfl, Nat.zero_le _, own1_nil _ _ _, by simp [tosOf], hB1⟩
    case round =>
      obtain ⟨k, rfl, hk, hO, hlen, hB⟩ := hrel
      clear hB0 hB1
      by_cases hlt2 : k < l.length
      · have hlt : (k : Int) < (l.length : Int) := by omega
        obtain ⟨b, off, rfl, hi⟩ := hA'.out k hlt2
        obtain ⟨e0, e1⟩ := hi.below hB.out.bel (Nat.le_refl _)
        have hx : Hid (tosOf a (l.take (k + 1)) = tosOf a (l.take k) ++ tosOf a [l[k]]) := by
          show tosOf a (l.take (k + 1)) = _
          rw [List.take_succ_eq_append_getElem hlt2]; unfold tosOf; rw [List.filter_append, List.map_append]
        clear hA' hi
        generalize l[k] = x at *
        obtain ⟨x1, x2⟩ := x
        generalize hout : tosOf a (l.take k) = out at *
        have hsz := hB.out.lt
        have HS : Hid (w.heap.size < wr.heap.size) := hsz
        obtain ⟨oa, oc, rfl⟩ : ∃ oa oc, u5 = .slice oa out.length oc := by
          obtain ⟨oa, oc, h⟩ := hO.out.row.sliceInts; exact ⟨oa, oc, h⟩
        by_cases hxa : x1 = a
        · subst hxa
          rw [show tosOf x1 [(x1, x2)] = [x2] by simp [tosOf]] at hx
          go_wp2_with (at_builtin; refine wpList_append_row rfl _ _ 28 3 (.int .i64 0) 8 isI rfl (w.heap.size + 1) _ _ (icells out) [.int .i64 x2] rfl rfl (World.ownsRow.alloc (World.ownsRow.alloc hO.out _) _) (row_one' _ _ _ _ (by simp)) (by simp [Value.oneCell']) (by rw [icells_length]; simp; omega) (by rw [icells_length]; simp; omega) (by have := HS.out; simp; omega) ?_; intro v' w4 hown' hb4 hs4)
          go_roundw
          case rel =>
            refine ⟨k + 1, by go_num, by omega, ?_, by rw [hx.out]; simp; omega, hB.out.next ((((Below.refl (w.heap.size + 1) wr).alloc HS.out _).alloc (by have := HS.out; simp; omega) _).trans hb4) (Nat.lt_succ_self _)⟩
            rw [hx.out, icells_append]
            exact hown'
          case measure => simp [intOf]; omega
        · rw [show tosOf a [(x1, x2)] = [] by simp [tosOf, hxa], List.append_nil] at hx
          go_wp2
          refine ⟨⟨k + 1, by go_num, by omega, ?_, by rw [hx.out]; omega, hB.out.next ((Below.refl _ _).alloc (Nat.le_refl _) _) HS.out⟩, by simp [intOf]; omega⟩
          rw [hx.out]
          exact World.ownsRow.alloc hO.out _
      · obtain rfl : k = l.length := by omega
        have hR := rowI_of_own hO.out
        rw [List.take_length] at hR hlen
        go_wp2_with (go_at_call 24; refine (sort_any _ _ _ _ hR (by omega) (by have := hB.out.lt; omega)).mono ?_; rintro e w3 ⟨rfl, hR3, b3⟩)
        go_ret
        refine ⟨_, rfl, ?_, (hB.out.bel.trans (b3.mono (Nat.le_succ _)))⟩
        have he : (tosOf a l).mergeSort (fun x y => decide (x ≤ y)) = nextT S l H a := by
          rw [nextT, if_pos HG.out]
          refine sorted_unique ((List.mergeSort_perm _ _).trans (next_perm HG.out a)) ?_ ((nextL_lt S l a).imp fun h => Int.le_of_lt h)
          have := List.pairwise_mergeSort (le := fun x y : Int => decide (x ≤ y)) (fun x y z h1 h2 => by simp at *; omega) (fun x y => by simp; omega) (tosOf a l)
          exact this.imp fun h => by simpa using h
        rw [he] at hR3
        exact hR3.mono (Nat.le_succ _)
  · rw [goodB_false hg] at hG0
    go_enter Try.func12, Try.ntmps12
    go_wp2_with (go_at_call 9; refine (hG0 _ (hB0.out.row hr)).mono ?_; rintro e w2 ⟨rfl, b2⟩; have hB1 : Hid (Boxed w w2 S (.slice ad l.length cap) H) := hB0.out.next b2 hB0.out.lt)
    go_ret
    exact ⟨_, rfl, .inl ⟨rfl, by rw [nextT, if_neg hg]⟩, hB1.out.bel⟩

theorem known_yes (S H n : Int) (a : Option Addr) (l c : Nat) (h : 1 ≤ n ∧ n ≤ S) (w : World) : Calls Try.prog 22 #[tv S (.slice a l c) H, .int .i64 n] w fun e w' => e = .returned (.bool true) ∧ Grew w w' := by
  have := known_any S H n a l c w
  rw [decide_eq_true h] at this; exact this
theorem known_no (S H n : Int) (a : Option Addr) (l c : Nat) (h : ¬ (1 ≤ n ∧ n ≤ S)) (w : World) : Calls Try.prog 22 #[tv S (.slice a l c) H, .int .i64 n] w fun e w' => e = .returned (.bool false) ∧ Grew w w' := by
  have := known_any S H n a l c w
  rw [decide_eq_false h] at this; exact this

set_option maxRecDepth 20000 in
set_option maxHeartbeats 2000000 in
theorem far_any (S H a x : Int) (v : Value) (l : List (Int × Int)) (w : World) (hr : RowOf ecells w v l) :
    Calls Try.prog 14 #[tv S v H, .int .i64 a, .int .i64 x] w fun e w' => e = .returned (.int .i64 (farT S l H a x)) ∧ Below w.heap.size w w' := by
  obtain ⟨ad, cap, rfl⟩ := hr.slice
  have hG0 := fun W hW => good_any S H (.slice ad l.length cap) l W hW
  have hB0 : Hid (Boxed w (w.alloc (.cells #[.int .i64 S, .slice ad l.length cap, .int .i64 H] 24)) S (.slice ad l.length cap) H) := boxed_new _ _ _ _
  have HR : Hid (RowOf ecells w (.slice ad l.length cap) l) := hr
  clear hr
  by_cases hg : GoodT S l H
  · rw [goodB_true hg] at hG0
    have HG : Hid (GoodT S l H) := hg
    have hs8 : S ≤ 8 := hg.1.2.1
    clear hg
    by_cases ha : 1 ≤ a ∧ a ≤ S
    · by_cases hx : 1 ≤ x ∧ x ≤ S
      · have HW : Hid _ := fun W hW => ways_any S H a (.slice ad l.length cap) l W hW HG.out ha
        have hf : Hid (farT S l H a x = far l a x) := by show farT S l H a x = _; rw [farT, if_pos ⟨HG.out, ha, hx⟩]
        obtain ⟨n, rfl⟩ : ∃ n : Nat, x = n := ⟨x.toNat, by omega⟩
        have hix := index9 (far l a) n (by omega)
        go_enter Try.func14, Try.ntmps14
        go_wp2_with (first
          | (go_at_call 9; refine (hG0 _ (hB0.out.row HR.out)).mono ?_; rintro e w2 ⟨rfl, b2⟩; have hB1 : Hid (Boxed w w2 S (.slice ad l.length cap) H) := hB0.out.next b2 hB0.out.lt; have p0 := hB1.out.c0; have p1 := hB1.out.c1; have p2 := hB1.out.c2; clear b2)
          | (go_at_call 22; refine (known_yes _ _ _ _ _ _ (by assumption) _).mono ?_; rintro e w3 ⟨rfl, g3⟩; have hB2 : Hid (Boxed w w3 S (.slice ad l.length cap) H) := hB1.out.next (Grew.below g3 (Nat.le_refl _)) hB1.out.lt; clear p0 p1 p2 g3; have p0 := hB2.out.c0; have p1 := hB2.out.c1; have p2 := hB2.out.c2)
          | (go_at_call 22; refine (known_yes _ _ _ _ _ _ (by assumption) _).mono ?_; rintro e w4 ⟨rfl, g4⟩; have hB3 : Hid (Boxed w w4 S (.slice ad l.length cap) H) := hB2.out.next (Grew.below g4 (Nat.le_refl _)) hB2.out.lt; clear p0 p1 p2 g4; have p0 := hB3.out.c0; have p1 := hB3.out.c1; have p2 := hB3.out.c2)
          | (go_at_call 26; refine (HW.out _ (hB3.out.row HR.out)).mono ?_; rintro e w5 ⟨rfl, b5⟩))
        go_ret
        exact ⟨ret_int hf.out.symm, hB3.out.bel.trans (b5.mono (Nat.le_of_lt hB3.out.lt))⟩
      · have hf : Hid (farT S l H a x = -1) := by show farT S l H a x = _; rw [farT, if_neg (fun h => hx h.2.2)]
        go_enter Try.func14, Try.ntmps14
        go_wp2_with (first
          | (go_at_call 9; refine (hG0 _ (hB0.out.row HR.out)).mono ?_; rintro e w2 ⟨rfl, b2⟩; have hB1 : Hid (Boxed w w2 S (.slice ad l.length cap) H) := hB0.out.next b2 hB0.out.lt; have p0 := hB1.out.c0; have p1 := hB1.out.c1; have p2 := hB1.out.c2; clear b2)
          | (go_at_call 22; refine (known_yes _ _ _ _ _ _ (by assumption) _).mono ?_; rintro e w3 ⟨rfl, g3⟩; have hB2 : Hid (Boxed w w3 S (.slice ad l.length cap) H) := hB1.out.next (Grew.below g3 (Nat.le_refl _)) hB1.out.lt; clear p0 p1 p2 g3; have p0 := hB2.out.c0; have p1 := hB2.out.c1; have p2 := hB2.out.c2)
          | (go_at_call 22; refine (known_no _ _ _ _ _ _ (by assumption) _).mono ?_; rintro e w4 ⟨rfl, g4⟩; have hB3 : Hid (Boxed w w4 S (.slice ad l.length cap) H) := hB2.out.next (Grew.below g4 (Nat.le_refl _)) hB2.out.lt; clear p0 p1 p2 g4))
        go_ret
        exact ⟨ret_int hf.out.symm, hB3.out.bel⟩
    · have hf : Hid (farT S l H a x = -1) := by show farT S l H a x = _; rw [farT, if_neg (fun h => ha h.2.1)]
      go_enter Try.func14, Try.ntmps14
      go_wp2_with (first
        | (go_at_call 9; refine (hG0 _ (hB0.out.row HR.out)).mono ?_; rintro e w2 ⟨rfl, b2⟩; have hB1 : Hid (Boxed w w2 S (.slice ad l.length cap) H) := hB0.out.next b2 hB0.out.lt; have p0 := hB1.out.c0; have p1 := hB1.out.c1; have p2 := hB1.out.c2; clear b2)
        | (go_at_call 22; refine (known_no _ _ _ _ _ _ (by assumption) _).mono ?_; rintro e w3 ⟨rfl, g3⟩; have hB2 : Hid (Boxed w w3 S (.slice ad l.length cap) H) := hB1.out.next (Grew.below g3 (Nat.le_refl _)) hB1.out.lt; clear p0 p1 p2 g3))
      go_ret
      exact ⟨ret_int hf.out.symm, hB2.out.bel⟩
  · rw [goodB_false hg] at hG0
    have hf : Hid (farT S l H a x = -1) := by show farT S l H a x = _; rw [farT, if_neg (fun h => hg h.1)]
    go_enter Try.func14, Try.ntmps14
    go_wp2_with (go_at_call 9; refine (hG0 _ (hB0.out.row HR.out)).mono ?_; rintro e w2 ⟨rfl, b2⟩; have hB1 : Hid (Boxed w w2 S (.slice ad l.length cap) H) := hB0.out.next b2 hB0.out.lt; clear b2)
    go_ret
    exact ⟨ret_int hf.out.symm, hB1.out.bel⟩
end Go.Proofs.Ytcfagojkeholmaa
