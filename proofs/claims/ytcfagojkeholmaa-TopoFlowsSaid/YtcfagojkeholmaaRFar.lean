/-
  THE DOCUMENT's Far, by its contract.
-/
import Derived.Test.YtcfagojkeholmaaRefT
namespace Go.Proofs.Ytcfagojkeholmaa
open Go.RowKit Go.Sort Go.Shelf

theorem far_is {S : Int} {l : List (Int × Int)} {a x : Int} (hS : S ≤ 8) (hE : ∀ e ∈ l, EdgeOk S e) (ha : 1 ≤ a ∧ a ≤ S) {n : Nat} (h1 : R l a n x = true) (h2 : ∀ m, m < n → R l a m x = false) : far l a x = n := by
  have h := (far_le hS hE ha n).1 h1
  apply Classical.byContradiction
  intro hne
  have := (far_le hS hE ha (far l a x).toNat (x := x)).2 (by omega)
  rw [h2 _ (by omega)] at this
  cases this
theorem far_not {S : Int} {l : List (Int × Int)} {a x : Int} (hE : ∀ e ∈ l, EdgeOk S e) (ha : 1 ≤ a ∧ a ≤ S) (h2 : ∀ m, m < S.toNat → R l a m x = false) : far l a x = -1 := by
  rcases upto_cases l a 8 x with ⟨h, _⟩ | ⟨m, _, _, hr, _⟩
  · exact h
  · have := R_all hE ha m x hr
    rw [h2 _ (by omega)] at this
    cases this
/-- Behind j sites, of those that may lead to k. -/
def part (l : List (Int × Int)) (a : Int) (n : Nat) (k : Int) (j : Nat) : Bool := R l a n k || (List.range j).any fun i => R l a n ((i : Int) + 1) && l.contains ((i : Int) + 1, k)
theorem part_zero (l : List (Int × Int)) (a : Int) (n : Nat) (k : Int) : part l a n k 0 = R l a n k := by simp [part]
theorem part_succ (l : List (Int × Int)) (a : Int) (n : Nat) (k : Int) (j : Nat) : part l a n k (j + 1) = (part l a n k j || (R l a n ((j : Int) + 1) && l.contains ((j : Int) + 1, k))) := by
  unfold part
  rw [List.range_succ, List.any_append]
  simp [Bool.or_assoc]
theorem part_all {S : Int} {l : List (Int × Int)} (hE : ∀ e ∈ l, EdgeOk S e) (a : Int) (n : Nat) (k : Int) : part l a n k S.toNat = R l a (n + 1) k := by
  rw [Bool.eq_iff_iff, R_succ]
  unfold part
  rw [Bool.or_eq_true, List.any_eq_true]
  refine or_congr Iff.rfl ⟨?_, ?_⟩
  · rintro ⟨i, _, h⟩
    rw [Bool.and_eq_true, List.contains_iff_mem] at h
    exact ⟨_, h.2, h.1, rfl⟩
  · rintro ⟨⟨e1, e2⟩, he, h1, rfl⟩
    have hok := hE _ he
    simp only [EdgeOk] at hok
    refine ⟨(e1 - 1).toNat, by simp; omega, ?_⟩
    have : (((e1 - 1).toNat : Nat) : Int) + 1 = e1 := by omega
    rw [this, Bool.and_eq_true, List.contains_iff_mem]
    exact ⟨h1, he⟩

/-- In the midst of Far: who was reached. -/
structure FarIn (w wr : World) (S : Int) (v : Value) (H : Int) (ga : Nat) (f : Nat → Bool) : Prop where
  bx : Boxed w wr S v H
  at' : Arr wr ga 35 9 (fun i => .bool (f i))
  gt : w.heap.size < ga
theorem FarIn.next {w wr wq : World} {S H : Int} {v : Value} {f : Nat → Bool} {ga : Nat} (h : FarIn w wr S v H ga f) (hb : Below wr.heap.size wr wq) : FarIn w wq S v H ga f :=
  ⟨h.bx.next hb h.bx.lt, h.at'.below hb h.at'.lt, h.gt⟩
/-- .. and who is reached by an edge more. -/
structure MoreIn (w wr : World) (S : Int) (v : Value) (H : Int) (ga : Nat) (f : Nat → Bool) (g : Nat) (h : Nat → Bool) : Prop where
  fi : FarIn w wr S v H ga f
  mo : Arr wr g 35 9 (fun i => .bool (h i))
  lt : ga < g
theorem MoreIn.next {w wr wq : World} {S H : Int} {v : Value} {f h : Nat → Bool} {ga g : Nat} (m : MoreIn w wr S v H ga f g h) (hb : Below wr.heap.size wr wq) : MoreIn w wq S v H ga f g h :=
  ⟨m.fi.next hb, m.mo.below hb m.mo.lt, m.lt⟩
theorem MoreIn.put {w wr : World} {S H : Int} {v : Value} {f h : Nat → Bool} {ga g : Nat} (m : MoreIn w wr S v H ga f g h) (k : Nat) (b : Bool) (h' : Nat → Bool) (hh : ∀ i, i < 9 → h' i = if i = k then b else h i) : MoreIn w (wr.setCell ⟨g, k, none⟩ (.bool b)) S v H ga f g h' := by
  have hl := m.lt
  have hl2 := m.fi.gt
  refine ⟨⟨⟨m.fi.bx.bel.setCell (by show w.heap.size ≤ g; omega) _, ?_⟩, m.fi.at'.same (heap_setCell_other _ _ _ _ (by show ga ≠ g; omega)), hl2⟩, ?_, hl⟩
  · rw [heap_setCell_other _ _ _ _ (by show w.heap.size ≠ g; omega)]; exact m.fi.bx.box
  · refine (m.mo.set k (.bool b)).congr fun i hi => ?_
    rw [hh i hi]
    by_cases hc : i = k
    · rw [if_pos hc, if_pos hc]
    · rw [if_neg hc, if_neg hc]
theorem MoreIn.congr {w wr : World} {S H : Int} {v : Value} {f h h' : Nat → Bool} {ga g : Nat} (m : MoreIn w wr S v H ga f g h) (hh : ∀ i, i < 9 → h' i = h i) : MoreIn w wr S v H ga f g h' :=
  ⟨m.fi, m.mo.congr fun i hi => by rw [hh i hi], m.lt⟩
theorem zeroB9 (w : World) : (zeroValue 35).run Try.prog w = .ok (.agg (blank 9 (.bool false))) w := by kernel_rfl
/-- The copy of the array over the other one. -/
theorem MoreIn.copy {w wr : World} {S H : Int} {v : Value} {f h : Nat → Bool} {ga g : Nat} (m : MoreIn w wr S v H ga f g h) : FarIn w (((((((((wr.setCell ⟨ga, 0, none⟩ (.bool (h 0))).setCell ⟨ga, 1, none⟩ (.bool (h 1))).setCell ⟨ga, 2, none⟩ (.bool (h 2))).setCell ⟨ga, 3, none⟩ (.bool (h 3))).setCell ⟨ga, 4, none⟩ (.bool (h 4))).setCell ⟨ga, 5, none⟩ (.bool (h 5))).setCell ⟨ga, 6, none⟩ (.bool (h 6))).setCell ⟨ga, 7, none⟩ (.bool (h 7))).setCell ⟨ga, 8, none⟩ (.bool (h 8))) S v H ga h := by
  have hs : ∀ k, k ≠ ga → ((((((((((wr.setCell ⟨ga, 0, none⟩ (.bool (h 0))).setCell ⟨ga, 1, none⟩ (.bool (h 1))).setCell ⟨ga, 2, none⟩ (.bool (h 2))).setCell ⟨ga, 3, none⟩ (.bool (h 3))).setCell ⟨ga, 4, none⟩ (.bool (h 4))).setCell ⟨ga, 5, none⟩ (.bool (h 5))).setCell ⟨ga, 6, none⟩ (.bool (h 6))).setCell ⟨ga, 7, none⟩ (.bool (h 7))).setCell ⟨ga, 8, none⟩ (.bool (h 8)))).heap[k]? = wr.heap[k]? := fun k hk => by
    rw [heap_setCell_other _ _ _ _ hk, heap_setCell_other _ _ _ _ hk, heap_setCell_other _ _ _ _ hk, heap_setCell_other _ _ _ _ hk, heap_setCell_other _ _ _ _ hk, heap_setCell_other _ _ _ _ hk, heap_setCell_other _ _ _ _ hk, heap_setCell_other _ _ _ _ hk, heap_setCell_other _ _ _ _ hk]
  refine ⟨⟨(((((((((m.fi.bx.bel.setCell (p := ⟨ga, 0, none⟩) (Nat.le_of_lt m.fi.gt) _).setCell (p := ⟨ga, 1, none⟩) (Nat.le_of_lt m.fi.gt) _).setCell (p := ⟨ga, 2, none⟩) (Nat.le_of_lt m.fi.gt) _).setCell (p := ⟨ga, 3, none⟩) (Nat.le_of_lt m.fi.gt) _).setCell (p := ⟨ga, 4, none⟩) (Nat.le_of_lt m.fi.gt) _).setCell (p := ⟨ga, 5, none⟩) (Nat.le_of_lt m.fi.gt) _).setCell (p := ⟨ga, 6, none⟩) (Nat.le_of_lt m.fi.gt) _).setCell (p := ⟨ga, 7, none⟩) (Nat.le_of_lt m.fi.gt) _).setCell (p := ⟨ga, 8, none⟩) (Nat.le_of_lt m.fi.gt) _), ?_⟩, ?_, m.fi.gt⟩
  · rw [hs _ (by have := m.fi.gt; omega)]; exact m.fi.bx.box
  · refine (((((((((m.fi.at'.set 0 (.bool (h 0))).set 1 (.bool (h 1))).set 2 (.bool (h 2))).set 3 (.bool (h 3))).set 4 (.bool (h 4))).set 5 (.bool (h 5))).set 6 (.bool (h 6))).set 7 (.bool (h 7))).set 8 (.bool (h 8))).congr fun i hi => ?_
    have hc : i = 0 ∨ i = 1 ∨ i = 2 ∨ i = 3 ∨ i = 4 ∨ i = 5 ∨ i = 6 ∨ i = 7 ∨ i = 8 := by omega
    rcases hc with rfl | rfl | rfl | rfl | rfl | rfl | rfl | rfl | rfl <;> rfl

set_option maxRecDepth 20000 in
set_option maxHeartbeats 4000000 in
theorem rfar_any (S H a x : Int) (v : Value) (l : List (Int × Int)) (w : World) (hr : RowOf ecells w v l) :
    Calls Try.prog 15 #[tv S v H, .int .i64 a, .int .i64 x] w fun e w' => e = .returned (.int .i64 (farT S l H a x)) ∧ Below w.heap.size w w' := by
  obtain ⟨ad, cap, rfl⟩ := hr.slice
  have hG0 := fun W hW => rgood_any S H (.slice ad l.length cap) l W hW
  have hB0 : Hid (Boxed w (w.alloc (.cells #[.int .i64 S, .slice ad l.length cap, .int .i64 H] 24)) S (.slice ad l.length cap) H) := boxed_new _ _ _ _
  have HR : Hid (RowOf ecells w (.slice ad l.length cap) l) := hr
  clear hr
  by_cases hg : GoodT S l H
  · rw [goodB_true hg] at hG0
    have HG : Hid (GoodT S l H) := hg
    have s8 : S ≤ 8 := hg.1.2.1
    clear hg
    by_cases ha : 1 ≤ a ∧ a ≤ S
    · by_cases hx : 1 ≤ x ∧ x ≤ S
      · have hf : Hid (farT S l H a x = far l a x) := by show farT S l H a x = _; rw [farT, if_pos ⟨HG.out, ha, hx⟩]
        have HA : Hid (1 ≤ a ∧ a ≤ S) := ha
        have HX : Hid (1 ≤ x ∧ x ≤ S) := hx
        obtain ⟨a0, rfl⟩ : ∃ n : Nat, a = n := ⟨a.toNat, by omega⟩
        obtain ⟨x0, rfl⟩ : ∃ n : Nat, x = n := ⟨x.toNat, by omega⟩
        have a9 : a0 < 9 := by omega
        have x9 : x0 < 9 := by omega
        have a9' : (a0 : Int) < 9 := by omega
        have x9' : (x0 : Int) < 9 := by omega
        have z9 := zeroB9
        have hbl : (blank 9 (.bool false))[a0]? = some (.bool false) := by simp [blank, a9]
        go_enter Try.func15, Try.ntmps15
        go_wp2_with (first
          | (go_at_call 10; refine (hG0 _ (hB0.out.row HR.out)).mono ?_; rintro e w2 ⟨rfl, b2⟩; have hB1 : Hid (Boxed w w2 S (.slice ad l.length cap) H) := hB0.out.next b2 hB0.out.lt; have p0 := hB1.out.c0; have p1 := hB1.out.c1; have p2 := hB1.out.c2; clear b2)
          | (go_at_call 23; refine (site_yes _ _ _ _ _ _ (by assumption) _).mono ?_; rintro e w3 ⟨rfl, g3⟩; have hB2 : Hid (Boxed w w3 S (.slice ad l.length cap) H) := hB1.out.next (Grew.below g3 (Nat.le_refl _)) hB1.out.lt; clear p0 p1 p2 g3; have p0 := hB2.out.c0; have p1 := hB2.out.c1; have p2 := hB2.out.c2)
          | (go_at_call 23; refine (site_yes _ _ _ _ _ _ (by assumption) _).mono ?_; rintro e w4 ⟨rfl, g4⟩; have hB3 : Hid (Boxed w w4 S (.slice ad l.length cap) H) := hB2.out.next (Grew.below g4 (Nat.le_refl _)) hB2.out.lt; clear p0 p1 p2 g4; have p0 := hB3.out.c0; have p1 := hB3.out.c1; have p2 := hB3.out.c2))
        have hF0 : Hid (FarIn w (w4.alloc (.cells ((blank 9 (.bool false)).setIfInBounds a0 (.bool true)) 35)) S (.slice ad l.length cap) H w4.heap.size (fun i => R l a0 0 i)) := by
          refine ⟨hB3.out.next ((Below.refl _ _).alloc (Nat.le_refl _) _) hB3.out.lt, ?_, hB3.out.lt⟩
          unfold Arr
          rw [heap_alloc_new w4 _]
          congr 2
          apply Array.ext'
          apply List.ext_getElem?
          intro i
          simp only [blank, Array.toList_setIfInBounds, List.getElem?_set, List.getElem?_map, List.length_map, List.length_range]
          by_cases hi : a0 = i
          · subst hi
            simp [a9, R]
          · rw [if_neg hi]
            by_cases hn : i < 9
            · simp only [List.getElem?_range hn, Option.map_some, R]
              have : ((i : Int) == (a0 : Int)) = false := by simp; omega
              rw [this]
            · simp [hn]
        generalize w4.alloc (.cells ((blank 9 (.bool false)).setIfInBounds a0 (.bool true)) 35) = w5 at *
        clear p0 p1 p2 hB0 hB1 hB2 hG0 hbl hx ha
        generalize w4.heap.size = ga at *
        clear hB3
        go_loopg [8, 9, 10, 11] S.toNat (fun gg u8 u9 u10 u11 wr => ∃ n : Nat, u8 = .int .i64 n ∧ (n : Int) ≤ S ∧ gg = S.toNat - n ∧ Hid (FarIn w wr S (.slice ad l.length cap) H ga (fun i => R l a0 n i)) ∧ Hid (∀ m, m < n → R l a0 m x0 = false))
        case atStart => exact ⟨0, rfl, by have := HA.out; omega, rfl, hF0, fun m h => absurd h (Nat.not_lt_zero _)⟩
        case round =>
          obtain ⟨n, rfl, hn, rfl, hF, hno⟩ := hrel
          clear hF0
          have p0 := hF.out.bx.c0
          by_cases hlt2 : (n : Int) < S
          · have q0 : wr.cell? ⟨ga, x0, none⟩ = some (.bool (R l a0 n x0)) := hF.out.at'.cell x9
            cases hR : R l a0 n x0
            · rw [hR] at q0
              have hno2 : Hid (∀ m, m < n + 1 → R l a0 m x0 = false) := fun m hm => by
                rcases Nat.lt_or_ge m n with h | h
                · exact hno.out m h
                · obtain rfl : m = n := by omega
                  exact hR
              clear hR hno
              have hM0 : Hid (MoreIn w (wr.alloc (.cells (blank 9 (.bool false)) 35)) S (.slice ad l.length cap) H ga (fun i => R l a0 n i) wr.heap.size (fun i => decide (1 ≤ i ∧ i ≤ 0) && R l a0 (n + 1) i)) := by
                refine ⟨hF.out.next ((Below.refl _ _).alloc (Nat.le_refl _) _), ?_, hF.out.at'.lt⟩
                refine (arr_blank wr 9 (.bool false) 35).congr fun i _ => ?_
                rw [decide_eq_false (by omega)]; rfl
              go_wp2
              generalize wr.alloc (.cells (blank 9 (.bool false)) 35) = w6 at *
              clear p0 q0 hF
              generalize wr.heap.size = g at *
              go_loopg [10, 11] S.toNat (fun gg u10 u11 wr => ∃ k : Nat, u10 = .int .i64 ((k : Int) + 1) ∧ (k : Int) ≤ S ∧ gg = S.toNat - k ∧ Hid (MoreIn w wr S (.slice ad l.length cap) H ga (fun i => R l a0 n i) g (fun i => decide (1 ≤ i ∧ i ≤ k) && R l a0 (n + 1) i)))
              case atStart => exact ⟨0, rfl, by omega, rfl, hM0⟩
              case round =>
                obtain ⟨k, rfl, hk, rfl, hM⟩ := hrel
                clear hM0
                have p0 := hM.out.fi.bx.c0
                by_cases hlt3 : (k : Int) < S
                · have k9 : k + 1 < 9 := by omega
                  have k9' : (k : Int) + 1 < 9 := by omega
                  have k9'' : (k : Int) + 1 ≤ S := by omega
                  have q1 : wr.cell? ⟨ga, k + 1, none⟩ = some (.bool (R l a0 n ((k : Int) + 1))) := hM.out.fi.at'.cell (i := k + 1) k9
                  have q2 : wr.cell? ⟨g, k + 1, none⟩ = some (.bool (decide (1 ≤ k + 1 ∧ k + 1 ≤ k) && R l a0 (n + 1) ((k + 1 : Nat) : Int))) := hM.out.mo.cell (i := k + 1) k9
                  have q3 := hM.out.mo.free (k + 1)
                  have hP0 : Hid (MoreIn w (wr.setCell ⟨g, k + 1, none⟩ (.bool (R l a0 n ((k : Int) + 1)))) S (.slice ad l.length cap) H ga (fun i => R l a0 n i) g (fun i => if i = k + 1 then part l a0 n ((k : Int) + 1) 0 else decide (1 ≤ i ∧ i ≤ k) && R l a0 (n + 1) i)) := hM.out.put (k + 1) _ _ fun i _ => by rw [part_zero]
                  generalize hw7 : wr.setCell ⟨g, k + 1, none⟩ (.bool (R l a0 n ((k : Int) + 1))) = w7 at *
                  go_wp2
                  clear hw7 p0 q1 q2 q3 hM hlt2 hn
                  go_loopg [11] S.toNat (fun gg u11 wr => ∃ j : Nat, u11 = .int .i64 ((j : Int) + 1) ∧ (j : Int) ≤ S ∧ gg = S.toNat - j ∧ Hid (MoreIn w wr S (.slice ad l.length cap) H ga (fun i => R l a0 n i) g (fun i => if i = k + 1 then part l a0 n ((k : Int) + 1) j else decide (1 ≤ i ∧ i ≤ k) && R l a0 (n + 1) i)))
                  case atStart => exact ⟨0, rfl, by omega, rfl, hP0⟩
                  case round =>
                    obtain ⟨j, rfl, hj, rfl, hP⟩ := hrel
                    clear hP0
                    have p0 := hP.out.fi.bx.c0
                    have p1 := hP.out.fi.bx.c1
                    have p2 := hP.out.fi.bx.c2
                    by_cases hlt4 : (j : Int) < S
                    · have j9 : j + 1 < 9 := by omega
                      have j9' : (j : Int) + 1 < 9 := by omega
                      have j9'' : (j : Int) + 1 ≤ S := by omega
                      have q1 : wr.cell? ⟨ga, j + 1, none⟩ = some (.bool (R l a0 n ((j : Int) + 1))) := hP.out.fi.at'.cell (i := j + 1) j9
                      have hps := part_succ l a0 n ((k : Int) + 1) j
                      cases hR : R l a0 n ((j : Int) + 1)
                      · rw [hR] at q1 hps
                        rw [Bool.false_and, Bool.or_false] at hps
                        have hP1 : Hid (MoreIn w wr S (.slice ad l.length cap) H ga (fun i => R l a0 n i) g (fun i => if i = k + 1 then part l a0 n ((k : Int) + 1) (j + 1) else decide (1 ≤ i ∧ i ≤ k) && R l a0 (n + 1) i)) := hP.out.congr fun i _ => by rw [hps]
                        clear hps hR
                        go_wp2
                        go_roundg (S.toNat - (j + 1))
                        case measure => omega
                        case rel => exact ⟨j + 1, by go_num, by omega, rfl, hP1⟩
                      · rw [hR] at q1 hps
                        rw [Bool.true_and] at hps
                        have hED := fun W hW => redge_any S H ((j : Int) + 1) ((k : Int) + 1) (.slice ad l.length cap) l W hW
                        cases hc : l.contains ((j : Int) + 1, (k : Int) + 1)
                        · rw [hc] at hps hED
                          rw [Bool.or_false] at hps
                          have hP1 : Hid (MoreIn w wr S (.slice ad l.length cap) H ga (fun i => R l a0 n i) g (fun i => if i = k + 1 then part l a0 n ((k : Int) + 1) (j + 1) else decide (1 ≤ i ∧ i ≤ k) && R l a0 (n + 1) i)) := hP.out.congr fun i _ => by rw [hps]
                          clear hps hR hc
                          go_wp2_with (go_at_call 25; refine (hED _ (hP1.out.fi.bx.row HR.out)).mono ?_; rintro e w8 ⟨rfl, b8⟩; have hP2 : Hid (MoreIn w w8 S (.slice ad l.length cap) H ga (fun i => R l a0 n i) g (fun i => if i = k + 1 then part l a0 n ((k : Int) + 1) (j + 1) else decide (1 ≤ i ∧ i ≤ k) && R l a0 (n + 1) i)) := hP1.out.next b8; clear b8)
                          go_roundg (S.toNat - (j + 1))
                          case measure => omega
                          case rel => exact ⟨j + 1, by go_num, by omega, rfl, hP2⟩
                        · rw [hc] at hps hED
                          rw [Bool.or_true] at hps
                          clear hR hc
                          have HPS : Hid (part l a0 n ((k : Int) + 1) (j + 1) = true) := hps
                          clear hps
                          go_wp2_with (go_at_call 25; refine (hED _ (hP.out.fi.bx.row HR.out)).mono ?_; rintro e w8 ⟨rfl, b8⟩; have hP2 : Hid (MoreIn w w8 S (.slice ad l.length cap) H ga (fun i => R l a0 n i) g (fun i => if i = k + 1 then part l a0 n ((k : Int) + 1) j else decide (1 ≤ i ∧ i ≤ k) && R l a0 (n + 1) i)) := hP.out.next b8; have hP3 : Hid (MoreIn w (w8.setCell ⟨g, k + 1, none⟩ (.bool true)) S (.slice ad l.length cap) H ga (fun i => R l a0 n i) g (fun i => if i = k + 1 then part l a0 n ((k : Int) + 1) (j + 1) else decide (1 ≤ i ∧ i ≤ k) && R l a0 (n + 1) i)) := (hP2.out.put (k + 1) true _ fun i _ => by (by_cases hi : i = k + 1 <;> simp [hi, HPS.out])); have u1 := hP2.out.mo.cell (i := k + 1) k9; have u2 := hP2.out.mo.free (k + 1); clear b8)
                          go_roundg (S.toNat - (j + 1))
                          case measure => omega
                          case rel => exact ⟨j + 1, by go_num, by omega, rfl, hP3⟩
                    · obtain rfl : j = S.toNat := by omega
                      have hP1 : Hid (MoreIn w wr S (.slice ad l.length cap) H ga (fun i => R l a0 n i) g (fun i => decide (1 ≤ i ∧ i ≤ k + 1) && R l a0 (n + 1) i)) := hP.out.congr fun i _ => by
                        rw [part_all HG.out.2.1]
                        by_cases hi : i = k + 1
                        · subst hi
                          rw [if_pos rfl, decide_eq_true (by omega), Bool.true_and]; rfl
                        · rw [if_neg hi]
                          congr 1
                          rw [decide_eq_decide]; omega
                      go_wp2
                      go_roundg (S.toNat - (k + 1))
                      case measure => omega
                      case rel => exact ⟨k + 1, by go_num, by omega, rfl, hP1⟩
                · have hkS : ¬ (k : Int) + 1 ≤ S := by omega
                  have hM2 : Hid (MoreIn w wr S (.slice ad l.length cap) H ga (fun i => R l a0 n i) g (fun i => R l a0 (n + 1) i)) := hM.out.congr fun i _ => by
                    cases hRi : R l a0 (n + 1) i
                    · rw [Bool.and_false]
                    · have := R_site HG.out.2.1 HA.out _ _ hRi
                      rw [decide_eq_true (by omega)]; rfl
                  have hcp : Hid (FarIn w (((((((((wr.setCell ⟨ga, 0, none⟩ (.bool (R l a0 (n + 1) 0))).setCell ⟨ga, 1, none⟩ (.bool (R l a0 (n + 1) 1))).setCell ⟨ga, 2, none⟩ (.bool (R l a0 (n + 1) 2))).setCell ⟨ga, 3, none⟩ (.bool (R l a0 (n + 1) 3))).setCell ⟨ga, 4, none⟩ (.bool (R l a0 (n + 1) 4))).setCell ⟨ga, 5, none⟩ (.bool (R l a0 (n + 1) 5))).setCell ⟨ga, 6, none⟩ (.bool (R l a0 (n + 1) 6))).setCell ⟨ga, 7, none⟩ (.bool (R l a0 (n + 1) 7))).setCell ⟨ga, 8, none⟩ (.bool (R l a0 (n + 1) 8))) S (.slice ad l.length cap) H ga (fun i => R l a0 (n + 1) i)) := hM2.out.copy
                  have m0 : wr.cell? ⟨g, 0, none⟩ = some (.bool (R l a0 (n + 1) 0)) := hM2.out.mo.cell (by omega)
                  have n0 : wr.cell? ⟨ga, 0, none⟩ = some (.bool (R l a0 n 0)) := hM2.out.fi.at'.cell (by omega)
                  have o0 : wr.frozen? ⟨ga, 0, none⟩ = false := hM2.out.fi.at'.free 0
                  have m1 : wr.cell? ⟨g, 1, none⟩ = some (.bool (R l a0 (n + 1) 1)) := hM2.out.mo.cell (by omega)
                  have n1 : wr.cell? ⟨ga, 1, none⟩ = some (.bool (R l a0 n 1)) := hM2.out.fi.at'.cell (by omega)
                  have o1 : wr.frozen? ⟨ga, 1, none⟩ = false := hM2.out.fi.at'.free 1
                  have m2 : wr.cell? ⟨g, 2, none⟩ = some (.bool (R l a0 (n + 1) 2)) := hM2.out.mo.cell (by omega)
                  have n2 : wr.cell? ⟨ga, 2, none⟩ = some (.bool (R l a0 n 2)) := hM2.out.fi.at'.cell (by omega)
                  have o2 : wr.frozen? ⟨ga, 2, none⟩ = false := hM2.out.fi.at'.free 2
                  have m3 : wr.cell? ⟨g, 3, none⟩ = some (.bool (R l a0 (n + 1) 3)) := hM2.out.mo.cell (by omega)
                  have n3 : wr.cell? ⟨ga, 3, none⟩ = some (.bool (R l a0 n 3)) := hM2.out.fi.at'.cell (by omega)
                  have o3 : wr.frozen? ⟨ga, 3, none⟩ = false := hM2.out.fi.at'.free 3
                  have m4 : wr.cell? ⟨g, 4, none⟩ = some (.bool (R l a0 (n + 1) 4)) := hM2.out.mo.cell (by omega)
                  have n4 : wr.cell? ⟨ga, 4, none⟩ = some (.bool (R l a0 n 4)) := hM2.out.fi.at'.cell (by omega)
                  have o4 : wr.frozen? ⟨ga, 4, none⟩ = false := hM2.out.fi.at'.free 4
                  have m5 : wr.cell? ⟨g, 5, none⟩ = some (.bool (R l a0 (n + 1) 5)) := hM2.out.mo.cell (by omega)
                  have n5 : wr.cell? ⟨ga, 5, none⟩ = some (.bool (R l a0 n 5)) := hM2.out.fi.at'.cell (by omega)
                  have o5 : wr.frozen? ⟨ga, 5, none⟩ = false := hM2.out.fi.at'.free 5
                  have m6 : wr.cell? ⟨g, 6, none⟩ = some (.bool (R l a0 (n + 1) 6)) := hM2.out.mo.cell (by omega)
                  have n6 : wr.cell? ⟨ga, 6, none⟩ = some (.bool (R l a0 n 6)) := hM2.out.fi.at'.cell (by omega)
                  have o6 : wr.frozen? ⟨ga, 6, none⟩ = false := hM2.out.fi.at'.free 6
                  have m7 : wr.cell? ⟨g, 7, none⟩ = some (.bool (R l a0 (n + 1) 7)) := hM2.out.mo.cell (by omega)
                  have n7 : wr.cell? ⟨ga, 7, none⟩ = some (.bool (R l a0 n 7)) := hM2.out.fi.at'.cell (by omega)
                  have o7 : wr.frozen? ⟨ga, 7, none⟩ = false := hM2.out.fi.at'.free 7
                  have m8 : wr.cell? ⟨g, 8, none⟩ = some (.bool (R l a0 (n + 1) 8)) := hM2.out.mo.cell (by omega)
                  have n8 : wr.cell? ⟨ga, 8, none⟩ = some (.bool (R l a0 n 8)) := hM2.out.fi.at'.cell (by omega)
                  have o8 : wr.frozen? ⟨ga, 8, none⟩ = false := hM2.out.fi.at'.free 8
                  generalize hwc : (((((((((wr.setCell ⟨ga, 0, none⟩ (.bool (R l a0 (n + 1) 0))).setCell ⟨ga, 1, none⟩ (.bool (R l a0 (n + 1) 1))).setCell ⟨ga, 2, none⟩ (.bool (R l a0 (n + 1) 2))).setCell ⟨ga, 3, none⟩ (.bool (R l a0 (n + 1) 3))).setCell ⟨ga, 4, none⟩ (.bool (R l a0 (n + 1) 4))).setCell ⟨ga, 5, none⟩ (.bool (R l a0 (n + 1) 5))).setCell ⟨ga, 6, none⟩ (.bool (R l a0 (n + 1) 6))).setCell ⟨ga, 7, none⟩ (.bool (R l a0 (n + 1) 7))).setCell ⟨ga, 8, none⟩ (.bool (R l a0 (n + 1) 8))) = wc at hcp
                  clear hM hM2
                  go_wp2
                  go_roundg (S.toNat - (n + 1))
                  case measure => omega
                  case rel => exact ⟨n + 1, by go_num, by omega, rfl, hcp, hno2⟩
            · rw [hR] at q0
              go_wp2
              go_ret
              exact ⟨ret_int (by rw [hf.out, far_is s8 HG.out.2.1 HA.out hR hno.out]), hF.out.bx.bel⟩
          · obtain rfl : n = S.toNat := by omega
            go_wp2
            go_ret
            exact ⟨ret_int (by rw [hf.out, far_not HG.out.2.1 HA.out hno.out]), hF.out.bx.bel⟩
      · have hf : Hid (farT S l H a x = -1) := by show farT S l H a x = _; rw [farT, if_neg (fun h => hx h.2.2)]
        go_enter Try.func15, Try.ntmps15
        go_wp2_with (first
          | (go_at_call 10; refine (hG0 _ (hB0.out.row HR.out)).mono ?_; rintro e w2 ⟨rfl, b2⟩; have hB1 : Hid (Boxed w w2 S (.slice ad l.length cap) H) := hB0.out.next b2 hB0.out.lt; have p0 := hB1.out.c0; have p1 := hB1.out.c1; have p2 := hB1.out.c2; clear b2)
          | (go_at_call 23; refine (site_yes _ _ _ _ _ _ (by assumption) _).mono ?_; rintro e w3 ⟨rfl, g3⟩; have hB2 : Hid (Boxed w w3 S (.slice ad l.length cap) H) := hB1.out.next (Grew.below g3 (Nat.le_refl _)) hB1.out.lt; clear p0 p1 p2 g3; have p0 := hB2.out.c0; have p1 := hB2.out.c1; have p2 := hB2.out.c2)
          | (go_at_call 23; refine (site_no _ _ _ _ _ _ (by assumption) _).mono ?_; rintro e w4 ⟨rfl, g4⟩; have hB3 : Hid (Boxed w w4 S (.slice ad l.length cap) H) := hB2.out.next (Grew.below g4 (Nat.le_refl _)) hB2.out.lt; clear p0 p1 p2 g4))
        go_ret
        exact ⟨ret_int hf.out.symm, hB3.out.bel⟩
    · have hf : Hid (farT S l H a x = -1) := by show farT S l H a x = _; rw [farT, if_neg (fun h => ha h.2.1)]
      go_enter Try.func15, Try.ntmps15
      go_wp2_with (first
        | (go_at_call 10; refine (hG0 _ (hB0.out.row HR.out)).mono ?_; rintro e w2 ⟨rfl, b2⟩; have hB1 : Hid (Boxed w w2 S (.slice ad l.length cap) H) := hB0.out.next b2 hB0.out.lt; have p0 := hB1.out.c0; have p1 := hB1.out.c1; have p2 := hB1.out.c2; clear b2)
        | (go_at_call 23; refine (site_no _ _ _ _ _ _ (by assumption) _).mono ?_; rintro e w3 ⟨rfl, g3⟩; have hB2 : Hid (Boxed w w3 S (.slice ad l.length cap) H) := hB1.out.next (Grew.below g3 (Nat.le_refl _)) hB1.out.lt; clear p0 p1 p2 g3))
      go_ret
      exact ⟨ret_int hf.out.symm, hB2.out.bel⟩
  · rw [goodB_false hg] at hG0
    have hf : Hid (farT S l H a x = -1) := by show farT S l H a x = _; rw [farT, if_neg (fun h => hg h.1)]
    go_enter Try.func15, Try.ntmps15
    go_wp2_with (go_at_call 10; refine (hG0 _ (hB0.out.row HR.out)).mono ?_; rintro e w2 ⟨rfl, b2⟩; have hB1 : Hid (Boxed w w2 S (.slice ad l.length cap) H) := hB0.out.next b2 hB0.out.lt; clear b2)
    go_ret
    exact ⟨ret_int hf.out.symm, hB1.out.bel⟩
end Go.Proofs.Ytcfagojkeholmaa
