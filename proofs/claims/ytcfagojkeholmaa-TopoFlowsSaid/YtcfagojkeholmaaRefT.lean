/-
  THE DOCUMENT's Good and edge, by their contracts.
-/
import Derived.Test.YtcfagojkeholmaaLives10
import Derived.Laws.StructEq
namespace Go.Proofs.Ytcfagojkeholmaa
open Go.RowKit Go.Sort Go.Shelf

theorem eqlEd (a b c d : Int) (w : World) : (binOp .eql 39 (.agg #[.int .i64 a, .int .i64 b]) (.agg #[.int .i64 c, .int .i64 d])).run Try.prog w = .ok (.bool (decide ((a, b) = (c, d)))) w := by
  have u3 := Try.underlying3
  have a3 := Try.isAgg3
  have z3 := Try.sizeOf3
  have hS : Try.prog.underlying 39 = some (.struct (Try.prog.fieldsOf 39)) := by kernel_rfl
  have hp : Try.prog.stoodInHeld 39 = false := by kernel_rfl
  rw [run_eql_struct, show (10000 : Nat) = 9999 + 1 from rfl, run_equalIn_agg w 9999 39 _ _ hS hp]
  simp only [Program.fieldsOf, Try.underlying39]
  go_simp
  by_cases h1 : a = c <;> by_cases h2 : b = d <;> simp [h1, h2]
theorem eqGuardEd : Try.prog.eqGuardType Try.prog.depth 39 = false := by kernel_rfl

set_option maxRecDepth 20000 in
set_option maxHeartbeats 1000000 in
theorem redge_any (S H a x : Int) (v : Value) (l : List (Int × Int)) (w : World) (hr : RowOf ecells w v l) :
    Calls Try.prog 25 #[tv S v H, .int .i64 a, .int .i64 x] w fun e w' => e = .returned (.bool (l.contains (a, x))) ∧ Below w.heap.size w w' := by
  obtain ⟨ad, cap, rfl⟩ := hr.slice
  obtain ⟨_, hl, hA⟩ := hr.eds
  have l63 : l.length ≤ 9223372036854775807 := by unfold maxLen at hl; omega
  have hB0 : Hid (Boxed w (w.alloc (.cells #[.int .i64 S, .slice ad l.length cap, .int .i64 H] 24)) S (.slice ad l.length cap) H) := boxed_new _ _ _ _
  clear hr hl
  go_enter Try.func25, Try.ntmps25
  go_wp2
  go_loopw [8, 12] (fun u8 u12 wr => ∃ k : Nat, u12 = .int .i64 k ∧ k ≤ l.length ∧ Hid (∀ i (hi : i < l.length), i < k → l[i] ≠ (a, x)) ∧ Hid (Boxed w wr S (.slice ad l.length cap) H)) (fun u8 u12 wr => l.length - (intOf u12).toNat)
  case atStart => exact ⟨0, rfl, Nat.zero_le _, (fun i _ h => absurd h (Nat.not_lt_zero _)), hB0⟩
  case round =>
    obtain ⟨k, rfl, hk, hno, hB⟩ := hrel
    by_cases hlt2 : k < l.length
    · have hlt : (k : Int) < (l.length : Int) := by omega
      obtain ⟨b, off, rfl, hi⟩ := hA k hlt2
      obtain ⟨e0, e1⟩ := hi.below hB.out.bel (Nat.le_refl _)
      have hyes : Hid (l[k] = (a, x) → l.contains (a, x) = true) := fun h => by rw [List.contains_iff_mem, ← h]; exact List.getElem_mem hlt2
      have hstep : Hid (l[k] ≠ (a, x) → ∀ i (hi : i < l.length), i < k + 1 → l[i] ≠ (a, x)) := fun h i hi hik => by
        rcases Nat.lt_or_ge i k with h' | h'
        · exact hno.out i hi h'
        · obtain rfl : i = k := by omega
          exact h
      have hbq : Hid (Boxed w (wr.alloc (.cells #[.int .i64 l[k].1, .int .i64 l[k].2] 39)) S (.slice (some ⟨b, off, none⟩) l.length cap) H) := hB.out.next ((Below.refl _ _).alloc (Nat.le_refl _) _) hB.out.lt
      clear hA hi hB0
      generalize l[k] = y at *
      obtain ⟨y1, y2⟩ := y
      by_cases h1 : y1 = a
      · by_cases h2 : y2 = x
        · subst h1 h2
          go_wp2
          go_ret
          have hy := hyes.out (by first | rfl | trivial)
          exact ⟨ret_bool (by first | exact hy.symm | (rw [List.contains_eq_mem] at hy; exact hy.symm)), hbq.out.bel⟩
        · subst h1
          go_wp2
          exact ⟨⟨k + 1, by go_num, by omega, hstep.out (fun h => h2 (Prod.mk.inj h).2), hbq⟩, by simp [intOf]; omega⟩
      · go_wp2
        exact ⟨⟨k + 1, by go_num, by omega, hstep.out (fun h => h1 (Prod.mk.inj h).1), hbq⟩, by simp [intOf]; omega⟩
    · obtain rfl : k = l.length := by omega
      go_wp2
      go_ret
      refine ⟨ret_bool ?_, hB.out.bel⟩
      symm
      rw [Bool.eq_false_iff, ne_eq, List.contains_iff_mem]
      intro hm
      obtain ⟨i, hi, he⟩ := List.getElem_of_mem hm
      exact hno.out i hi hi he

theorem site_yes (S H n : Int) (a : Option Addr) (l c : Nat) (h : 1 ≤ n ∧ n ≤ S) (w : World) : Calls Try.prog 23 #[tv S (.slice a l c) H, .int .i64 n] w fun e w' => e = .returned (.bool true) ∧ Grew w w' := by
  have := site_any S H n a l c w
  rw [decide_eq_true h] at this; exact this
theorem site_no (S H n : Int) (a : Option Addr) (l c : Nat) (h : ¬ (1 ≤ n ∧ n ≤ S)) (w : World) : Calls Try.prog 23 #[tv S (.slice a l c) H, .int .i64 n] w fun e w' => e = .returned (.bool false) ∧ Grew w w' := by
  have := site_any S H n a l c w
  rw [decide_eq_false h] at this; exact this
/-- An edge in a box of its own, beside the topology's. -/
structure BoxE (w wr : World) (S : Int) (v : Value) (H : Int) (g : Nat) (y : Int × Int) : Prop where
  bx : Boxed w wr S v H
  ed : EdAt wr g 0 y
theorem BoxE.next {w wr wq : World} {S H : Int} {v : Value} {g : Nat} {y : Int × Int} (h : BoxE w wr S v H g y) (hb : Below wr.heap.size wr wq) : BoxE w wq S v H g y :=
  ⟨h.bx.next hb h.bx.lt, h.ed.below hb (Nat.le_refl _)⟩
theorem BoxE.e0 {w wr : World} {S H : Int} {v : Value} {g : Nat} {y1 y2 : Int} (h : BoxE w wr S v H g (y1, y2)) : wr.cell? ⟨g, 0, none⟩ = some (.int .i64 y1) := h.ed.c0
theorem BoxE.e1 {w wr : World} {S H : Int} {v : Value} {g : Nat} {y1 y2 : Int} (h : BoxE w wr S v H g (y1, y2)) : wr.cell? ⟨g, 1, none⟩ = some (.int .i64 y2) := by simpa using h.ed.c1

set_option maxRecDepth 20000 in
set_option maxHeartbeats 2000000 in
theorem rgood_any (S H : Int) (v : Value) (l : List (Int × Int)) (w : World) (hr : RowOf ecells w v l) :
    Calls Try.prog 10 #[tv S v H] w fun e w' => e = .returned (.bool (goodB S l H)) ∧ Below w.heap.size w w' := by
  obtain ⟨ad, cap, rfl⟩ := hr.slice
  have hr' := hr
  obtain ⟨_, hl, hA⟩ := hr.eds
  have l63 : l.length ≤ 9223372036854775807 := by unfold maxLen at hl; omega
  have hB0 : Hid (Boxed w (w.alloc (.cells #[.int .i64 S, .slice ad l.length cap, .int .i64 H] 24)) S (.slice ad l.length cap) H) := boxed_new _ _ _ _
  have HA : Hid (∀ i (hi : i < l.length), ∃ b off, ad = some ⟨b, off, none⟩ ∧ EdAt w b (off + i * 2) l[i]) := hA
  have hcap : l.length ≤ cap := by
    rcases hr' with ⟨hv, rfl⟩ | ⟨_, _, hv, h1, _, _⟩
    · exact Nat.zero_le _
    · injection hv with _ _ h3; omega
  clear hr hl hr' hA
  by_cases hS : (1 ≤ S ∧ S ≤ 8 ∧ 0 ≤ H ∧ H ≤ 8) ∧ l.length ≤ 64
  · obtain ⟨⟨s1, s2, s3, s4⟩, s5⟩ := hS
    have hfl : Hid (¬ GoodT S l H → goodB S l H = false) := goodB_false
    go_enter Try.func10, Try.ntmps10
    go_wp2
    go_loopg [3, 4, 6, 34] l.length (fun g u3 u4 u6 u34 wr => ∃ k : Nat, u34 = .int .i64 k ∧ k ≤ l.length ∧ g = l.length - k ∧ Hid (Boxed w wr S (.slice ad l.length cap) H) ∧ Hid ((∀ e ∈ l.take k, EdgeOk S e) ∧ (l.take k).Nodup))
    case atStart => exact ⟨0, rfl, Nat.zero_le _, rfl, hB0, (fun e he => by simp at he), by simp⟩
    case round =>
      obtain ⟨k, rfl, hk, rfl, hB, hpre⟩ := hrel
      clear hB0
      by_cases hlt2 : k < l.length
      · have hlt : (k : Int) < (l.length : Int) := by omega
        obtain ⟨b, off, rfl, hi⟩ := HA.out k hlt2
        obtain ⟨e0, e1⟩ := hi.below hB.out.bel (Nat.le_refl _)
        have hx : Hid (l.take (k + 1) = l.take k ++ [l[k]]) := List.take_succ_eq_append_getElem hlt2
        have hmem : Hid (l[k] ∈ l) := List.getElem_mem hlt2
        have hbad : Hid (l[k] ∈ l.take k → ¬ GoodT S l H) := fun hm hg => by
          have := hg.2.2
          rw [← List.take_append_drop k l, List.drop_eq_getElem_cons hlt2, List.nodup_append] at this
          exact this.2.2 _ hm l[k] List.mem_cons_self rfl
        have hget : Hid (∀ j (hj : j < k), (l[j]'(by omega) ∈ l.take k)) := fun j hj => by
          rw [List.mem_take_iff_getElem]; exact ⟨j, by omega, rfl⟩
        have hgot : Hid (∀ y, y ∈ l.take k → ∃ j, ∃ hj : j < k, l[j]'(by omega) = y) := fun y hy => by
          rw [List.mem_take_iff_getElem] at hy
          obtain ⟨j, hj, he⟩ := hy
          exact ⟨j, by omega, he⟩
        generalize hwq : wr.alloc (.cells #[.int .i64 l[k].1, .int .i64 l[k].2] 39) = wq
        have hE : Hid (BoxE w wq S (.slice (some ⟨b, off, none⟩) l.length cap) H wr.heap.size l[k]) := ⟨hB.out.next (by rw [← hwq]; exact (Below.refl _ _).alloc (Nat.le_refl _) _) hB.out.lt, by rw [← hwq, World.cell?_alloc_at _ _ _ _ rfl]; rfl, by rw [← hwq, World.cell?_alloc_at _ _ _ _ rfl]; rfl⟩
        clear hi
        have HL : Hid (∀ i (hi : i < l.length), EdAt w b (off + i * 2) l[i]) := fun i hi => by
          obtain ⟨b', off', he, h⟩ := HA.out i hi
          injection he with he
          injection he with h1 h2
          rw [h1, h2]; exact h
        clear HA
        generalize l[k] = y at *
        obtain ⟨y1, y2⟩ := y
        dsimp only at e0 e1 hwq
        have q0 := hE.out.e0
        have q1 := hE.out.e1
        have p0 := hE.out.bx.c0
        have p1 := hE.out.bx.c1
        have p2 := hE.out.bx.c2
        by_cases a1 : 1 ≤ y1 ∧ y1 ≤ S
        · by_cases a2 : 1 ≤ y2 ∧ y2 ≤ S
          · by_cases a3 : y1 = y2
            · have a4 : (y1 == y2) = true := by simpa using a3
              have HA3 : Hid (y1 = y2) := a3
              clear a3
              go_wp2_with (first
                | (go_at_call 23; refine (site_yes _ _ _ _ _ _ (by assumption) _).mono ?_; rintro e w2 ⟨rfl, g2⟩; have hE2 : Hid (BoxE w w2 S (.slice (some ⟨b, off, none⟩) l.length cap) H wr.heap.size (y1, y2)) := hE.out.next (Grew.below g2 (Nat.le_refl _)); clear q0 q1 p0 p1 p2 g2; have q0 := hE2.out.e0; have q1 := hE2.out.e1; have p0 := hE2.out.bx.c0; have p1 := hE2.out.bx.c1; have p2 := hE2.out.bx.c2)
                | (go_at_call 23; refine (site_yes _ _ _ _ _ _ (by assumption) _).mono ?_; rintro e w3 ⟨rfl, g3⟩; have hE3 : Hid (BoxE w w3 S (.slice (some ⟨b, off, none⟩) l.length cap) H wr.heap.size (y1, y2)) := hE2.out.next (Grew.below g3 (Nat.le_refl _)); clear q0 q1 p0 p1 p2 g3; have q0 := hE3.out.e0; have q1 := hE3.out.e1; have p0 := hE3.out.bx.c0; have p1 := hE3.out.bx.c1; have p2 := hE3.out.bx.c2))
              go_ret
              exact ⟨ret_bool (hfl.out fun hg => (hg.2.1 _ hmem.out).2.2 HA3.out).symm, hE3.out.bx.bel⟩
            · have a4 : (y1 == y2) = false := by simpa using a3
              go_wp2_with (first
                | (go_at_call 23; refine (site_yes _ _ _ _ _ _ (by assumption) _).mono ?_; rintro e w2 ⟨rfl, g2⟩; have hE2 : Hid (BoxE w w2 S (.slice (some ⟨b, off, none⟩) l.length cap) H wr.heap.size (y1, y2)) := hE.out.next (Grew.below g2 (Nat.le_refl _)); clear q0 q1 p0 p1 p2 g2; have q0 := hE2.out.e0; have q1 := hE2.out.e1; have p0 := hE2.out.bx.c0; have p1 := hE2.out.bx.c1; have p2 := hE2.out.bx.c2)
                | (go_at_call 23; refine (site_yes _ _ _ _ _ _ (by assumption) _).mono ?_; rintro e w3 ⟨rfl, g3⟩; have hE3 : Hid (BoxE w w3 S (.slice (some ⟨b, off, none⟩) l.length cap) H wr.heap.size (y1, y2)) := hE2.out.next (Grew.below g3 (Nat.le_refl _)); clear q0 q1 p0 p1 p2 g3; have q0 := hE3.out.e0; have q1 := hE3.out.e1; have p0 := hE3.out.bx.c0; have p1 := hE3.out.bx.c1; have p2 := hE3.out.bx.c2))
              clear q0 q1 p0 p1 p2 hE hE2 hwq e0 e1 hB
              generalize wr.heap.size = G at *
              go_loopg [6, 63] k (fun g u6 u63 wz => ∃ j : Nat, u63 = .int .i64 j ∧ j ≤ k ∧ g = k - j ∧ Hid (BoxE w wz S (.slice (some ⟨b, off, none⟩) l.length cap) H G (y1, y2)) ∧ Hid (∀ i (hi : i < l.length), i < j → l[i] ≠ (y1, y2)))
              case atStart => exact ⟨0, rfl, Nat.zero_le _, rfl, hE3, fun i _ h => absurd h (Nat.not_lt_zero _)⟩
              case round =>
                obtain ⟨j, rfl, hj, rfl, hE4, hno⟩ := hrel
                clear hE3
                by_cases hlt5 : j < k
                · have hlt6 : (j : Int) < (k : Int) := by omega
                  have hjl : j < l.length := by omega
                  obtain ⟨x0, x1⟩ := (HL.out j hjl).below hE4.out.bx.bel (Nat.le_refl _)
                  have hin : Hid (l[j] ∈ l.take k) := hget.out j hlt5
                  have hstep : Hid (l[j] ≠ (y1, y2) → ∀ i (hi : i < l.length), i < j + 1 → l[i] ≠ (y1, y2)) := fun h i hi hik => by
                    rcases Nat.lt_or_ge i j with h' | h'
                    · exact hno.out i hi h'
                    · obtain rfl : i = j := by omega
                      exact h
                  generalize l[j] = x at *
                  obtain ⟨z1, z2⟩ := x
                  dsimp only at x0 x1
                  generalize hwz : wr.alloc (.cells #[.int .i64 z1, .int .i64 z2] 39) = wy
                  have hE5 : Hid (BoxE w wy S (.slice (some ⟨b, off, none⟩) l.length cap) H G (y1, y2)) := hE4.out.next (by rw [← hwz]; exact (Below.refl _ _).alloc (Nat.le_refl _) _)
                  have q0 := hE5.out.e0
                  have q1 := hE5.out.e1
                  have z0' : wy.cell? ⟨wr.heap.size, 0, none⟩ = some (.int .i64 z1) := by rw [← hwz, World.cell?_alloc_at _ _ _ _ rfl]; rfl
                  have z1' : wy.cell? ⟨wr.heap.size, 1, none⟩ = some (.int .i64 z2) := by rw [← hwz, World.cell?_alloc_at _ _ _ _ rfl]; rfl
                  have hq := eqlEd z1 z2 y1 y2
                  have hqg := eqGuardEd
                  by_cases hxy : (z1, z2) = (y1, y2)
                  · rw [decide_eq_true hxy] at hq
                    have hng : Hid (¬ GoodT S l H) := hbad.out (by rw [← hxy]; exact hin.out)
                    clear hxy
                    go_wp2
                    go_ret
                    exact ⟨ret_bool (hfl.out hng.out).symm, hE5.out.bx.bel⟩
                  · rw [decide_eq_false hxy] at hq
                    have hst := hstep.out hxy
                    have HST : Hid (∀ i (hi : i < l.length), i < j + 1 → l[i] ≠ (y1, y2)) := hst
                    clear hxy hst
                    go_wp2
                    go_roundg (k - (j + 1))
                    case measure => omega
                    case rel => exact ⟨j + 1, by go_num, by omega, rfl, hE5, HST⟩
                · obtain rfl : j = k := by omega
                  go_wp2
                  go_roundg (l.length - (j + 1))
                  case measure => omega
                  case rel =>
                    refine ⟨j + 1, by go_num, by omega, rfl, hE4.out.bx, ?_⟩
                    show (∀ e ∈ l.take (j + 1), EdgeOk S e) ∧ (l.take (j + 1)).Nodup
                    rw [hx.out]
                    refine ⟨fun e he => ?_, ?_⟩
                    · rcases List.mem_append.1 he with he | he
                      · exact hpre.out.1 e he
                      · rw [List.mem_singleton.1 he]; exact ⟨a1, a2, a3⟩
                    · rw [List.nodup_append]
                      refine ⟨hpre.out.2, by simp, fun a ha b hb => ?_⟩
                      rw [List.mem_singleton.1 hb]
                      rintro rfl
                      obtain ⟨i, hi, he⟩ := hgot.out _ ha
                      exact hno.out i (by omega) hi he
          · go_wp2_with (first
              | (go_at_call 23; refine (site_yes _ _ _ _ _ _ (by assumption) _).mono ?_; rintro e w2 ⟨rfl, g2⟩; have hE2 : Hid (BoxE w w2 S (.slice (some ⟨b, off, none⟩) l.length cap) H wr.heap.size (y1, y2)) := hE.out.next (Grew.below g2 (Nat.le_refl _)); clear q0 q1 p0 p1 p2 g2; have q0 := hE2.out.e0; have q1 := hE2.out.e1; have p0 := hE2.out.bx.c0; have p1 := hE2.out.bx.c1; have p2 := hE2.out.bx.c2)
              | (go_at_call 23; refine (site_no _ _ _ _ _ _ (by assumption) _).mono ?_; rintro e w3 ⟨rfl, g3⟩; have hE3 : Hid (BoxE w w3 S (.slice (some ⟨b, off, none⟩) l.length cap) H wr.heap.size (y1, y2)) := hE2.out.next (Grew.below g3 (Nat.le_refl _)); clear q0 q1 p0 p1 p2 g3; have q0 := hE3.out.e0; have q1 := hE3.out.e1; have p0 := hE3.out.bx.c0; have p1 := hE3.out.bx.c1; have p2 := hE3.out.bx.c2))
            go_ret
            exact ⟨ret_bool (hfl.out fun hg => a2 (hg.2.1 _ hmem.out).2.1).symm, hE3.out.bx.bel⟩
        · go_wp2_with (go_at_call 23; refine (site_no _ _ _ _ _ _ (by assumption) _).mono ?_; rintro e w2 ⟨rfl, g2⟩; have hE2 : Hid (BoxE w w2 S (.slice (some ⟨b, off, none⟩) l.length cap) H wr.heap.size (y1, y2)) := hE.out.next (Grew.below g2 (Nat.le_refl _)); clear q0 q1 p0 p1 p2 g2; have q0 := hE2.out.e0; have q1 := hE2.out.e1; have p0 := hE2.out.bx.c0; have p1 := hE2.out.bx.c1; have p2 := hE2.out.bx.c2)
          go_ret
          exact ⟨ret_bool (hfl.out fun hg => a1 (hg.2.1 _ hmem.out).1).symm, hE2.out.bx.bel⟩
      · obtain rfl : k = l.length := by omega
        go_wp2
        go_ret
        exact ⟨ret_bool (goodB_true ⟨⟨s1, s2, s3, s4⟩, by have := hpre.out.1; rwa [List.take_length] at this, by have := hpre.out.2; rwa [List.take_length] at this⟩).symm, hB.out.bel⟩
  · have hfl := goodB_false (S := S) (E := l) (H := H) (fun hg => hS ⟨hg.1, hg.few⟩)
    go_enter Try.func10, Try.ntmps10
    go_wp2
    all_goals first | (exfalso; omega) | skip
    all_goals go_ret
    all_goals exact ⟨by first | rfl | exact ret_bool hfl.symm, (Below.refl _ _).alloc (Nat.le_refl _) _⟩
end Go.Proofs.Ytcfagojkeholmaa
