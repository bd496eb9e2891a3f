/-
  Good, by its contract.
-/
import Derived.Test.YtcfagojkeholmaaEdges
namespace Go.Proofs.Ytcfagojkeholmaa
open Go.RowKit Go.Sort

/-- n cells alike. -/
def blank (n : Nat) (u : Value) : Array Value := ((List.range n).map fun _ => u).toArray
theorem zeroB81 (w : World) : (zeroValue 36).run Try.prog w = .ok (.agg (blank 81 (.bool false))) w := by kernel_rfl
theorem arr_blank (w : World) (n : Nat) (u : Value) (t : TypeId) : Arr (w.alloc (.cells (blank n u) t)) w.heap.size t n (fun _ => u) := heap_alloc_new w _

/-- Which edges were met: an array of arrays. -/
def thereF (L : List (Int × Int)) (c : Nat) : Value := .bool (decide ((((c / 9 : Nat) : Int), ((c % 9 : Nat) : Int)) ∈ L))
/-- In the midst of Good. -/
structure GoodIn (w wr : World) (S H : Int) (v : Value) (L : List (Int × Int)) : Prop where
  bel : Below w.heap.size w wr
  box : wr.heap[w.heap.size]? = some (.cells #[.int .i64 S, v, .int .i64 H] 24 (0, 0))
  arr : Arr wr (w.heap.size + 1) 36 81 (thereF L)
  ok : ∀ e ∈ L, EdgeOk S e
  nd : L.Nodup

theorem GoodIn.next {w wr wq : World} {S H : Int} {v : Value} {L : List (Int × Int)} (h : GoodIn w wr S H v L) (hb : Below wr.heap.size wr wq) : GoodIn w wq S H v L := by
  have h1 := h.arr.lt
  exact ⟨h.bel.trans (hb.mono h.bel.size), by rw [hb.block _ (by omega)]; exact h.box, h.arr.below hb h1, h.ok, h.nd⟩
theorem GoodIn.c0 {w wr : World} {S H : Int} {v : Value} {L : List (Int × Int)} (h : GoodIn w wr S H v L) : wr.cell? ⟨w.heap.size, 0, none⟩ = some (.int .i64 S) := by
  rw [cell_of_row wr w.heap.size 0 _ _ (0, 0) h.box]; rfl
theorem GoodIn.c1 {w wr : World} {S H : Int} {v : Value} {L : List (Int × Int)} (h : GoodIn w wr S H v L) : wr.cell? ⟨w.heap.size, 1, none⟩ = some v := by
  rw [cell_of_row wr w.heap.size 1 _ _ (0, 0) h.box]; rfl
theorem GoodIn.c2 {w wr : World} {S H : Int} {v : Value} {L : List (Int × Int)} (h : GoodIn w wr S H v L) : wr.cell? ⟨w.heap.size, 2, none⟩ = some (.int .i64 H) := by
  rw [cell_of_row wr w.heap.size 2 _ _ (0, 0) h.box]; rfl
theorem GoodIn.at {w wr : World} {S H : Int} {v : Value} {L : List (Int × Int)} (h : GoodIn w wr S H v L) (m n : Nat) (hm : m < 9) (hn : n < 9) : wr.cell? ⟨w.heap.size + 1, m * 9 + n, none⟩ = some (.bool (decide (((m : Int), (n : Int)) ∈ L))) := by
  rw [h.arr.cell (by omega), thereF, show (m * 9 + n) / 9 = m by omega, show (m * 9 + n) % 9 = n by omega]
theorem GoodIn.put {w wr : World} {S H : Int} {v : Value} {L : List (Int × Int)} (h : GoodIn w wr S H v L) (m n : Nat) (hn : n < 9) (hok : EdgeOk S ((m : Int), (n : Int))) (hno : ((m : Int), (n : Int)) ∉ L) :
    GoodIn w (wr.setCell ⟨w.heap.size + 1, m * 9 + n, none⟩ (.bool true)) S H v (L ++ [((m : Int), (n : Int))]) := by
  refine ⟨h.bel.setCell (Nat.le_succ _) _, ?_, ?_, ?_, ?_⟩
  · rw [heap_setCell_other _ _ _ _ (by show w.heap.size ≠ w.heap.size + 1; omega)]; exact h.box
  · refine (h.arr.set (m * 9 + n) (.bool true)).congr fun i hi => ?_
    by_cases hc : i = m * 9 + n
    · rw [if_pos hc, hc, thereF, show (m * 9 + n) / 9 = m by omega, show (m * 9 + n) % 9 = n by omega, decide_eq_true (by simp)]
    · rw [if_neg hc, thereF, thereF]
      congr 1
      rw [decide_eq_decide, List.mem_append, List.mem_singleton, Prod.mk.injEq]
      constructor
      · rintro (h | ⟨h1, h2⟩)
        · exact h
        · omega
      · exact .inl
  · intro e he
    rcases List.mem_append.1 he with he | he
    · exact h.ok e he
    · rw [List.mem_singleton.1 he]; exact hok
  · rw [List.nodup_append]
    refine ⟨h.nd, by simp, fun a ha b hb => ?_⟩
    rw [List.mem_singleton.1 hb]
    rintro rfl
    exact hno ha

set_option maxRecDepth 20000 in
set_option maxHeartbeats 2000000 in
theorem good_any (S H : Int) (v : Value) (l : List (Int × Int)) (w : World) (hr : RowOf ecells w v l) :
    Calls Try.prog 9 #[tv S v H] w fun e w' => e = .returned (.bool (goodB S l H)) ∧ Below w.heap.size w w' := by
  obtain ⟨a, cap, rfl⟩ := hr.slice
  obtain ⟨_, hl, hA⟩ := hr.eds
  have l63 : l.length ≤ 9223372036854775807 := by unfold maxLen at hl; omega
  clear hr hl
  by_cases hS : (1 ≤ S ∧ S ≤ 8 ∧ 0 ≤ H ∧ H ≤ 8)
  · obtain ⟨s1, s2, s3, s4⟩ := hS
    have z81 := zeroB81
    have mixed : Try.prog.follows .mixedOrders = true := by kernel_rfl
    have hG0 : Hid (GoodIn w ((w.alloc (.cells #[.int .i64 S, .slice a l.length cap, .int .i64 H] 24)).alloc (.cells (blank 81 (.bool false)) 36)) S H (.slice a l.length cap) []) := by
      refine ⟨((Below.refl _ _).alloc (Nat.le_refl _) _).alloc (by simp) _, ?_, ?_, (fun e he => by cases he), List.nodup_nil⟩
      · rw [Below.heap_alloc _ _ _ (by simp)]; exact heap_alloc_new w _
      · have := arr_blank (w.alloc (.cells #[.int .i64 S, .slice a l.length cap, .int .i64 H] 24)) 81 (.bool false) 36
        rw [World.size_alloc] at this
        exact this.congr fun i _ => by simp [thereF]
    go_enter Try.func9, Try.ntmps9
    go_wp2
    clear z81
    go_loopw [5, 27] (fun u5 u27 wr => ∃ k : Nat, u27 = .int .i64 k ∧ k ≤ l.length ∧ Hid (GoodIn w wr S H (.slice a l.length cap) (l.take k))) (fun u5 u27 wr => l.length - (intOf u27).toNat)
    case atStart => exact ⟨0, rfl, Nat.zero_le _, by simpa using hG0⟩
    case round =>
      obtain ⟨k, rfl, hk, hG⟩ := hrel
      clear hG0
      by_cases hlt2 : k < l.length
      · have hlt : (k : Int) < (l.length : Int) := by omega
        obtain ⟨b, off, rfl, hi⟩ := hA k hlt2
        obtain ⟨e0, e1⟩ := hi.below hG.out.bel (Nat.le_refl _)
        have hx : Hid (l.take (k + 1) = l.take k ++ [l[k]]) := List.take_succ_eq_append_getElem hlt2
        have hmem : Hid (l[k] ∈ l) := List.getElem_mem hlt2
        have hbad : Hid (l[k] ∈ l.take k → ¬ GoodT S l H) := fun hm hg => by
          have := hg.2.2
          rw [← List.take_append_drop k l, List.drop_eq_getElem_cons hlt2, List.nodup_append] at this
          exact this.2.2 _ hm l[k] List.mem_cons_self rfl
        clear hA hi
        generalize l[k] = x at *
        obtain ⟨x1, x2⟩ := x
        generalize hwq : wr.alloc (.cells #[.int .i64 x1, .int .i64 x2] 39) = wq
        have hG2 : Hid (GoodIn w wq S H (.slice (some ⟨b, off, none⟩) l.length cap) (l.take k)) := hG.out.next (by rw [← hwq]; exact (Below.refl _ _).alloc (Nat.le_refl _) _)
        have p0 : wq.cell? ⟨wr.heap.size, 0, none⟩ = some (.int .i64 x1) := by rw [← hwq, World.cell?_alloc_at _ _ _ _ rfl]; rfl
        have p1 : wq.cell? ⟨wr.heap.size, 1, none⟩ = some (.int .i64 x2) := by rw [← hwq, World.cell?_alloc_at _ _ _ _ rfl]; rfl
        have q0 := fun m os => cell_grown (World.block_lt_of_cell? _ _ p0) p0 m os
        have q1 := fun m os => cell_grown (World.block_lt_of_cell? _ _ p1) p1 m os
        have b0 := fun m os => cell_grown (World.block_lt_of_cell? _ _ hG2.out.c0) hG2.out.c0 m os
        have b1 := fun m os => cell_grown (World.block_lt_of_cell? _ _ hG2.out.c1) hG2.out.c1 m os
        have b2 := fun m os => cell_grown (World.block_lt_of_cell? _ _ hG2.out.c2) hG2.out.c2 m os
        have hfl : Hid (¬ GoodT S l H → ∀ m os, (.returned (.bool false) : Ending) = .returned (.bool (goodB S l H)) ∧ Below w.heap.size w (grow (wq.drewN m) os)) := fun hn m os => ⟨ret_bool (goodB_false hn).symm, hG2.out.bel.trans (below_grown_r _ _ _ _ hG2.out.bel.size)⟩
        have HK1 := fun W => known_any S H x1 (some ⟨b, off, none⟩) l.length cap W
        have HK2 := fun W => known_any S H x2 (some ⟨b, off, none⟩) l.length cap W
        clear p0 p1
        by_cases a1 : 1 ≤ x1 ∧ x1 ≤ S
        · by_cases a2 : 1 ≤ x2 ∧ x2 ≤ S
          · rw [decide_eq_true a1] at HK1
            rw [decide_eq_true a2] at HK2
            by_cases a3 : x1 = x2
            · subst a3
              go_wp2
              clear hwq
              refine wp_region_quiet_grown mixed (by kernel_rfl) ?_
              repeat (first | go_big_quiet_step ((go_at_call 22; first | with_reducible exact Calls.grown_of (HK1 _) | with_reducible exact Calls.grown_of (HK2 _))))
              refine wpQuiet_nil ?_
              intro _ hw'
              obtain ⟨⟨nq, osq⟩, hw''⟩ := hw'
              subst hw''
              go_wp2
              go_ret
              exact hfl.out (fun hg => (hg.2.1 _ hmem.out).2.2 rfl) _ _
            · obtain ⟨m, rfl⟩ : ∃ m : Nat, x1 = m := ⟨x1.toNat, by omega⟩
              obtain ⟨n, rfl⟩ : ∃ n : Nat, x2 = n := ⟨x2.toNat, by omega⟩
              have hm9 : m < 9 := by omega
              have hn9 : n < 9 := by omega
              have hth := hG2.out.at m n hm9 hn9
              have qt := fun m' os => cell_grown (World.block_lt_of_cell? _ _ hth) hth m' os
              have i1 : (m : Int) < 9 := by omega
              have i2 : (n : Int) < 9 := by omega
              have a4 : (((m : Int) == (n : Int)) = false) := by simpa using a3
              clear hth
              by_cases hin : ((m : Int), (n : Int)) ∈ l.take k
              · rw [decide_eq_true hin] at qt
                go_wp2
                clear hwq
                refine wp_region_quiet_grown mixed (by kernel_rfl) ?_
                repeat (first | go_big_quiet_step ((go_at_call 22; first | with_reducible exact Calls.grown_of (HK1 _) | with_reducible exact Calls.grown_of (HK2 _))))
                refine wpQuiet_nil ?_
                intro _ hw'
                obtain ⟨⟨nq, osq⟩, hw''⟩ := hw'
                subst hw''
                go_wp2
                go_ret
                exact hfl.out (hbad.out hin) _ _
              · rw [decide_eq_false hin] at qt
                go_wp2
                clear hwq
                refine wp_region_quiet_grown mixed (by kernel_rfl) ?_
                repeat (first | go_big_quiet_step ((go_at_call 22; first | with_reducible exact Calls.grown_of (HK1 _) | with_reducible exact Calls.grown_of (HK2 _))))
                refine wpQuiet_nil ?_
                intro _ hw'
                obtain ⟨⟨nq, osq⟩, hw''⟩ := hw'
                subst hw''
                go_wp2
                generalize hwz : grow (wq.drewN nq) osq = wz
                have hG3 : Hid (GoodIn w wz S H (.slice (some ⟨b, off, none⟩) l.length cap) (l.take k)) := hG2.out.next (by rw [← hwz]; exact below_grown_r _ _ _ _ (Nat.le_refl _))
                have r0 := q0 nq osq
                have r1 := q1 nq osq
                have rt := qt nq osq
                rw [hwz] at r0 r1 rt
                have rf := hG3.out.arr.free (m * 9 + n)
                clear hwz q0 q1 qt b0 b1 b2 HK1 HK2 hfl hbad hmem e0 e1
                go_region
                go_wp2
                refine ⟨⟨k + 1, by go_num, by omega, ?_⟩, by simp [intOf]; omega⟩
                rw [hx.out]
                exact (hG3.out.put m n hn9 ⟨a1, a2, a3⟩ hin).next (Below.refl _ _).drew
          · rw [decide_eq_true a1] at HK1
            rw [decide_eq_false a2] at HK2
            go_wp2
            clear hwq
            refine wp_region_quiet_grown mixed (by kernel_rfl) ?_
            repeat (first | go_big_quiet_step ((go_at_call 22; first | with_reducible exact Calls.grown_of (HK1 _) | with_reducible exact Calls.grown_of (HK2 _))))
            refine wpQuiet_nil ?_
            intro _ hw'
            obtain ⟨⟨nq, osq⟩, hw''⟩ := hw'
            subst hw''
            go_wp2
            go_ret
            exact hfl.out (fun hg => a2 (hg.2.1 _ hmem.out).2.1) _ _
        · rw [decide_eq_false a1] at HK1
          go_wp2
          clear hwq
          refine wp_region_quiet_grown mixed (by kernel_rfl) ?_
          repeat (first | go_big_quiet_step ((go_at_call 22; first | with_reducible exact Calls.grown_of (HK1 _) | with_reducible exact Calls.grown_of (HK2 _))))
          refine wpQuiet_nil ?_
          intro _ hw'
          obtain ⟨⟨nq, osq⟩, hw''⟩ := hw'
          subst hw''
          go_wp2
          go_ret
          exact hfl.out (fun hg => a1 (hg.2.1 _ hmem.out).1) _ _
      · obtain rfl : k = l.length := by omega
        go_wp2
        go_ret
        exact ⟨ret_bool (goodB_true ⟨⟨s1, s2, s3, s4⟩, by have := hG.out.ok; rwa [List.take_length] at this, by have := hG.out.nd; rwa [List.take_length] at this⟩).symm, hG.out.bel⟩
  · go_enter Try.func9, Try.ntmps9
    go_wp2
    all_goals first | (exfalso; omega) | skip
    all_goals go_ret
    all_goals exact ⟨ret_bool (goodB_false fun hg => hS hg.1).symm, (Below.refl _ _).alloc (Nat.le_refl _) _⟩
end Go.Proofs.Ytcfagojkeholmaa
