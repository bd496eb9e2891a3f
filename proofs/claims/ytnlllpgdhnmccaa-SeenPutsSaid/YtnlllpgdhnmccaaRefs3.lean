/-
  THE DOCUMENT's Good, by its contract.
-/
import Derived.Test.YtnlllpgdhnmccaaRefs2
namespace Go.Proofs.Ytnlllpgdhnmccaa
open Go.RowKit

set_option maxHeartbeats 2000000 in
theorem rgood_any (v : Value) (l : List (Nat × Nat)) (w : World) (hr : Rng w v l) (hu : Upto 18446744073709551616 l) (hlen : l.length ≤ 1000000) :
    Calls Try.prog 38 #[v] w fun e w' => e = .returned (.bool (goodB 1 l)) ∧ Below w.heap.size w w' := by
  by_cases hp : 0 < l.length
  · obtain ⟨b, off, cap, rfl, h1, h2, hc⟩ := hr.at hp
    have hC : Hid (∀ j u, (rcells l)[j]? = some u → w.cell? ⟨b, off + j, none⟩ = some u) := hc
    have hb : b < w.heap.size := World.block_lt_of_cell? w _ (at_cells hc 0 hp).1
    have HU : Hid (Upto 18446744073709551616 l) := hu
    clear hc hr hu
    generalize hg : goodB 1 l = G
    have HG : Hid (goodB 1 l = G) := hg
    clear hg
    go_enter Try.func38, Try.ntmps38
    go_wp2
    go_loopw [7] (fun u7 wr => ∃ k : Nat, u7 = .int .i64 k ∧ k ≤ l.length ∧ Hid (Below w.heap.size w wr ∧ ∀ j, j < k → stepB l j)) (fun u7 _ => l.length - (intOf u7).toNat)
    case atStart => exact ⟨0, rfl, Nat.zero_le _, (⟨Below.refl _ _, fun j h => absurd h (Nat.not_lt_zero _)⟩ : _ ∧ _)⟩
    case round =>
      obtain ⟨k, rfl, hk, HB⟩ := hrel
      by_cases hlt : k < l.length
      · obtain ⟨c0, c1⟩ := at_cells hC.out k hlt
        rw [← HB.out.1.cell (p := ⟨b, off + k * 2, none⟩) hb] at c0
        rw [← HB.out.1.cell (p := ⟨b, off + k * 2 + 1, none⟩) hb] at c1
        have hX : b < wr.heap.size := Nat.lt_of_lt_of_le hb HB.out.1.size
        have hst : Hid (1 ≤ l[k].1 ∧ l[k].1 ≤ l[k].2 ∧ (∀ h0 : 0 < k, (l[k - 1]'(by omega)).2 + 1 < l[k].1) → stepB l k) := fun h => ⟨hlt, h⟩
        have hno : Hid (¬ (1 ≤ l[k].1 ∧ l[k].1 ≤ l[k].2 ∧ (∀ h0 : 0 < k, (l[k - 1]'(by omega)).2 + 1 < l[k].1)) → goodB 1 l = false) := fun h => goodB_false hlt fun ⟨_, h'⟩ => h h'
        have hu2 := HU.out l[k] (List.getElem_mem hlt)
        generalize hr1 : l[k].1 = r1 at *
        generalize hr2 : l[k].2 = r2 at *
        clear hr1 hr2
        obtain ⟨wq, hwq⟩ : ∃ wq, wq = wr.alloc (.cells #[.int .u64 (r1 : Int), .int .u64 (r2 : Int)] 76) := ⟨_, rfl⟩
        have e0 : wq.cell? ⟨wr.heap.size, 0, none⟩ = some (.int .u64 (r1 : Int)) := by rw [hwq]; simp [World.cell?_alloc_at]
        have e1 : wq.cell? ⟨wr.heap.size, 1, none⟩ = some (.int .u64 (r2 : Int)) := by rw [hwq]; simp [World.cell?_alloc_at]
        have BQ : Hid (∀ q, Below w.heap.size w (wq.drewN q)) := fun q => by
          have := HB.out.1.alloc HB.out.1.size (.cells #[.int .u64 (r1 : Int), .int .u64 (r2 : Int)] 76)
          rw [← hwq] at this
          exact ⟨this.os, this.tape, this.output, this.size, this.block⟩
        by_cases a1 : r1 < 1
        · have a1' : decide ((r1 : Int) < 1) = true := decide_eq_true (by omega)
          go_wp2
          rw [← hwq]
          clear hwq
          go_quiet (fail)
          go_wp2
          go_ret
          exact ⟨ret_bool (by rw [← HG.out]; exact (hno.out (fun h => by omega)).symm), BQ.out _⟩
        · have a1' : decide ((r1 : Int) < 1) = false := decide_eq_false (by omega)
          by_cases a2 : r2 < r1
          · have a2' : decide ((r2 : Int) < (r1 : Int)) = true := decide_eq_true (by omega)
            go_wp2
            rw [← hwq]
            clear hwq
            go_quiet (fail)
            go_wp2
            go_ret
            exact ⟨ret_bool (by rw [← HG.out]; exact (hno.out (fun h => by omega)).symm), BQ.out _⟩
          · have a2' : decide ((r2 : Int) < (r1 : Int)) = false := decide_eq_false (by omega)
            cases k with
            | zero =>
              rw [Nat.zero_mul, Nat.add_zero] at c0 c1
              go_wp2
              rw [← hwq]
              clear hwq
              go_quiet (fail)
              go_wp2
              refine ⟨⟨1, by go_num, by omega, (⟨BQ.out _, fun j hj => ?_⟩ : _ ∧ _)⟩, by simp [intOf]; omega⟩
              rcases Nat.lt_or_ge j 0 with h | h
              · exact HB.out.2 j h
              · obtain rfl : j = 0 := by omega
                exact hst.out (⟨by omega, by omega, fun h => absurd h (Nat.lt_irrefl 0)⟩)
            | succ k =>
              obtain ⟨_, p1⟩ := at_cells hC.out k (by omega)
              rw [← HB.out.1.cell (p := ⟨b, off + k * 2 + 1, none⟩) hb] at p1
              have hP : Hid ((l[k + 1 - 1]'(by omega)).2 = (l[k]'(by omega)).2) := (rfl : _ = _)
              generalize (l[k]'(by omega)).2 = p2 at p1 hP
              have f1 : wq.cell? ⟨b, off + k * 2 + 1, none⟩ = some (.int .u64 (p2 : Int)) := by rw [hwq, World.cell?_alloc_past _ _ _ hX]; exact p1
              have hw : IntKind.u64.wrap ((r1 : Int) - 1) = (r1 : Int) - 1 := by rw [IntKind.wrap_u64]; omega
              have hk3 : (k : Int) < (l.length : Int) := by omega
              have hpos : decide ((0 : Int) < (k : Int) + 1) = true := decide_eq_true (by omega)
              by_cases a3 : r1 ≤ p2
              · have a3' : decide ((r1 : Int) ≤ (p2 : Int)) = true := decide_eq_true (by omega)
                go_wp2
                rw [← hwq]
                clear hwq
                go_quiet (fail)
                go_wp2
                go_ret
                exact ⟨ret_bool (by rw [← HG.out]; exact (hno.out (fun h => by have := h.2.2 (by omega); rw [hP.out] at this; omega)).symm), BQ.out _⟩
              · have a3' : decide ((r1 : Int) ≤ (p2 : Int)) = false := decide_eq_false (by omega)
                by_cases a4 : r1 - 1 = p2
                · have a4' : (((r1 : Int) - 1) == (p2 : Int)) = true := beq_iff_eq.2 (by omega)
                  go_wp2
                  rw [← hwq]
                  clear hwq
                  go_quiet (fail)
                  go_wp2
                  go_ret
                  exact ⟨ret_bool (by rw [← HG.out]; exact (hno.out (fun h => by have := h.2.2 (by omega); rw [hP.out] at this; omega)).symm), BQ.out _⟩
                · have a4' : (((r1 : Int) - 1) == (p2 : Int)) = false := beq_eq_false_iff_ne.2 (by omega)
                  go_wp2
                  rw [← hwq]
                  clear hwq
                  go_quiet (fail)
                  go_wp2
                  refine ⟨⟨k + 1 + 1, by go_num, by omega, (⟨BQ.out _, fun j hj => ?_⟩ : _ ∧ _)⟩, by simp [intOf]; omega⟩
                  rcases Nat.lt_or_ge j (k + 1) with h | h
                  · exact HB.out.2 j h
                  · obtain rfl : j = (k + 1) := by omega
                    exact hst.out (⟨by omega, by omega, fun _ => by rw [hP.out]; omega⟩)
      · go_wp2
        obtain rfl : k = l.length := by omega
        go_ret
        exact ⟨ret_bool (by rw [← HG.out]; exact (goodB_true HB.out.2).symm), HB.out.1⟩
  · obtain rfl : l = [] := List.eq_nil_of_length_eq_zero (by omega)
    obtain ⟨a, cap, rfl⟩ := hr.slice
    simp only [List.length_nil]
    go_enter Try.func38, Try.ntmps38
    go_wp2
    go_rounds 1
    go_ret
    exact ⟨rfl, Below.refl _ _⟩
end Go.Proofs.Ytnlllpgdhnmccaa
