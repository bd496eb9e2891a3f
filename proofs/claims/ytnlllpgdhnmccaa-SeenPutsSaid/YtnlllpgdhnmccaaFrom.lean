/-
  PACKAGE span: From, by its contract.
-/
import Derived.Test.YtnlllpgdhnmccaaMelt
import Derived.Test.YtnlllpgdhnmccaaMakes
namespace Go.Proofs.Ytnlllpgdhnmccaa
open Go.RowKit Go.Sort

set_option maxHeartbeats 1000000 in
theorem from_any (v : Value) (l : List (Nat × Nat)) (w : World) (hr : Rng w v l) (hu : Upto 18446744073709551616 l) (hlen : l.length ≤ 1000000) :
    Calls Try.prog 37 #[v] w fun e w' => RowKit.Below w.heap.size w w' ∧ ((goodB 1 l = true ∧ ∃ B v', e = .returned (.tuple #[.pointer (some ⟨B, 0, none⟩), .int .i64 0]) ∧ SetAt w' B v' l ∧ From0 w.heap.size B v') ∨ (goodB 1 l = false ∧ e = .returned (.tuple #[.pointer none, .int .i64 7]))) := by
  obtain ⟨a, cap, rfl⟩ := hr.slice
  have HR : Hid (Rng w (.slice a l.length cap) l) := hr
  have HU : Hid (Upto 18446744073709551616 l) := hu
  have mixed : Try.prog.follows .mixedOrders = true := by kernel_rfl
  clear hr hu
  go_enter Try.func37, Try.ntmps37
  go_wp2
  go_loopw [8] (fun u8 wr => ∃ k : Nat, u8 = .int .i64 k ∧ k ≤ l.length ∧ Hid (RowKit.Below w.heap.size w wr ∧ ∀ j, j < k → stepB l j)) (fun u8 _ => l.length - (intOf u8).toNat)
  case atStart => exact ⟨0, rfl, Nat.zero_le _, (⟨RowKit.Below.refl _ _, fun j h => absurd h (Nat.not_lt_zero _)⟩ : _ ∧ _)⟩
  case round =>
    obtain ⟨k, rfl, hk, HB⟩ := hrel
    by_cases hlt : k < l.length
    · obtain ⟨b, off, cap', hv, h1, h2, hc⟩ := HR.out.at (by omega)
      injection hv with hv1 _ hv3
      subst hv1 hv3
      have hC : Hid (∀ j u, (rcells l)[j]? = some u → w.cell? ⟨b, off + j, none⟩ = some u) := hc
      have hb : b < w.heap.size := World.block_lt_of_cell? w _ (at_cells hc 0 (by omega)).1
      clear hc
      obtain ⟨c0, c1⟩ := at_cells hC.out k hlt
      rw [← HB.out.1.cell (p := ⟨b, off + k * 2, none⟩) hb] at c0
      rw [← HB.out.1.cell (p := ⟨b, off + k * 2 + 1, none⟩) hb] at c1
      have hX : b < wr.heap.size := Nat.lt_of_lt_of_le hb HB.out.1.size
      have hst : Hid (1 ≤ l[k].1 ∧ l[k].1 ≤ l[k].2 ∧ (∀ h0 : 0 < k, (l[k - 1]'(by omega)).2 + 1 < l[k].1) → stepB l k) := fun h => ⟨hlt, h⟩
      have hno : Hid (¬ (1 ≤ l[k].1 ∧ l[k].1 ≤ l[k].2 ∧ (∀ h0 : 0 < k, (l[k - 1]'(by omega)).2 + 1 < l[k].1)) → goodB 1 l = false) := fun h => goodB_false hlt fun ⟨_, h'⟩ => h h'
      have hu2 := HU.out l[k] (List.getElem_mem hlt)
      generalize hr1 : l[k].1 = r1 at *
      generalize hr2 : l[k].2 = r2 at *
      clear hr1 hr2
      obtain ⟨wq, hwq⟩ : ∃ wq, wq = wr.alloc (.cells #[.int .u64 (r1 : Int), .int .u64 (r2 : Int)] 76) := ⟨_, rfl⟩
      have e0 : wq.cell? ⟨wr.heap.size, 0, none⟩ = some (.int .u64 (r1 : Int)) := by rw [hwq]; simp [World.cell?_alloc_at]
      have e1 : wq.cell? ⟨wr.heap.size, 1, none⟩ = some (.int .u64 (r2 : Int)) := by rw [hwq]; simp [World.cell?_alloc_at]
      have q0 := fun n os => cell_grown (World.block_lt_of_cell? _ _ e0) e0 n os
      have q1 := fun n os => cell_grown (World.block_lt_of_cell? _ _ e1) e1 n os
      have BQ : Hid (∀ q os, RowKit.Below w.heap.size w (grow (wq.drewN q) os)) := fun q os => by
        have := HB.out.1.alloc HB.out.1.size (.cells #[.int .u64 (r1 : Int), .int .u64 (r2 : Int)] 76)
        rw [← hwq] at this
        exact this.trans (below_grown_r w.heap.size wq q os this.size)
      have BQ0 : Hid (∀ q, RowKit.Below w.heap.size w (wq.drewN q)) := fun q => by
        have := BQ.out q #[]
        rwa [grow_empty] at this
      by_cases a1 : r1 = 0
      · subst a1
        have hcast : ((0 : Nat) : Int) = 0 := rfl
        rw [hcast] at hwq c0
        rw [hcast] at e0
        clear q0
        clear hcast
        go_wp2
        rw [← hwq]
        clear hwq
        go_quiet (fail)
        go_wp2
        go_ret2
        exact ⟨BQ0.out _, .inr ⟨hno.out (fun h => by omega), rfl⟩⟩
      · have a1' : ((r1 : Int) == 0) = false := beq_eq_false_iff_ne.2 (by omega)
        have a1n : (r1 == 0) = false := beq_eq_false_iff_ne.2 a1
        have a1d : decide (r1 = 0) = false := decide_eq_false a1
        by_cases a2 : r2 < r1
        · have a2' : decide ((r2 : Int) < (r1 : Int)) = true := decide_eq_true (by omega)
          go_wp2
          rw [← hwq]
          clear hwq
          go_quiet (fail)
          go_wp2
          go_ret2
          exact ⟨BQ0.out _, .inr ⟨hno.out (fun h => by omega), rfl⟩⟩
        · have a2' : decide ((r2 : Int) < (r1 : Int)) = false := decide_eq_false (by omega)
          cases k with
          | zero =>
            rw [Nat.zero_mul, Nat.add_zero] at c0 c1
            go_wp2
            rw [← hwq]
            clear hwq
            go_quiet (fail)
            go_wp2
            refine ⟨⟨1, by go_num, by omega, (⟨BQ0.out _, fun j hj => ?_⟩ : _ ∧ _)⟩, by simp [intOf]; omega⟩
            obtain rfl : j = 0 := by omega
            exact hst.out ⟨by omega, by omega, fun h => absurd h (Nat.lt_irrefl 0)⟩
          | succ k =>
            obtain ⟨p0, p1⟩ := at_cells hC.out k (by omega)
            rw [← HB.out.1.cell (p := ⟨b, off + k * 2, none⟩) hb] at p0
            rw [← HB.out.1.cell (p := ⟨b, off + k * 2 + 1, none⟩) hb] at p1
            have hP : Hid ((l[k + 1 - 1]'(by omega)).2 = (l[k]'(by omega)).2) := (rfl : _ = _)
            generalize (l[k]'(by omega)).1 = s1 at p0
            generalize (l[k]'(by omega)).2 = s2 at p1 hP
            have f0 : wq.cell? ⟨b, off + k * 2, none⟩ = some (.int .u64 (s1 : Int)) := by rw [hwq, World.cell?_alloc_past _ _ _ hX]; exact p0
            have f1 : wq.cell? ⟨b, off + k * 2 + 1, none⟩ = some (.int .u64 (s2 : Int)) := by rw [hwq, World.cell?_alloc_past _ _ _ hX]; exact p1
            have q2 := fun n os => cell_grown (World.block_lt_of_cell? _ _ f0) f0 n os
            have q3 := fun n os => cell_grown (World.block_lt_of_cell? _ _ f1) f1 n os
            have hk3 : (k : Int) < (l.length : Int) := by omega
            have hwk : IntKind.i64.wrap (k : Int) = (k : Int) := by rw [IntKind.wrap_i64]; omega
            have hpos : decide ((0 : Int) < (k : Int) + 1) = true := decide_eq_true (by omega)
            have HT := fun W => touches_any s1 s2 r1 r2 W (by omega) (by omega)
            clear f0 f1 p0 p1 e0 e1
            by_cases a3 : r1 ≤ s2 + 1
            · rw [decide_eq_true a3] at HT
              go_wp2
              rw [← hwq]
              clear hwq
              go_quiet_grown (first | (go_at_call 51; refine Calls.grown_of (HT _)))
              simp only
              go_wp2
              go_ret2
              exact ⟨BQ.out _ _, .inr ⟨hno.out (fun h => by have := h.2.2 (by omega); rw [hP.out] at this; omega), rfl⟩⟩
            · rw [decide_eq_false a3] at HT
              go_wp2
              rw [← hwq]
              clear hwq
              go_quiet_grown (first | (go_at_call 51; refine Calls.grown_of (HT _)))
              simp only
              go_wp2
              refine ⟨⟨k + 1 + 1, by go_num, by omega, (⟨BQ.out _ _, fun j hj => ?_⟩ : _ ∧ _)⟩, by simp [intOf]; omega⟩
              rcases Nat.lt_or_ge j (k + 1) with h | h
              · exact HB.out.2 j h
              · obtain rfl : j = k + 1 := by omega
                exact hst.out ⟨by omega, by omega, fun _ => by rw [hP.out]; omega⟩
    · obtain rfl : k = l.length := by omega
      have hg := goodB_true HB.out.2
      go_wp2_with (go_at_call 52; refine (another_any _ l _ (HR.out.below HB.out.1 (Nat.le_refl _)) hlen).mono ?_; rintro e w2 ⟨v2, rfl, o2, b2⟩; obtain ⟨va, vc, hva⟩ := o2.rng.slice; subst hva)
      go_ret2
      have bw2 := HB.out.1.trans (b2.mono HB.out.1.size)
      exact ⟨bw2.alloc bw2.size _, .inl ⟨hg, _, _, rfl, setAt_new (o2.mono (Nat.zero_le _)), ⟨bw2.size, fun g hgg => Nat.le_trans HB.out.1.size (World.ownsRow.lt o2 g hgg).1⟩⟩⟩
end Go.Proofs.Ytnlllpgdhnmccaa
