/-
  THE LAW SpanHoles, walked.
-/
import Derived.Test.YtdgbcjdikkmgdaaLawOrder
import Derived.Shelf.SlSortCmp.QuietGrown
import Derived.BigQuiet
namespace Go.Proofs.Ytdgbcjdikkmgdaa
open Go.RowKit Go.Sort

theorem topL_in {l : List (Nat × Nat)} {b : Nat} (h : Apart b l) (hl : l ≠ []) : Mem l (topL l) := by
  have hg : l.getLast? = some (l.getLast hl) := List.getLast?_eq_some_getLast hl
  have hm := List.getLast_mem hl
  unfold topL
  rw [hg]
  exact ⟨_, hm, (h.lowR hm).2, Nat.le_refl _⟩
theorem gaps_room {l : List (Nat × Nat)} (h : Apart 1 l) : gapsL l + sizeL l ≤ topL l := by
  by_cases hl : l = []
  · subst hl; simp [gapsL, sizeL, topL]
  · have := top_room h hl
    unfold gapsL
    omega
theorem gaps_none {l : List (Nat × Nat)} (h : Apart 1 l) : gapsL l = 0 ↔ lowL l = topL l := by
  rw [gapsL_eq h]
  cases l with
  | nil => simp [lowL, topL]
  | cons r t =>
    have hm := topL_in h (by simp)
    have ht := h.low hm
    have hr := h.lowR (r := r) (by simp)
    by_cases h0 : lowL (r :: t) > 0
    · rw [if_pos h0]
      have hlow : lowL (r :: t) = r.2 := by
        simp only [lowL] at h0 ⊢
        split
        · rfl
        · rename_i hn; rw [if_neg hn] at h0; omega
      rw [hlow]
      cases t with
      | nil => simp [topL]
      | cons s t =>
        have hs := topL_in h.2.2 (by simp)
        have h2 := h.2.2.low hs
        have e : topL (r :: s :: t) = topL (s :: t) := by simp [topL, List.getLast?_cons_cons]
        rw [e]
        simp only [List.length_cons]
        omega
    · rw [if_neg h0]
      simp only [List.length_cons]
      omega

theorem sizeL_take (l : List (Nat × Nat)) (k : Nat) (h : k < l.length) : sizeL (l.take (k + 1)) = sizeL (l.take k) + (l[k].2 - l[k].1 + 1) := by
  rw [List.take_succ_eq_append_getElem h, sizeL_append]
  simp [sizeL]
theorem sizeL_take_le (l : List (Nat × Nat)) (k : Nat) : sizeL (l.take k) ≤ sizeL l := by
  conv => rhs; rw [← List.take_append_drop k l, sizeL_append]
  omega

/-- What lies one below a range's beginning is in no range. -/
theorem before_none {l : List (Nat × Nat)} (h : Apart 1 l) (k : Nat) (hk : k < l.length) : ¬ Mem l (l[k].1 - 1) := by
  rintro ⟨r, hr, h1, h2⟩
  obtain ⟨i, hi, rfl⟩ := List.getElem_of_mem hr
  have hs := steps_of_apart h k hk
  rcases Nat.lt_trichotomy i k with hlt | rfl | hgt
  · have := Apart.rising hi hk h hlt
    omega
  · omega
  · have := Apart.rising hk hi h hgt
    omega

set_option maxHeartbeats 4000000 in
set_option maxRecDepth 100000 in
theorem holes_law (v0 : Value) (nums : List Nat) (w : World) (hn : Nums w v0 nums) (hb : ∀ n ∈ nums, n < 18446744073709551616) :
    Calls Try.prog 6 #[v0] w fun e w' => e = .returned (.bool true) ∧ Below w.heap.size w w' := by
  obtain ⟨a0, cap0, rfl, _⟩ := hn.slice
  by_cases hlong : 200 < nums.length
  · have hl' : (200 : Int) < (nums.length : Int) := by omega
    clear hn
    go_enter Try.func6, Try.ntmps6
    go_wp2_with (go_at_call 9; refine (lives_any _).mono ?_; rintro e w' ⟨rfl, b⟩)
    go_ret
    exact ⟨rfl, b⟩
  · have hl' : ¬ (200 : Int) < (nums.length : Int) := by omega
    have HN : Hid (Nums w (.slice a0 nums.length cap0) nums ∧ ∀ n ∈ nums, n < 18446744073709551616) := ⟨hn, hb⟩
    have mixed : Try.prog.follows .mixedOrders = true := by kernel_rfl
    clear hn hb
    go_enter Try.func6, Try.ntmps6
    go_wp2_with fail
    refine (new_any _).mono ?_
    rintro e w0 ⟨rfl, _, rfl⟩
    go_wp2
    go_loopw [19] (fun u19 wr => ∃ (k : Nat) (va : Value), u19 = .int .i64 k ∧ k ≤ nums.length ∧ Hid (Mine w.heap.size w wr w.heap.size va (addAll [] (nums.take k)))) (fun u19 _ => nums.length - (intOf u19).toNat)
    case atStart => exact ⟨0, .slice none 0 0, rfl, Nat.zero_le _, mine_new w⟩
    case round =>
      obtain ⟨k, va, rfl, hk, HB⟩ := hrel
      by_cases hlt : k < nums.length
      · obtain ⟨b, off, rfl, hc⟩ := HN.out.1.at k hlt
        have hbw := World.block_lt_of_cell? w _ hc
        rw [← HB.out.bel.cell (p := ⟨b, off + k, none⟩) hbw] at hc
        have hnb := HN.out.2 nums[k] (List.getElem_mem hlt)
        have hs : Hid _ := fresh_take nums k hlt
        generalize nums[k] = n at hc hnb hs
        have hf := addAll_fine (nums.take k) [] fine_nil fun n h => HN.out.2 n (List.mem_of_mem_take h)
        have hz := addAll_size (nums.take k) [] fine_nil fun n h => HN.out.2 n (List.mem_of_mem_take h)
        have hz2 := length_le_sizeL (addAll [] (nums.take k))
        rw [List.length_take] at hz
        simp only [sizeL] at hz
        go_wp2_with fail
        refine (add_any w.heap.size n va _ wr HB.out.set hf.1 hf.2 hnb (by omega)).mono ?_
        rintro e w2 ⟨rfl, va2, s2, t2, n2⟩
        have T2 := HB.out.add s2 t2 n2
        rw [← hs.out] at T2
        clear s2 t2 n2
        go_wp2
        exact ⟨⟨k + 1, va2, by go_num, by omega, T2⟩, by simp [intOf]; omega⟩
      · obtain rfl : k = nums.length := by omega
        rw [List.take_of_length_le (Nat.le_refl _)] at HB
        have fA := addAll_fine nums [] fine_nil HN.out.2
        have zS : sizeL (addAll [] nums) ≤ 200 := by
          have := addAll_size nums [] fine_nil HN.out.2
          simp only [sizeL] at this
          omega
        have zA : (addAll [] nums).length ≤ 200 := by
          have := length_le_sizeL (addAll [] nums)
          omega
        generalize addAll [] nums = L at *
        have FA : Hid _ := fA
        clear fA
        go_wp2_with fail
        refine (ranges_any _ L wr HB.out.set.lies (by omega)).mono ?_
        rintro e w1 ⟨r1v, rfl, o1, b1⟩
        obtain ⟨ra, rc, hrv⟩ := o1.rng.slice
        subst hrv
        have M1 := HB.out.go b1
        have O1 : Hid (Rng w1 (.slice ra L.length rc) L) := o1.rng
        have MM : Hid _ := M1
        clear o1 M1
        go_wp2
        go_loopw [7, 31] (fun u7 u31 wr => ∃ k : Nat, u31 = .int .i64 k ∧ k ≤ L.length ∧ u7 = .int .u64 (sizeL (L.take k) : Nat) ∧ Hid (Below w1.heap.size w1 wr)) (fun _ u31 _ => L.length - (intOf u31).toNat)
        case atStart => exact ⟨0, rfl, Nat.zero_le _, rfl, Below.refl _ _⟩
        case round =>
          obtain ⟨k, rfl, hk2, rfl, HC⟩ := hrel
          by_cases hlt2 : k < L.length
          · obtain ⟨b, off, cap', hv, _, _, hc⟩ := O1.out.at (by omega)
            injection hv with hv1 _ hv3
            subst hv1 hv3
            have hbw : b < w1.heap.size := World.block_lt_of_cell? w1 _ (at_cells hc 0 (by omega)).1
            obtain ⟨c0, c1⟩ := at_cells hc k hlt2
            rw [← HC.out.cell (p := ⟨b, off + k * 2, none⟩) hbw] at c0
            rw [← HC.out.cell (p := ⟨b, off + k * 2 + 1, none⟩) hbw] at c1
            have hst := steps_of_apart FA.out.1 k hlt2
            have hs : Hid _ := sizeL_take L k hlt2
            have hsz1 := sizeL_take_le L (k + 1)
            rw [hs.out] at hsz1
            have hm1 : memB L L[k].1 = true := (memB_iff _ _).2 ⟨L[k], List.getElem_mem hlt2, Nat.le_refl _, hst.2.1⟩
            have hm2 : memB L L[k].2 = true := (memB_iff _ _).2 ⟨L[k], List.getElem_mem hlt2, hst.2.1, Nat.le_refl _⟩
            have hm0 : memB L (L[k].1 - 1) = false := (memB_false _ _).2 (before_none FA.out.1 k hlt2)
            have hup := FA.out.2 L[k] (List.getElem_mem hlt2)
            have hprev : Hid (∀ j, k = j + 1 → ∃ p2 : Nat, w1.cell? ⟨b, off + j * 2 + 1, none⟩ = some (.int .u64 (p2 : Int)) ∧ p2 + 1 < L[k].1) := fun j hj => by
              obtain ⟨_, p1⟩ := at_cells hc j (by omega)
              refine ⟨_, p1, ?_⟩
              have := hst.2.2 (by omega)
              subst hj
              exact this
            obtain ⟨hlo, hle, _⟩ := hst
            clear hc
            generalize L[k].1 = x1 at *
            generalize L[k].2 = x2 at *
            obtain ⟨x0, hx0⟩ : ∃ x0, x1 = x0 + 1 := ⟨x1 - 1, by omega⟩
            have hx0' : x1 - 1 = x0 := by omega
            rw [hx0'] at hm0
            have hw0 : IntKind.u64.wrap ((x1 : Int) - 1) = (x0 : Int) := by rw [IntKind.wrap_u64]; omega
            clear hx0' hx0
            obtain ⟨wq, hwq⟩ : ∃ wq, wq = wr.alloc (.cells #[.int .u64 (x1 : Int), .int .u64 (x2 : Int)] 43) := ⟨_, rfl⟩
            have bq : Below w1.heap.size w1 wq := by rw [hwq]; exact HC.out.alloc HC.out.size _
            have hzq : wr.heap.size < wq.heap.size := by rw [hwq]; simp
            have e0 : wq.cell? ⟨wr.heap.size, 0, none⟩ = some (.int .u64 (x1 : Int)) := by rw [hwq]; simp [World.cell?_alloc_at]
            have e1 : wq.cell? ⟨wr.heap.size, 1, none⟩ = some (.int .u64 (x2 : Int)) := by rw [hwq]; simp [World.cell?_alloc_at]
            have e0' := fun n os => cell_grown (w := wq) (by exact hzq) e0 n os
            have e1' := fun n os => cell_grown (w := wq) (by exact hzq) e1 n os
            have hHas : ∀ (x : Nat) (m : Nat) (os : Array Obj), Calls Try.prog 14 #[.pointer (some ⟨w.heap.size, 0, none⟩), .int .u64 (x : Int)] (grow (wq.drewN m) os) fun e w' => e = .returned (.bool (memB L x)) ∧ ∃ q os', w' = grow ((grow (wq.drewN m) os).drewN q) os' := fun x m os =>
              has_grew _ L x _ ((MM.out.go (bq.trans (below_grown_r w1.heap.size wq m os bq.size))).set.lies) FA.out.1 (by omega)
            have BQ : Hid (∀ q os, Below w1.heap.size w1 (grow (wq.drewN q) os)) := fun q os => bq.trans (below_grown_r w1.heap.size wq q os bq.size)
            have a1 : ¬ x1 < 1 := by omega
            have a1n : ¬ x1 = 0 := by omega
            have a2 : ¬ x2 < x1 := by omega
            have a1' : decide ((x1 : Int) < 1) = false := decide_eq_false (by omega)
            have a1d : decide (x1 = 0) = false := decide_eq_false a1n
            have a2d : decide (x2 < x1) = false := decide_eq_false a2
            have a2' : decide ((x2 : Int) < (x1 : Int)) = false := decide_eq_false (by omega)
            clear e0 e1 hzq bq
            cases k with
            | zero =>
              clear hprev
              rw [Nat.zero_mul, Nat.add_zero] at c0 c1
              go_wp2
              rw [← hwq]
              clear hwq c0 c1
              refine wp_region_quiet_grown (by assumption) (by kernel_rfl) ?_
              repeat (first | go_big_quiet_step ((go_at_call 14; exact Calls.grown_of (hHas _ _ _))) | quiet_step ((go_at_call 14; exact Calls.grown_of (hHas _ _ _))))
              refine wpQuiet_nil ?_
              intro _ hw'
              obtain ⟨⟨nq, osq⟩, hw''⟩ := hw'
              subst hw''
              go_wp2
              refine ⟨⟨1, by go_num, by omega, ?_, BQ.out _ _⟩, by simp [intOf]; omega⟩
              have hs' := hs.out
              simp only [Nat.zero_add, List.take_zero, sizeL] at hs'
              rw [hs', IntKind.wrap_u64]
              congr 1
              simp only [sizeL]
              omega
            | succ k =>
              obtain ⟨p2, p1, hp2⟩ := hprev.out k rfl
              rw [← BQ.out 0 #[] |>.cell (p := ⟨b, off + k * 2 + 1, none⟩) hbw, grow_empty] at p1
              have p1' : wq.cell? ⟨b, off + k * 2 + 1, none⟩ = some (.int .u64 (p2 : Int)) := p1
              have p1q := fun n os => cell_grown (w := wq) (World.block_lt_of_cell? _ _ p1') p1' n os
              have hpos : decide ((0 : Int) < (k : Int) + 1) = true := decide_eq_true (by omega)
              have hk3 : (k : Int) < (L.length : Int) := by omega
              have hw2 : IntKind.u64.wrap ((x1 : Int) - (p2 : Int)) = (x1 : Int) - (p2 : Int) := by rw [IntKind.wrap_u64]; omega
              have a3' : decide ((x1 : Int) - (p2 : Int) < 2) = false := decide_eq_false (by omega)
              have a4 : ¬ x1 ≤ p2 := by omega
              have a4' : decide ((x1 : Int) ≤ (p2 : Int)) = false := decide_eq_false (by omega)
              have a4d : decide (x1 ≤ p2) = false := decide_eq_false a4
              clear hprev p1 p1'
              go_wp2
              rw [← hwq]
              clear hwq c0 c1
              refine wp_region_quiet_grown (by assumption) (by kernel_rfl) ?_
              repeat (first | go_big_quiet_step ((go_at_call 14; exact Calls.grown_of (hHas _ _ _))) | quiet_step ((go_at_call 14; exact Calls.grown_of (hHas _ _ _))))
              refine wpQuiet_nil ?_
              intro _ hw'
              obtain ⟨⟨nq, osq⟩, hw''⟩ := hw'
              subst hw''
              go_wp2
              refine ⟨⟨k + 1 + 1, by go_num, by omega, ?_, BQ.out _ _⟩, by simp [intOf]; omega⟩
              rw [hs.out]
              congr 1
              omega
          · obtain rfl : k = L.length := by omega
            rw [List.take_of_length_le (Nat.le_refl _)]
            have hgr := gaps_room FA.out.1
            have hgn := gaps_none FA.out.1
            have hcg := fun W h => gaps_any (.pointer (some ⟨w.heap.size, 0, none⟩)) L W h FA.out.1
            have hct := fun W h => top_any (.pointer (some ⟨w.heap.size, 0, none⟩)) L W h
            have hcl := fun W h => low_any (.pointer (some ⟨w.heap.size, 0, none⟩)) L W h
            have hgl := gapsL_le L
            have htop : topL L < 18446744073709551616 := by
              by_cases hl : L = []
              · subst hl; simp [topL]
              · obtain ⟨r, hr, _, h2⟩ := topL_in FA.out.1 hl
                have := FA.out.2 r hr
                omega
            have M2 := MM.out.go HC.out
            have hli := M2.set.lies
            generalize gapsL L = g at *
            generalize topL L = tp at *
            generalize lowL L = lw at *
            generalize sizeL L = sz at *
            have q1 : IntKind.u64.wrap ((tp : Int) - (sz : Int)) = (tp : Int) - (sz : Int) := by rw [IntKind.wrap_u64]; omega
            have q2 : IntKind.u64.wrap (g : Int) = (g : Int) := by rw [IntKind.wrap_u64]; omega
            have q3 : decide ((g : Int) ≤ (tp : Int) - (sz : Int)) = true := decide_eq_true (by omega)
            have q4 : ((g : Int) == 0) = ((lw : Int) == (tp : Int)) := by rw [Bool.eq_iff_iff, beq_iff_eq, beq_iff_eq]; omega
            have Q4 : Hid _ := q4
            clear hgn q4
            go_wp2_with fail
            refine (hcg _ hli).mono ?_
            rintro e w' ⟨rfl, hw'⟩
            subst w'
            go_wp2_with fail
            refine (hct _ hli).mono ?_
            rintro e w' ⟨rfl, hw'⟩
            subst w'
            go_wp2_with fail
            refine (hcg _ hli).mono ?_
            rintro e w' ⟨rfl, hw'⟩
            subst w'
            go_wp2_with fail
            refine (hcl _ hli).mono ?_
            rintro e w' ⟨rfl, hw'⟩
            subst w'
            go_wp2_with fail
            refine (hct _ hli).mono ?_
            rintro e w' ⟨rfl, hw'⟩
            subst w'
            go_wp2_with fail
            refine (lives_any _).mono ?_
            rintro e w6 ⟨rfl, b6⟩
            have M6 := M2.go b6
            go_wp2
            go_ret
            exact ⟨rfl, M6.bel⟩
end Go.Proofs.Ytdgbcjdikkmgdaa
