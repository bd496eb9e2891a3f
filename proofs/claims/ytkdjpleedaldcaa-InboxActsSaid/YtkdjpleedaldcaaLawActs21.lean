/-
  THE WALK of InboxActs.
-/
import Derived.Test.YtkdjpleedaldcaaTwo21
import Derived.Deep.LoopGhost
import Derived.OneCell
import Derived.Deep.CutRange
import Derived.Deep.CutBlock
namespace Go.Proofs.Ytkdjpleedaldcaa
open Go.RowKit Go.Maps
set_option maxRecDepth 100000

theorem acs_at21 {w : World} {a : Option Addr} {n cap : Nat} {l : List Ac} (h : RowOf acells w (.slice a n cap) l) : n = l.length ∧ l.length ≤ maxLen ∧ ∀ i (hi : i < l.length), ∃ b off, a = some ⟨b, off, none⟩ ∧ b < w.heap.size ∧ w.cell? ⟨b, off + i * 8, none⟩ = some (.int .i64 l[i].kind) ∧ w.cell? ⟨b, off + i * 8 + 1, none⟩ = some (.int .u16 l[i].num) ∧ w.cell? ⟨b, off + i * 8 + 2, none⟩ = some (.int .i64 l[i].m.origin) ∧ w.cell? ⟨b, off + i * 8 + 3, none⟩ = some (.int .u64 l[i].m.seq) ∧ w.cell? ⟨b, off + i * 8 + 4, none⟩ = some (.int .i64 l[i].m.hop) ∧ w.cell? ⟨b, off + i * 8 + 5, none⟩ = some (.string l[i].m.ex) ∧ w.cell? ⟨b, off + i * 8 + 6, none⟩ = some (.string l[i].m.key) ∧ w.cell? ⟨b, off + i * 8 + 7, none⟩ = some (.string l[i].m.body) := by
  have hn : n = l.length := by
    obtain ⟨a', cap', hv⟩ := h.slice
    injection hv
  have hcm : l.length ≤ maxLen := by
    rcases h with ⟨hv, rfl⟩ | ⟨_, _, hv, h1, h2, _⟩
    · exact Nat.zero_le _
    · omega
  refine ⟨hn, hcm, fun i hi => ?_⟩
  obtain ⟨b, off, cap', hv, _, _, hc⟩ := h.at (by omega)
  injection hv with hv1 _ _
  have q0 := row_cell hc i hi 0 (by decide) _ rfl
  exact ⟨b, off, hv1, World.block_lt_of_cell? _ _ q0, by simpa using q0, row_cell hc i hi 1 (by decide) _ rfl, row_cell hc i hi 2 (by decide) _ rfl, row_cell hc i hi 3 (by decide) _ rfl, row_cell hc i hi 4 (by decide) _ rfl, row_cell hc i hi 5 (by decide) _ rfl, row_cell hc i hi 6 (by decide) _ rfl, row_cell hc i hi 7 (by decide) _ rfl⟩

set_option maxHeartbeats 8000000 in
theorem acts_law (n : Int) (v : Value) (l : List Ac) (w : World) (hr : RowOf acells w v l) (hf : ∀ a ∈ l, a.Fits) : Calls Try.prog 3 #[.int .i64 n, v] w fun e w' => e = .returned (.bool true) ∧ Below w.heap.size w w' := by
  obtain ⟨va, vc, rfl⟩ := hr.slice
  obtain ⟨_, hcap, HA⟩ := acs_at21 hr
  have hcap2 : (l.length : Int) ≤ 9223372036854775807 := by unfold maxLen at hcap; omega
  have HAC : Hid _ := HA
  have HF : Hid _ := hf
  clear hr hf HA hcap
  by_cases hbad : n < 1 ∨ 32 < n
  · go_enter Try.func3, Try.ntmps3
    go_wp2_with (first
      | (go_at_call 7; refine (inew_bad n _ hbad).mono ?_; rintro e w ⟨rfl, rfl⟩)
      | (go_at_call 8; refine (rinew_bad n _ hbad).mono ?_; rintro e w ⟨rfl, rfl⟩)
      | (go_at_call 9; refine (lives_any _).mono ?_; rintro e x1 ⟨rfl, B1⟩))
    go_ret
    exact ⟨rfl, B1⟩
  · obtain ⟨n, rfl⟩ : ∃ z : Nat, n = z := ⟨n.toNat, by omega⟩
    have hn1 : 1 ≤ n := by omega
    have hn2 : n ≤ 32 := by omega
    have hN := inew_good n w hn1 hn2
    have hR := fun X => rinew_good n X hn1 hn2
    clear hbad
    by_cases h300 : 300 < l.length
    · have h300' : (300 : Int) < (l.length : Int) := by omega
      go_enter Try.func3, Try.ntmps3
      go_wp2_with (first
        | (go_at_call 7; refine hN.mono ?_; rintro e x0 ⟨rfl, X0, B0, -⟩)
        | (go_at_call 8; refine (hR _).mono ?_; rintro e x1 ⟨rfl, R1, B1⟩)
        | (go_at_call 9; refine (lives_any _).mono ?_; rintro e x2 ⟨rfl, B2⟩))
      go_ret
      exact ⟨rfl, B0.trans ((B1.trans (B2.mono B1.size)).mono B0.size)⟩
    · have h300' : ¬ (300 : Int) < (l.length : Int) := by omega
      go_enter Try.func3, Try.ntmps3
      go_wp2_with (first
        | (go_at_call 7; refine hN.mono ?_; rintro e x0 ⟨rfl, X0, B0, -⟩)
        | (go_at_call 8; refine (hR _).mono ?_; rintro e x1 ⟨rfl, R1, B1⟩))
      have T1 : Tw w.heap.size w x1 (w.heap.size + 1) (x0.heap.size + 1) (newI n) (newI n) :=
        ⟨⟨w.heap.size, _, X0.go B1, ⟨R1.blk, R1.row.mono B0.size⟩, Nat.le_refl _⟩, newI_ok hn1 hn2, newI_ok hn1 hn2, by omega, by have := B0.size; omega, B0.trans (B1.mono B0.size)⟩
      have HT1 : Hid _ := T1
      clear T1 X0 B0 R1 B1 hN hR
      generalize x0.heap.size + 1 = q at *
      generalize w.heap.size + 1 = p at *
      go_loopg [38] l.length (fun g u38 wr => ∃ (k : Nat) (m : Ib), u38 = .int .i64 k ∧ k ≤ l.length ∧ g = l.length - k ∧ Hid (Tw w.heap.size w wr p q m m))
      case atStart => exact ⟨0, _, rfl, Nat.zero_le _, rfl, HT1.out⟩
      case round =>
        obtain ⟨k, m, rfl, hk, rfl, hX⟩ := hrel
        clear HT1
        by_cases hlt2 : k < l.length
        · have hlt : (k : Int) < (l.length : Int) := by omega
          have hfit := HF.out l[k] (List.getElem_mem hlt2)
          obtain ⟨b, off, rfl, hbp, c0, c1, c2, c3, c4, c5, c6, c7⟩ := HAC.out k hlt2
          have bel := hX.out.bel
          replace c0 := (bel.cell (p := ⟨b, off + k * 8, none⟩) hbp).trans c0
          replace c1 := (bel.cell (p := ⟨b, off + k * 8 + 1, none⟩) hbp).trans c1
          replace c2 := (bel.cell (p := ⟨b, off + k * 8 + 2, none⟩) hbp).trans c2
          replace c3 := (bel.cell (p := ⟨b, off + k * 8 + 3, none⟩) hbp).trans c3
          replace c4 := (bel.cell (p := ⟨b, off + k * 8 + 4, none⟩) hbp).trans c4
          replace c5 := (bel.cell (p := ⟨b, off + k * 8 + 5, none⟩) hbp).trans c5
          replace c6 := (bel.cell (p := ⟨b, off + k * 8 + 6, none⟩) hbp).trans c6
          replace c7 := (bel.cell (p := ⟨b, off + k * 8 + 7, none⟩) hbp).trans c7
          generalize l[k] = a at *
          obtain ⟨qa, hqa⟩ : ∃ qa, qa = wr.heap.size := ⟨_, rfl⟩
          obtain ⟨W1, hW1⟩ : ∃ W1, W1 = wr.alloc (.cells #[.int .i64 a.kind, .int .u16 a.num, .int .i64 a.m.origin, .int .u64 a.m.seq, .int .i64 a.m.hop, .string a.m.ex, .string a.m.key, .string a.m.body] 35) := ⟨_, rfl⟩
          have R1 : Rw w.heap.size w W1 p q m m qa a := ⟨by rw [hW1]; exact hX.out.go ((Below.refl _ _).alloc (Nat.le_refl _) _), by rw [hW1, hqa]; exact heap_alloc_new wr _⟩
          have fold := hW1.symm
          clear hX bel hW1
          go_upto_region 9 with fail
          rw [← hqa]
          try rw [fold]
          clear fold hqa c0 c1 c2 c3 c4 c5 c6 c7 HAC
          have HR1 : Hid _ := R1
          obtain ⟨k0, k1, k2, k3, k4, k5, k6, k7⟩ := R1.cells
          have hG := great_any a.m W1 hfit.e hfit.k hfit.b
          have hfn := hfit.num
          clear R1 hfit
          generalize (decide (2000 < a.m.ex.size + a.m.key.size + a.m.body.size)) = gr at *
          cases gr with
          | true =>
            go_wp2_with (first
              | (go_at_call 10; refine hG.mono ?_; rintro e x2 ⟨rfl, B2⟩)
              | (go_at_call 9; refine (lives_any _).mono ?_; rintro e x3 ⟨rfl, B3⟩))
            go_ret
            exact ⟨rfl, (HR1.out.go B2).T.bel.trans (B3.mono (HR1.out.go B2).T.size)⟩
          | false =>
            go_upto_region 11 with (go_at_call 10; refine hG.mono ?_; rintro e W2 ⟨rfl, B2⟩)
            have R2 := HR1.out.go B2
            clear k0 k1 k2 k3 k4 k5 k6 k7
            obtain ⟨k0, k1, k2, k3, k4, k5, k6, k7⟩ := R2.cells
            have HR2 : Hid _ := R2
            clear R2 B2 hG HF HR1
            go_upto_block 2 with fail
            go_cut [9, 10] from 46 to 96 (fun u9 u10 wx => u9 = .bool true ∧ ∃ m', Hid (Rw w.heap.size w wx p q m' m' qa a))
            case first =>
              by_cases hk0 : a.kind = 0
              · have hb0 : (a.kind == (0 : Int)) = true := by simpa using hk0
                clear hk0
                go_upto_region 14 with fail
                have HRD : Hid (Rw w.heap.size w W2.drew p q m m qa a) := HR2.out.go (Below.refl _ _).drew
                have hnum := hfn
                have hMM : (mayT m a.num == mayT m a.num) = true := by simp
                -- R14
                refine wp_region_noPanic ?_
                refine wp_region_held_drew (S := fun w' => w'.cell? ⟨qa, 0, none⟩ = some (.int .i64 a.kind) ∧ w'.cell? ⟨qa, 1, none⟩ = some (.int .u16 a.num) ∧ w'.cell? ⟨qa, 2, none⟩ = some (.int .i64 a.m.origin) ∧ w'.cell? ⟨qa, 3, none⟩ = some (.int .u64 a.m.seq) ∧ w'.cell? ⟨qa, 4, none⟩ = some (.int .i64 a.m.hop) ∧ w'.cell? ⟨qa, 5, none⟩ = some (.string a.m.ex) ∧ w'.cell? ⟨qa, 6, none⟩ = some (.string a.m.key) ∧ w'.cell? ⟨qa, 7, none⟩ = some (.string a.m.body)) (by kernel_rfl) (⟨k0, k1, k2, k3, k4, k5, k6, k7⟩) (fun hHeld => ?_)
                refine wpAnyH_take (i := 0) (v := ?_) (by simp only [List.getElem?_toArray, List.getElem?_cons_zero]; rfl) (by kernel_rfl) (by kernel_rfl) (by kernel_rfl) (fun _ _ _ h => h) (Or.inl ⟨by rfl, ?_⟩) (by assumption) ?_
                rotate_left
                · (intro wq hSq; clear hSq; go_simp; try with_reducible rfl)
                try simp only [Act.put, List.setIfInBounds_toArray, List.set_cons_zero, List.set_cons_succ]
                refine wpAnyH_take (i := 1) (v := ?_) (by simp only [List.getElem?_toArray, List.getElem?_cons_succ, List.getElem?_cons_zero]; rfl) (by kernel_rfl) (by kernel_rfl) (by kernel_rfl) (fun _ _ _ h => h) (Or.inl ⟨by rfl, ?_⟩) (by assumption) ?_
                rotate_left
                · (intro wq hSq; clear hSq; go_simp; try with_reducible rfl)
                try simp only [Act.put, List.setIfInBounds_toArray, List.set_cons_zero, List.set_cons_succ]
                refine wpAnyH_take (i := 2) (v := .int .u16 a.num) (by simp only [List.getElem?_toArray, List.getElem?_cons_succ, List.getElem?_cons_zero]; rfl) (by kernel_rfl) (by kernel_rfl) (by kernel_rfl) (fun _ _ _ h => h) (Or.inl ⟨by rfl, by intro wq hSq; obtain ⟨q0, q1, q2, q3, q4, q5, q6, q7⟩ := hSq; go_simp; try with_reducible rfl⟩) (by assumption) ?_
                try simp only [Act.put, List.setIfInBounds_toArray, List.set_cons_zero, List.set_cons_succ]
                refine wpAnyH_take (i := 3) (v := ?_) (by simp only [List.getElem?_toArray, List.getElem?_cons_succ, List.getElem?_cons_zero]; rfl) (by kernel_rfl) (by kernel_rfl) (by kernel_rfl) (fun _ _ _ h => h) (Or.inl ⟨by rfl, ?_⟩) (by assumption) ?_
                rotate_left
                · (intro wq hSq; clear hSq; go_simp; try with_reducible rfl)
                try simp only [Act.put, List.setIfInBounds_toArray, List.set_cons_zero, List.set_cons_succ]
                refine wpAnyH_take (i := 4) (v := .agg #[.int .i64 a.m.origin, .int .u64 a.m.seq, .int .i64 a.m.hop, .string a.m.ex, .string a.m.key, .string a.m.body]) (by simp only [List.getElem?_toArray, List.getElem?_cons_succ, List.getElem?_cons_zero]; rfl) (by kernel_rfl) (by kernel_rfl) (by kernel_rfl) (fun _ _ _ h => h) (Or.inl ⟨by rfl, by intro wq hSq; obtain ⟨q0, q1, q2, q3, q4, q5, q6, q7⟩ := hSq; go_simp; try with_reducible rfl⟩) (by assumption) ?_
                try simp only [Act.put, List.setIfInBounds_toArray, List.set_cons_zero, List.set_cons_succ]
                refine wpAnyH_take (i := 6) (v := ?_) (by simp only [List.getElem?_toArray, List.getElem?_cons_succ, List.getElem?_cons_zero]; rfl) (by kernel_rfl) (by kernel_rfl) (by kernel_rfl) (fun _ _ _ h => h) (Or.inl ⟨by rfl, ?_⟩) (by assumption) ?_
                rotate_left
                · (intro wq hSq; clear hSq; go_simp; try with_reducible rfl)
                try simp only [Act.put, List.setIfInBounds_toArray, List.set_cons_zero, List.set_cons_succ]
                refine wpAnyH_take (i := 7) (v := ?_) (by simp only [List.getElem?_toArray, List.getElem?_cons_succ, List.getElem?_cons_zero]; rfl) (by kernel_rfl) (by kernel_rfl) (by kernel_rfl) (fun _ _ _ h => h) (Or.inl ⟨by rfl, ?_⟩) (by assumption) ?_
                rotate_left
                · (intro wq hSq; clear hSq; go_simp; try with_reducible rfl)
                try simp only [Act.put, List.setIfInBounds_toArray, List.set_cons_zero, List.set_cons_succ]
                refine wpAnyH_take (i := 8) (v := .int .u16 a.num) (by simp only [List.getElem?_toArray, List.getElem?_cons_succ, List.getElem?_cons_zero]; rfl) (by kernel_rfl) (by kernel_rfl) (by kernel_rfl) (fun _ _ _ h => h) (Or.inl ⟨by rfl, by intro wq hSq; obtain ⟨q0, q1, q2, q3, q4, q5, q6, q7⟩ := hSq; go_simp; try with_reducible rfl⟩) (by assumption) ?_
                try simp only [Act.put, List.setIfInBounds_toArray, List.set_cons_zero, List.set_cons_succ]
                refine wpAnyH_take (i := 9) (v := ?_) (by simp only [List.getElem?_toArray, List.getElem?_cons_succ, List.getElem?_cons_zero]; rfl) (by kernel_rfl) (by kernel_rfl) (by kernel_rfl) (fun _ _ _ h => h) (Or.inl ⟨by rfl, ?_⟩) (by assumption) ?_
                rotate_left
                · (intro wq hSq; clear hSq; go_simp; try with_reducible rfl)
                try simp only [Act.put, List.setIfInBounds_toArray, List.set_cons_zero, List.set_cons_succ]
                refine wpAnyH_take (i := 10) (v := .agg #[.int .i64 a.m.origin, .int .u64 a.m.seq, .int .i64 a.m.hop, .string a.m.ex, .string a.m.key, .string a.m.body]) (by simp only [List.getElem?_toArray, List.getElem?_cons_succ, List.getElem?_cons_zero]; rfl) (by kernel_rfl) (by kernel_rfl) (by kernel_rfl) (fun _ _ _ h => h) (Or.inl ⟨by rfl, by intro wq hSq; obtain ⟨q0, q1, q2, q3, q4, q5, q6, q7⟩ := hSq; go_simp; try with_reducible rfl⟩) (by assumption) ?_
                try simp only [Act.put, List.setIfInBounds_toArray, List.set_cons_zero, List.set_cons_succ]
                refine wpAnyH_ready (rs := [5]) (by kernel_rfl) (by simp) ?_
                refine AllReadyH.cons rfl (fun K hK => ?_) AllReadyH.nil
                have HS5 : Hid _ := hHeld
                clear hHeld
                go_simp
                go_at_call 11
                refine (HRD.out.T.take (num := a.num) hnum a.m).mono ?_
                rintro e w3 ⟨rfl, T3, s3⟩
                have HR3 : Hid (Rw w.heap.size w w3 p q (takeM m a.num a.m) m qa a) := (HRD.out).prog T3 s3
                clear T3 s3
                try dsimp only
                refine hK.out _ _ (HR3.out.cells) (fun hHeld => ?_)
                clear hK K
                try simp only [Act.put, List.setIfInBounds_toArray, List.set_cons_zero, List.set_cons_succ]
                refine wpAnyH_ready (rs := [11]) (by kernel_rfl) (by simp) ?_
                refine AllReadyH.cons rfl (fun K hK => ?_) AllReadyH.nil
                have HS11 : Hid _ := hHeld
                clear hHeld
                go_simp
                go_at_call 12
                refine (HR3.out.T.rtake a.num a.m).mono ?_
                rintro e w4 ⟨rfl, T4, d4⟩
                have HR4 : Hid (Rw w.heap.size w w4 p q (takeM m a.num a.m) (takeM m a.num a.m) qa a) := HR3.out.doc T4 d4
                clear T4 d4
                try dsimp only
                refine hK.out _ _ (HR4.out.cells) (fun hHeld => ?_)
                clear hK K
                try simp only [Act.put, List.setIfInBounds_toArray, List.set_cons_zero, List.set_cons_succ]
                refine wpAnyH_take (i := 12) (v := .bool true) (by simp only [List.getElem?_toArray, List.getElem?_cons_succ, List.getElem?_cons_zero]; rfl) (by kernel_rfl) (by kernel_rfl) (by kernel_rfl) (fun _ _ _ h => h) (Or.inl ⟨by rfl, by intro wq hSq; clear hSq; go_simp; try with_reducible rfl⟩) (by assumption) ?_
                try simp only [Act.put, List.setIfInBounds_toArray, List.set_cons_zero, List.set_cons_succ]
                refine wpAnyH_take (i := 13) (v := ?_) (by simp only [List.getElem?_toArray, List.getElem?_cons_succ, List.getElem?_cons_zero]; rfl) (by kernel_rfl) (by kernel_rfl) (by kernel_rfl) (fun _ _ _ h => h) (Or.inl ⟨by rfl, ?_⟩) (by assumption) ?_
                rotate_left
                · (intro wq hSq; clear hSq; go_simp; try with_reducible rfl)
                try simp only [Act.put, List.setIfInBounds_toArray, List.set_cons_zero, List.set_cons_succ]
                refine wpAnyH_done (by kernel_rfl) ?_ _
                refine NoPanic.normal ?_
                -- ENDR14
                clear k0 k1 k2 k3 k4 k5 k6 k7
                go_wp2_with fail
                go_meet
                exact ⟨rfl, _, HR4.out⟩
              · by_cases hk1 : a.kind = 1
                · have hb0 : (a.kind == (0 : Int)) = false := by simpa using hk0
                  have hb1 : (a.kind == (1 : Int)) = true := by simpa using hk1
                  have hMM : ((m.h 0).isSome == (m.h 0).isSome) = true := by simp
                  clear hk0 hk1 k1 k2 k3 k4 k5 k6 k7
                  go_wp2_with (first
                    | (go_at_call 13; refine HR2.out.T.pop.mono ?_; rintro e w3 ⟨rfl, T3, s3⟩; have HR3 : Hid (Rw w.heap.size w w3 p q (popM m) m qa a) := HR2.out.prog T3 s3; clear T3 s3)
                    | (go_at_call 14; refine HR3.out.T.rpop.mono ?_; rintro e w4 ⟨rfl, T4, d4⟩; have HR4 : Hid (Rw w.heap.size w w4 p q (popM m) (popM m) qa a) := HR3.out.doc T4 d4; clear T4 d4))
                  go_meet
                  exact ⟨rfl, _, HR4.out⟩
                · by_cases hk2 : a.kind = 2
                  · have hb0 : (a.kind == (0 : Int)) = false := by simpa using hk0
                    have hb1 : (a.kind == (1 : Int)) = false := by simpa using hk1
                    have hb2 : (a.kind == (2 : Int)) = true := by simpa using hk2
                    have cq := HR2.out.T.rnext
                    obtain ⟨num, hnm⟩ : ∃ num, num = (m.n + a.num % 40) % 65536 := ⟨_, rfl⟩
                    have hwr : IntKind.u16.wrap ((m.n : Int) + (a.num : Int) % 40) = (num : Int) := by rw [IntKind.wrap_u16]; omega
                    have hnum : num < 65536 := by omega
                    have hMM : (mayT m num == mayT m num) = true := by simp
                    have HRD : Hid (Rw w.heap.size w W2.drew.drew p q m m qa a) := HR2.out.go (Below.refl _ _).drew.drew
                    clear hk0 hk1 hk2 hnm
                    go_upto_region 18 with fail
                    go_region
                    go_upto_region 19 with fail
                    -- R19
                    refine wp_region_noPanic ?_
                    refine wp_region_held_drew (S := fun w' => w'.cell? ⟨qa, 0, none⟩ = some (.int .i64 a.kind) ∧ w'.cell? ⟨qa, 1, none⟩ = some (.int .u16 a.num) ∧ w'.cell? ⟨qa, 2, none⟩ = some (.int .i64 a.m.origin) ∧ w'.cell? ⟨qa, 3, none⟩ = some (.int .u64 a.m.seq) ∧ w'.cell? ⟨qa, 4, none⟩ = some (.int .i64 a.m.hop) ∧ w'.cell? ⟨qa, 5, none⟩ = some (.string a.m.ex) ∧ w'.cell? ⟨qa, 6, none⟩ = some (.string a.m.key) ∧ w'.cell? ⟨qa, 7, none⟩ = some (.string a.m.body)) (by kernel_rfl) (⟨k0, k1, k2, k3, k4, k5, k6, k7⟩) (fun hHeld => ?_)
                    refine wpAnyH_take (i := 0) (v := ?_) (by simp only [List.getElem?_toArray, List.getElem?_cons_zero]; rfl) (by kernel_rfl) (by kernel_rfl) (by kernel_rfl) (fun _ _ _ h => h) (Or.inl ⟨by rfl, ?_⟩) (by assumption) ?_
                    rotate_left
                    · (intro wq hSq; clear hSq; go_simp; try with_reducible rfl)
                    try simp only [Act.put, List.setIfInBounds_toArray, List.set_cons_zero, List.set_cons_succ]
                    refine wpAnyH_take (i := 1) (v := ?_) (by simp only [List.getElem?_toArray, List.getElem?_cons_succ, List.getElem?_cons_zero]; rfl) (by kernel_rfl) (by kernel_rfl) (by kernel_rfl) (fun _ _ _ h => h) (Or.inl ⟨by rfl, ?_⟩) (by assumption) ?_
                    rotate_left
                    · (intro wq hSq; clear hSq; go_simp; try with_reducible rfl)
                    try simp only [Act.put, List.setIfInBounds_toArray, List.set_cons_zero, List.set_cons_succ]
                    refine wpAnyH_take (i := 2) (v := ?_) (by simp only [List.getElem?_toArray, List.getElem?_cons_succ, List.getElem?_cons_zero]; rfl) (by kernel_rfl) (by kernel_rfl) (by kernel_rfl) (fun _ _ _ h => h) (Or.inl ⟨by rfl, ?_⟩) (by assumption) ?_
                    rotate_left
                    · (intro wq hSq; clear hSq; go_simp; try with_reducible rfl)
                    try simp only [Act.put, List.setIfInBounds_toArray, List.set_cons_zero, List.set_cons_succ]
                    refine wpAnyH_take (i := 3) (v := .agg #[.int .i64 a.m.origin, .int .u64 a.m.seq, .int .i64 a.m.hop, .string a.m.ex, .string a.m.key, .string a.m.body]) (by simp only [List.getElem?_toArray, List.getElem?_cons_succ, List.getElem?_cons_zero]; rfl) (by kernel_rfl) (by kernel_rfl) (by kernel_rfl) (fun _ _ _ h => h) (Or.inl ⟨by rfl, by intro wq hSq; obtain ⟨q0, q1, q2, q3, q4, q5, q6, q7⟩ := hSq; go_simp; try with_reducible rfl⟩) (by assumption) ?_
                    try simp only [Act.put, List.setIfInBounds_toArray, List.set_cons_zero, List.set_cons_succ]
                    refine wpAnyH_take (i := 5) (v := ?_) (by simp only [List.getElem?_toArray, List.getElem?_cons_succ, List.getElem?_cons_zero]; rfl) (by kernel_rfl) (by kernel_rfl) (by kernel_rfl) (fun _ _ _ h => h) (Or.inl ⟨by rfl, ?_⟩) (by assumption) ?_
                    rotate_left
                    · (intro wq hSq; clear hSq; go_simp; try with_reducible rfl)
                    try simp only [Act.put, List.setIfInBounds_toArray, List.set_cons_zero, List.set_cons_succ]
                    refine wpAnyH_take (i := 6) (v := ?_) (by simp only [List.getElem?_toArray, List.getElem?_cons_succ, List.getElem?_cons_zero]; rfl) (by kernel_rfl) (by kernel_rfl) (by kernel_rfl) (fun _ _ _ h => h) (Or.inl ⟨by rfl, ?_⟩) (by assumption) ?_
                    rotate_left
                    · (intro wq hSq; clear hSq; go_simp; try with_reducible rfl)
                    try simp only [Act.put, List.setIfInBounds_toArray, List.set_cons_zero, List.set_cons_succ]
                    refine wpAnyH_take (i := 7) (v := ?_) (by simp only [List.getElem?_toArray, List.getElem?_cons_succ, List.getElem?_cons_zero]; rfl) (by kernel_rfl) (by kernel_rfl) (by kernel_rfl) (fun _ _ _ h => h) (Or.inl ⟨by rfl, ?_⟩) (by assumption) ?_
                    rotate_left
                    · (intro wq hSq; clear hSq; go_simp; try with_reducible rfl)
                    try simp only [Act.put, List.setIfInBounds_toArray, List.set_cons_zero, List.set_cons_succ]
                    refine wpAnyH_take (i := 8) (v := .agg #[.int .i64 a.m.origin, .int .u64 a.m.seq, .int .i64 a.m.hop, .string a.m.ex, .string a.m.key, .string a.m.body]) (by simp only [List.getElem?_toArray, List.getElem?_cons_succ, List.getElem?_cons_zero]; rfl) (by kernel_rfl) (by kernel_rfl) (by kernel_rfl) (fun _ _ _ h => h) (Or.inl ⟨by rfl, by intro wq hSq; obtain ⟨q0, q1, q2, q3, q4, q5, q6, q7⟩ := hSq; go_simp; try with_reducible rfl⟩) (by assumption) ?_
                    try simp only [Act.put, List.setIfInBounds_toArray, List.set_cons_zero, List.set_cons_succ]
                    refine wpAnyH_ready (rs := [4]) (by kernel_rfl) (by simp) ?_
                    refine AllReadyH.cons rfl (fun K hK => ?_) AllReadyH.nil
                    have HS4 : Hid _ := hHeld
                    clear hHeld
                    go_simp
                    go_at_call 11
                    refine (HRD.out.T.take (num := num) hnum a.m).mono ?_
                    rintro e w3 ⟨rfl, T3, s3⟩
                    have HR3 : Hid (Rw w.heap.size w w3 p q (takeM m num a.m) m qa a) := (HRD.out).prog T3 s3
                    clear T3 s3
                    try dsimp only
                    refine hK.out _ _ (HR3.out.cells) (fun hHeld => ?_)
                    clear hK K
                    try simp only [Act.put, List.setIfInBounds_toArray, List.set_cons_zero, List.set_cons_succ]
                    refine wpAnyH_ready (rs := [9]) (by kernel_rfl) (by simp) ?_
                    refine AllReadyH.cons rfl (fun K hK => ?_) AllReadyH.nil
                    have HS9 : Hid _ := hHeld
                    clear hHeld
                    go_simp
                    go_at_call 12
                    refine (HR3.out.T.rtake num a.m).mono ?_
                    rintro e w4 ⟨rfl, T4, d4⟩
                    have HR4 : Hid (Rw w.heap.size w w4 p q (takeM m num a.m) (takeM m num a.m) qa a) := HR3.out.doc T4 d4
                    clear T4 d4
                    try dsimp only
                    refine hK.out _ _ (HR4.out.cells) (fun hHeld => ?_)
                    clear hK K
                    try simp only [Act.put, List.setIfInBounds_toArray, List.set_cons_zero, List.set_cons_succ]
                    refine wpAnyH_take (i := 10) (v := .bool true) (by simp only [List.getElem?_toArray, List.getElem?_cons_succ, List.getElem?_cons_zero]; rfl) (by kernel_rfl) (by kernel_rfl) (by kernel_rfl) (fun _ _ _ h => h) (Or.inl ⟨by rfl, by intro wq hSq; clear hSq; go_simp; try with_reducible rfl⟩) (by assumption) ?_
                    try simp only [Act.put, List.setIfInBounds_toArray, List.set_cons_zero, List.set_cons_succ]
                    refine wpAnyH_take (i := 11) (v := ?_) (by simp only [List.getElem?_toArray, List.getElem?_cons_succ, List.getElem?_cons_zero]; rfl) (by kernel_rfl) (by kernel_rfl) (by kernel_rfl) (fun _ _ _ h => h) (Or.inl ⟨by rfl, ?_⟩) (by assumption) ?_
                    rotate_left
                    · (intro wq hSq; clear hSq; go_simp; try with_reducible rfl)
                    try simp only [Act.put, List.setIfInBounds_toArray, List.set_cons_zero, List.set_cons_succ]
                    refine wpAnyH_done (by kernel_rfl) ?_ _
                    refine NoPanic.normal ?_
                    -- ENDR19
                    clear k0 k1 k2 k3 k4 k5 k6 k7
                    go_wp2_with fail
                    go_meet
                    exact ⟨rfl, _, HR4.out⟩
                  · by_cases hk3 : a.kind = 3
                    · have hb0 : (a.kind == (0 : Int)) = false := by simpa using hk0
                      have hb1 : (a.kind == (1 : Int)) = false := by simpa using hk1
                      have hb2 : (a.kind == (2 : Int)) = false := by simpa using hk2
                      have hb3 : (a.kind == (3 : Int)) = true := by simpa using hk3
                      clear hk0 hk1 hk2 hk3 k1 k2 k3 k4 k5 k6 k7
                      go_wp2_with (first
                        | (go_at_call 15; refine HR2.out.T.reset.mono ?_; rintro e w3 ⟨rfl, T3, s3⟩; have HR3 : Hid (Rw w.heap.size w w3 p q (newI m.s) m qa a) := HR2.out.prog T3 s3; clear T3 s3)
                        | (go_at_call 16; refine HR3.out.T.rreset.mono ?_; rintro e w4 ⟨rfl, T4, d4⟩; have HR4 : Hid (Rw w.heap.size w w4 p q (newI m.s) (newI m.s) qa a) := HR3.out.doc T4 d4; clear T4 d4))
                      go_meet
                      exact ⟨rfl, _, HR4.out⟩
                    · have hb0 : (a.kind == (0 : Int)) = false := by simpa using hk0
                      have hb1 : (a.kind == (1 : Int)) = false := by simpa using hk1
                      have hb2 : (a.kind == (2 : Int)) = false := by simpa using hk2
                      have hb3 : (a.kind == (3 : Int)) = false := by simpa using hk3
                      clear hk0 hk1 hk2 hk3 k1 k2 k3 k4 k5 k6 k7
                      go_wp2_with fail
                      go_meet
                      exact ⟨rfl, m, HR2.out⟩
            case rest =>
              obtain ⟨rfl, m1, HX⟩ := hcut
              clear k0 k1 k2 k3 k4 k5 k6 k7 HR2 hfn
              have S1 := HX.out.T.head
              obtain ⟨y, hy⟩ : ∃ y, y = (m1.h 0).getD zM := ⟨_, rfl⟩
              obtain ⟨r, hr⟩ : ∃ r, r = (m1.h 0).isSome := ⟨_, rfl⟩
              have HYR : Hid (y = (m1.h 0).getD zM ∧ r = (m1.h 0).isSome) := ⟨hy, hr⟩
              rw [← hy, ← hr] at S1
              clear hy hr
              go_wp2_with fail
              refine S1.mono ?_
              rintro e w1 ⟨rfl, b1⟩
              clear S1
              obtain ⟨A1, foldA⟩ : ∃ W, w1.alloc (.cells #[.int .i64 0, .int .u64 0, .int .i64 0, .string ⟨#[]⟩, .string ⟨#[]⟩, .string ⟨#[]⟩] 33) = W := ⟨_, rfl⟩
              obtain ⟨hhA, HA1, HA2⟩ := box_set y foldA
              obtain ⟨V1, hV1⟩ : ∃ V, V = A1.setRow w1.heap.size (mcells y).toArray := ⟨_, rfl⟩
              rw [← hV1] at HA1 HA2
              have HX1 : Hid (Tw w.heap.size w V1 p q m1 m1) := (HX.out.T.go b1).go HA1
              have HB1 : Hid (V1.heap[w1.heap.size]? = some (.cells (mcells y).toArray 33 (0, 0))) := HA2
              have foldV := hV1.symm
              have S2 := HX1.out.rhead
              rw [← HYR.out.1, ← HYR.out.2] at S2
              clear HA1 HA2 hV1 b1 HX
              go_wp2_with (refine wpList_store_row rfl 33 _ _ rfl w1.heap.size (mcells y).toArray rfl rfl 33 (mcells zM).toArray hhA infoMs rfl (oneMs _) ?_; rw [foldV])
              refine S2.mono ?_
              rintro e w2 ⟨rfl, b2⟩
              clear S2 foldV foldA hhA
              obtain ⟨A2, foldA2⟩ : ∃ W, w2.alloc (.cells #[.int .i64 0, .int .u64 0, .int .i64 0, .string ⟨#[]⟩, .string ⟨#[]⟩, .string ⟨#[]⟩] 33) = W := ⟨_, rfl⟩
              obtain ⟨hhA2, HA1, HA2⟩ := box_set y foldA2
              obtain ⟨V2, hV2⟩ : ∃ V, V = A2.setRow w2.heap.size (mcells y).toArray := ⟨_, rfl⟩
              rw [← hV2] at HA1 HA2
              have HX2 : Hid (Tw w.heap.size w V2 p q m1 m1) := (HX1.out.go b2).go HA1
              have HB2 : Hid (V2.heap[w1.heap.size]? = some (.cells (mcells y).toArray 33 (0, 0)) ∧ V2.heap[w2.heap.size]? = some (.cells (mcells y).toArray 33 (0, 0))) := by
                refine ⟨?_, HA2⟩
                have hl1 := (Array.getElem?_eq_some_iff.1 HB1.out).1
                exact (HA1.block _ (Nat.lt_of_lt_of_le hl1 b2.size)).trans ((b2.block _ hl1).trans HB1.out)
              have foldV := hV2.symm
              clear HA1 HA2 hV2 b2 HX1 HB1
              go_wp2_with (first
                | (refine wpList_store_row rfl 33 _ _ rfl w2.heap.size (mcells y).toArray rfl rfl 33 (mcells zM).toArray hhA2 infoMs rfl (oneMs _) ?_; rw [foldV])
                | (go_at_call 19; refine HX2.out.ack.mono ?_; rintro e w3 ⟨rfl, b3⟩)
                | (go_at_call 20; refine (HX2.out.go b3).rack.mono ?_; rintro e w4 ⟨rfl, b4⟩))
              have HX4 : Hid (Tw w.heap.size w w4.drew p q m1 m1) := ((HX2.out.go b3).go b4).go (Below.refl _ _).drew
              have h41 : w4.heap[w1.heap.size]? = some (.cells (mcells y).toArray 33 (0, 0)) := (b4.block _ (Nat.lt_of_lt_of_le (Array.getElem?_eq_some_iff.1 HB2.out.1).1 b3.size)).trans ((b3.block _ (Array.getElem?_eq_some_iff.1 HB2.out.1).1).trans HB2.out.1)
              have h42 : w4.heap[w2.heap.size]? = some (.cells (mcells y).toArray 33 (0, 0)) := (b4.block _ (Nat.lt_of_lt_of_le (Array.getElem?_eq_some_iff.1 HB2.out.2).1 b3.size)).trans ((b3.block _ (Array.getElem?_eq_some_iff.1 HB2.out.2).1).trans HB2.out.2)
              have c0 : w4.cell? ⟨w1.heap.size, 0, none⟩ = some (.int .i64 y.origin) := cell_of_list21 h41 0 rfl
              have c1 : w4.cell? ⟨w1.heap.size, 1, none⟩ = some (.int .u64 y.seq) := cell_of_list21 h41 1 rfl
              have c2 : w4.cell? ⟨w1.heap.size, 2, none⟩ = some (.int .i64 y.hop) := cell_of_list21 h41 2 rfl
              have c3 : w4.cell? ⟨w1.heap.size, 3, none⟩ = some (.string y.ex) := cell_of_list21 h41 3 rfl
              have c4 : w4.cell? ⟨w1.heap.size, 4, none⟩ = some (.string y.key) := cell_of_list21 h41 4 rfl
              have c5 : w4.cell? ⟨w1.heap.size, 5, none⟩ = some (.string y.body) := cell_of_list21 h41 5 rfl
              have d0 : w4.cell? ⟨w2.heap.size, 0, none⟩ = some (.int .i64 y.origin) := cell_of_list21 h42 0 rfl
              have d1 : w4.cell? ⟨w2.heap.size, 1, none⟩ = some (.int .u64 y.seq) := cell_of_list21 h42 1 rfl
              have d2 : w4.cell? ⟨w2.heap.size, 2, none⟩ = some (.int .i64 y.hop) := cell_of_list21 h42 2 rfl
              have d3 : w4.cell? ⟨w2.heap.size, 3, none⟩ = some (.string y.ex) := cell_of_list21 h42 3 rfl
              have d4 : w4.cell? ⟨w2.heap.size, 4, none⟩ = some (.string y.key) := cell_of_list21 h42 4 rfl
              have d5 : w4.cell? ⟨w2.heap.size, 5, none⟩ = some (.string y.body) := cell_of_list21 h42 5 rfl
              have e1 : w4.cell? ⟨q, 1, none⟩ = some (.int .u16 m1.n) := HX4.out.rnext
              have heq : ∀ X, (binOp .neq 33 (.agg #[.int .i64 y.origin, .int .u64 y.seq, .int .i64 y.hop, .string y.ex, .string y.key, .string y.body]) (.agg #[.int .i64 y.origin, .int .u64 y.seq, .int .i64 y.hop, .string y.ex, .string y.key, .string y.body])).run Try.prog X = .ok (.bool false) X := fun X => by
                have := run_neM y y X
                rw [decide_eq_true rfl] at this
                exact this
              have hgt := eqGuardM
              have HK : Hid (∀ {u u' : World}, Below u.heap.size u u' → (u.cell? ⟨w1.heap.size, 0, none⟩ = some (.int .i64 y.origin) ∧ u.cell? ⟨w1.heap.size, 1, none⟩ = some (.int .u64 y.seq) ∧ u.cell? ⟨w1.heap.size, 2, none⟩ = some (.int .i64 y.hop) ∧ u.cell? ⟨w1.heap.size, 3, none⟩ = some (.string y.ex) ∧ u.cell? ⟨w1.heap.size, 4, none⟩ = some (.string y.key) ∧ u.cell? ⟨w1.heap.size, 5, none⟩ = some (.string y.body) ∧ u.cell? ⟨w2.heap.size, 0, none⟩ = some (.int .i64 y.origin) ∧ u.cell? ⟨w2.heap.size, 1, none⟩ = some (.int .u64 y.seq) ∧ u.cell? ⟨w2.heap.size, 2, none⟩ = some (.int .i64 y.hop) ∧ u.cell? ⟨w2.heap.size, 3, none⟩ = some (.string y.ex) ∧ u.cell? ⟨w2.heap.size, 4, none⟩ = some (.string y.key) ∧ u.cell? ⟨w2.heap.size, 5, none⟩ = some (.string y.body) ∧ u.cell? ⟨q, 1, none⟩ = some (.int .u16 m1.n)) → (u'.cell? ⟨w1.heap.size, 0, none⟩ = some (.int .i64 y.origin) ∧ u'.cell? ⟨w1.heap.size, 1, none⟩ = some (.int .u64 y.seq) ∧ u'.cell? ⟨w1.heap.size, 2, none⟩ = some (.int .i64 y.hop) ∧ u'.cell? ⟨w1.heap.size, 3, none⟩ = some (.string y.ex) ∧ u'.cell? ⟨w1.heap.size, 4, none⟩ = some (.string y.key) ∧ u'.cell? ⟨w1.heap.size, 5, none⟩ = some (.string y.body) ∧ u'.cell? ⟨w2.heap.size, 0, none⟩ = some (.int .i64 y.origin) ∧ u'.cell? ⟨w2.heap.size, 1, none⟩ = some (.int .u64 y.seq) ∧ u'.cell? ⟨w2.heap.size, 2, none⟩ = some (.int .i64 y.hop) ∧ u'.cell? ⟨w2.heap.size, 3, none⟩ = some (.string y.ex) ∧ u'.cell? ⟨w2.heap.size, 4, none⟩ = some (.string y.key) ∧ u'.cell? ⟨w2.heap.size, 5, none⟩ = some (.string y.body) ∧ u'.cell? ⟨q, 1, none⟩ = some (.int .u16 m1.n))) := fun hb hs => by
                obtain ⟨s0, s1, s2, s3, s4, s5, s6, s7, s8, s9, s10, s11, s12⟩ := hs
                exact ⟨cell_on hb s0, cell_on hb s1, cell_on hb s2, cell_on hb s3, cell_on hb s4, cell_on hb s5, cell_on hb s6, cell_on hb s7, cell_on hb s8, cell_on hb s9, cell_on hb s10, cell_on hb s11, cell_on hb s12⟩
              clear h41 h42 hhA2 foldA2 foldV b3 b4 HB2
              -- R27
              refine wp_region_noPanic ?_
              refine wp_region_held_drew (S := fun w' => w'.cell? ⟨w1.heap.size, 0, none⟩ = some (.int .i64 y.origin) ∧ w'.cell? ⟨w1.heap.size, 1, none⟩ = some (.int .u64 y.seq) ∧ w'.cell? ⟨w1.heap.size, 2, none⟩ = some (.int .i64 y.hop) ∧ w'.cell? ⟨w1.heap.size, 3, none⟩ = some (.string y.ex) ∧ w'.cell? ⟨w1.heap.size, 4, none⟩ = some (.string y.key) ∧ w'.cell? ⟨w1.heap.size, 5, none⟩ = some (.string y.body) ∧ w'.cell? ⟨w2.heap.size, 0, none⟩ = some (.int .i64 y.origin) ∧ w'.cell? ⟨w2.heap.size, 1, none⟩ = some (.int .u64 y.seq) ∧ w'.cell? ⟨w2.heap.size, 2, none⟩ = some (.int .i64 y.hop) ∧ w'.cell? ⟨w2.heap.size, 3, none⟩ = some (.string y.ex) ∧ w'.cell? ⟨w2.heap.size, 4, none⟩ = some (.string y.key) ∧ w'.cell? ⟨w2.heap.size, 5, none⟩ = some (.string y.body) ∧ w'.cell? ⟨q, 1, none⟩ = some (.int .u16 m1.n)) (by kernel_rfl) (⟨c0, c1, c2, c3, c4, c5, d0, d1, d2, d3, d4, d5, e1⟩) (fun hHeld => ?_)
              refine wpAnyH_take (i := 0) (v := ?_) (by simp only [List.getElem?_toArray, List.getElem?_cons_zero]; rfl) (by kernel_rfl) (by kernel_rfl) (by kernel_rfl) (fun _ _ _ h => h) (Or.inl ⟨by rfl, ?_⟩) (by assumption) ?_
              rotate_left
              · (intro wq hSq; clear hSq; go_simp; try with_reducible rfl)
              try simp only [Act.put, List.setIfInBounds_toArray, List.set_cons_zero, List.set_cons_succ]
              refine wpAnyH_take (i := 1) (v := ?_) (by simp only [List.getElem?_toArray, List.getElem?_cons_succ, List.getElem?_cons_zero]; rfl) (by kernel_rfl) (by kernel_rfl) (by kernel_rfl) (fun _ _ _ h => h) (Or.inl ⟨by rfl, ?_⟩) (by assumption) ?_
              rotate_left
              · (intro wq hSq; clear hSq; go_simp; try with_reducible rfl)
              try simp only [Act.put, List.setIfInBounds_toArray, List.set_cons_zero, List.set_cons_succ]
              refine wpAnyH_take (i := 2) (v := .bool false) (by simp only [List.getElem?_toArray, List.getElem?_cons_succ, List.getElem?_cons_zero]; rfl) (by kernel_rfl) (by kernel_rfl) (by kernel_rfl) (fun _ _ _ h => h) (Or.inl ⟨by rfl, by intro wq hSq; clear hSq; go_simp; try with_reducible rfl⟩) (by assumption) ?_
              try simp only [Act.put, List.setIfInBounds_toArray, List.set_cons_zero, List.set_cons_succ]
              refine wpAnyH_take (i := 3) (v := .agg #[.int .i64 y.origin, .int .u64 y.seq, .int .i64 y.hop, .string y.ex, .string y.key, .string y.body]) (by simp only [List.getElem?_toArray, List.getElem?_cons_succ, List.getElem?_cons_zero]; rfl) (by kernel_rfl) (by kernel_rfl) (by kernel_rfl) (fun _ _ _ h => h) (Or.inl ⟨by rfl, by intro wq hSq; obtain ⟨q0, q1, q2, q3, q4, q5, q6, q7, q8, q9, q10, q11, q12⟩ := hSq; go_simp; try with_reducible rfl⟩) (by assumption) ?_
              try simp only [Act.put, List.setIfInBounds_toArray, List.set_cons_zero, List.set_cons_succ]
              refine wpAnyH_take (i := 4) (v := .agg #[.int .i64 y.origin, .int .u64 y.seq, .int .i64 y.hop, .string y.ex, .string y.key, .string y.body]) (by simp only [List.getElem?_toArray, List.getElem?_cons_succ, List.getElem?_cons_zero]; rfl) (by kernel_rfl) (by kernel_rfl) (by kernel_rfl) (fun _ _ _ h => h) (Or.inl ⟨by rfl, by intro wq hSq; obtain ⟨q0, q1, q2, q3, q4, q5, q6, q7, q8, q9, q10, q11, q12⟩ := hSq; go_simp; try with_reducible rfl⟩) (by assumption) ?_
              try simp only [Act.put, List.setIfInBounds_toArray, List.set_cons_zero, List.set_cons_succ]
              refine wpAnyH_take (i := 5) (v := .bool false) (by simp only [List.getElem?_toArray, List.getElem?_cons_succ, List.getElem?_cons_zero]; rfl) (by kernel_rfl) (by kernel_rfl) (by kernel_rfl) (fun _ _ _ h => h) (Or.inl ⟨by rfl, by intro wq hSq; clear hSq; go_simp; try with_reducible rfl⟩) (by assumption) ?_
              try simp only [Act.put, List.setIfInBounds_toArray, List.set_cons_zero, List.set_cons_succ]
              refine wpAnyH_take (i := 6) (v := .bool false) (by simp only [List.getElem?_toArray, List.getElem?_cons_succ, List.getElem?_cons_zero]; rfl) (by kernel_rfl) (by kernel_rfl) (by kernel_rfl) (fun _ _ _ h => h) (Or.inl ⟨by rfl, by intro wq hSq; clear hSq; go_simp; try with_reducible rfl⟩) (by assumption) ?_
              try simp only [Act.put, List.setIfInBounds_toArray, List.set_cons_zero, List.set_cons_succ]
              refine wpAnyH_take (i := 7) (v := .bool false) (by simp only [List.getElem?_toArray, List.getElem?_cons_succ, List.getElem?_cons_zero]; rfl) (by kernel_rfl) (by kernel_rfl) (by kernel_rfl) (fun _ _ _ h => h) (Or.inl ⟨by rfl, by intro wq hSq; clear hSq; go_simp; try with_reducible rfl⟩) (by assumption) ?_
              try simp only [Act.put, List.setIfInBounds_toArray, List.set_cons_zero, List.set_cons_succ]
              refine wpAnyH_take (i := 8) (v := ?_) (by simp only [List.getElem?_toArray, List.getElem?_cons_succ, List.getElem?_cons_zero]; rfl) (by kernel_rfl) (by kernel_rfl) (by kernel_rfl) (fun _ _ _ h => h) (Or.inl ⟨by rfl, ?_⟩) (by assumption) ?_
              rotate_left
              · (intro wq hSq; clear hSq; go_simp; try with_reducible rfl)
              try simp only [Act.put, List.setIfInBounds_toArray, List.set_cons_zero, List.set_cons_succ]
              refine wpAnyH_take (i := 9) (v := ?_) (by simp only [List.getElem?_toArray, List.getElem?_cons_succ, List.getElem?_cons_zero]; rfl) (by kernel_rfl) (by kernel_rfl) (by kernel_rfl) (fun _ _ _ h => h) (Or.inl ⟨by rfl, ?_⟩) (by assumption) ?_
              rotate_left
              · (intro wq hSq; clear hSq; go_simp; try with_reducible rfl)
              try simp only [Act.put, List.setIfInBounds_toArray, List.set_cons_zero, List.set_cons_succ]
              refine wpAnyH_take (i := 10) (v := .bool false) (by simp only [List.getElem?_toArray, List.getElem?_cons_succ, List.getElem?_cons_zero]; rfl) (by kernel_rfl) (by kernel_rfl) (by kernel_rfl) (fun _ _ _ h => h) (Or.inl ⟨by rfl, by intro wq hSq; clear hSq; go_simp; try with_reducible rfl⟩) (by assumption) ?_
              try simp only [Act.put, List.setIfInBounds_toArray, List.set_cons_zero, List.set_cons_succ]
              refine wpAnyH_take (i := 11) (v := .bool false) (by simp only [List.getElem?_toArray, List.getElem?_cons_succ, List.getElem?_cons_zero]; rfl) (by kernel_rfl) (by kernel_rfl) (by kernel_rfl) (fun _ _ _ h => h) (Or.inl ⟨by rfl, by intro wq hSq; clear hSq; go_simp; try with_reducible rfl⟩) (by assumption) ?_
              try simp only [Act.put, List.setIfInBounds_toArray, List.set_cons_zero, List.set_cons_succ]
              refine wpAnyH_take (i := 12) (v := .bool false) (by simp only [List.getElem?_toArray, List.getElem?_cons_succ, List.getElem?_cons_zero]; rfl) (by kernel_rfl) (by kernel_rfl) (by kernel_rfl) (fun _ _ _ h => h) (Or.inl ⟨by rfl, by intro wq hSq; clear hSq; go_simp; try with_reducible rfl⟩) (by assumption) ?_
              try simp only [Act.put, List.setIfInBounds_toArray, List.set_cons_zero, List.set_cons_succ]
              refine wpAnyH_take (i := 13) (v := ?_) (by simp only [List.getElem?_toArray, List.getElem?_cons_succ, List.getElem?_cons_zero]; rfl) (by kernel_rfl) (by kernel_rfl) (by kernel_rfl) (fun _ _ _ h => h) (Or.inl ⟨by rfl, ?_⟩) (by assumption) ?_
              rotate_left
              · (intro wq hSq; clear hSq; go_simp; try with_reducible rfl)
              try simp only [Act.put, List.setIfInBounds_toArray, List.set_cons_zero, List.set_cons_succ]
              refine wpAnyH_take (i := 14) (v := ?_) (by simp only [List.getElem?_toArray, List.getElem?_cons_succ, List.getElem?_cons_zero]; rfl) (by kernel_rfl) (by kernel_rfl) (by kernel_rfl) (fun _ _ _ h => h) (Or.inl ⟨by rfl, ?_⟩) (by assumption) ?_
              rotate_left
              · (intro wq hSq; clear hSq; go_simp; try with_reducible rfl)
              try simp only [Act.put, List.setIfInBounds_toArray, List.set_cons_zero, List.set_cons_succ]
              refine wpAnyH_take (i := 15) (v := .bool false) (by simp only [List.getElem?_toArray, List.getElem?_cons_succ, List.getElem?_cons_zero]; rfl) (by kernel_rfl) (by kernel_rfl) (by kernel_rfl) (fun _ _ _ h => h) (Or.inl ⟨by rfl, by intro wq hSq; clear hSq; go_simp; try with_reducible rfl⟩) (by assumption) ?_
              try simp only [Act.put, List.setIfInBounds_toArray, List.set_cons_zero, List.set_cons_succ]
              refine wpAnyH_take (i := 16) (v := .bool false) (by simp only [List.getElem?_toArray, List.getElem?_cons_succ, List.getElem?_cons_zero]; rfl) (by kernel_rfl) (by kernel_rfl) (by kernel_rfl) (fun _ _ _ h => h) (Or.inl ⟨by rfl, by intro wq hSq; clear hSq; go_simp; try with_reducible rfl⟩) (by assumption) ?_
              try simp only [Act.put, List.setIfInBounds_toArray, List.set_cons_zero, List.set_cons_succ]
              refine wpAnyH_take (i := 17) (v := .bool false) (by simp only [List.getElem?_toArray, List.getElem?_cons_succ, List.getElem?_cons_zero]; rfl) (by kernel_rfl) (by kernel_rfl) (by kernel_rfl) (fun _ _ _ h => h) (Or.inl ⟨by rfl, by intro wq hSq; clear hSq; go_simp; try with_reducible rfl⟩) (by assumption) ?_
              try simp only [Act.put, List.setIfInBounds_toArray, List.set_cons_zero, List.set_cons_succ]
              refine wpAnyH_take (i := 18) (v := ?_) (by simp only [List.getElem?_toArray, List.getElem?_cons_succ, List.getElem?_cons_zero]; rfl) (by kernel_rfl) (by kernel_rfl) (by kernel_rfl) (fun _ _ _ h => h) (Or.inl ⟨by rfl, ?_⟩) (by assumption) ?_
              rotate_left
              · (intro wq hSq; clear hSq; go_simp; try with_reducible rfl)
              try simp only [Act.put, List.setIfInBounds_toArray, List.set_cons_zero, List.set_cons_succ]
              refine wpAnyH_take (i := 19) (v := ?_) (by simp only [List.getElem?_toArray, List.getElem?_cons_succ, List.getElem?_cons_zero]; rfl) (by kernel_rfl) (by kernel_rfl) (by kernel_rfl) (fun _ _ _ h => h) (Or.inl ⟨by rfl, ?_⟩) (by assumption) ?_
              rotate_left
              · (intro wq hSq; clear hSq; go_simp; try with_reducible rfl)
              try simp only [Act.put, List.setIfInBounds_toArray, List.set_cons_zero, List.set_cons_succ]
              refine wpAnyH_take (i := 20) (v := .bool false) (by simp only [List.getElem?_toArray, List.getElem?_cons_succ, List.getElem?_cons_zero]; rfl) (by kernel_rfl) (by kernel_rfl) (by kernel_rfl) (fun _ _ _ h => h) (Or.inl ⟨by rfl, by intro wq hSq; clear hSq; go_simp; try with_reducible rfl⟩) (by assumption) ?_
              try simp only [Act.put, List.setIfInBounds_toArray, List.set_cons_zero, List.set_cons_succ]
              refine wpAnyH_take (i := 21) (v := .bool false) (by simp only [List.getElem?_toArray, List.getElem?_cons_succ, List.getElem?_cons_zero]; rfl) (by kernel_rfl) (by kernel_rfl) (by kernel_rfl) (fun _ _ _ h => h) (Or.inl ⟨by rfl, by intro wq hSq; clear hSq; go_simp; try with_reducible rfl⟩) (by assumption) ?_
              try simp only [Act.put, List.setIfInBounds_toArray, List.set_cons_zero, List.set_cons_succ]
              refine wpAnyH_take (i := 22) (v := .bool false) (by simp only [List.getElem?_toArray, List.getElem?_cons_succ, List.getElem?_cons_zero]; rfl) (by kernel_rfl) (by kernel_rfl) (by kernel_rfl) (fun _ _ _ h => h) (Or.inl ⟨by rfl, by intro wq hSq; clear hSq; go_simp; try with_reducible rfl⟩) (by assumption) ?_
              try simp only [Act.put, List.setIfInBounds_toArray, List.set_cons_zero, List.set_cons_succ]
              refine wpAnyH_take (i := 23) (v := ?_) (by simp only [List.getElem?_toArray, List.getElem?_cons_succ, List.getElem?_cons_zero]; rfl) (by kernel_rfl) (by kernel_rfl) (by kernel_rfl) (fun _ _ _ h => h) (Or.inl ⟨by rfl, ?_⟩) (by assumption) ?_
              rotate_left
              · (intro wq hSq; clear hSq; go_simp; try with_reducible rfl)
              try simp only [Act.put, List.setIfInBounds_toArray, List.set_cons_zero, List.set_cons_succ]
              refine wpAnyH_take (i := 25) (v := ?_) (by simp only [List.getElem?_toArray, List.getElem?_cons_succ, List.getElem?_cons_zero]; rfl) (by kernel_rfl) (by kernel_rfl) (by kernel_rfl) (fun _ _ _ h => h) (Or.inl ⟨by rfl, ?_⟩) (by assumption) ?_
              rotate_left
              · (intro wq hSq; clear hSq; go_simp; try with_reducible rfl)
              try simp only [Act.put, List.setIfInBounds_toArray, List.set_cons_zero, List.set_cons_succ]
              refine wpAnyH_ready (rs := [24]) (by kernel_rfl) (by simp) ?_
              refine AllReadyH.cons rfl (fun K hK => ?_) AllReadyH.nil
              have HS24 : Hid _ := hHeld
              clear hHeld
              go_simp
              go_at_call 21
              refine HX4.out.held.mono ?_
              rintro e _ ⟨rfl, rfl⟩
              try dsimp only
              refine hK.out _ _ (HS24.out) (fun hHeld => ?_)
              clear hK K
              try simp only [Act.put, List.setIfInBounds_toArray, List.set_cons_zero, List.set_cons_succ]
              refine wpAnyH_ready (rs := [26]) (by kernel_rfl) (by simp) ?_
              refine AllReadyH.cons rfl (fun K hK => ?_) AllReadyH.nil
              have HS26 : Hid _ := hHeld
              clear hHeld
              go_simp
              go_at_call 22
              refine HX4.out.rheld.mono ?_
              rintro e w6 ⟨rfl, b6⟩
              have HX6 : Hid (Tw w.heap.size w w6 p q m1 m1) := HX4.out.go b6
              try dsimp only
              refine hK.out _ _ (HK.out b6 HS26.out) (fun hHeld => ?_)
              clear hK K
              try simp only [Act.put, List.setIfInBounds_toArray, List.set_cons_zero, List.set_cons_succ]
              refine wpAnyH_take (i := 27) (v := .bool false) (by simp only [List.getElem?_toArray, List.getElem?_cons_succ, List.getElem?_cons_zero]; rfl) (by kernel_rfl) (by kernel_rfl) (by kernel_rfl) (fun _ _ _ h => h) (Or.inl ⟨by rfl, by intro wq hSq; clear hSq; go_simp; try with_reducible rfl⟩) (by assumption) ?_
              try simp only [Act.put, List.setIfInBounds_toArray, List.set_cons_zero, List.set_cons_succ]
              refine wpAnyH_take (i := 28) (v := .bool false) (by simp only [List.getElem?_toArray, List.getElem?_cons_succ, List.getElem?_cons_zero]; rfl) (by kernel_rfl) (by kernel_rfl) (by kernel_rfl) (fun _ _ _ h => h) (Or.inl ⟨by rfl, by intro wq hSq; clear hSq; go_simp; try with_reducible rfl⟩) (by assumption) ?_
              try simp only [Act.put, List.setIfInBounds_toArray, List.set_cons_zero, List.set_cons_succ]
              refine wpAnyH_take (i := 29) (v := .bool false) (by simp only [List.getElem?_toArray, List.getElem?_cons_succ, List.getElem?_cons_zero]; rfl) (by kernel_rfl) (by kernel_rfl) (by kernel_rfl) (fun _ _ _ h => h) (Or.inl ⟨by rfl, by intro wq hSq; clear hSq; go_simp; try with_reducible rfl⟩) (by assumption) ?_
              try simp only [Act.put, List.setIfInBounds_toArray, List.set_cons_zero, List.set_cons_succ]
              refine wpAnyH_take (i := 30) (v := ?_) (by simp only [List.getElem?_toArray, List.getElem?_cons_succ, List.getElem?_cons_zero]; rfl) (by kernel_rfl) (by kernel_rfl) (by kernel_rfl) (fun _ _ _ h => h) (Or.inl ⟨by rfl, ?_⟩) (by assumption) ?_
              rotate_left
              · (intro wq hSq; clear hSq; go_simp; try with_reducible rfl)
              try simp only [Act.put, List.setIfInBounds_toArray, List.set_cons_zero, List.set_cons_succ]
              refine wpAnyH_take (i := 32) (v := ?_) (by simp only [List.getElem?_toArray, List.getElem?_cons_succ, List.getElem?_cons_zero]; rfl) (by kernel_rfl) (by kernel_rfl) (by kernel_rfl) (fun _ _ _ h => h) (Or.inl ⟨by rfl, ?_⟩) (by assumption) ?_
              rotate_left
              · (intro wq hSq; clear hSq; go_simp; try with_reducible rfl)
              try simp only [Act.put, List.setIfInBounds_toArray, List.set_cons_zero, List.set_cons_succ]
              refine wpAnyH_take (i := 33) (v := ?_) (by simp only [List.getElem?_toArray, List.getElem?_cons_succ, List.getElem?_cons_zero]; rfl) (by kernel_rfl) (by kernel_rfl) (by kernel_rfl) (fun _ _ _ h => h) (Or.inl ⟨by rfl, ?_⟩) (by assumption) ?_
              rotate_left
              · (intro wq hSq; clear hSq; go_simp; try with_reducible rfl)
              try simp only [Act.put, List.setIfInBounds_toArray, List.set_cons_zero, List.set_cons_succ]
              refine wpAnyH_take (i := 34) (v := ?_) (by simp only [List.getElem?_toArray, List.getElem?_cons_succ, List.getElem?_cons_zero]; rfl) (by kernel_rfl) (by kernel_rfl) (by kernel_rfl) (fun _ _ _ h => h) (Or.inl ⟨by rfl, ?_⟩) (by assumption) ?_
              rotate_left
              · (intro wq hSq; clear hSq; go_simp; try with_reducible rfl)
              try simp only [Act.put, List.setIfInBounds_toArray, List.set_cons_zero, List.set_cons_succ]
              refine wpAnyH_take (i := 35) (v := .int .u16 m1.n) (by simp only [List.getElem?_toArray, List.getElem?_cons_succ, List.getElem?_cons_zero]; rfl) (by kernel_rfl) (by kernel_rfl) (by kernel_rfl) (fun _ _ _ h => h) (Or.inl ⟨by rfl, by intro wq hSq; obtain ⟨q0, q1, q2, q3, q4, q5, q6, q7, q8, q9, q10, q11, q12⟩ := hSq; go_simp; try with_reducible rfl⟩) (by assumption) ?_
              try simp only [Act.put, List.setIfInBounds_toArray, List.set_cons_zero, List.set_cons_succ]
              refine wpAnyH_ready (rs := [31]) (by kernel_rfl) (by simp) ?_
              refine AllReadyH.cons rfl (fun K hK => ?_) AllReadyH.nil
              have HS31 : Hid _ := hHeld
              clear hHeld
              go_simp
              go_at_call 23
              refine HX6.out.next.mono ?_
              rintro e _ ⟨rfl, rfl⟩
              try dsimp only
              refine hK.out _ _ (HS31.out) (fun hHeld => ?_)
              clear hK K
              try simp only [Act.put, List.setIfInBounds_toArray, List.set_cons_zero, List.set_cons_succ]
              refine wpAnyH_take (i := 36) (v := .bool false) (by simp only [List.getElem?_toArray, List.getElem?_cons_succ, List.getElem?_cons_zero]; rfl) (by kernel_rfl) (by kernel_rfl) (by kernel_rfl) (fun _ _ _ h => h) (Or.inl ⟨by rfl, by intro wq hSq; clear hSq; go_simp; try with_reducible rfl⟩) (by assumption) ?_
              try simp only [Act.put, List.setIfInBounds_toArray, List.set_cons_zero, List.set_cons_succ]
              refine wpAnyH_take (i := 37) (v := .bool false) (by simp only [List.getElem?_toArray, List.getElem?_cons_succ, List.getElem?_cons_zero]; rfl) (by kernel_rfl) (by kernel_rfl) (by kernel_rfl) (fun _ _ _ h => h) (Or.inl ⟨by rfl, by intro wq hSq; clear hSq; go_simp; try with_reducible rfl⟩) (by assumption) ?_
              try simp only [Act.put, List.setIfInBounds_toArray, List.set_cons_zero, List.set_cons_succ]
              refine wpAnyH_done (by kernel_rfl) ?_ _
              refine NoPanic.normal ?_
              -- ENDR27
              clear heq hgt HK c0 c1 c2 c3 c4 c5 d0 d1 d2 d3 d4 d5 e1
              go_wp2_with fail
              go_roundg (l.length - (k + 1))
              case measure => omega
              case rel => exact ⟨k + 1, m1, by go_num, by omega, rfl, HX6.out⟩
        · obtain rfl : k = l.length := by omega
          have HL : Hid (Tw w.heap.size w wr p q m m) := hX.out
          clear hX HAC HF
          go_wp2_with (go_at_call 9; refine (lives_any _).mono ?_; rintro e x1 ⟨rfl, B1⟩)
          go_ret
          exact ⟨rfl, HL.out.bel.trans (B1.mono HL.out.size)⟩
end Go.Proofs.Ytkdjpleedaldcaa
