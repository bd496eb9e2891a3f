/-
  THE WALK of WindowActs.
-/
import Derived.Test.YthdoilinpeheiaaDoorTwo20
import Derived.Deep.CutBlock
namespace Go.Proofs.YthdoilinpeheiaaDoor
open Go.RowKit
set_option maxRecDepth 100000

theorem drew_below20a (w : World) : Below w.heap.size w w.drew := (Below.refl _ w).drew
theorem two_new (n t : Nat) (w : World) (h1 : 1 ≤ n) (h2 : n ≤ 32) (h3 : 1 ≤ t) (h4 : t ≤ 1000) : ∀ w', Lw w.heap.size w w' w.heap.size (newW n t) → w'.heap.size = w.heap.size + 1 → Calls Tryd.prog 9 #[.int .i64 n, .int .i64 t] w' fun e w'' => e = .returned (.pointer (some ⟨w.heap.size + 2, 0, none⟩)) ∧ Tw w.heap.size w w'' w.heap.size (w.heap.size + 2) (newW n t) (newW n t) := fun w' X hs => by
  refine (rnew_good n t w' h1 h2 h3 h4).mono ?_
  rintro e w'' ⟨rfl, r, b⟩
  rw [hs] at r ⊢
  exact ⟨rfl, X.go b, newW_ok h1 h2 h3 h4, ⟨_, _, r, w.heap.size + 1, rfl, by omega, by omega⟩, by omega, by omega⟩

set_option maxHeartbeats 4000000 in
theorem acts_law (n t : Int) (v : Value) (l : List Ac) (w : World) (_hn : -9223372036854775808 ≤ n ∧ n ≤ 9223372036854775807) (_ht : -9223372036854775808 ≤ t ∧ t ≤ 9223372036854775807) (hr : K.RowOf acells w v l) (hf : ∀ a ∈ l, a.Fits) (hT : Tab w) : Calls Tryd.prog 3 #[.int .i64 n, .int .i64 t, v] w fun e w' => e = .returned (.bool true) ∧ Below w.heap.size w w' := by
  have hpos := hT.pos
  obtain ⟨va, vc, rfl⟩ := hr.slice
  have hcap : l.length ≤ maxLen := (acs_at hr).2.1
  have hcap2 : (l.length : Int) ≤ 9223372036854775807 := by unfold maxLen at hcap; omega
  have HA := acs_at hr
  have HAC : Hid _ := HA.2.2
  have HF : Hid _ := hf
  clear hr hf HA
  cases hm : mayW n t with
  | false =>
    go_enter Tryd.func3, Tryd.ntmps3
    go_wp2_with (first
      | (go_at_call 8; refine (new_bad n t _ hm).mono ?_; rintro e w ⟨rfl, rfl⟩)
      | (go_at_call 9; refine (rnew_bad n t _ hm).mono ?_; rintro e w ⟨rfl, rfl⟩)
      | (go_at_call 10; refine (lives_any _ hT).mono ?_; rintro e x1 ⟨rfl, B1⟩))
    go_ret
    exact ⟨rfl, B1⟩
  | true =>
    have hmm : (1 ≤ n ∧ n ≤ 32) ∧ (1 ≤ t ∧ t ≤ 1000) := by unfold mayW at hm; simpa [Bool.and_eq_true] using hm
    obtain ⟨n, rfl⟩ : ∃ z : Nat, n = z := ⟨n.toNat, by omega⟩
    obtain ⟨t, rfl⟩ : ∃ z : Nat, t = z := ⟨t.toNat, by omega⟩
    have hn1 : 1 ≤ n := by omega
    have hn2 : n ≤ 32 := by omega
    have ht1 : 1 ≤ t := by omega
    have ht2 : t ≤ 1000 := by omega
    have hN : Calls Tryd.prog 8 #[.int .i64 n, .int .i64 t] w fun e w' => e = .returned (.pointer (some ⟨w.heap.size, 0, none⟩)) ∧ Lw w.heap.size w w' w.heap.size (newW n t) ∧ w'.heap.size = w.heap.size + 1 := by
      refine (new_good n t w hn1 hn2 ht1 ht2).mono ?_
      rintro e w' ⟨rfl, a, b, hs⟩
      exact ⟨rfl, ⟨a, newW_ok hn1 hn2 ht1 ht2, Nat.le_refl _, b, hT, hpos⟩, hs⟩
    have hR := two_new n t w hn1 hn2 ht1 ht2
    clear hm hmm
    by_cases h300 : 300 < l.length
    · have h300' : (300 : Int) < (l.length : Int) := by omega
      go_enter Tryd.func3, Tryd.ntmps3
      go_wp2_with (first
        | (go_at_call 8; refine hN.mono ?_; rintro e x0 ⟨rfl, X0, s0⟩)
        | (go_at_call 9; refine (hR _ X0 s0).mono ?_; rintro e x1 ⟨rfl, T1⟩)
        | (go_at_call 10; refine (lives_any _ T1.X.tabs).mono ?_; rintro e x2 ⟨rfl, B1⟩))
      go_ret
      exact ⟨rfl, T1.X.bel.trans (B1.mono T1.X.size)⟩
    · have h300' : ¬ (300 : Int) < (l.length : Int) := by omega
      go_enter Tryd.func3, Tryd.ntmps3
      go_wp2_with (first
        | (go_at_call 8; refine hN.mono ?_; rintro e x0 ⟨rfl, X0, s0⟩)
        | (go_at_call 9; refine (hR _ X0 s0).mono ?_; rintro e x1 ⟨rfl, T1⟩))
      clear hN hR X0 s0
      obtain ⟨p, hp⟩ : ∃ p, p = w.heap.size := ⟨_, rfl⟩
      obtain ⟨q, hq⟩ : ∃ q, q = w.heap.size + 2 := ⟨_, rfl⟩
      rw [← hq, ← hp] at T1
      have HT1 : Hid _ := T1
      have HP : Hid (p = w.heap.size) := hp
      have HACp : Hid (∀ (i : Nat) (hi : i < l.length), ∃ b off, va = some ⟨b, off, none⟩ ∧ b < p ∧ w.cell? ⟨b, off + i * 5, none⟩ = some (.int .i64 l[i].kind) ∧ w.cell? ⟨b, off + i * 5 + 1, none⟩ = some (.int .i64 l[i].hv) ∧ w.cell? ⟨b, off + i * 5 + 2, none⟩ = some (.int .i64 l[i].now) ∧ w.cell? ⟨b, off + i * 5 + 3, none⟩ = some (.int .u16 l[i].num) ∧ w.cell? ⟨b, off + i * 5 + 4, none⟩ = some (.int .u64 l[i].set)) := by rw [hp]; exact HAC.out
      rw [← hq, ← hp]
      clear hp hq HAC T1
      go_loopg [34] l.length (fun g u34 wr => ∃ (k : Nat) (m : Wn), u34 = .int .i64 k ∧ k ≤ l.length ∧ g = l.length - k ∧ Hid (Tw p w wr p q m m))
      case atStart => exact ⟨0, _, rfl, Nat.zero_le _, rfl, HT1.out⟩
      case round =>
        obtain ⟨k, m, rfl, hk, rfl, hX⟩ := hrel
        clear HT1
        by_cases hlt2 : k < l.length
        · have hlt : (k : Int) < (l.length : Int) := by omega
          have hfit := HF.out l[k] (List.getElem_mem hlt2)
          obtain ⟨b, off, rfl, hbp, c0, c1, c2, c3, c4⟩ := HACp.out k hlt2
          have bel := hX.out.X.bel
          replace c0 := (bel.cell (p := ⟨b, off + k * 5, none⟩) hbp).trans c0
          replace c1 := (bel.cell (p := ⟨b, off + k * 5 + 1, none⟩) hbp).trans c1
          replace c2 := (bel.cell (p := ⟨b, off + k * 5 + 2, none⟩) hbp).trans c2
          replace c3 := (bel.cell (p := ⟨b, off + k * 5 + 3, none⟩) hbp).trans c3
          replace c4 := (bel.cell (p := ⟨b, off + k * 5 + 4, none⟩) hbp).trans c4
          generalize l[k] = a at *
          obtain ⟨qa, hqa⟩ : ∃ qa, qa = wr.heap.size := ⟨_, rfl⟩
          obtain ⟨W1, hW1⟩ : ∃ W1, W1 = wr.alloc (.cells #[.int .i64 a.kind, .int .i64 a.hv, .int .i64 a.now, .int .u16 a.num, .int .u64 a.set] 31) := ⟨_, rfl⟩
          have R1 : Rw p w W1 p q m m qa a := ⟨by rw [hW1]; exact hX.out.go ((Below.refl _ _).alloc (Nat.le_refl _) _), by rw [hW1, hqa]; exact heap_alloc_new wr _, by have := hX.out.X.at.lt; omega, by have := hX.out.rlt; omega⟩
          have hqp : p ≤ q := hX.out.lowq
          have fold := hW1.symm
          clear hX bel hW1
          go_upto_region 9 with fail
          rw [← hqa]
          clear fold hqa c0 c1 c2 c3 c4 HACp
          obtain ⟨k0, k1, k2, k3, k4⟩ := R1.cell
          go_upto_block 2 with fail
          go_cut [11, 12] from 41 to 81 (fun u11 u12 wx => u11 = .bool true ∧ ∃ m', Hid (Rw p w wx p q m' m' qa a))
          case first =>
            by_cases hk0 : a.kind = 0
            · have hb0 : (a.kind == (0 : Int)) = true := by simpa using hk0
              clear hk0
              go_upto_region 12 with fail
              clear k0 k1 k2 k3 k4 hb0
              have R2 := R1.go (drew_below20a W1)
              have R3 := R2
              have hqlt : q < W1.drew.heap.size := R2.T.rlt
              have hLL : (sendL m (nowN a.now) (lookN m a.hv) == sendL m (nowN a.now) (lookN m a.hv)) = true := by simp
              -- R12
              refine wp_region_noPanic ?_
              refine wp_region_held_drew (S := fun w' => w'.cell? ⟨qa, 0, none⟩ = some (.int .i64 a.kind) ∧ w'.cell? ⟨qa, 1, none⟩ = some (.int .i64 a.hv) ∧ w'.cell? ⟨qa, 2, none⟩ = some (.int .i64 a.now) ∧ w'.cell? ⟨qa, 3, none⟩ = some (.int .u16 a.num) ∧ w'.cell? ⟨qa, 4, none⟩ = some (.int .u64 a.set)) (by kernel_rfl) (R2.cell) (fun hHeld => ?_)
              refine wpAnyH_take (i := 0) (v := ?_) (by simp only [List.getElem?_toArray, List.getElem?_cons_zero]; rfl) (by kernel_rfl) (by kernel_rfl) (by kernel_rfl) (fun _ _ _ h => h) (Or.inl ⟨by rfl, ?_⟩) (by assumption) ?_
              rotate_left
              · (intro wq hSq; clear hSq; go_simp; try with_reducible rfl)
              try simp only [Act.put, List.setIfInBounds_toArray, List.set_cons_zero, List.set_cons_succ]
              refine wpAnyH_take (i := 1) (v := ?_) (by simp only [List.getElem?_toArray, List.getElem?_cons_succ, List.getElem?_cons_zero]; rfl) (by kernel_rfl) (by kernel_rfl) (by kernel_rfl) (fun _ _ _ h => h) (Or.inl ⟨by rfl, ?_⟩) (by assumption) ?_
              rotate_left
              · (intro wq hSq; clear hSq; go_simp; try with_reducible rfl)
              try simp only [Act.put, List.setIfInBounds_toArray, List.set_cons_zero, List.set_cons_succ]
              refine wpAnyH_take (i := 2) (v := .int .i64 a.hv) (by simp only [List.getElem?_toArray, List.getElem?_cons_succ, List.getElem?_cons_zero]; rfl) (by kernel_rfl) (by kernel_rfl) (by kernel_rfl) (fun _ _ _ h => h) (Or.inl ⟨by rfl, by intro wq hSq; obtain ⟨q0, q1, q2, q3, q4⟩ := hSq; go_simp; try with_reducible rfl⟩) (by assumption) ?_
              try simp only [Act.put, List.setIfInBounds_toArray, List.set_cons_zero, List.set_cons_succ]
              refine wpAnyH_take (i := 3) (v := ?_) (by simp only [List.getElem?_toArray, List.getElem?_cons_succ, List.getElem?_cons_zero]; rfl) (by kernel_rfl) (by kernel_rfl) (by kernel_rfl) (fun _ _ _ h => h) (Or.inl ⟨by rfl, ?_⟩) (by assumption) ?_
              rotate_left
              · (intro wq hSq; clear hSq; go_simp; try with_reducible rfl)
              try simp only [Act.put, List.setIfInBounds_toArray, List.set_cons_zero, List.set_cons_succ]
              refine wpAnyH_take (i := 4) (v := .int .i64 a.now) (by simp only [List.getElem?_toArray, List.getElem?_cons_succ, List.getElem?_cons_zero]; rfl) (by kernel_rfl) (by kernel_rfl) (by kernel_rfl) (fun _ _ _ h => h) (Or.inl ⟨by rfl, by intro wq hSq; obtain ⟨q0, q1, q2, q3, q4⟩ := hSq; go_simp; try with_reducible rfl⟩) (by assumption) ?_
              try simp only [Act.put, List.setIfInBounds_toArray, List.set_cons_zero, List.set_cons_succ]
              refine wpAnyH_take (i := 6) (v := ?_) (by simp only [List.getElem?_toArray, List.getElem?_cons_succ, List.getElem?_cons_zero]; rfl) (by kernel_rfl) (by kernel_rfl) (by kernel_rfl) (fun _ _ _ h => h) (Or.inl ⟨by rfl, ?_⟩) (by assumption) ?_
              rotate_left
              · (intro wq hSq; clear hSq; go_simp; try with_reducible rfl)
              try simp only [Act.put, List.setIfInBounds_toArray, List.set_cons_zero, List.set_cons_succ]
              refine wpAnyH_take (i := 7) (v := ?_) (by simp only [List.getElem?_toArray, List.getElem?_cons_succ, List.getElem?_cons_zero]; rfl) (by kernel_rfl) (by kernel_rfl) (by kernel_rfl) (fun _ _ _ h => h) (Or.inl ⟨by rfl, ?_⟩) (by assumption) ?_
              rotate_left
              · (intro wq hSq; clear hSq; go_simp; try with_reducible rfl)
              try simp only [Act.put, List.setIfInBounds_toArray, List.set_cons_zero, List.set_cons_succ]
              refine wpAnyH_take (i := 8) (v := .int .i64 a.hv) (by simp only [List.getElem?_toArray, List.getElem?_cons_succ, List.getElem?_cons_zero]; rfl) (by kernel_rfl) (by kernel_rfl) (by kernel_rfl) (fun _ _ _ h => h) (Or.inl ⟨by rfl, by intro wq hSq; obtain ⟨q0, q1, q2, q3, q4⟩ := hSq; go_simp; try with_reducible rfl⟩) (by assumption) ?_
              try simp only [Act.put, List.setIfInBounds_toArray, List.set_cons_zero, List.set_cons_succ]
              refine wpAnyH_take (i := 9) (v := ?_) (by simp only [List.getElem?_toArray, List.getElem?_cons_succ, List.getElem?_cons_zero]; rfl) (by kernel_rfl) (by kernel_rfl) (by kernel_rfl) (fun _ _ _ h => h) (Or.inl ⟨by rfl, ?_⟩) (by assumption) ?_
              rotate_left
              · (intro wq hSq; clear hSq; go_simp; try with_reducible rfl)
              try simp only [Act.put, List.setIfInBounds_toArray, List.set_cons_zero, List.set_cons_succ]
              refine wpAnyH_take (i := 10) (v := .int .i64 a.now) (by simp only [List.getElem?_toArray, List.getElem?_cons_succ, List.getElem?_cons_zero]; rfl) (by kernel_rfl) (by kernel_rfl) (by kernel_rfl) (fun _ _ _ h => h) (Or.inl ⟨by rfl, by intro wq hSq; obtain ⟨q0, q1, q2, q3, q4⟩ := hSq; go_simp; try with_reducible rfl⟩) (by assumption) ?_
              try simp only [Act.put, List.setIfInBounds_toArray, List.set_cons_zero, List.set_cons_succ]
              refine wpAnyH_ready (rs := [5]) (by kernel_rfl) (by simp) ?_
              refine AllReadyH.cons rfl (fun K hK => ?_) AllReadyH.nil
              have HS5 : Hid _ := hHeld
              clear hHeld
              go_simp
              go_at_call 12
              refine (R3.send a.hv a.now).mono ?_
              rintro e y1 ⟨v1, rfl, l1, Y1, z1⟩
              have HL1 : Hid _ := l1
              clear l1
              try dsimp only
              refine hK.out _ _ (Y1.cell) (fun hHeld => ?_)
              clear hK K
              try simp only [Act.put, List.setIfInBounds_toArray, List.set_cons_zero, List.set_cons_succ]
              refine wpAnyH_ready (rs := [11]) (by kernel_rfl) (by simp) ?_
              refine AllReadyH.cons rfl (fun K hK => ?_) AllReadyH.nil
              have HS11 : Hid _ := hHeld
              clear hHeld
              go_simp
              go_at_call 13
              refine (Y1.rsend a.hv a.now HL1.out hqlt Y1.T.X.at.lt).mono ?_
              rintro e y2 ⟨v2, rfl, r2, r1, Y2⟩
              have HR2 : Hid _ := And.intro r1 r2
              clear r1 r2
              try dsimp only
              refine hK.out _ _ (Y2.cell) (fun hHeld => ?_)
              clear hK K
              try simp only [Act.put, List.setIfInBounds_toArray, List.set_cons_zero, List.set_cons_succ]
              refine wpAnyH_ready (rs := [12]) (by kernel_rfl) (by simp) ?_
              refine AllReadyH.cons rfl (fun K hK => ?_) AllReadyH.nil
              have HS12 : Hid _ := hHeld
              clear hHeld
              go_simp
              go_at_call 11
              refine (ints_any v1 v2 (sendL m (nowN a.now) (lookN m a.hv)) (sendL m (nowN a.now) (lookN m a.hv)) _ HR2.out.1 HR2.out.2).mono ?_
              rintro e y3 ⟨rfl, b3⟩
              have Y3 := Y2.go b3
              try dsimp only
              refine hK.out _ _ (Y3.cell) (fun hHeld => ?_)
              clear hK K
              try simp only [Act.put, List.setIfInBounds_toArray, List.set_cons_zero, List.set_cons_succ]
              refine wpAnyH_take (i := 13) (v := .bool (sendL m (nowN a.now) (lookN m a.hv) == sendL m (nowN a.now) (lookN m a.hv))) (by simp only [List.getElem?_toArray, List.getElem?_cons_succ, List.getElem?_cons_zero]; rfl) (by kernel_rfl) (by kernel_rfl) (by kernel_rfl) (fun _ _ _ h => h) (Or.inl ⟨by rfl, by intro wq hSq; clear hSq; go_simp; try with_reducible rfl⟩) (by assumption) ?_
              try simp only [Act.put, List.setIfInBounds_toArray, List.set_cons_zero, List.set_cons_succ]
              refine wpAnyH_done (by kernel_rfl) ?_ _
              refine NoPanic.normal ?_
              -- ENDR12
              go_wp2
              go_meet
              exact ⟨by first | rfl | exact congrArg Value.bool hLL, _, Y3⟩
            · have hb0 : (a.kind == (0 : Int)) = false := by simpa using hk0
              go_upto_if 56 with fail
              go_cut [56] from 57 to 58 (fun u56 wx => u56 = .bool (decide (a.kind = 1 ∨ a.kind = 2)) ∧ wx = W1)
              case first =>
                by_cases h1 : a.kind = 1
                · have hb1 : (a.kind == (1 : Int)) = true := by simpa using h1
                  go_wp2
                  go_meet
                  exact ⟨congrArg Value.bool (by rw [Bool.eq_iff_iff]; simp [h1]), rfl⟩
                · have hb1 : (a.kind == (1 : Int)) = false := by simpa using h1
                  go_wp2
                  go_meet
                  exact ⟨congrArg Value.bool (by rw [Bool.eq_iff_iff]; simp [h1]), rfl⟩
              case rest =>
                obtain ⟨rfl, hwc⟩ := hcut
                subst hwc
                by_cases h12 : a.kind = 1 ∨ a.kind = 2
                · have hd : decide (a.kind = 1 ∨ a.kind = 2) = true := decide_eq_true h12
                  rw [hd]
                  clear hd hk0 hb0 h12
                  go_upto_region 15 with fail
                  clear k0 k1 k2 k3 k4
                  have R2 := R1.go (drew_below20a wc)
                  have R3 := R2
                  -- R15
                  refine wp_region_noPanic ?_
                  refine wp_region_held_drew (S := fun w' => (w'.cell? ⟨qa, 0, none⟩ = some (.int .i64 a.kind) ∧ w'.cell? ⟨qa, 1, none⟩ = some (.int .i64 a.hv) ∧ w'.cell? ⟨qa, 2, none⟩ = some (.int .i64 a.now) ∧ w'.cell? ⟨qa, 3, none⟩ = some (.int .u16 a.num) ∧ w'.cell? ⟨qa, 4, none⟩ = some (.int .u64 a.set)) ∧ w'.cell? ⟨q, 2, none⟩ = some (.int .u16 m.b)) (by kernel_rfl) (R2.cells6) (fun hHeld => ?_)
                  refine wpAnyH_take (i := 0) (v := acv a) (by simp only [List.getElem?_toArray, List.getElem?_cons_zero]; rfl) (by kernel_rfl) (by kernel_rfl) (by kernel_rfl) (fun _ _ _ h => h) (Or.inl ⟨by rfl, by intro wq hSq; obtain ⟨⟨q0, q1, q2, q3, q4⟩, q5⟩ := hSq; go_simp; try with_reducible rfl⟩) (by assumption) ?_
                  try simp only [Act.put, List.setIfInBounds_toArray, List.set_cons_zero, List.set_cons_succ]
                  refine wpAnyH_take (i := 1) (v := ?_) (by simp only [List.getElem?_toArray, List.getElem?_cons_succ, List.getElem?_cons_zero]; rfl) (by kernel_rfl) (by kernel_rfl) (by kernel_rfl) (fun _ _ _ h => h) (Or.inl ⟨by rfl, ?_⟩) (by assumption) ?_
                  rotate_left
                  · (intro wq hSq; clear hSq; go_simp; try with_reducible rfl)
                  try simp only [Act.put, List.setIfInBounds_toArray, List.set_cons_zero, List.set_cons_succ]
                  refine wpAnyH_take (i := 2) (v := ?_) (by simp only [List.getElem?_toArray, List.getElem?_cons_succ, List.getElem?_cons_zero]; rfl) (by kernel_rfl) (by kernel_rfl) (by kernel_rfl) (fun _ _ _ h => h) (Or.inl ⟨by rfl, ?_⟩) (by assumption) ?_
                  rotate_left
                  · (intro wq hSq; clear hSq; go_simp; try with_reducible rfl)
                  try simp only [Act.put, List.setIfInBounds_toArray, List.set_cons_zero, List.set_cons_succ]
                  refine wpAnyH_take (i := 3) (v := ?_) (by simp only [List.getElem?_toArray, List.getElem?_cons_succ, List.getElem?_cons_zero]; rfl) (by kernel_rfl) (by kernel_rfl) (by kernel_rfl) (fun _ _ _ h => h) (Or.inl ⟨by rfl, ?_⟩) (by assumption) ?_
                  rotate_left
                  · (intro wq hSq; clear hSq; go_simp; try with_reducible rfl)
                  try simp only [Act.put, List.setIfInBounds_toArray, List.set_cons_zero, List.set_cons_succ]
                  refine wpAnyH_take (i := 4) (v := .int .u16 m.b) (by simp only [List.getElem?_toArray, List.getElem?_cons_succ, List.getElem?_cons_zero]; rfl) (by kernel_rfl) (by kernel_rfl) (by kernel_rfl) (fun _ _ _ h => h) (Or.inl ⟨by rfl, by intro wq hSq; obtain ⟨⟨q0, q1, q2, q3, q4⟩, q5⟩ := hSq; go_simp; try with_reducible rfl⟩) (by assumption) ?_
                  try simp only [Act.put, List.setIfInBounds_toArray, List.set_cons_zero, List.set_cons_succ]
                  refine wpAnyH_ready (rs := [5]) (by kernel_rfl) (by simp) ?_
                  refine AllReadyH.cons rfl (fun K hK => ?_) AllReadyH.nil
                  have HS5 : Hid _ := hHeld
                  clear hHeld
                  go_simp
                  go_at_call 14
                  refine (num_any a m.b _ hfit).mono ?_
                  rintro e y1 ⟨rfl, b1⟩
                  have Y1 := R3.go b1
                  try dsimp only
                  refine hK.out _ _ (Y1.cells6) (fun hHeld => ?_)
                  clear hK K
                  try simp only [Act.put, List.setIfInBounds_toArray, List.set_cons_zero, List.set_cons_succ]
                  refine wpAnyH_take (i := 6) (v := ?_) (by simp only [List.getElem?_toArray, List.getElem?_cons_succ, List.getElem?_cons_zero]; rfl) (by kernel_rfl) (by kernel_rfl) (by kernel_rfl) (fun _ _ _ h => h) (Or.inl ⟨by rfl, ?_⟩) (by assumption) ?_
                  rotate_left
                  · (intro wq hSq; clear hSq; go_simp; try with_reducible rfl)
                  try simp only [Act.put, List.setIfInBounds_toArray, List.set_cons_zero, List.set_cons_succ]
                  refine wpAnyH_done (by kernel_rfl) ?_ _
                  refine NoPanic.normal ?_
                  -- ENDR15
                  go_upto_region 16 with fail
                  obtain ⟨Z1, hZ1⟩ : ∃ z, z = y1 := ⟨_, rfl⟩
                  subst hZ1
                  have Y2 := Y1.go (drew_below20a Z1)
                  -- R16
                  refine wp_region_noPanic ?_
                  refine wp_region_held_drew (S := fun w' => w'.cell? ⟨qa, 0, none⟩ = some (.int .i64 a.kind) ∧ w'.cell? ⟨qa, 1, none⟩ = some (.int .i64 a.hv) ∧ w'.cell? ⟨qa, 2, none⟩ = some (.int .i64 a.now) ∧ w'.cell? ⟨qa, 3, none⟩ = some (.int .u16 a.num) ∧ w'.cell? ⟨qa, 4, none⟩ = some (.int .u64 a.set)) (by kernel_rfl) (Y1.cell) (fun hHeld => ?_)
                  refine wpAnyH_take (i := 0) (v := ?_) (by simp only [List.getElem?_toArray, List.getElem?_cons_zero]; rfl) (by kernel_rfl) (by kernel_rfl) (by kernel_rfl) (fun _ _ _ h => h) (Or.inl ⟨by rfl, ?_⟩) (by assumption) ?_
                  rotate_left
                  · (intro wq hSq; clear hSq; go_simp; try with_reducible rfl)
                  try simp only [Act.put, List.setIfInBounds_toArray, List.set_cons_zero, List.set_cons_succ]
                  refine wpAnyH_take (i := 1) (v := ?_) (by simp only [List.getElem?_toArray, List.getElem?_cons_succ, List.getElem?_cons_zero]; rfl) (by kernel_rfl) (by kernel_rfl) (by kernel_rfl) (fun _ _ _ h => h) (Or.inl ⟨by rfl, ?_⟩) (by assumption) ?_
                  rotate_left
                  · (intro wq hSq; clear hSq; go_simp; try with_reducible rfl)
                  try simp only [Act.put, List.setIfInBounds_toArray, List.set_cons_zero, List.set_cons_succ]
                  refine wpAnyH_take (i := 2) (v := ?_) (by simp only [List.getElem?_toArray, List.getElem?_cons_succ, List.getElem?_cons_zero]; rfl) (by kernel_rfl) (by kernel_rfl) (by kernel_rfl) (fun _ _ _ h => h) (Or.inl ⟨by rfl, ?_⟩) (by assumption) ?_
                  rotate_left
                  · (intro wq hSq; clear hSq; go_simp; try with_reducible rfl)
                  try simp only [Act.put, List.setIfInBounds_toArray, List.set_cons_zero, List.set_cons_succ]
                  refine wpAnyH_take (i := 3) (v := .int .u64 a.set) (by simp only [List.getElem?_toArray, List.getElem?_cons_succ, List.getElem?_cons_zero]; rfl) (by kernel_rfl) (by kernel_rfl) (by kernel_rfl) (fun _ _ _ h => h) (Or.inl ⟨by rfl, by intro wq hSq; obtain ⟨q0, q1, q2, q3, q4⟩ := hSq; go_simp; try with_reducible rfl⟩) (by assumption) ?_
                  try simp only [Act.put, List.setIfInBounds_toArray, List.set_cons_zero, List.set_cons_succ]
                  refine wpAnyH_take (i := 5) (v := ?_) (by simp only [List.getElem?_toArray, List.getElem?_cons_succ, List.getElem?_cons_zero]; rfl) (by kernel_rfl) (by kernel_rfl) (by kernel_rfl) (fun _ _ _ h => h) (Or.inl ⟨by rfl, ?_⟩) (by assumption) ?_
                  rotate_left
                  · (intro wq hSq; clear hSq; go_simp; try with_reducible rfl)
                  try simp only [Act.put, List.setIfInBounds_toArray, List.set_cons_zero, List.set_cons_succ]
                  refine wpAnyH_take (i := 6) (v := ?_) (by simp only [List.getElem?_toArray, List.getElem?_cons_succ, List.getElem?_cons_zero]; rfl) (by kernel_rfl) (by kernel_rfl) (by kernel_rfl) (fun _ _ _ h => h) (Or.inl ⟨by rfl, ?_⟩) (by assumption) ?_
                  rotate_left
                  · (intro wq hSq; clear hSq; go_simp; try with_reducible rfl)
                  try simp only [Act.put, List.setIfInBounds_toArray, List.set_cons_zero, List.set_cons_succ]
                  refine wpAnyH_take (i := 7) (v := ?_) (by simp only [List.getElem?_toArray, List.getElem?_cons_succ, List.getElem?_cons_zero]; rfl) (by kernel_rfl) (by kernel_rfl) (by kernel_rfl) (fun _ _ _ h => h) (Or.inl ⟨by rfl, ?_⟩) (by assumption) ?_
                  rotate_left
                  · (intro wq hSq; clear hSq; go_simp; try with_reducible rfl)
                  try simp only [Act.put, List.setIfInBounds_toArray, List.set_cons_zero, List.set_cons_succ]
                  refine wpAnyH_take (i := 8) (v := .int .u64 a.set) (by simp only [List.getElem?_toArray, List.getElem?_cons_succ, List.getElem?_cons_zero]; rfl) (by kernel_rfl) (by kernel_rfl) (by kernel_rfl) (fun _ _ _ h => h) (Or.inl ⟨by rfl, by intro wq hSq; obtain ⟨q0, q1, q2, q3, q4⟩ := hSq; go_simp; try with_reducible rfl⟩) (by assumption) ?_
                  try simp only [Act.put, List.setIfInBounds_toArray, List.set_cons_zero, List.set_cons_succ]
                  refine wpAnyH_ready (rs := [4]) (by kernel_rfl) (by simp) ?_
                  refine AllReadyH.cons rfl (fun K hK => ?_) AllReadyH.nil
                  have HS4 : Hid _ := hHeld
                  clear hHeld
                  go_simp
                  go_at_call 15
                  refine (Y2.ack (numA a m.b) a.set hfit.set).mono ?_
                  rintro e y3 ⟨rfl, Y3⟩
                  try dsimp only
                  refine hK.out _ _ (Y3.cell) (fun hHeld => ?_)
                  clear hK K
                  try simp only [Act.put, List.setIfInBounds_toArray, List.set_cons_zero, List.set_cons_succ]
                  refine wpAnyH_ready (rs := [9]) (by kernel_rfl) (by simp) ?_
                  refine AllReadyH.cons rfl (fun K hK => ?_) AllReadyH.nil
                  have HS9 : Hid _ := hHeld
                  clear hHeld
                  go_simp
                  go_at_call 16
                  refine (Y3.rack (numA a m.b) a.set (numA_lt hfit m.b) hfit.set).mono ?_
                  rintro e y4 ⟨rfl, Y4⟩
                  try dsimp only
                  refine hK.out _ _ (Y4.cell) (fun hHeld => ?_)
                  clear hK K
                  try simp only [Act.put, List.setIfInBounds_toArray, List.set_cons_zero, List.set_cons_succ]
                  refine wpAnyH_take (i := 10) (v := .bool true) (by simp only [List.getElem?_toArray, List.getElem?_cons_succ, List.getElem?_cons_zero]; rfl) (by kernel_rfl) (by kernel_rfl) (by kernel_rfl) (fun _ _ _ h => h) (Or.inl ⟨by rfl, by intro wq hSq; clear hSq; go_simp; try with_reducible rfl⟩) (by assumption) ?_
                  try simp only [Act.put, List.setIfInBounds_toArray, List.set_cons_zero, List.set_cons_succ]
                  refine wpAnyH_take (i := 11) (v := .bool true) (by simp only [List.getElem?_toArray, List.getElem?_cons_succ, List.getElem?_cons_zero]; rfl) (by kernel_rfl) (by kernel_rfl) (by kernel_rfl) (fun _ _ _ h => h) (Or.inl ⟨by rfl, by intro wq hSq; clear hSq; go_simp; try with_reducible rfl⟩) (by assumption) ?_
                  try simp only [Act.put, List.setIfInBounds_toArray, List.set_cons_zero, List.set_cons_succ]
                  refine wpAnyH_done (by kernel_rfl) ?_ _
                  refine NoPanic.normal ?_
                  -- ENDR16
                  go_wp2
                  go_meet
                  exact ⟨rfl, _, Y4⟩
                · have hd : decide (a.kind = 1 ∨ a.kind = 2) = false := decide_eq_false h12
                  rw [hd]
                  clear hd hk0 hb0 h12
                  by_cases h3 : a.kind = 3
                  · have hb3 : (a.kind == (3 : Int)) = true := by simpa using h3
                    clear h3
                    go_wp2_with (first
                      | (go_at_call 17; refine R1.reset.mono ?_; rintro e y1 ⟨rfl, Y1⟩)
                      | (go_at_call 18; refine Y1.rreset.mono ?_; rintro e y2 ⟨rfl, Y2⟩))
                    go_meet
                    exact ⟨rfl, _, Y2⟩
                  · have hb3 : (a.kind == (3 : Int)) = false := by simpa using h3
                    go_wp2
                    go_meet
                    exact ⟨rfl, _, R1⟩
          case rest =>
            obtain ⟨rfl, m4, hV⟩ := hcut
            have V1 : Rw p w wc p q m4 m4 qa a := hV
            have V2 := V1.go (drew_below20a wc)
            clear hV R1 k0 k1 k2 k3 k4
            go_upto_region 20 with fail
            -- R20
            refine wp_region_noPanic ?_
            refine wp_region_held_drew (S := fun w' => w'.cell? ⟨q, 2, none⟩ = some (.int .u16 m4.b)) (by kernel_rfl) (V1.T.rcell) (fun hHeld => ?_)
            refine wpAnyH_take (i := 0) (v := ?_) (by simp only [List.getElem?_toArray, List.getElem?_cons_zero]; rfl) (by kernel_rfl) (by kernel_rfl) (by kernel_rfl) (fun _ _ _ h => h) (Or.inl ⟨by rfl, ?_⟩) (by assumption) ?_
            rotate_left
            · (intro wq hSq; clear hSq; go_simp; try with_reducible rfl)
            try simp only [Act.put, List.setIfInBounds_toArray, List.set_cons_zero, List.set_cons_succ]
            refine wpAnyH_take (i := 1) (v := .bool false) (by simp only [List.getElem?_toArray, List.getElem?_cons_succ, List.getElem?_cons_zero]; rfl) (by kernel_rfl) (by kernel_rfl) (by kernel_rfl) (fun _ _ _ h => h) (Or.inl ⟨by rfl, by intro wq hSq; clear hSq; go_simp; try with_reducible rfl⟩) (by assumption) ?_
            try simp only [Act.put, List.setIfInBounds_toArray, List.set_cons_zero, List.set_cons_succ]
            refine wpAnyH_take (i := 2) (v := .bool false) (by simp only [List.getElem?_toArray, List.getElem?_cons_succ, List.getElem?_cons_zero]; rfl) (by kernel_rfl) (by kernel_rfl) (by kernel_rfl) (fun _ _ _ h => h) (Or.inl ⟨by rfl, by intro wq hSq; clear hSq; go_simp; try with_reducible rfl⟩) (by assumption) ?_
            try simp only [Act.put, List.setIfInBounds_toArray, List.set_cons_zero, List.set_cons_succ]
            refine wpAnyH_take (i := 3) (v := ?_) (by simp only [List.getElem?_toArray, List.getElem?_cons_succ, List.getElem?_cons_zero]; rfl) (by kernel_rfl) (by kernel_rfl) (by kernel_rfl) (fun _ _ _ h => h) (Or.inl ⟨by rfl, ?_⟩) (by assumption) ?_
            rotate_left
            · (intro wq hSq; clear hSq; go_simp; try with_reducible rfl)
            try simp only [Act.put, List.setIfInBounds_toArray, List.set_cons_zero, List.set_cons_succ]
            refine wpAnyH_take (i := 5) (v := ?_) (by simp only [List.getElem?_toArray, List.getElem?_cons_succ, List.getElem?_cons_zero]; rfl) (by kernel_rfl) (by kernel_rfl) (by kernel_rfl) (fun _ _ _ h => h) (Or.inl ⟨by rfl, ?_⟩) (by assumption) ?_
            rotate_left
            · (intro wq hSq; clear hSq; go_simp; try with_reducible rfl)
            try simp only [Act.put, List.setIfInBounds_toArray, List.set_cons_zero, List.set_cons_succ]
            refine wpAnyH_take (i := 6) (v := ?_) (by simp only [List.getElem?_toArray, List.getElem?_cons_succ, List.getElem?_cons_zero]; rfl) (by kernel_rfl) (by kernel_rfl) (by kernel_rfl) (fun _ _ _ h => h) (Or.inl ⟨by rfl, ?_⟩) (by assumption) ?_
            rotate_left
            · (intro wq hSq; clear hSq; go_simp; try with_reducible rfl)
            try simp only [Act.put, List.setIfInBounds_toArray, List.set_cons_zero, List.set_cons_succ]
            refine wpAnyH_take (i := 7) (v := ?_) (by simp only [List.getElem?_toArray, List.getElem?_cons_succ, List.getElem?_cons_zero]; rfl) (by kernel_rfl) (by kernel_rfl) (by kernel_rfl) (fun _ _ _ h => h) (Or.inl ⟨by rfl, ?_⟩) (by assumption) ?_
            rotate_left
            · (intro wq hSq; clear hSq; go_simp; try with_reducible rfl)
            try simp only [Act.put, List.setIfInBounds_toArray, List.set_cons_zero, List.set_cons_succ]
            refine wpAnyH_take (i := 8) (v := .int .u16 m4.b) (by simp only [List.getElem?_toArray, List.getElem?_cons_succ, List.getElem?_cons_zero]; rfl) (by kernel_rfl) (by kernel_rfl) (by kernel_rfl) (fun _ _ _ h => h) (Or.inl ⟨by rfl, by intro wq hSq; go_simp; try with_reducible rfl⟩) (by assumption) ?_
            try simp only [Act.put, List.setIfInBounds_toArray, List.set_cons_zero, List.set_cons_succ]
            refine wpAnyH_ready (rs := [4]) (by kernel_rfl) (by simp) ?_
            refine AllReadyH.cons rfl (fun K hK => ?_) AllReadyH.nil
            have HS4 : Hid _ := hHeld
            clear hHeld
            go_simp
            go_at_call 19
            refine V2.T.X.base.mono ?_
            rintro e y0 ⟨rfl, hx⟩
            subst hx
            try dsimp only
            refine hK.out _ _ (HS4.out) (fun hHeld => ?_)
            clear hK K
            try simp only [Act.put, List.setIfInBounds_toArray, List.set_cons_zero, List.set_cons_succ]
            refine wpAnyH_take (i := 9) (v := .bool false) (by simp only [List.getElem?_toArray, List.getElem?_cons_succ, List.getElem?_cons_zero]; rfl) (by kernel_rfl) (by kernel_rfl) (by kernel_rfl) (fun _ _ _ h => h) (Or.inl ⟨by rfl, by intro wq hSq; clear hSq; go_simp; try with_reducible rfl⟩) (by assumption) ?_
            try simp only [Act.put, List.setIfInBounds_toArray, List.set_cons_zero, List.set_cons_succ]
            refine wpAnyH_take (i := 10) (v := .bool false) (by simp only [List.getElem?_toArray, List.getElem?_cons_succ, List.getElem?_cons_zero]; rfl) (by kernel_rfl) (by kernel_rfl) (by kernel_rfl) (fun _ _ _ h => h) (Or.inl ⟨by rfl, by intro wq hSq; clear hSq; go_simp; try with_reducible rfl⟩) (by assumption) ?_
            try simp only [Act.put, List.setIfInBounds_toArray, List.set_cons_zero, List.set_cons_succ]
            refine wpAnyH_take (i := 11) (v := .bool false) (by simp only [List.getElem?_toArray, List.getElem?_cons_succ, List.getElem?_cons_zero]; rfl) (by kernel_rfl) (by kernel_rfl) (by kernel_rfl) (fun _ _ _ h => h) (Or.inl ⟨by rfl, by intro wq hSq; clear hSq; go_simp; try with_reducible rfl⟩) (by assumption) ?_
            try simp only [Act.put, List.setIfInBounds_toArray, List.set_cons_zero, List.set_cons_succ]
            refine wpAnyH_take (i := 12) (v := ?_) (by simp only [List.getElem?_toArray, List.getElem?_cons_succ, List.getElem?_cons_zero]; rfl) (by kernel_rfl) (by kernel_rfl) (by kernel_rfl) (fun _ _ _ h => h) (Or.inl ⟨by rfl, ?_⟩) (by assumption) ?_
            rotate_left
            · (intro wq hSq; clear hSq; go_simp; try with_reducible rfl)
            try simp only [Act.put, List.setIfInBounds_toArray, List.set_cons_zero, List.set_cons_succ]
            refine wpAnyH_take (i := 14) (v := ?_) (by simp only [List.getElem?_toArray, List.getElem?_cons_succ, List.getElem?_cons_zero]; rfl) (by kernel_rfl) (by kernel_rfl) (by kernel_rfl) (fun _ _ _ h => h) (Or.inl ⟨by rfl, ?_⟩) (by assumption) ?_
            rotate_left
            · (intro wq hSq; clear hSq; go_simp; try with_reducible rfl)
            try simp only [Act.put, List.setIfInBounds_toArray, List.set_cons_zero, List.set_cons_succ]
            refine wpAnyH_ready (rs := [13]) (by kernel_rfl) (by simp) ?_
            refine AllReadyH.cons rfl (fun K hK => ?_) AllReadyH.nil
            have HS13 : Hid _ := hHeld
            clear hHeld
            go_simp
            go_at_call 20
            refine V2.opens.mono ?_
            rintro e y1 ⟨rfl, V3⟩
            try dsimp only
            refine hK.out _ _ (V3.T.rcell) (fun hHeld => ?_)
            clear hK K
            try simp only [Act.put, List.setIfInBounds_toArray, List.set_cons_zero, List.set_cons_succ]
            refine wpAnyH_ready (rs := [15]) (by kernel_rfl) (by simp) ?_
            refine AllReadyH.cons rfl (fun K hK => ?_) AllReadyH.nil
            have HS15 : Hid _ := hHeld
            clear hHeld
            go_simp
            go_at_call 21
            refine V3.ropens.mono ?_
            rintro e y2 ⟨rfl, V4⟩
            try dsimp only
            refine hK.out _ _ (V4.T.rcell) (fun hHeld => ?_)
            clear hK K
            try simp only [Act.put, List.setIfInBounds_toArray, List.set_cons_zero, List.set_cons_succ]
            refine wpAnyH_take (i := 16) (v := .bool false) (by simp only [List.getElem?_toArray, List.getElem?_cons_succ, List.getElem?_cons_zero]; rfl) (by kernel_rfl) (by kernel_rfl) (by kernel_rfl) (fun _ _ _ h => h) (Or.inl ⟨by rfl, by intro wq hSq; clear hSq; go_simp; try with_reducible rfl⟩) (by assumption) ?_
            try simp only [Act.put, List.setIfInBounds_toArray, List.set_cons_zero, List.set_cons_succ]
            refine wpAnyH_take (i := 17) (v := .bool false) (by simp only [List.getElem?_toArray, List.getElem?_cons_succ, List.getElem?_cons_zero]; rfl) (by kernel_rfl) (by kernel_rfl) (by kernel_rfl) (fun _ _ _ h => h) (Or.inl ⟨by rfl, by intro wq hSq; clear hSq; go_simp; try with_reducible rfl⟩) (by assumption) ?_
            try simp only [Act.put, List.setIfInBounds_toArray, List.set_cons_zero, List.set_cons_succ]
            refine wpAnyH_take (i := 18) (v := .bool false) (by simp only [List.getElem?_toArray, List.getElem?_cons_succ, List.getElem?_cons_zero]; rfl) (by kernel_rfl) (by kernel_rfl) (by kernel_rfl) (fun _ _ _ h => h) (Or.inl ⟨by rfl, by intro wq hSq; clear hSq; go_simp; try with_reducible rfl⟩) (by assumption) ?_
            try simp only [Act.put, List.setIfInBounds_toArray, List.set_cons_zero, List.set_cons_succ]
            refine wpAnyH_take (i := 19) (v := ?_) (by simp only [List.getElem?_toArray, List.getElem?_cons_succ, List.getElem?_cons_zero]; rfl) (by kernel_rfl) (by kernel_rfl) (by kernel_rfl) (fun _ _ _ h => h) (Or.inl ⟨by rfl, ?_⟩) (by assumption) ?_
            rotate_left
            · (intro wq hSq; clear hSq; go_simp; try with_reducible rfl)
            try simp only [Act.put, List.setIfInBounds_toArray, List.set_cons_zero, List.set_cons_succ]
            refine wpAnyH_take (i := 20) (v := ?_) (by simp only [List.getElem?_toArray, List.getElem?_cons_succ, List.getElem?_cons_zero]; rfl) (by kernel_rfl) (by kernel_rfl) (by kernel_rfl) (fun _ _ _ h => h) (Or.inl ⟨by rfl, ?_⟩) (by assumption) ?_
            rotate_left
            · (intro wq hSq; clear hSq; go_simp; try with_reducible rfl)
            try simp only [Act.put, List.setIfInBounds_toArray, List.set_cons_zero, List.set_cons_succ]
            refine wpAnyH_take (i := 22) (v := ?_) (by simp only [List.getElem?_toArray, List.getElem?_cons_succ, List.getElem?_cons_zero]; rfl) (by kernel_rfl) (by kernel_rfl) (by kernel_rfl) (fun _ _ _ h => h) (Or.inl ⟨by rfl, ?_⟩) (by assumption) ?_
            rotate_left
            · (intro wq hSq; clear hSq; go_simp; try with_reducible rfl)
            try simp only [Act.put, List.setIfInBounds_toArray, List.set_cons_zero, List.set_cons_succ]
            refine wpAnyH_take (i := 23) (v := ?_) (by simp only [List.getElem?_toArray, List.getElem?_cons_succ, List.getElem?_cons_zero]; rfl) (by kernel_rfl) (by kernel_rfl) (by kernel_rfl) (fun _ _ _ h => h) (Or.inl ⟨by rfl, ?_⟩) (by assumption) ?_
            rotate_left
            · (intro wq hSq; clear hSq; go_simp; try with_reducible rfl)
            try simp only [Act.put, List.setIfInBounds_toArray, List.set_cons_zero, List.set_cons_succ]
            refine wpAnyH_take (i := 24) (v := ?_) (by simp only [List.getElem?_toArray, List.getElem?_cons_succ, List.getElem?_cons_zero]; rfl) (by kernel_rfl) (by kernel_rfl) (by kernel_rfl) (fun _ _ _ h => h) (Or.inl ⟨by rfl, ?_⟩) (by assumption) ?_
            rotate_left
            · (intro wq hSq; clear hSq; go_simp; try with_reducible rfl)
            try simp only [Act.put, List.setIfInBounds_toArray, List.set_cons_zero, List.set_cons_succ]
            refine wpAnyH_take (i := 25) (v := .int .u16 m4.b) (by simp only [List.getElem?_toArray, List.getElem?_cons_succ, List.getElem?_cons_zero]; rfl) (by kernel_rfl) (by kernel_rfl) (by kernel_rfl) (fun _ _ _ h => h) (Or.inl ⟨by rfl, by intro wq hSq; go_simp; try with_reducible rfl⟩) (by assumption) ?_
            try simp only [Act.put, List.setIfInBounds_toArray, List.set_cons_zero, List.set_cons_succ]
            refine wpAnyH_take (i := 26) (v := ?_) (by simp only [List.getElem?_toArray, List.getElem?_cons_succ, List.getElem?_cons_zero]; rfl) (by kernel_rfl) (by kernel_rfl) (by kernel_rfl) (fun _ _ _ h => h) (Or.inl ⟨by rfl, ?_⟩) (by assumption) ?_
            rotate_left
            · (intro wq hSq; clear hSq; go_simp; try with_reducible rfl)
            try simp only [Act.put, List.setIfInBounds_toArray, List.set_cons_zero, List.set_cons_succ]
            refine wpAnyH_ready (rs := [21]) (by kernel_rfl) (by simp) ?_
            refine AllReadyH.cons rfl (fun K hK => ?_) AllReadyH.nil
            have HS21 : Hid _ := hHeld
            clear hHeld
            go_simp
            go_at_call 22
            refine (V4.T.X.num k).mono ?_
            rintro e y0 ⟨rfl, hx⟩
            subst hx
            try dsimp only
            refine hK.out _ _ (HS21.out) (fun hHeld => ?_)
            clear hK K
            try simp only [Act.put, List.setIfInBounds_toArray, List.set_cons_zero, List.set_cons_succ]
            refine wpAnyH_ready (rs := [27]) (by kernel_rfl) (by simp) ?_
            refine AllReadyH.cons rfl (fun K hK => ?_) AllReadyH.nil
            have HS27 : Hid _ := hHeld
            clear hHeld
            go_simp
            go_at_call 23
            refine (rmove_any m4.b k _).mono ?_
            rintro e y0 ⟨rfl, hx⟩
            subst hx
            try dsimp only
            refine hK.out _ _ (HS27.out) (fun hHeld => ?_)
            clear hK K
            try simp only [Act.put, List.setIfInBounds_toArray, List.set_cons_zero, List.set_cons_succ]
            refine wpAnyH_take (i := 28) (v := .bool false) (by simp only [List.getElem?_toArray, List.getElem?_cons_succ, List.getElem?_cons_zero]; rfl) (by kernel_rfl) (by kernel_rfl) (by kernel_rfl) (fun _ _ _ h => h) (Or.inl ⟨by rfl, by intro wq hSq; clear hSq; go_simp; try with_reducible rfl⟩) (by assumption) ?_
            try simp only [Act.put, List.setIfInBounds_toArray, List.set_cons_zero, List.set_cons_succ]
            refine wpAnyH_take (i := 29) (v := .bool false) (by simp only [List.getElem?_toArray, List.getElem?_cons_succ, List.getElem?_cons_zero]; rfl) (by kernel_rfl) (by kernel_rfl) (by kernel_rfl) (fun _ _ _ h => h) (Or.inl ⟨by rfl, by intro wq hSq; clear hSq; go_simp; try with_reducible rfl⟩) (by assumption) ?_
            try simp only [Act.put, List.setIfInBounds_toArray, List.set_cons_zero, List.set_cons_succ]
            refine wpAnyH_done (by kernel_rfl) ?_ _
            refine NoPanic.normal ?_
            -- ENDR20
            go_wp2
            go_roundg (l.length - (k + 1))
            case measure => omega
            case rel => exact ⟨k + 1, m4, by go_num, by omega, rfl, V4.T⟩
        · obtain rfl : k = l.length := by omega
          go_wp2_with (go_at_call 10; refine (lives_any _ hX.out.X.tabs).mono ?_; rintro e x1 ⟨rfl, B1⟩)
          go_ret
          exact ⟨rfl, by rw [← HP.out]; exact hX.out.X.bel.trans (B1.mono hX.out.X.size)⟩
end Go.Proofs.YthdoilinpeheiaaDoor
