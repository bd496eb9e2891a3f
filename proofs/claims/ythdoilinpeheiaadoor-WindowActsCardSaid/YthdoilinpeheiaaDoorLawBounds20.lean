/-
  THE WALK of WindowBounds.
-/
import Derived.Test.YthdoilinpeheiaaDoorBounds20
import Derived.Test.YthdoilinpeheiaaDoorLawAgain20
namespace Go.Proofs.YthdoilinpeheiaaDoor
open Go.RowKit
set_option maxRecDepth 100000

/-- A window of the call's own, beside an act in a box. -/
structure Rb (B : Nat) (w0 w : World) (p : Nat) (m : Wn) (q : Nat) (a : Ac) : Prop where
  X : Lw B w0 w p m
  act : w.heap[q]? = some (.cells (acells a).toArray 31 (0, 0))
  ne : q ≠ p
section
variable {B p q : Nat} {w0 w : World} {m : Wn} {a : Ac}
theorem Rb.lt (h : Rb B w0 w p m q a) : q < w.heap.size := by
  rcases Nat.lt_or_ge q w.heap.size with hb | hb
  · exact hb
  · have : w.heap[q]? = none := by simpa using hb
    rw [h.act] at this; cases this
theorem Rb.cell (h : Rb B w0 w p m q a) : w.cell? ⟨q, 0, none⟩ = some (.int .i64 a.kind) ∧ w.cell? ⟨q, 1, none⟩ = some (.int .i64 a.hv) ∧ w.cell? ⟨q, 2, none⟩ = some (.int .i64 a.now) ∧ w.cell? ⟨q, 3, none⟩ = some (.int .u16 a.num) ∧ w.cell? ⟨q, 4, none⟩ = some (.int .u64 a.set) := by
  refine ⟨?_, ?_, ?_, ?_, ?_⟩ <;> rw [cell_of_row w q _ _ 31 (0, 0) h.act] <;> rfl
theorem Rb.on {w' : World} {m' : Wn} (h : Rb B w0 w p m q a) (X : Lw B w0 w' p m') (o : Only p w w') : Rb B w0 w' p m' q a := ⟨X, (o.block q h.lt h.ne).trans h.act, h.ne⟩
theorem Rb.go {w' : World} (h : Rb B w0 w p m q a) (b : Below w.heap.size w w') : Rb B w0 w' p m q a := h.on (h.X.go b) (Only.of_below b)
theorem Rb.send (h : Rb B w0 w p m q a) (hv now : Int) : Calls Tryd.prog 12 #[.pointer (some ⟨p, 0, none⟩), .int .i64 hv, .int .i64 now] w fun e w' =>
    ∃ ad cap, e = .returned (.slice ad (sendL m (nowN now) (lookN m hv)).length cap) ∧ Row w' (.slice ad (sendL m (nowN now) (lookN m hv)).length cap) (icells (sendL m (nowN now) (lookN m hv))) ∧ Rb B w0 w' p (sendM m (nowN now) (lookN m hv)) q a := by
  refine (send_at h.X.at h.X.ok hv now).mono ?_
  rintro e w' ⟨v, rfl, r, a, o⟩
  obtain ⟨ad, cap, rfl⟩ := r.row.sliceInts
  exact ⟨ad, cap, rfl, r.row, h.on (h.X.on a o (sendM_ok h.X.ok (nowN_le now) _ (lookN_le m hv))) o⟩
theorem Rb.ack (h : Rb B w0 w p m q a) (num set : Nat) (hs : IsSet set) : Calls Tryd.prog 15 #[.pointer (some ⟨p, 0, none⟩), .int .u16 num, .int .u64 set] w fun e w' =>
    e = .returned (.int .i64 (ackN m num)) ∧ Rb B w0 w' p (ackW m num set) q a := by
  refine (ack_at h.X.at h.X.ok num set hs h.X.tabs).mono ?_
  rintro e w' ⟨rfl, a, o⟩
  exact ⟨rfl, h.on (h.X.on a o (ackW_ok h.X.ok _ _)) o⟩
theorem Rb.opens (h : Rb B w0 w p m q a) : Calls Tryd.prog 20 #[.pointer (some ⟨p, 0, none⟩)] w fun e w' => e = .returned (.int .i64 (openN m)) ∧ Rb B w0 w' p m q a := by
  refine (open_at h.X.at h.X.ok.s1 h.X.ok.setS h.X.ok.setT h.X.tabs).mono ?_
  rintro e w' ⟨rfl, b⟩
  exact ⟨rfl, h.go b⟩
theorem Rb.reset (h : Rb B w0 w p m q a) : Calls Tryd.prog 17 #[.pointer (some ⟨p, 0, none⟩)] w fun e w' => e = .returned (.tuple #[]) ∧ Rb B w0 w' p (newW m.s m.t) q a := by
  refine (reset_at h.X.at h.X.ok.s1).mono ?_
  rintro e w' ⟨rfl, a, o⟩
  exact ⟨rfl, h.on (h.X.on a o (newW_ok h.X.ok.s1 h.X.ok.s2 h.X.ok.t1 h.X.ok.t2)) o⟩
end

theorem drew_below20 (w : World) : Below w.heap.size w w.drew := (Below.refl _ w).drew
set_option maxHeartbeats 4000000 in
theorem bounds_law (S T : Nat) (v : Value) (l : List Ac) (w : World) (hS : S < 18446744073709551616) (hTt : T < 18446744073709551616) (hr : K.RowOf acells w v l) (hf : ∀ a ∈ l, a.Fits) (hT : Tab w) : Calls Tryd.prog 4 #[.int .u64 S, .int .u64 T, v] w fun e w' => e = .returned (.bool true) ∧ Below w.heap.size w w' := by
  have hpos := hT.pos
  obtain ⟨n, hn⟩ : ∃ n, n = S % 32 + 1 := ⟨_, rfl⟩
  obtain ⟨t, ht⟩ : ∃ t, t = T % 50 + 1 := ⟨_, rfl⟩
  have hn1 : 1 ≤ n := by omega
  have hn2 : n ≤ 32 := by omega
  have ht1 : 1 ≤ t := by omega
  have ht2 : t ≤ 50 := by omega
  have e1 : (1 : Int) + (S : Int) % 32 = n := by omega
  have e2 : (1 : Int) + (T : Int) % 50 = t := by omega
  obtain ⟨va, vc, rfl⟩ := hr.slice
  have hcap : l.length ≤ maxLen := (acs_at hr).2.1
  have hcap2 : (l.length : Int) ≤ 9223372036854775807 := by unfold maxLen at hcap; omega
  have HA := acs_at hr
  have HAC : Hid _ := HA.2.2
  have HF : Hid _ := hf
  clear hr hf HA hn ht
  have hN := lw_new (B := w.heap.size) (w0 := w) n t hn1 hn2 ht1 (by omega) (Below.refl _ w) (Nat.le_refl _) hT hpos
  by_cases h300 : 300 < l.length
  · have h300' : (300 : Int) < (l.length : Int) := by omega
    go_enter Tryd.func4, Tryd.ntmps4
    go_wp2_with (first
      | (go_at_call 8; refine hN.mono ?_; rintro e x0 ⟨rfl, X0⟩)
      | (go_at_call 10; refine (lives_any _ X0.tabs).mono ?_; rintro e x1 ⟨rfl, B1⟩))
    go_ret
    exact ⟨rfl, X0.bel.trans (B1.mono X0.size)⟩
  · have h300' : ¬ (300 : Int) < (l.length : Int) := by omega
    go_enter Tryd.func4, Tryd.ntmps4
    go_wp2_with (go_at_call 8; refine hN.mono ?_; rintro e x0 ⟨rfl, X0⟩)
    clear e1 e2 hN
    generalize hp : w.heap.size = p at *
    have HP : Hid (w.heap.size = p) := hp
    clear hp
    go_loopg [43] l.length (fun g u43 wr => ∃ (k : Nat) (m : Wn), u43 = .int .i64 k ∧ k ≤ l.length ∧ g = l.length - k ∧ Hid (Lw p w wr p m ∧ m.s = n))
    case atStart => exact ⟨0, _, rfl, Nat.zero_le _, rfl, X0, rfl⟩
    case round =>
      obtain ⟨k, m, rfl, hk, rfl, hX⟩ := hrel
      clear X0
      by_cases hlt2 : k < l.length
      · have hlt : (k : Int) < (l.length : Int) := by omega
        have hfit := HF.out l[k] (List.getElem_mem hlt2)
        obtain ⟨b, off, rfl, hbp, c0, c1, c2, c3, c4⟩ := HAC.out k hlt2
        have bel := hX.out.1.bel
        replace c0 := (bel.cell (p := ⟨b, off + k * 5, none⟩) hbp).trans c0
        replace c1 := (bel.cell (p := ⟨b, off + k * 5 + 1, none⟩) hbp).trans c1
        replace c2 := (bel.cell (p := ⟨b, off + k * 5 + 2, none⟩) hbp).trans c2
        replace c3 := (bel.cell (p := ⟨b, off + k * 5 + 3, none⟩) hbp).trans c3
        replace c4 := (bel.cell (p := ⟨b, off + k * 5 + 4, none⟩) hbp).trans c4
        generalize l[k] = a at *
        obtain ⟨q, hq⟩ : ∃ q, q = wr.heap.size := ⟨_, rfl⟩
        obtain ⟨W1, hW1⟩ : ∃ W1, W1 = wr.alloc (.cells #[.int .i64 a.kind, .int .i64 a.hv, .int .i64 a.now, .int .u16 a.num, .int .u64 a.set] 31) := ⟨_, rfl⟩
        have R1 : Rb p w W1 p m q a := ⟨by rw [hW1]; exact hX.out.1.go ((Below.refl _ _).alloc (Nat.le_refl _) _), by rw [hW1, hq]; exact heap_alloc_new wr _, by have := hX.out.1.at.lt; omega⟩
        have hms := hX.out.2
        have fold := hW1.symm
        clear hX bel hW1
        go_upto_region 8 with fail
        rw [← hq]
        clear fold hq c0 c1 c2 c3 c4 HAC
        go_upto_region 9 with (go_at_call 20; refine R1.opens.mono ?_; rintro e W2 ⟨rfl, R2⟩)
        obtain ⟨k0, k1, k2, k3, k4⟩ := R2.cell
        have hol := open_le R2.X.ok
        have hmk : Hid m.Ok := R2.X.ok
        clear R1
        by_cases hk0 : a.kind = 0
        · have hb0 : (a.kind == (0 : Int)) = true := by simpa using hk0
          have S3 := R2.send a.hv a.now
          have hin := sendL_in R2.X.ok (nowN a.now) a.hv
          have hup := sendL_up R2.X.ok (nowN a.now) a.hv
          have hsm := send_s m (nowN a.now) (lookN m a.hv)
          have hLm : (sendL m (nowN a.now) (lookN m a.hv)).length ≤ m.s := Nat.le_trans (sendL_len _ _ _) (lookN_le _ _)
          generalize sendL m (nowN a.now) (lookN m a.hv) = L at *
          generalize sendM m (nowN a.now) (lookN m a.hv) = m3 at *
          clear R2
          go_upto_region 13 with (go_at_call 12; refine S3.mono ?_; rintro e W3 ⟨ad, cap, rfl, r3, R3⟩)
          have HR : Hid (∀ i, i < L.length → ∃ b o, ad = some ⟨b, o, none⟩ ∧ ∀ j (hj : j < L.length), W3.cell? ⟨b, o + j, none⟩ = some (.int .i64 L[j])) := fun i hi => by
            obtain ⟨b', o', cp, hv, _, _, hc⟩ := r3.atInts (by omega)
            injection hv with h1 _ _
            exact ⟨b', o', h1, hc⟩
          have HIN : Hid _ := hin
          have HUP : Hid _ := hup
          have hLl : L.length ≤ 32 := by
            have h1 := R3.X.ok.s2
            have h2 := hLm
            omega
          clear r3 S3 hin hup k0 k1 k2 k3 k4 hLm
          obtain ⟨_, k1, _, _, _⟩ := R3.cell
          have O3 := R3.opens
          have ho3 := open_le R3.X.ok
          go_wp2
          go_loopg [63] L.length (fun g u63 wv => ∃ i : Nat, u63 = .int .i64 i ∧ i ≤ L.length ∧ g = L.length - i ∧ wv = W3)
          case atStart => exact ⟨0, rfl, Nat.zero_le _, rfl, rfl⟩
          case round =>
            obtain ⟨i, rfl, hi, rfl, rfl⟩ := hrel
            by_cases hil : i < L.length
            · have hil' : (i : Int) < (L.length : Int) := by omega
              have hL63 : (L.length : Int) ≤ 9223372036854775807 := by omega
              obtain ⟨b3, o3, rfl, hc⟩ := HR.out i hil
              have hx := hc i hil
              obtain ⟨x1, x2, x3⟩ := HIN.out i hil
              rcases i with _ | j
              · generalize L[0] = x at *
                have hx0 : wr.cell? ⟨b3, o3, none⟩ = some (.int .i64 x) := hx
                have x1' : ¬ x < 0 := by omega
                have x2' : ¬ (n : Int) ≤ x := by omega
                have x3' : ¬ a.hv ≤ x := by omega
                clear hc HR
                go_wp2
                go_roundg (L.length - 1)
                case measure => omega
                case rel => exact ⟨1, rfl, by omega, rfl, rfl⟩
              · have hy := hc j (by omega)
                have hlt3 : L[j] < L[j + 1] := List.pairwise_iff_getElem.1 HUP.out j (j + 1) (by omega) hil (by omega)
                generalize L[j + 1] = x at *
                generalize L[j] = y at *
                have x1' : ¬ x < 0 := by omega
                have x2' : ¬ (n : Int) ≤ x := by omega
                have x3' : ¬ a.hv ≤ x := by omega
                have x4' : ¬ x ≤ y := by omega
                have hj0 : (0 : Int) < (j : Int) + 1 := by omega
                clear hc HR
                go_wp2
                go_roundg (L.length - (j + 2))
                case measure => omega
                case rel => exact ⟨j + 2, by go_num, by omega, rfl, rfl⟩
            · have hil' : ¬ (i : Int) < (L.length : Int) := by omega
              have ho4 : ¬ (n : Int) < (openN m3 : Int) := by omega
              go_wp2_with (go_at_call 20; refine O3.mono ?_; rintro e W4 ⟨rfl, R4⟩)
              go_roundg (l.length - (k + 1))
              case measure => omega
              case rel => exact ⟨k + 1, m3, by go_num, by omega, rfl, R4.X, by omega⟩
        · have hb0 : (a.kind == (0 : Int)) = false := by simpa using hk0
          go_upto_if 95 with fail
          go_cut [95] from 96 to 97 (fun u95 wx => u95 = .bool (decide (a.kind = 1 ∨ a.kind = 2)) ∧ wx = W2)
          case first =>
            by_cases h1 : a.kind = 1
            · have hb1 : (a.kind == (1 : Int)) = true := by simpa using h1
              go_wp2
              go_meet
              exact ⟨congrArg Value.bool (by rw [Bool.eq_iff_iff]; simp [h1]), rfl⟩
            · have hb1 : (a.kind == (1 : Int)) = false := by simpa using h1
              go_wp2
              go_meet
              exact ⟨congrArg Value.bool (by rw [Bool.eq_iff_iff]; simp [h1]), rfl⟩
          case rest =>
            obtain ⟨rfl, hwc⟩ := hcut
            subst hwc
            by_cases h12 : a.kind = 1 ∨ a.kind = 2
            · have hd : decide (a.kind = 1 ∨ a.kind = 2) = true := decide_eq_true h12
              rw [hd]
              clear hd hk0 hb0 h12
              go_upto_region 22 with (go_at_call 19; refine R2.X.base.mono ?_; rintro e wc ⟨rfl, rfl⟩)
            -- ACK
              refine wp_region_noPanic ?_
              refine wp_region_held_drew (S := fun w' => w'.cell? ⟨q, 0, none⟩ = some (.int .i64 a.kind) ∧ w'.cell? ⟨q, 1, none⟩ = some (.int .i64 a.hv) ∧ w'.cell? ⟨q, 2, none⟩ = some (.int .i64 a.now) ∧ w'.cell? ⟨q, 3, none⟩ = some (.int .u16 a.num) ∧ w'.cell? ⟨q, 4, none⟩ = some (.int .u64 a.set)) (by kernel_rfl) R2.cell (fun hHeld => ?_)
              refine wpAnyH_take (i := 0) (v := .pointer (some ⟨p, 0, none⟩)) (by simp only [List.getElem?_toArray, List.getElem?_cons_zero]; rfl) (by kernel_rfl) (by kernel_rfl) (by kernel_rfl) (fun _ _ _ h => h) (Or.inl ⟨by rfl, ?_⟩) (by assumption) ?_
              · (intro wq hSq; clear hSq; go_simp; try with_reducible rfl)
              try simp only [Act.put, List.setIfInBounds_toArray, List.set_cons_zero, List.set_cons_succ]
              refine wpAnyH_take (i := 1) (v := acv a) (by simp only [List.getElem?_toArray, List.getElem?_cons_succ, List.getElem?_cons_zero]; rfl) (by kernel_rfl) (by kernel_rfl) (by kernel_rfl) (fun _ _ _ h => h) (Or.inl ⟨by rfl, ?_⟩) (by assumption) ?_
              · (intro wq hSq; obtain ⟨q0, q1, q2, q3, q4⟩ := hSq; go_simp; try with_reducible rfl)
              try simp only [Act.put, List.setIfInBounds_toArray, List.set_cons_zero, List.set_cons_succ]
              refine wpAnyH_take (i := 2) (v := .int .u16 m.b) (by simp only [List.getElem?_toArray, List.getElem?_cons_succ, List.getElem?_cons_zero]; rfl) (by kernel_rfl) (by kernel_rfl) (by kernel_rfl) (fun _ _ _ h => h) (Or.inl ⟨by rfl, ?_⟩) (by assumption) ?_
              · (intro wq hSq; clear hSq; go_simp; try with_reducible rfl)
              try simp only [Act.put, List.setIfInBounds_toArray, List.set_cons_zero, List.set_cons_succ]
              refine wpAnyH_take (i := 4) (v := .pointer (some ⟨q, 4, none⟩)) (by simp only [List.getElem?_toArray, List.getElem?_cons_succ, List.getElem?_cons_zero]; rfl) (by kernel_rfl) (by kernel_rfl) (by kernel_rfl) (fun _ _ _ h => h) (Or.inl ⟨by rfl, ?_⟩) (by assumption) ?_
              · (intro wq hSq; clear hSq; go_simp; try with_reducible rfl)
              try simp only [Act.put, List.setIfInBounds_toArray, List.set_cons_zero, List.set_cons_succ]
              refine wpAnyH_take (i := 5) (v := .int .u64 a.set) (by simp only [List.getElem?_toArray, List.getElem?_cons_succ, List.getElem?_cons_zero]; rfl) (by kernel_rfl) (by kernel_rfl) (by kernel_rfl) (fun _ _ _ h => h) (Or.inl ⟨by rfl, ?_⟩) (by assumption) ?_
              · (intro wq hSq; obtain ⟨q0, q1, q2, q3, q4⟩ := hSq; go_simp; try with_reducible rfl)
              try simp only [Act.put, List.setIfInBounds_toArray, List.set_cons_zero, List.set_cons_succ]
              have bD := drew_below20 wc
              obtain ⟨V0, fV0⟩ : ∃ X, wc.drew = X := ⟨_, rfl⟩
              rw [fV0] at hHeld bD ⊢
              clear fV0
              have Z0 := R2.go bD
              refine wpAnyH_ready (rs := [3]) (by kernel_rfl) (by simp) ?_
              refine AllReadyH.cons rfl (fun KK hK => ?_) AllReadyH.nil
              go_simp
              go_at_call 14
              refine (num_any a m.b V0 hfit).mono ?_
              rintro e y1 ⟨rfl, bb1⟩
              have Z1 := Z0.go bb1
              dsimp only
              refine hK.out _ _ Z1.cell (fun hHeld => ?_)
              clear hK KK
              try simp only [Act.put, List.setIfInBounds_toArray, List.set_cons_zero, List.set_cons_succ]
              clear bb1
              refine wpAnyH_ready (rs := [6]) (by kernel_rfl) (by simp) ?_
              refine AllReadyH.cons rfl (fun KK hK => ?_) AllReadyH.nil
              go_simp
              go_at_call 15
              refine (Z1.ack (numA a m.b) a.set hfit.set).mono ?_
              rintro e y2 ⟨rfl, Z2⟩
              dsimp only
              refine hK.out _ _ Z2.cell (fun hHeld => ?_)
              clear hK KK
              try simp only [Act.put, List.setIfInBounds_toArray, List.set_cons_zero, List.set_cons_succ]
              refine wpAnyH_take (i := 7) (v := .int .i64 (ackN m (numA a m.b))) (by simp only [List.getElem?_toArray, List.getElem?_cons_succ, List.getElem?_cons_zero]; rfl) (by kernel_rfl) (by kernel_rfl) (by kernel_rfl) (fun _ _ _ h => h) (Or.inl ⟨by rfl, ?_⟩) (by assumption) ?_
              · (intro wq hSq; clear hSq; go_simp; try with_reducible rfl)
              try simp only [Act.put, List.setIfInBounds_toArray, List.set_cons_zero, List.set_cons_succ]
              refine wpAnyH_done (by kernel_rfl) ?_ _
              refine NoPanic.normal ?_
              clear hHeld
            -- ACKED
              clear k0 k1 k2 k3 k4 Z0 Z1 bD
              obtain ⟨a0, a1⟩ := ackN_in hmk.out (numA a m.b)
              have a2 := ackW_open hmk.out (numA a m.b) a.set
              have a3 := ack_far2 hmk.out (numA a m.b) a.set
              have a4 := open_le Z2.X.ok
              have a5 := ackW_s m (numA a m.b) a.set
              have hFar := fun X => far_any m.b (ackW m (numA a m.b) a.set).b X
              generalize ackN m (numA a m.b) = kk at *
              generalize ackW m (numA a m.b) a.set = m4 at *
              have b0 : ¬ kk < 0 := by omega
              have b1 : ¬ (n : Int) < kk := by omega
              have b2 : ¬ openN m < openN m4 := by omega
              have b3 : ¬ n < openN m4 := by omega
              have HA5 : Hid _ := a5
              clear a0 a1 a2 a4 a5
              by_cases h0 : 0 < kk
              · have a6 := a3 h0
                clear a3
                go_wp2_with (first
                  | (go_at_call 20; refine Z2.opens.mono ?_; rintro e y3 ⟨rfl, Z3⟩)
                  | (go_at_call 19; refine Z3.X.base.mono ?_; rintro e y3 ⟨rfl, rfl⟩)
                  | (go_at_call 24; refine (hFar _).mono ?_; rintro e y3 ⟨rfl, rfl⟩)
                  | (go_at_call 20; refine Z3.opens.mono ?_; rintro e y5 ⟨rfl, Z4⟩))
                go_roundg (l.length - (k + 1))
                case measure => omega
                case rel => exact ⟨k + 1, m4, by go_num, by omega, rfl, Z4.X, HA5.out.trans hms⟩
              · have hk1 : ¬ (0 : Int) < kk := h0
                clear a3
                go_wp2_with (first
                  | (go_at_call 20; refine Z2.opens.mono ?_; rintro e y3 ⟨rfl, Z3⟩)
                  | (go_at_call 19; refine Z3.X.base.mono ?_; rintro e y3 ⟨rfl, rfl⟩)
                  | (go_at_call 24; refine (hFar _).mono ?_; rintro e y3 ⟨rfl, rfl⟩)
                  | (go_at_call 20; refine Z3.opens.mono ?_; rintro e y5 ⟨rfl, Z4⟩))
                all_goals go_roundg (l.length - (k + 1))
                all_goals first | omega | exact ⟨k + 1, m4, by go_num, by omega, rfl, Z4.X, HA5.out.trans hms⟩
            · have hd : decide (a.kind = 1 ∨ a.kind = 2) = false := decide_eq_false h12
              have S3 := R2.reset
              have hz : openN (newW n m.t) = 0 := open_none n m.t 0 _
              rw [hd]
              clear hd hk0 hb0 h12
              go_wp2_with (first
                | (go_at_call 17; refine S3.mono ?_; rintro e y0 ⟨rfl, R3⟩)
                | (go_at_call 20; refine R3.opens.mono ?_; rintro e y1 ⟨rfl, R4⟩))
              go_roundg (l.length - (k + 1))
              case measure => omega
              case rel => exact ⟨k + 1, _, by go_num, by omega, rfl, R4.X, hms⟩
      · obtain rfl : k = l.length := by omega
        go_wp2_with (go_at_call 10; refine (lives_any _ hX.out.1.tabs).mono ?_; rintro e x1 ⟨rfl, B1⟩)
        go_ret
        exact ⟨rfl, by rw [HP.out]; exact hX.out.1.bel.trans (B1.mono hX.out.1.size)⟩
end Go.Proofs.YthdoilinpeheiaaDoor
