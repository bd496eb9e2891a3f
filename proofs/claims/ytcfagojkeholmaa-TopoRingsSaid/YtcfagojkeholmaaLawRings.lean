/-
  TopoRings: the law's walk.
-/
import Derived.Test.YtcfagojkeholmaaRings
import Derived.Test.YtcfagojkeholmaaLawTri
namespace Go.Proofs.Ytcfagojkeholmaa
open Go.RowKit Go.Sort Go.Shelf

/-- What came in: how many sites, how many hops; two ends. -/
abbrev ringv (x : Nat × Nat) : Value := .agg #[.int .u64 (x.1 : Int), .int .u64 (x.2 : Int)]
abbrev endsv (x : Nat × Nat) : Value := .agg #[.int .u64 (x.1 : Int), .int .u64 (x.2 : Int)]

/-- In the midst of the law: the topology, as far as it is made. -/
structure RingAt (w wr : World) (gt k h : Nat) (v : Value) (L : List (Int × Int)) : Prop where
  bel : Below w.heap.size w wr
  box : wr.heap[gt]? = some (.cells #[.int .i64 (k : Int), v, .int .i64 (h : Int)] 24 (0, 0))
  own : OwnOf ecells 2 39 wr (gt + 1) v L
  lt : w.heap.size ≤ gt
theorem RingAt.c0 {w wr : World} {gt k h : Nat} {v : Value} {L : List (Int × Int)} (m : RingAt w wr gt k h v L) : wr.cell? ⟨gt, 0, none⟩ = some (.int .i64 (k : Int)) := by
  rw [cell_of_row wr gt 0 _ _ (0, 0) m.box]; rfl
theorem RingAt.c1 {w wr : World} {gt k h : Nat} {v : Value} {L : List (Int × Int)} (m : RingAt w wr gt k h v L) : wr.cell? ⟨gt, 1, none⟩ = some v := by
  rw [cell_of_row wr gt 1 _ _ (0, 0) m.box]; rfl
theorem RingAt.c2 {w wr : World} {gt k h : Nat} {v : Value} {L : List (Int × Int)} (m : RingAt w wr gt k h v L) : wr.cell? ⟨gt, 2, none⟩ = some (.int .i64 (h : Int)) := by
  rw [cell_of_row wr gt 2 _ _ (0, 0) m.box]; rfl
theorem RingAt.next {w wr wq : World} {gt k h : Nat} {v : Value} {L : List (Int × Int)} (m : RingAt w wr gt k h v L) (hb : Below wr.heap.size wr wq) : RingAt w wq gt k h v L :=
  ⟨keptW m.bel hb, by rw [hb.block _ (Array.getElem?_eq_some_iff.1 m.box).1]; exact m.box, m.own.kept hb (Nat.le_refl _), m.lt⟩

/-- Behind the store of the edges with one more. -/
theorem RingAt.put {w wr w2 : World} {gt k h : Nat} {v v2 : Value} {L L2 : List (Int × Int)} (m : RingAt w wr gt k h v L) (hb : Below (gt + 1) wr w2) (own : OwnOf ecells 2 39 w2 (gt + 1) v2 L2) : RingAt w (w2.setCell ⟨gt, 1, none⟩ v2) gt k h v2 L2 := by
  have hl := m.lt
  have hbox : w2.heap[gt]? = some (.cells #[.int .i64 (k : Int), v, .int .i64 (h : Int)] 24 (0, 0)) := by rw [hb.block _ (Nat.lt_succ_self _)]; exact m.box
  refine ⟨(m.bel.trans (hb.mono (by omega))).setCell (by show w.heap.size ≤ gt; exact hl) _, ?_, own.same fun g hg => ?_, hl⟩
  · have := heap_setCell_same w2 gt 1 _ _ v2 hbox
    simpa using this
  · have := (own.lt hg).1
    exact heap_setCell_other _ _ _ _ (by show g ≠ gt; omega)
theorem RingAt.cell2 {w wr w2 : World} {gt k h : Nat} {v : Value} {L : List (Int × Int)} (m : RingAt w wr gt k h v L) (hb : Below (gt + 1) wr w2) : w2.cell? ⟨gt, 1, none⟩ = some v ∧ w2.frozen? ⟨gt, 1, none⟩ = false :=
  ⟨(hb.cell (p := ⟨gt, 1, none⟩) (Nat.lt_succ_self _)).trans m.c1, (hb.frozen (p := ⟨gt, 1, none⟩) (Nat.lt_succ_self _)).trans (by simp [World.frozen?, m.box])⟩

set_option maxRecDepth 20000 in
set_option maxHeartbeats 4000000 in
theorem rings_law (x y : Nat × Nat) (w : World) (hx : x.1 < 18446744073709551616 ∧ x.2 < 18446744073709551616) (hy : y.1 < 18446744073709551616 ∧ y.2 < 18446744073709551616) :
    Calls Try.prog 7 #[ringv x, endsv y] w fun e w' => e = .returned (.bool true) ∧ Below w.heap.size w w' := by
  obtain ⟨x1, x2⟩ := x
  obtain ⟨y1, y2⟩ := y
  obtain ⟨hx1, hx2⟩ := hx
  obtain ⟨hy1, hy2⟩ := hy
  simp only at hx1 hx2 hy1 hy2
  obtain ⟨W, fold⟩ : ∃ W, (w.alloc (.cells #[.int .u64 (x1 : Int), .int .u64 (x2 : Int)] 43)).alloc (.cells #[.int .u64 (y1 : Int), .int .u64 (y2 : Int)] 44) = W := ⟨_, rfl⟩
  have bW : Below w.heap.size w W := by rw [← fold]; exact ((Below.refl _ _).alloc (Nat.le_refl _) _).alloc (by simp) _
  have c0 : W.cell? ⟨w.heap.size, 0, none⟩ = some (.int .u64 (x1 : Int)) := by rw [← fold, World.cell?_alloc_past _ _ _ (by simp), World.cell?_alloc_at _ _ _ _ rfl]; rfl
  have c1 : W.cell? ⟨w.heap.size, 1, none⟩ = some (.int .u64 (x2 : Int)) := by rw [← fold, World.cell?_alloc_past _ _ _ (by simp), World.cell?_alloc_at _ _ _ _ rfl]; rfl
  have c2 : W.cell? ⟨w.heap.size + 1, 0, none⟩ = some (.int .u64 (y1 : Int)) := by rw [← fold, World.cell?_alloc_at _ _ _ _ (by simp)]; rfl
  have c3 : W.cell? ⟨w.heap.size + 1, 1, none⟩ = some (.int .u64 (y2 : Int)) := by rw [← fold, World.cell?_alloc_at _ _ _ _ (by simp)]; rfl
  go_enter Try.func7, Try.ntmps7
  go_wp2
  go_quiet (fail)
  generalize hW1 : W.drewN nq = W1
  have bW1 : Below w.heap.size w W1 := by rw [← hW1]; exact ⟨bW.os, bW.tape, bW.output, bW.size, bW.block⟩
  have d2 : W1.cell? ⟨w.heap.size + 1, 0, none⟩ = some (.int .u64 (y1 : Int)) := by rw [← hW1]; exact c2
  have d3 : W1.cell? ⟨w.heap.size + 1, 1, none⟩ = some (.int .u64 (y2 : Int)) := by rw [← hW1]; exact c3
  clear hW1 c0 c1 c2 c3 bW
  generalize hkz : 2 + (x1 : Int) % 7 = kz
  generalize hhz : (x2 : Int) % 9 = hz
  obtain ⟨k, rfl⟩ : ∃ k : Nat, kz = k := ⟨2 + x1 % 7, by omega⟩
  obtain ⟨h, rfl⟩ : ∃ h : Nat, hz = h := ⟨x2 % 9, by omega⟩
  have hk : 2 ≤ k ∧ k ≤ 8 := by omega
  have hh : h ≤ 8 := by omega
  have k1 : (2 : Int) ≤ (k : Int) := by omega
  have k2 : (k : Int) ≤ 8 := by omega
  have hk0 : ¬ (k : Int) = 0 := by omega
  have h1 : (h : Int) ≤ 8 := by omega
  have hw1 : IntKind.u64.wrap (k : Int) = (k : Int) := by rw [IntKind.wrap_u64]; omega
  clear hkz hhz fold
  have m1 : ((y1 : Int)).tmod (k : Int) = ((y1 % k : Nat) : Int) := by rw [Int.ofNat_tmod]
  have m2 : ((y2 : Int)).tmod (k : Int) = ((y2 % k : Nat) : Int) := by rw [Int.ofNat_tmod]
  go_wp2
  go_quiet (fail)
  generalize hav : wrap64 ((y1 : Int) % (k : Int)) = av
  generalize hbv : wrap64 ((y2 : Int) % (k : Int)) = bv
  have hmod : ∀ y : Nat, ((y : Int) % (k : Int)) = ((y % k : Nat) : Int) ∧ y % k < k := fun y => ⟨by rw [Int.natCast_emod], Nat.mod_lt _ (by omega)⟩
  obtain ⟨a, ha, rfl⟩ : ∃ a : Nat, a < k ∧ av = a := ⟨y1 % k, (hmod y1).2, by have := (hmod y1).2; rw [← hav, (hmod y1).1]; unfold wrap64; omega⟩
  obtain ⟨b, hb, rfl⟩ : ∃ b : Nat, b < k ∧ bv = b := ⟨y2 % k, (hmod y2).2, by have := (hmod y2).2; rw [← hbv, (hmod y2).1]; unfold wrap64; omega⟩
  generalize hW2 : W1.drewN nq = W2
  have bW2 : Below w.heap.size w W2 := by rw [← hW2]; exact ⟨bW1.os, bW1.tape, bW1.output, bW1.size, bW1.block⟩
  clear hW2 d2 d3 bW1 hav hbv hmod m1 m2 hx1 hx2 hy1 hy2
  have hT0 : Hid (RingAt w (W2.alloc (.cells #[.int .i64 (k : Int), .slice none 0 0, .int .i64 (h : Int)] 24)) W2.heap.size k h (.slice none 0 0) (ringL k 0)) := ⟨bW2.alloc bW2.size _, heap_alloc_new _ _, ownOf_nil _ _, bW2.size⟩
  go_wp2
  go_loopg [10] k (fun g u10 wr => ∃ (i : Nat) (v : Value), u10 = .int .i64 i ∧ i ≤ k ∧ g = k - i ∧ Hid (RingAt w wr W2.heap.size k h v (ringL k i)))
  case atStart => exact ⟨0, _, rfl, Nat.zero_le _, rfl, hT0⟩
  case round =>
    obtain ⟨i, v, rfl, hi, rfl, hT⟩ := hrel
    clear hT0
    have p0 := hT.out.c0
    have p1 := hT.out.c1
    have p2 := hT.out.c2
    by_cases hlt : i < k
    · have hlt' : (i : Int) < (k : Int) := by omega
      obtain ⟨va, vc, hv⟩ := hT.out.own.rng.slice
      rw [ringL_len] at hv
      subst hv
      obtain ⟨i0, hi0, hz0, hzs, hzb⟩ := edInfo
      have hm1 : ((i : Int) + 1).tmod (k : Int) = (((i + 1) % k : Nat) : Int) := by rw [show ((i : Int) + 1) = ((i + 1 : Nat) : Int) by omega, Int.ofNat_tmod]
      have hm2 : ((i : Int) + 1) % (k : Int) = (((i + 1) % k : Nat) : Int) := by rw [show ((i : Int) + 1) = ((i + 1 : Nat) : Int) by omega, Int.natCast_emod]
      have hm3 : (((i + 1) % k : Nat) : Int) < 8 := by have := Nat.mod_lt (i + 1) (show 0 < k by omega); omega
      have HX : Hid (ringL k (i + 1) = ringL k i ++ [((i : Int) + 1, (((i + 1) % k : Nat) : Int) + 1)]) := ringL_succ k i
      generalize (((i + 1) % k : Nat) : Int) = r at *
      have hkn : ¬ k = 0 := by omega
      have hr0 : 0 ≤ r := by have := hm2; have := Int.emod_nonneg ((i : Int) + 1) hk0; omega
      have hwi : IntKind.i64.wrap ((i : Int) + 1) = (i : Int) + 1 := by rw [IntKind.wrap_i64]; omega
      have hwr1 : IntKind.i64.wrap (r + 1) = r + 1 := by rw [IntKind.wrap_i64]; omega
      have HGT : Hid (W2.heap.size < wr.heap.size) := (Array.getElem?_eq_some_iff.1 hT.out.box).1
      have hown : OwnOf ecells 2 39 (wr.drew.alloc (.cells #[.int .i64 ((i : Int) + 1), .int .i64 (r + 1)] 39)) (W2.heap.size + 1) (.slice va i vc) (ringL k i) := (show OwnOf ecells 2 39 wr.drew (W2.heap.size + 1) (.slice va i vc) (ringL k i) from hT.out.own.same fun _ _ => rfl).alloc _
      have HB0 : Hid (Below (W2.heap.size + 1) wr (wr.drew.alloc (.cells #[.int .i64 ((i : Int) + 1), .int .i64 (r + 1)] 39))) := (Below.refl _ _).drew.alloc HGT.out _
      have r0 := fun o => cell_allocK (w := wr.drew) o p1
      have r1 := fun o => cell_allocK (w := wr) o p1
      have hlen := ringL_len k i
      go_wp2
      go_region_law (first
        | (refine step_append_rows (enc := ecells) rfl (.tmp 45) (.tmp 54) 22 rfl Try.underlying22 i0 _ 16 hi0 hz0 hzs hzb rfl (W2.heap.size + 1) (.slice va i vc) _ (ringL k i) [((i : Int) + 1, r + 1)] (by simp [Act.eval]) rfl hown (rowK_one _ ((i : Int) + 1, r + 1) _ rfl) (by unfold maxLen; simp; omega) (by simp; omega) (by have := HGT.out; simp; omega) ?_; intro v2 w2 own2 gr2 nw2; have HB : Hid (Below (W2.heap.size + 1) wr w2) := hown.below gr2 HB0.out (by have := HGT.out; simp; omega) (Nat.le_refl _); obtain ⟨y1, y2⟩ := hT.out.cell2 HB.out; obtain ⟨va2, vc2, hv2⟩ := own2.rng.slice; rw [← HX.out, ringL_len] at hv2; subst hv2; clear gr2 nw2))
      all_goals go_wp2
      all_goals go_roundg (k - (i + 1))
      all_goals first | omega | skip
      all_goals (rw [← HX.out] at own2; exact ⟨i + 1, _, by go_num, by omega, rfl, hT.out.put HB.out own2⟩)
    · have hik : i = k := by omega
      subst hik
      obtain ⟨va, vc, hv⟩ := hT.out.own.rng.slice
      rw [ringL_len] at hv
      subst hv
      have HD : Hid _ := ring_dist (b := b) ha
      have hD1 : (b + i - a) % i < i := Nat.mod_lt _ (by omega)
      have hOn := fun W hW => onward_any (i : Int) (h : Int) ((a : Int) + 1) ((b : Int) + 1) (.slice va i vc) (ringL i i) W hW
      have hGo := fun W hW => good_any (i : Int) (h : Int) (.slice va i vc) (ringL i i) W hW
      rw [goodB_true (ring_good hk hh)] at hGo
      have hFa := fun W hW => far_any (i : Int) (h : Int) ((a : Int) + 1) ((b : Int) + 1) (.slice va i vc) (ringL i i) W hW
      rw [ring_far hk hh ha hb] at hFa
      have hWi := fun W hW => within_any (i : Int) (h : Int) ((a : Int) + 1) (.slice va i vc) (ringL i i) W hW
      have hWl := ring_within_len hk hh ha
      have hRo := fun W hW => rounds_any (i : Int) (h : Int) (.slice va i vc) (ringL i i) W hW
      rw [ring_rounds hk hh] at hRo
      obtain ⟨hO1, hO2⟩ := ring_onward hk hh ha hb
      generalize withinT (i : Int) (ringL i i) (h : Int) ((a : Int) + 1) = LW at *
      generalize onwardT (i : Int) (ringL i i) (h : Int) ((a : Int) + 1) ((b : Int) + 1) = LO at *
      have hDz : ((b : Int) - (a : Int) + (i : Int)).tmod (i : Int) = (((b + i - a) % i : Nat) : Int) := HD.out
      have hDe : ((b : Int) - (a : Int) + (i : Int)) % (i : Int) = (((b + i - a) % i : Nat) : Int) := by rw [show ((b : Int) - (a : Int) + (i : Int)) = ((b + i - a : Nat) : Int) by omega, Int.natCast_emod]
      generalize (b + i - a) % i = D at *
      clear HD
      have hL : Hid (RingAt w wr W2.heap.size i h (.slice va i vc) (ringL i i)) := hT
      have a1 : (a : Int) < (i : Int) := by omega
      have b1 : (b : Int) < (i : Int) := by omega
      have hs1 : IntKind.i64.wrap ((b : Int) - (a : Int)) = (b : Int) - (a : Int) := by rw [IntKind.wrap_i64]; omega
      have hs2 : IntKind.i64.wrap ((b : Int) - (a : Int) + (i : Int)) = (b : Int) - (a : Int) + (i : Int) := by rw [IntKind.wrap_i64]; omega
      have hin : ¬ i = 0 := by omega
      have HL : Hid (∀ V, Calls Try.prog 8 #[] V fun e w' => e = .returned (.bool true) ∧ Below V.heap.size V w') := lives_any
      have hs3 : IntKind.i64.wrap ((i : Int) - 1) = (i : Int) - 1 := by rw [IntKind.wrap_i64]; omega
      have hs4 : IntKind.i64.wrap ((h : Int) + 1) = (h : Int) + 1 := by rw [IntKind.wrap_i64]; omega
      have hs5 : IntKind.i64.wrap ((h : Int) + 1 - 1) = (h : Int) := by rw [IntKind.wrap_i64]; omega
      clear hT hlt hi bW2
      by_cases hc : h + 1 ≤ i
      · rw [show min (h + 1) i = h + 1 by omega] at hWl hRo
        rw [show (((h + 1 : Nat) : Int) - 1) = (h : Int) by omega] at hRo
        have hc' : ¬ (i : Int) < (h : Int) + 1 := by omega
        rcases (by omega : (D < h ∧ D ≠ i - 1) ∨ (D < h ∧ D = i - 1) ∨ ¬ D < h) with hq | hq | hq
        · have hLO : LO.length = 1 := hO1.2 hq
          have dd1 : decide ((D : Int) < (h : Int)) = true := decide_eq_true (by omega)
          have dd2 : (((D : Int)) == (i : Int) - 1) = false := by simp; omega
          have dd3 : (((D : Int)) != (i : Int) - 1) = true := by simp; omega
          have dn := hq.1
          clear hO1 hO2 hq hc
          go_wp2_with (first
            | (go_at_call 18; refine (hOn _ hL.out.own.rng).mono ?_; rintro e w3 ⟨v3, rfl, r3, b3⟩; have hL1 : Hid (RingAt w w3 W2.heap.size i h (.slice va i vc) (ringL i i)) := hL.out.next b3; obtain ⟨q3, c3, hv3⟩ := r3.slice; rw [hLO] at hv3; subst hv3; clear r3; clear p0 p1 p2; have p0 := hL1.out.c0; have p1 := hL1.out.c1; have p2 := hL1.out.c2; clear b3)
            | (go_at_call 9; refine (hGo _ hL1.out.own.rng).mono ?_; rintro e w4 ⟨rfl, b4⟩; have hL2 : Hid (RingAt w w4 W2.heap.size i h (.slice va i vc) (ringL i i)) := hL1.out.next b4; clear p0 p1 p2; have p0 := hL2.out.c0; have p1 := hL2.out.c1; have p2 := hL2.out.c2; clear b4)
            | (go_at_call 14; refine (hFa _ hL2.out.own.rng).mono ?_; rintro e w5 ⟨rfl, b5⟩; have hL3 : Hid (RingAt w w5 W2.heap.size i h (.slice va i vc) (ringL i i)) := hL2.out.next b5; clear p0 p1 p2; have p0 := hL3.out.c0; have p1 := hL3.out.c1; have p2 := hL3.out.c2; clear b5)
            | (go_at_call 16; refine (hWi _ hL3.out.own.rng).mono ?_; rintro e w6 ⟨v6, rfl, r6, b6⟩; have hL4 : Hid (RingAt w w6 W2.heap.size i h (.slice va i vc) (ringL i i)) := hL3.out.next b6; obtain ⟨q6, c6, hv6⟩ := r6.slice; rw [hWl] at hv6; subst hv6; clear r6; clear p0 p1 p2; have p0 := hL4.out.c0; have p1 := hL4.out.c1; have p2 := hL4.out.c2; clear b6)
            | (go_at_call 20; refine (hRo _ hL4.out.own.rng).mono ?_; rintro e w7 ⟨rfl, b7⟩; have hL5 : Hid (RingAt w w7 W2.heap.size i h (.slice va i vc) (ringL i i)) := hL4.out.next b7; clear p0 p1 p2; have p0 := hL5.out.c0; have p1 := hL5.out.c1; have p2 := hL5.out.c2; clear b7)
            | (go_at_call 8; refine (HL.out _).mono ?_; rintro e w9 ⟨rfl, b9⟩))
          go_ret
          exact ⟨rfl, hL5.out.bel.trans (b9.mono hL5.out.bel.size)⟩
        · have hLO : LO.length = 0 := by
            have : ¬ LO.length = 1 := fun hh' => (hO1.1 hh').2 hq.2
            omega
          have dd1 : decide ((D : Int) < (h : Int)) = true := decide_eq_true (by omega)
          have dd2 : (((D : Int)) == (i : Int) - 1) = true := by simp; omega
          have dd3 : (((D : Int)) != (i : Int) - 1) = false := by simp; omega
          have dn := hq.1
          clear hO1 hO2 hq hc
          go_wp2_with (first
            | (go_at_call 18; refine (hOn _ hL.out.own.rng).mono ?_; rintro e w3 ⟨v3, rfl, r3, b3⟩; have hL1 : Hid (RingAt w w3 W2.heap.size i h (.slice va i vc) (ringL i i)) := hL.out.next b3; obtain ⟨q3, c3, hv3⟩ := r3.slice; rw [hLO] at hv3; subst hv3; clear r3; clear p0 p1 p2; have p0 := hL1.out.c0; have p1 := hL1.out.c1; have p2 := hL1.out.c2; clear b3)
            | (go_at_call 9; refine (hGo _ hL1.out.own.rng).mono ?_; rintro e w4 ⟨rfl, b4⟩; have hL2 : Hid (RingAt w w4 W2.heap.size i h (.slice va i vc) (ringL i i)) := hL1.out.next b4; clear p0 p1 p2; have p0 := hL2.out.c0; have p1 := hL2.out.c1; have p2 := hL2.out.c2; clear b4)
            | (go_at_call 14; refine (hFa _ hL2.out.own.rng).mono ?_; rintro e w5 ⟨rfl, b5⟩; have hL3 : Hid (RingAt w w5 W2.heap.size i h (.slice va i vc) (ringL i i)) := hL2.out.next b5; clear p0 p1 p2; have p0 := hL3.out.c0; have p1 := hL3.out.c1; have p2 := hL3.out.c2; clear b5)
            | (go_at_call 16; refine (hWi _ hL3.out.own.rng).mono ?_; rintro e w6 ⟨v6, rfl, r6, b6⟩; have hL4 : Hid (RingAt w w6 W2.heap.size i h (.slice va i vc) (ringL i i)) := hL3.out.next b6; obtain ⟨q6, c6, hv6⟩ := r6.slice; rw [hWl] at hv6; subst hv6; clear r6; clear p0 p1 p2; have p0 := hL4.out.c0; have p1 := hL4.out.c1; have p2 := hL4.out.c2; clear b6)
            | (go_at_call 20; refine (hRo _ hL4.out.own.rng).mono ?_; rintro e w7 ⟨rfl, b7⟩; have hL5 : Hid (RingAt w w7 W2.heap.size i h (.slice va i vc) (ringL i i)) := hL4.out.next b7; clear p0 p1 p2; have p0 := hL5.out.c0; have p1 := hL5.out.c1; have p2 := hL5.out.c2; clear b7)
            | (go_at_call 8; refine (HL.out _).mono ?_; rintro e w9 ⟨rfl, b9⟩))
          go_ret
          exact ⟨rfl, hL5.out.bel.trans (b9.mono hL5.out.bel.size)⟩
        · have hLO : LO.length = 0 := by
            have : ¬ LO.length = 1 := fun hh' => hq (hO1.1 hh').1
            omega
          have dd1 : decide ((D : Int) < (h : Int)) = false := decide_eq_false (by omega)
          have dn := hq
          have dl : h ≤ D := by omega
          clear hO1 hO2 hq hc
          go_wp2_with (first
            | (go_at_call 18; refine (hOn _ hL.out.own.rng).mono ?_; rintro e w3 ⟨v3, rfl, r3, b3⟩; have hL1 : Hid (RingAt w w3 W2.heap.size i h (.slice va i vc) (ringL i i)) := hL.out.next b3; obtain ⟨q3, c3, hv3⟩ := r3.slice; rw [hLO] at hv3; subst hv3; clear r3; clear p0 p1 p2; have p0 := hL1.out.c0; have p1 := hL1.out.c1; have p2 := hL1.out.c2; clear b3)
            | (go_at_call 9; refine (hGo _ hL1.out.own.rng).mono ?_; rintro e w4 ⟨rfl, b4⟩; have hL2 : Hid (RingAt w w4 W2.heap.size i h (.slice va i vc) (ringL i i)) := hL1.out.next b4; clear p0 p1 p2; have p0 := hL2.out.c0; have p1 := hL2.out.c1; have p2 := hL2.out.c2; clear b4)
            | (go_at_call 14; refine (hFa _ hL2.out.own.rng).mono ?_; rintro e w5 ⟨rfl, b5⟩; have hL3 : Hid (RingAt w w5 W2.heap.size i h (.slice va i vc) (ringL i i)) := hL2.out.next b5; clear p0 p1 p2; have p0 := hL3.out.c0; have p1 := hL3.out.c1; have p2 := hL3.out.c2; clear b5)
            | (go_at_call 16; refine (hWi _ hL3.out.own.rng).mono ?_; rintro e w6 ⟨v6, rfl, r6, b6⟩; have hL4 : Hid (RingAt w w6 W2.heap.size i h (.slice va i vc) (ringL i i)) := hL3.out.next b6; obtain ⟨q6, c6, hv6⟩ := r6.slice; rw [hWl] at hv6; subst hv6; clear r6; clear p0 p1 p2; have p0 := hL4.out.c0; have p1 := hL4.out.c1; have p2 := hL4.out.c2; clear b6)
            | (go_at_call 20; refine (hRo _ hL4.out.own.rng).mono ?_; rintro e w7 ⟨rfl, b7⟩; have hL5 : Hid (RingAt w w7 W2.heap.size i h (.slice va i vc) (ringL i i)) := hL4.out.next b7; clear p0 p1 p2; have p0 := hL5.out.c0; have p1 := hL5.out.c1; have p2 := hL5.out.c2; clear b7)
            | (go_at_call 8; refine (HL.out _).mono ?_; rintro e w9 ⟨rfl, b9⟩))
          go_ret
          exact ⟨rfl, hL5.out.bel.trans (b9.mono hL5.out.bel.size)⟩
      · rw [show min (h + 1) i = i by omega] at hWl hRo
        have hc' : (i : Int) < (h : Int) + 1 := by omega
        rcases (by omega : (D < h ∧ D ≠ i - 1) ∨ (D < h ∧ D = i - 1) ∨ ¬ D < h) with hq | hq | hq
        · have hLO : LO.length = 1 := hO1.2 hq
          have dd1 : decide ((D : Int) < (h : Int)) = true := decide_eq_true (by omega)
          have dd2 : (((D : Int)) == (i : Int) - 1) = false := by simp; omega
          have dd3 : (((D : Int)) != (i : Int) - 1) = true := by simp; omega
          have dn := hq.1
          clear hO1 hO2 hq hc
          go_wp2_with (first
            | (go_at_call 18; refine (hOn _ hL.out.own.rng).mono ?_; rintro e w3 ⟨v3, rfl, r3, b3⟩; have hL1 : Hid (RingAt w w3 W2.heap.size i h (.slice va i vc) (ringL i i)) := hL.out.next b3; obtain ⟨q3, c3, hv3⟩ := r3.slice; rw [hLO] at hv3; subst hv3; clear r3; clear p0 p1 p2; have p0 := hL1.out.c0; have p1 := hL1.out.c1; have p2 := hL1.out.c2; clear b3)
            | (go_at_call 9; refine (hGo _ hL1.out.own.rng).mono ?_; rintro e w4 ⟨rfl, b4⟩; have hL2 : Hid (RingAt w w4 W2.heap.size i h (.slice va i vc) (ringL i i)) := hL1.out.next b4; clear p0 p1 p2; have p0 := hL2.out.c0; have p1 := hL2.out.c1; have p2 := hL2.out.c2; clear b4)
            | (go_at_call 14; refine (hFa _ hL2.out.own.rng).mono ?_; rintro e w5 ⟨rfl, b5⟩; have hL3 : Hid (RingAt w w5 W2.heap.size i h (.slice va i vc) (ringL i i)) := hL2.out.next b5; clear p0 p1 p2; have p0 := hL3.out.c0; have p1 := hL3.out.c1; have p2 := hL3.out.c2; clear b5)
            | (go_at_call 16; refine (hWi _ hL3.out.own.rng).mono ?_; rintro e w6 ⟨v6, rfl, r6, b6⟩; have hL4 : Hid (RingAt w w6 W2.heap.size i h (.slice va i vc) (ringL i i)) := hL3.out.next b6; obtain ⟨q6, c6, hv6⟩ := r6.slice; rw [hWl] at hv6; subst hv6; clear r6; clear p0 p1 p2; have p0 := hL4.out.c0; have p1 := hL4.out.c1; have p2 := hL4.out.c2; clear b6)
            | (go_at_call 20; refine (hRo _ hL4.out.own.rng).mono ?_; rintro e w7 ⟨rfl, b7⟩; have hL5 : Hid (RingAt w w7 W2.heap.size i h (.slice va i vc) (ringL i i)) := hL4.out.next b7; clear p0 p1 p2; have p0 := hL5.out.c0; have p1 := hL5.out.c1; have p2 := hL5.out.c2; clear b7)
            | (go_at_call 8; refine (HL.out _).mono ?_; rintro e w9 ⟨rfl, b9⟩))
          go_ret
          exact ⟨rfl, hL5.out.bel.trans (b9.mono hL5.out.bel.size)⟩
        · have hLO : LO.length = 0 := by
            have : ¬ LO.length = 1 := fun hh' => (hO1.1 hh').2 hq.2
            omega
          have dd1 : decide ((D : Int) < (h : Int)) = true := decide_eq_true (by omega)
          have dd2 : (((D : Int)) == (i : Int) - 1) = true := by simp; omega
          have dd3 : (((D : Int)) != (i : Int) - 1) = false := by simp; omega
          have dn := hq.1
          clear hO1 hO2 hq hc
          go_wp2_with (first
            | (go_at_call 18; refine (hOn _ hL.out.own.rng).mono ?_; rintro e w3 ⟨v3, rfl, r3, b3⟩; have hL1 : Hid (RingAt w w3 W2.heap.size i h (.slice va i vc) (ringL i i)) := hL.out.next b3; obtain ⟨q3, c3, hv3⟩ := r3.slice; rw [hLO] at hv3; subst hv3; clear r3; clear p0 p1 p2; have p0 := hL1.out.c0; have p1 := hL1.out.c1; have p2 := hL1.out.c2; clear b3)
            | (go_at_call 9; refine (hGo _ hL1.out.own.rng).mono ?_; rintro e w4 ⟨rfl, b4⟩; have hL2 : Hid (RingAt w w4 W2.heap.size i h (.slice va i vc) (ringL i i)) := hL1.out.next b4; clear p0 p1 p2; have p0 := hL2.out.c0; have p1 := hL2.out.c1; have p2 := hL2.out.c2; clear b4)
            | (go_at_call 14; refine (hFa _ hL2.out.own.rng).mono ?_; rintro e w5 ⟨rfl, b5⟩; have hL3 : Hid (RingAt w w5 W2.heap.size i h (.slice va i vc) (ringL i i)) := hL2.out.next b5; clear p0 p1 p2; have p0 := hL3.out.c0; have p1 := hL3.out.c1; have p2 := hL3.out.c2; clear b5)
            | (go_at_call 16; refine (hWi _ hL3.out.own.rng).mono ?_; rintro e w6 ⟨v6, rfl, r6, b6⟩; have hL4 : Hid (RingAt w w6 W2.heap.size i h (.slice va i vc) (ringL i i)) := hL3.out.next b6; obtain ⟨q6, c6, hv6⟩ := r6.slice; rw [hWl] at hv6; subst hv6; clear r6; clear p0 p1 p2; have p0 := hL4.out.c0; have p1 := hL4.out.c1; have p2 := hL4.out.c2; clear b6)
            | (go_at_call 20; refine (hRo _ hL4.out.own.rng).mono ?_; rintro e w7 ⟨rfl, b7⟩; have hL5 : Hid (RingAt w w7 W2.heap.size i h (.slice va i vc) (ringL i i)) := hL4.out.next b7; clear p0 p1 p2; have p0 := hL5.out.c0; have p1 := hL5.out.c1; have p2 := hL5.out.c2; clear b7)
            | (go_at_call 8; refine (HL.out _).mono ?_; rintro e w9 ⟨rfl, b9⟩))
          go_ret
          exact ⟨rfl, hL5.out.bel.trans (b9.mono hL5.out.bel.size)⟩
        · have hLO : LO.length = 0 := by
            have : ¬ LO.length = 1 := fun hh' => hq (hO1.1 hh').1
            omega
          have dd1 : decide ((D : Int) < (h : Int)) = false := decide_eq_false (by omega)
          have dn := hq
          have dl : h ≤ D := by omega
          clear hO1 hO2 hq hc
          go_wp2_with (first
            | (go_at_call 18; refine (hOn _ hL.out.own.rng).mono ?_; rintro e w3 ⟨v3, rfl, r3, b3⟩; have hL1 : Hid (RingAt w w3 W2.heap.size i h (.slice va i vc) (ringL i i)) := hL.out.next b3; obtain ⟨q3, c3, hv3⟩ := r3.slice; rw [hLO] at hv3; subst hv3; clear r3; clear p0 p1 p2; have p0 := hL1.out.c0; have p1 := hL1.out.c1; have p2 := hL1.out.c2; clear b3)
            | (go_at_call 9; refine (hGo _ hL1.out.own.rng).mono ?_; rintro e w4 ⟨rfl, b4⟩; have hL2 : Hid (RingAt w w4 W2.heap.size i h (.slice va i vc) (ringL i i)) := hL1.out.next b4; clear p0 p1 p2; have p0 := hL2.out.c0; have p1 := hL2.out.c1; have p2 := hL2.out.c2; clear b4)
            | (go_at_call 14; refine (hFa _ hL2.out.own.rng).mono ?_; rintro e w5 ⟨rfl, b5⟩; have hL3 : Hid (RingAt w w5 W2.heap.size i h (.slice va i vc) (ringL i i)) := hL2.out.next b5; clear p0 p1 p2; have p0 := hL3.out.c0; have p1 := hL3.out.c1; have p2 := hL3.out.c2; clear b5)
            | (go_at_call 16; refine (hWi _ hL3.out.own.rng).mono ?_; rintro e w6 ⟨v6, rfl, r6, b6⟩; have hL4 : Hid (RingAt w w6 W2.heap.size i h (.slice va i vc) (ringL i i)) := hL3.out.next b6; obtain ⟨q6, c6, hv6⟩ := r6.slice; rw [hWl] at hv6; subst hv6; clear r6; clear p0 p1 p2; have p0 := hL4.out.c0; have p1 := hL4.out.c1; have p2 := hL4.out.c2; clear b6)
            | (go_at_call 20; refine (hRo _ hL4.out.own.rng).mono ?_; rintro e w7 ⟨rfl, b7⟩; have hL5 : Hid (RingAt w w7 W2.heap.size i h (.slice va i vc) (ringL i i)) := hL4.out.next b7; clear p0 p1 p2; have p0 := hL5.out.c0; have p1 := hL5.out.c1; have p2 := hL5.out.c2; clear b7)
            | (go_at_call 8; refine (HL.out _).mono ?_; rintro e w9 ⟨rfl, b9⟩))
          go_ret
          exact ⟨rfl, hL5.out.bel.trans (b9.mono hL5.out.bel.size)⟩
end Go.Proofs.Ytcfagojkeholmaa
