/-
  THE DOCUMENT's Same, Put, Add, Join and Good, by their contracts.
-/
import Derived.Test.YtnlllpgdhnmccaaRefs
namespace Go.Proofs.Ytnlllpgdhnmccaa
open Go.RowKit

theorem neqRng (a b c d : Nat) (w : World) : (binOp .neq 76 (.agg #[.int .u64 (a : Int), .int .u64 (b : Int)]) (.agg #[.int .u64 (c : Int), .int .u64 (d : Int)])).run Try.prog w = .ok (.bool (!(decide (a = c) && decide (b = d)))) w := by
  have u3 := Try.underlying23
  have a3 := Try.isAgg23
  have z3 := Try.sizeOf23
  have hS : Try.prog.underlying 76 = some (.struct (Try.prog.fieldsOf 76)) := by kernel_rfl
  have hp : Try.prog.stoodInHeld 76 = false := by kernel_rfl
  rw [run_neq_struct, show (10000 : Nat) = 9999 + 1 from rfl, run_equalIn_agg w 9999 76 _ _ hS hp]
  simp only [Program.fieldsOf, Try.underlying76]
  go_simp
  by_cases h1 : a = c <;> by_cases h2 : b = d <;> simp [h1, h2] <;> omega
theorem eqGuardRng : Try.prog.eqGuardType Try.prog.depth 76 = false := by kernel_rfl

/-- Are they the very same as far as k? -/
theorem same_of {a b : List (Nat × Nat)} (hl : a.length = b.length) (h : ∀ i (hi : i < a.length), a[i] = b[i]'(by omega)) : a = b := List.ext_getElem hl fun i h1 _ => h i h1

set_option maxHeartbeats 400000 in
theorem same_any (v u : Value) (a b : List (Nat × Nat)) (w : World) (ha : Rng w v a) (hb : Rng w u b) :
    Calls Try.prog 20 #[v, u] w fun e w' => e = .returned (.bool (decide (a = b))) ∧ Below w.heap.size w w' := by
  by_cases hlen : a.length = b.length
  · by_cases hp : 0 < a.length
    · obtain ⟨b1, off1, cap1, rfl, h1, h2, hc1⟩ := ha.at hp
      obtain ⟨b2, off2, cap2, rfl, _, _, hc2⟩ := hb.at (by omega)
      have hk2 : a.length ≤ 9223372036854775807 := by unfold maxLen at h2; omega
      have H1 : Hid (∀ j u, (rcells a)[j]? = some u → w.cell? ⟨b1, off1 + j, none⟩ = some u) := hc1
      have H2 : Hid (∀ j u, (rcells b)[j]? = some u → w.cell? ⟨b2, off2 + j, none⟩ = some u) := hc2
      have HL : Hid (a.length = b.length) := hlen
      rw [← hlen]
      clear hc1 hc2 ha hb hlen
      generalize hg : decide (a = b) = G
      have HG : Hid (decide (a = b) = G) := hg
      clear hg
      have hgd := eqGuardRng
      go_enter Try.func20, Try.ntmps20
      go_wp2
      go_loopw [13] (fun u13 wr => ∃ k : Nat, u13 = .int .i64 k ∧ k ≤ a.length ∧ Hid ((∀ i (hi : i < a.length) (hi' : i < b.length), i < k → a[i] = b[i]) ∧ Below w.heap.size w wr)) (fun u13 _ => a.length - (intOf u13).toNat)
      case atStart => exact ⟨0, rfl, Nat.zero_le _, (⟨fun i _ _ h => absurd h (Nat.not_lt_zero _), Below.refl _ _⟩ : _ ∧ _)⟩
      case round =>
        obtain ⟨k, rfl, hk, HB⟩ := hrel
        by_cases hlt : k < a.length
        · have hlt2 : k < b.length := by rw [← HL.out]; exact hlt
          obtain ⟨c0, c1⟩ := at_cells H1.out k hlt
          obtain ⟨d0, d1⟩ := at_cells H2.out k hlt2
          have hb1 := World.block_lt_of_cell? w _ c0
          have hb2 := World.block_lt_of_cell? w _ d0
          rw [← HB.out.2.cell (p := ⟨b1, off1 + k * 2, none⟩) hb1] at c0
          rw [← HB.out.2.cell (p := ⟨b1, off1 + k * 2 + 1, none⟩) hb1] at c1
          rw [← HB.out.2.cell (p := ⟨b2, off2 + k * 2, none⟩) hb2] at d0
          rw [← HB.out.2.cell (p := ⟨b2, off2 + k * 2 + 1, none⟩) hb2] at d1
          have hE : Hid (a[k] = b[k] ↔ a[k].1 = b[k].1 ∧ a[k].2 = b[k].2) := Prod.ext_iff
          have hN : Hid (a[k] ≠ b[k] → a ≠ b) := fun hne he => hne (by subst he; rfl)
          have hneq := neqRng a[k].1 a[k].2 b[k].1 b[k].2
          generalize a[k].1 = x1 at c0 hE hneq
          generalize a[k].2 = x2 at c1 hE hneq
          generalize b[k].1 = y1 at d0 hE hneq
          generalize b[k].2 = y2 at d1 hE hneq
          have hltb : k < b.length := hlt2
          by_cases he : x1 = y1 ∧ x2 = y2
          · obtain ⟨rfl, rfl⟩ := he
            simp only [decide_true, Bool.and_self, Bool.not_true] at hneq
            go_wp2
            go_quiet (fail)
            go_wp2
            refine ⟨⟨k + 1, by go_num, by omega, (⟨fun i hi hi' h => ?_, ⟨HB.out.2.os, HB.out.2.tape, HB.out.2.output, HB.out.2.size, HB.out.2.block⟩⟩ : _ ∧ _)⟩, by simp [intOf]; omega⟩
            rcases Nat.lt_or_ge i k with h' | h'
            · exact HB.out.1 i hi hi' h'
            · obtain rfl : i = k := by omega
              exact hE.out.2 (by simp)
          · have hd : (decide (x1 = y1) && decide (x2 = y2)) = false := by simpa using he
            simp only [hd, Bool.not_false] at hneq
            go_wp2
            go_quiet (fail)
            go_wp2
            go_ret
            refine ⟨ret_bool ?_, ⟨HB.out.2.os, HB.out.2.tape, HB.out.2.output, HB.out.2.size, HB.out.2.block⟩⟩
            rw [← HG.out]
            exact (decide_eq_false (hN.out fun h => he (hE.out.1 h))).symm
        · go_wp2
          obtain rfl : k = a.length := by omega
          go_ret
          refine ⟨ret_bool ?_, HB.out.2⟩
          rw [← HG.out]
          exact (decide_eq_true (same_of HL.out fun i hi => HB.out.1 i hi (by rw [← HL.out]; exact hi) hi)).symm
    · obtain rfl : a = [] := List.eq_nil_of_length_eq_zero (by omega)
      obtain rfl : b = [] := List.eq_nil_of_length_eq_zero hlen.symm
      obtain ⟨a1, cap1, rfl⟩ := ha.slice
      obtain ⟨a2, cap2, rfl⟩ := hb.slice
      simp only [List.length_nil]
      go_enter Try.func20, Try.ntmps20
      go_wp2
      go_rounds 1
      go_ret
      exact ⟨rfl, Below.refl _ _⟩
  · obtain ⟨a1, cap1, rfl⟩ := ha.slice
    obtain ⟨a2, cap2, rfl⟩ := hb.slice
    have hne : a ≠ b := fun h => hlen (by rw [h])
    rw [decide_eq_false hne]
    clear ha hb hne
    generalize a.length = n at *
    generalize b.length = m at *
    have hne' : ¬ ((n : Int) = (m : Int)) := by omega
    go_enter Try.func20, Try.ntmps20
    go_wp2
    go_ret
    exact ⟨rfl, Below.refl _ _⟩

/-- The box of x, and what else a round of Put carries. -/
structure PutAt (w wr : World) (X : Nat) (v : Value) (out : List (Nat × Nat)) (x : Nat × Nat) : Prop where
  box : wr.heap[X]? = some (.cells #[.int .u64 (x.1 : Int), .int .u64 (x.2 : Int)] 76 (0, 0))
  own : Own2 wr (X + 1) v out
  bel : Below X w wr
theorem PutAt.lt {w wr : World} {X : Nat} {v : Value} {out : List (Nat × Nat)} {x : Nat × Nat} (h : PutAt w wr X v out x) : X < wr.heap.size := (Array.getElem?_eq_some_iff.1 h.box).1
theorem cell20 {w : World} {b : Nat} {u v : Value} {t : TypeId} (h : w.heap[b]? = some (.cells #[u, v] t (0, 0))) : w.cell? ⟨b, 0, none⟩ = some u ∧ w.cell? ⟨b, 1, none⟩ = some v ∧ w.frozen? ⟨b, 0, none⟩ = false ∧ w.frozen? ⟨b, 1, none⟩ = false := by
  simp [World.cell?, World.frozen?, h]
theorem PutAt.alloc {w wr : World} {X : Nat} {v : Value} {out : List (Nat × Nat)} {x : Nat × Nat} (h : PutAt w wr X v out x) (o : Obj) : PutAt w (wr.alloc o) X v out x :=
  ⟨by rw [Below.heap_alloc _ _ _ h.lt]; exact h.box, h.own.alloc o, h.bel.alloc (Nat.le_of_lt h.lt) o⟩
theorem PutAt.grown {w wr w' : World} {X : Nat} {v v' : Value} {out out' : List (Nat × Nat)} {x : Nat × Nat} (h : PutAt w wr X v out x) (ho : Own2 w' (X + 1) v' out') (hg : wr.grownBy w' v.ownBlock) : PutAt w w' X v' out' x := by
  refine ⟨?_, ho, h.own.below hg h.bel (Nat.le_of_lt h.lt) (Nat.le_succ _)⟩
  rw [hg.block X h.lt fun he => ?_]
  · exact h.box
  · have := (World.ownsRow.lt h.own X he.symm).1
    omega

theorem PutAt.other {w wr : World} {X : Nat} {v : Value} {out : List (Nat × Nat)} {x : Nat × Nat} (h : PutAt w wr X v out x) (p : Addr) (hp : p.block = X) (u : Value) : Own2 (wr.setCell p u) (X + 1) v out ∧ Below X w (wr.setCell p u) := by
  refine ⟨h.own.same fun g hg => ?_, h.bel.setCell (by omega) u⟩
  have := (World.ownsRow.lt h.own g hg).1
  exact heap_setCell_other _ _ _ _ (by omega)
theorem PutAt.lo {w wr : World} {X : Nat} {v : Value} {out : List (Nat × Nat)} {x : Nat × Nat} (h : PutAt w wr X v out x) (n : Nat) : PutAt w (wr.setCell ⟨X, 0, none⟩ (.int .u64 (n : Int))) X v out (n, x.2) := by
  obtain ⟨h1, h2⟩ := h.other ⟨X, 0, none⟩ rfl (.int .u64 (n : Int))
  refine ⟨?_, h1, h2⟩
  have := heap_setCell_same wr X 0 _ _ (.int .u64 (n : Int)) h.box
  simpa using this
theorem PutAt.hi {w wr : World} {X : Nat} {v : Value} {out : List (Nat × Nat)} {x : Nat × Nat} (h : PutAt w wr X v out x) (n : Nat) : PutAt w (wr.setCell ⟨X, 1, none⟩ (.int .u64 (n : Int))) X v out (x.1, n) := by
  obtain ⟨h1, h2⟩ := h.other ⟨X, 1, none⟩ rfl (.int .u64 (n : Int))
  refine ⟨?_, h1, h2⟩
  have := heap_setCell_same wr X 1 _ _ (.int .u64 (n : Int)) h.box
  simpa using this

set_option maxHeartbeats 1000000 in
set_option maxRecDepth 100000 in
theorem rput_any (v : Value) (l : List (Nat × Nat)) (x : Nat × Nat) (w : World) (hr : Rng w v l) (hl : Apart 1 l) (hu : Upto 18446744073709551616 l) (hx : x.1 ≤ x.2) (hx2 : x.2 < 18446744073709551616) (hlen : l.length ≤ 1000000) :
    Calls Try.prog 47 #[v, .agg #[.int .u64 (x.1 : Int), .int .u64 (x.2 : Int)]] w fun e w' => ∃ v', e = .returned v' ∧ Own2 w' w.heap.size v' (putL l x) ∧ Below w.heap.size w w' := by
  by_cases hp : 0 < l.length
  · obtain ⟨b, off, cap, rfl, h1, h2, hc⟩ := hr.at hp
    have hk2 : l.length ≤ 9223372036854775807 := by unfold maxLen at h2; omega
    have hC : Hid (∀ j u, (rcells l)[j]? = some u → w.cell? ⟨b, off + j, none⟩ = some u) := hc
    have hb : b < w.heap.size := World.block_lt_of_cell? w _ (at_cells hc 0 hp).1
    have HA : Hid (Apart 1 l ∧ Upto 18446744073709551616 l) := ⟨hl, hu⟩
    clear hc hr hl hu
    generalize hg : putL l x = G
    have HG : Hid (putL l x = G) := hg
    clear hg
    obtain ⟨x1, x2⟩ := x
    simp only at hx hx2 ⊢
    go_enter Try.func47, Try.ntmps47
    go_wp2
    go_loopw [5, 6, 11] (fun u5 u6 u11 wr => ∃ (k : Nat) (out : List (Nat × Nat)) (y : Nat × Nat) (d : Bool), u11 = .int .i64 k ∧ u6 = .bool d ∧ k ≤ l.length ∧ out.length ≤ k + (if d then 1 else 0) ∧ Hid (PutAt w wr w.heap.size u5 out y ∧ y.1 ≤ y.2 ∧ y.2 < 18446744073709551616 ∧
      (d = false → out ++ putL (l.drop k) y = G) ∧ (d = true → out ++ l.drop k = G ∧ Apart (y.2 + 2) (l.drop k)))) (fun _ _ u11 _ => l.length - (intOf u11).toNat)
    case atStart => exact ⟨0, [], (x1, x2), false, rfl, rfl, Nat.zero_le _, by simp, (⟨⟨heap_alloc_new w _, own2_nil _ _, (Below.refl _ _).alloc (Nat.le_refl _) _⟩, hx, hx2, fun _ => HG.out, fun h => by cases h⟩ : _ ∧ _)⟩
    case round =>
      obtain ⟨k, out, y, d, rfl, rfl, hk, ho, HB⟩ := hrel
      by_cases hlt : k < l.length
      · obtain ⟨c0, c1⟩ := at_cells hC.out k hlt
        rw [← HB.out.1.bel.cell (p := ⟨b, off + k * 2, none⟩) hb] at c0
        rw [← HB.out.1.bel.cell (p := ⟨b, off + k * 2 + 1, none⟩) hb] at c1
        have hd : Hid (l.drop k = l[k] :: l.drop (k + 1)) := List.drop_eq_getElem_cons hlt
        have hr2 := HA.out.2 l[k] (List.getElem_mem hlt)
        have hr1 := (HA.out.1.lowR (List.getElem_mem hlt)).2
        obtain ⟨d0, d1, d2, d3⟩ := cell20 HB.out.1.box
        have hX := HB.out.1.lt
        obtain ⟨y1, y2⟩ := y
        generalize l[k] = r at c0 c1 hd hr1 hr2
        obtain ⟨r1, r2⟩ := r
        simp only at c0 c1 hr1 hr2 d0 d1
        have hy := HB.out.2.1
        have hy2 := HB.out.2.2.1
        simp only at hy hy2
        have ho2 : out.length ≤ 1000002 := by cases d <;> simp at ho <;> omega
        have HO : Hid (out.length ≤ k + (if d then 1 else 0)) := ho
        clear ho
        have hsl : ∃ a c, (u5 = .slice a out.length c) := HB.out.1.own.rng.slice
        obtain ⟨oa, oc, rfl⟩ := hsl
        have hnb : ∀ n, wr.heap.size ≤ n → some n ≠ (Value.slice oa out.length oc).ownBlock := fun n hn he => by
          have := (World.ownsRow.lt HB.out.1.own n he.symm).2
          omega
        by_cases g1 : r2 + 1 < y1
        · have g1a : (r2 : Int) < (y1 : Int) := by omega
          have hw : IntKind.u64.wrap ((r2 : Int) + 1) = (r2 : Int) + 1 := by rw [IntKind.wrap_u64]; omega
          have g1b : (r2 : Int) + 1 < (y1 : Int) := by omega
          have hd0 : Hid (d = false) := by
            cases d with
            | false => exact (rfl : false = false)
            | true =>
              exfalso
              have := (HB.out.2.2.2.2 rfl).2
              rw [hd.out] at this
              have := this.1
              simp only at this
              omega
          go_wp2_with (at_builtin; refine wpList_append_rng rfl (.tmp 45) (.tmp 47) rfl (w.heap.size + 1) _ _ out [(r1, r2)] rfl rfl ((HB.out.1.own.alloc _).alloc _) (rng_one _ r1 r2 _ (World.size_alloc _ _).symm) (by show out.length + 1 ≤ _; omega) (le_alloc (le_alloc hX _) _) ?_; intro v' w' own' grown')
          refine ⟨⟨k + 1, out ++ [(r1, r2)], (y1, y2), d, by go_num, rfl, by omega, ?_, (⟨((HB.out.1.alloc _).alloc _).grown own' grown', hy, hy2, fun h => ?_, fun h => ?_⟩ : _ ∧ _)⟩, by simp [intOf]; omega⟩
          · have := HO.out; simp; omega
          · have := HB.out.2.2.2.1 h
            rw [hd.out, putL, if_pos g1] at this
            rw [← this]; simp
          · rw [hd0.out] at h; cases h
        · have hA : Hid (¬ ((r2 : Int) < (y1 : Int)) ∨ ((r2 : Int) < (y1 : Int) ∧ IntKind.u64.wrap ((r2 : Int) + 1) = (r2 : Int) + 1 ∧ ¬ ((r2 : Int) + 1 < (y1 : Int)))) := by
            by_cases h : (r2 : Int) < (y1 : Int)
            · exact .inr ⟨h, by rw [IntKind.wrap_u64]; omega, by omega⟩
            · exact .inl h
          by_cases g2 : y2 + 1 < r1
          · have g2a : (y2 : Int) < (r1 : Int) := by omega
            have hw : IntKind.u64.wrap ((y2 : Int) + 1) = (y2 : Int) + 1 := by rw [IntKind.wrap_u64]; omega
            have g2b : (y2 : Int) + 1 < (r1 : Int) := by omega
            have g0 : ¬ ((r2 : Int) < (y1 : Int)) := by omega
            cases d with
            | false =>
              go_wp2_with (first
                | (at_builtin; refine wpList_append_rng rfl (.tmp 65) (.tmp 67) rfl (w.heap.size + 1) _ _ out [(y1, y2)] rfl rfl ((HB.out.1.own.alloc _).alloc _) (rng_one _ y1 y2 _ (World.size_alloc _ _).symm) (by show out.length + 1 ≤ _; omega) (le_alloc (le_alloc hX _) _) ?_; intro v' w' own' grown'; have P1 := (((HB.out.1.alloc _).alloc _).grown own' grown'); have hrr : Hid (PutAt w w' w.heap.size v' (out ++ [(y1, y2)]) (y1, y2)) := P1; have e0 : w'.cell? ⟨wr.heap.size, 0, none⟩ = some (.int .u64 (r1 : Int)) := ?e0; have e1 : w'.cell? ⟨wr.heap.size, 1, none⟩ = some (.int .u64 (r2 : Int)) := ?e1; obtain ⟨va, vc, hva⟩ := own'.slice1; subst hva)
                | (at_builtin; refine wpList_append_rng rfl (.tmp 69) (.tmp 71) rfl (w.heap.size + 1) _ _ (out ++ [(y1, y2)]) [(r1, r2)] rfl rfl (hrr.out.own.alloc _) (rng_one _ r1 r2 _ rfl) (by rw [List.length_append]; show out.length + 1 + 1 ≤ _; omega) (le_alloc hrr.out.lt _) ?_; intro v'' w'' own'' grown''))
              case e0 => exact grown'.cell (a := ⟨wr.heap.size, 0, none⟩) (by simp [World.cell?_alloc_at, World.cell?_alloc_past]) (hnb _ (Nat.le_refl _))
              case e1 => exact grown'.cell (a := ⟨wr.heap.size, 1, none⟩) (by simp [World.cell?_alloc_at, World.cell?_alloc_past]) (hnb _ (Nat.le_refl _))
              refine ⟨⟨k + 1, out ++ [(y1, y2)] ++ [(r1, r2)], (y1, y2), true, by go_num, rfl, by omega, ?_, (⟨(hrr.out.alloc _).grown own'' grown'', hy, hy2, (fun h => by cases h), fun _ => ?_⟩ : _ ∧ _)⟩, by simp [intOf]; omega⟩
              · have := HO.out; simp at this ⊢; omega
              · have h := HB.out.2.2.2.1 rfl
                rw [hd.out, putL, if_neg g1, if_pos g2] at h
                refine ⟨by rw [← h]; simp, ?_⟩
                have h3 : Apart 1 (l.drop k) := Apart.append (a := l.take k) (by rw [List.take_append_drop]; exact HA.out.1)
                rw [hd.out] at h3
                exact (h3.2.2).mono (by simp only; omega)
            | true =>
              go_wp2_with (at_builtin; refine wpList_append_rng rfl (.tmp 69) (.tmp 71) rfl (w.heap.size + 1) _ _ out [(r1, r2)] rfl rfl ((HB.out.1.own.alloc _).alloc _) (rng_one _ r1 r2 _ (World.size_alloc _ _).symm) (by show out.length + 1 ≤ _; omega) (le_alloc (le_alloc hX _) _) ?_; intro v' w' own' grown')
              refine ⟨⟨k + 1, out ++ [(r1, r2)], (y1, y2), true, by go_num, rfl, by omega, ?_, (⟨((HB.out.1.alloc _).alloc _).grown own' grown', hy, hy2, (fun h => by cases h), fun _ => ?_⟩ : _ ∧ _)⟩, by simp [intOf]; omega⟩
              · have := HO.out; simp at this ⊢; omega
              · have := HB.out.2.2.2.2 rfl
                rw [hd.out] at this
                exact ⟨by rw [← this.1]; simp, this.2.2.2.mono (by simp only; omega)⟩
          · have hB : Hid (¬ ((y2 : Int) < (r1 : Int)) ∨ ((y2 : Int) < (r1 : Int) ∧ IntKind.u64.wrap ((y2 : Int) + 1) = (y2 : Int) + 1 ∧ ¬ ((y2 : Int) + 1 < (r1 : Int)))) := by
              by_cases h : (y2 : Int) < (r1 : Int)
              · exact .inr ⟨h, by rw [IntKind.wrap_u64]; omega, by omega⟩
              · exact .inl h
            have hd0 : d = false := by
              cases d with
              | false => rfl
              | true =>
                exfalso
                have := (HB.out.2.2.2.2 rfl).2
                rw [hd.out] at this
                have := this.1
                simp only at this
                omega
            subst hd0
            have hfin : Hid (out ++ putL (l.drop (k + 1)) (min y1 r1, max y2 r2) = G) := by
              have := HB.out.2.2.2.1 rfl
              rw [hd.out, putL, if_neg g1, if_neg g2] at this
              exact this
            clear hd HG
            rcases hA.out with hA1 | ⟨hA1, hA2, hA3⟩
            · rcases hB.out with hB1 | ⟨hB1, hB2, hB3⟩
              · by_cases k1 : (r1 : Int) < (y1 : Int)
                · by_cases k2 : (y2 : Int) < (r2 : Int)
                  · go_wp2
                    refine ⟨⟨k + 1, out, (r1, r2), false, by go_num, rfl, by omega, (by have := HO.out; simp at this ⊢; omega), (⟨(((HB.out.1.lo r1).hi r2).alloc _), (by simp only; omega), (by simp only; omega), (fun _ => by rw [← hfin.out, show min y1 r1 = r1 from Nat.min_eq_right (by omega), show max y2 r2 = r2 from Nat.max_eq_right (by omega)]), fun h => by cases h⟩ : _ ∧ _)⟩, by simp [intOf]; omega⟩
                  · go_wp2
                    refine ⟨⟨k + 1, out, (r1, y2), false, by go_num, rfl, by omega, (by have := HO.out; simp at this ⊢; omega), (⟨((HB.out.1.lo r1).alloc _), (by simp only; omega), (by simp only; omega), (fun _ => by rw [← hfin.out, show min y1 r1 = r1 from Nat.min_eq_right (by omega), show max y2 r2 = y2 from Nat.max_eq_left (by omega)]), fun h => by cases h⟩ : _ ∧ _)⟩, by simp [intOf]; omega⟩
                · by_cases k2 : (y2 : Int) < (r2 : Int)
                  · go_wp2
                    refine ⟨⟨k + 1, out, (y1, r2), false, by go_num, rfl, by omega, (by have := HO.out; simp at this ⊢; omega), (⟨((HB.out.1.hi r2).alloc _), (by simp only; omega), (by simp only; omega), (fun _ => by rw [← hfin.out, show min y1 r1 = y1 from Nat.min_eq_left (by omega), show max y2 r2 = r2 from Nat.max_eq_right (by omega)]), fun h => by cases h⟩ : _ ∧ _)⟩, by simp [intOf]; omega⟩
                  · go_wp2
                    refine ⟨⟨k + 1, out, (y1, y2), false, by go_num, rfl, by omega, (by have := HO.out; simp at this ⊢; omega), (⟨(HB.out.1.alloc _), (by simp only; omega), (by simp only; omega), (fun _ => by rw [← hfin.out, show min y1 r1 = y1 from Nat.min_eq_left (by omega), show max y2 r2 = y2 from Nat.max_eq_left (by omega)]), fun h => by cases h⟩ : _ ∧ _)⟩, by simp [intOf]; omega⟩
              · have k1 : ¬ (r1 : Int) < (y1 : Int) := by omega
                have k2 : (y2 : Int) < (r2 : Int) := by omega
                go_wp2
                refine ⟨⟨k + 1, out, (y1, r2), false, by go_num, rfl, by omega, (by have := HO.out; simp at this ⊢; omega), (⟨((HB.out.1.hi r2).alloc _), (by simp only; omega), (by simp only; omega), (fun _ => by rw [← hfin.out, show min y1 r1 = y1 from Nat.min_eq_left (by omega), show max y2 r2 = r2 from Nat.max_eq_right (by omega)]), fun h => by cases h⟩ : _ ∧ _)⟩, by simp [intOf]; omega⟩
            · have hB1 : ¬ (y2 : Int) < (r1 : Int) := by omega
              have k1 : (r1 : Int) < (y1 : Int) := by omega
              have k2 : ¬ (y2 : Int) < (r2 : Int) := by omega
              go_wp2
              refine ⟨⟨k + 1, out, (r1, y2), false, by go_num, rfl, by omega, (by have := HO.out; simp at this ⊢; omega), (⟨((HB.out.1.lo r1).alloc _), (by simp only; omega), (by simp only; omega), (fun _ => by rw [← hfin.out, show min y1 r1 = r1 from Nat.min_eq_right (by omega), show max y2 r2 = y2 from Nat.max_eq_left (by omega)]), fun h => by cases h⟩ : _ ∧ _)⟩, by simp [intOf]; omega⟩
      · have hdk : Hid (l.drop k = []) := List.drop_eq_nil_of_le (by omega)
        obtain ⟨y1, y2⟩ := y
        obtain ⟨d0, d1, d2, d3⟩ := cell20 HB.out.1.box
        simp only at d0 d1
        have hX := HB.out.1.lt
        have ho2 : out.length ≤ 1000002 := by cases d <;> simp at ho <;> omega
        have hsl : ∃ a c, (u5 = .slice a out.length c) := HB.out.1.own.rng.slice
        obtain ⟨oa, oc, rfl⟩ := hsl
        cases d with
        | false =>
          have hfin : Hid (out ++ [(y1, y2)] = G) := by
            have := HB.out.2.2.2.1 rfl
            rw [hdk.out, putL] at this
            exact this
          go_wp2_with (at_builtin; refine wpList_append_rng rfl (.tmp 76) (.tmp 78) rfl (w.heap.size + 1) _ _ out [(y1, y2)] rfl rfl (HB.out.1.own.alloc _) (rng_one _ y1 y2 _ rfl) (by show out.length + 1 ≤ _; omega) (le_alloc hX _) ?_; intro v' w' own' grown'; have P1 : Hid (PutAt w w' w.heap.size v' (out ++ [(y1, y2)]) (y1, y2)) := (HB.out.1.alloc _).grown own' grown'; obtain ⟨va, vc, hva⟩ := own'.slice1; subst hva)
          go_ret
          exact ⟨_, rfl, by rw [← hfin.out]; exact P1.out.own.mono (Nat.le_succ _), P1.out.bel⟩
        | true =>
          have hfin : Hid (out = G) := by
            have := (HB.out.2.2.2.2 rfl).1
            rw [hdk.out, List.append_nil] at this
            exact this
          go_wp2
          go_ret
          exact ⟨_, rfl, by rw [← hfin.out]; exact HB.out.1.own.mono (Nat.le_succ _), HB.out.1.bel⟩
  · obtain rfl : l = [] := List.eq_nil_of_length_eq_zero (by omega)
    obtain ⟨a, cap, rfl⟩ := hr.slice
    simp only [List.length_nil]
    obtain ⟨y1, y2⟩ := x
    have P0 : Hid (PutAt w (w.alloc (.cells #[.int .u64 (y1 : Int), .int .u64 (y2 : Int)] 76)) w.heap.size (.slice none 0 0) [] (y1, y2)) := ⟨heap_alloc_new w _, own2_nil _ _, (Below.refl _ _).alloc (Nat.le_refl _) _⟩
    go_enter Try.func47, Try.ntmps47
    go_wp2
    go_loopw [5, 6, 11] (fun u5 u6 u11 wr => u5 = .slice none 0 0 ∧ u6 = .bool false ∧ u11 = .int .i64 0 ∧ Hid (wr = w.alloc (.cells #[.int .u64 (y1 : Int), .int .u64 (y2 : Int)] 76))) (fun _ _ _ _ => 0)
    case atStart => exact ⟨rfl, rfl, rfl, (rfl : _ = _)⟩
    case round =>
      obtain ⟨rfl, rfl, rfl, HW⟩ := hrel
      have P1 : Hid (PutAt w wr w.heap.size (.slice none 0 0) [] (y1, y2)) := (by rw [HW.out]; exact P0.out : PutAt w wr w.heap.size (.slice none 0 0) [] (y1, y2))
      obtain ⟨d0, d1, d2, d3⟩ := cell20 P1.out.box
      simp only at d0 d1
      have hX := P1.out.lt
      go_wp2_with (at_builtin; refine wpList_append_rng rfl (.tmp 76) (.tmp 78) rfl (w.heap.size + 1) _ _ [] [(y1, y2)] rfl rfl (P1.out.own.alloc _) (rng_one _ y1 y2 _ rfl) (by show 0 + 1 ≤ _; omega) (le_alloc hX _) ?_; intro v' w' own' grown'; have P2 : Hid (PutAt w w' w.heap.size v' ([] ++ [(y1, y2)]) (y1, y2)) := (P1.out.alloc _).grown own' grown'; obtain ⟨va, vc, hva⟩ := own'.slice1; subst hva)
      go_ret
      exact ⟨_, rfl, P2.out.own.mono (Nat.le_succ _), P2.out.bel⟩

set_option maxHeartbeats 400000 in
theorem radd_any (v : Value) (l : List (Nat × Nat)) (n : Nat) (w : World) (hr : Rng w v l) (hl : Apart 1 l) (hu : Upto 18446744073709551616 l) (hn : n < 18446744073709551616) (hlen : l.length ≤ 1000000) :
    Calls Try.prog 27 #[v, .int .u64 (n : Int)] w fun e w' => Below w.heap.size w w' ∧ ((n = 0 ∨ Mem l n) ∧ e = .returned (.tuple #[v, .bool false]) ∨
      ¬ (n = 0 ∨ Mem l n) ∧ ∃ v', e = .returned (.tuple #[v', .bool true]) ∧ Own2 w' w.heap.size v' (putL l (n, n))) := by
  obtain ⟨a, cap, rfl⟩ := hr.slice
  have HR : Hid (Rng w (.slice a l.length cap) l) := hr
  clear hr
  by_cases h0 : n = 0
  · subst h0
    go_enter Try.func27, Try.ntmps27
    go_wp2
    go_ret2
    exact ⟨Below.refl _ _, .inl ⟨by simp, rfl⟩⟩
  · have h0' : ¬ ((n : Int) < 1) := by omega
    cases hm : memB l n with
    | true =>
      go_enter Try.func27, Try.ntmps27
      go_wp2_with (go_at_call 34; refine (rhas_any _ l n _ HR.out).mono ?_; rw [hm]; rintro e w' ⟨rfl, b1⟩)
      go_ret2
      exact ⟨b1, .inl ⟨.inr ((memB_iff l n).1 hm), rfl⟩⟩
    | false =>
      go_enter Try.func27, Try.ntmps27
      go_wp2_with (first
        | (go_at_call 34; refine (rhas_any _ l n _ HR.out).mono ?_; rw [hm]; rintro e w' ⟨rfl, b1⟩)
        | (go_at_call 47; refine (rput_any _ l (n, n) _ (HR.out.below b1 (Nat.le_refl _)) hl hu (Nat.le_refl _) hn hlen).mono ?_; rintro e w'' ⟨v', rfl, own', b2⟩))
      go_ret2
      exact ⟨b1.trans (b2.mono b1.size), .inr ⟨fun h => h.elim h0 ((memB_false l n).1 hm), _, rfl, own'.mono b1.size⟩⟩

end Go.Proofs.Ytnlllpgdhnmccaa
