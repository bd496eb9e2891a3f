/-
  THE DOCUMENT's BOOK: Add, Has, Ranges, Origins, Put, by their contracts; lists of ints.
-/
import Derived.Test.YtnlllpgdhnmccaaOrigins
import Derived.Test.YtnlllpgdhnmccaaAddB
import Derived.BigRegion
import Derived.BigQuiet
namespace Go.Proofs.Ytnlllpgdhnmccaa
open Go.RowKit Go.Sort

theorem take_step (a b : List Int) (h : a.length = b.length) (k : Nat) (hk : k < a.length) (he : a.take k = b.take k) : (a[k] = b[k]'(by omega)) ↔ a.take (k + 1) = b.take (k + 1) := by
  have e1 := List.take_succ_eq_append_getElem hk
  have e2 := List.take_succ_eq_append_getElem (show k < b.length by omega)
  rw [e1, e2, he]
  exact ⟨fun h => by rw [h], fun h => (List.cons.inj (List.append_cancel_left h)).1⟩

set_option maxHeartbeats 400000 in
theorem ints_any (v u : Value) (a b : List Int) (w : World) (ha : Row w v (icells a)) (hb : Row w u (icells b)) :
    Calls Try.prog 28 #[v, u] w fun e w' => e = .returned (.bool (a == b)) ∧ Below w.heap.size w w' := by
  by_cases hl : a.length = b.length
  · by_cases hp : 0 < a.length
    · obtain ⟨g1, o1, c1, rfl, ha1, ha2, hca⟩ := ha.atInts hp
      obtain ⟨g2, o2, c2, rfl, hb1, hb2, hcb⟩ := hb.atInts (by omega)
      unfold maxLen at ha2 hb2
      go_enter Try.func28, Try.ntmps28
      go_wp2
      go_loopw [13] (fun i wr => ∃ k : Nat, k ≤ a.length ∧ i = .int .i64 k ∧ a.take k = b.take k ∧ Below w.heap.size w wr ∧ w.heap.size ≤ wr.heap.size ∧ (∀ j (hj : j < a.length), wr.cell? ⟨g1, o1 + j, none⟩ = some (.int .i64 a[j])) ∧ (∀ j (hj : j < b.length), wr.cell? ⟨g2, o2 + j, none⟩ = some (.int .i64 b[j]))) (fun i _ => a.length - (intOf i).toNat)
      case atStart => exact ⟨0, Nat.zero_le _, rfl, rfl, Below.refl _ _, Nat.le_refl _, hca, hcb⟩
      case round =>
        obtain ⟨k, hk, rfl, he, bel, sz, hca, hcb⟩ := hrel
        by_cases hlt : k < a.length
        · have h1 := hca k hlt
          have h2 := hcb k (by omega)
          have hstep := take_step a b hl k hlt he
          have HS : Hid _ := hstep
          clear hstep
          go_wp2
          go_region
          by_cases hkb : a[k] = b[k]'(by omega)
          · go_wp2
            go_roundw
            case rel => exact ⟨k + 1, by omega, by go_num, HS.out.1 hkb, bel.drew, sz, hca, hcb⟩
            case measure => simp [intOf]; omega
          · go_wp2
            go_ret
            refine ⟨ret_bool ?_, bel.drew⟩
            symm
            rw [beq_eq_false_iff_ne]
            intro e
            subst e
            exact hkb rfl
        · go_wp2
          obtain rfl : k = a.length := by omega
          go_ret
          refine ⟨ret_bool ?_, bel⟩
          symm
          rw [beq_iff_eq]
          rw [List.take_of_length_le (Nat.le_refl _), List.take_of_length_le (by omega)] at he
          exact he
    · obtain rfl : a = [] := List.eq_nil_of_length_eq_zero (by omega)
      obtain rfl : b = [] := List.eq_nil_of_length_eq_zero (by simpa using hl.symm)
      obtain ⟨a1, c1, rfl⟩ := ha.sliceInts
      obtain ⟨a2, c2, rfl⟩ := hb.sliceInts
      go_enter Try.func28, Try.ntmps28
      go_wp2
      go_rounds 1
      go_ret
      exact ⟨rfl, Below.refl _ _⟩
  · obtain ⟨a1, c1, rfl⟩ := ha.sliceInts
    obtain ⟨a2, c2, rfl⟩ := hb.sliceInts
    go_enter Try.func28, Try.ntmps28
    go_wp2
    go_ret
    refine ⟨ret_bool ?_, Below.refl _ _⟩
    symm
    rw [beq_eq_false_iff_ne]
    intro e
    subst e
    exact hl rfl

theorem radd2_any (v : Value) (l : List (Nat × Nat)) (n : Nat) (w : World) (hr : Own2 w 0 v l) (hl : Fine l) (hn : n < 18446744073709551616) (hlen : l.length ≤ 1000000) :
    Calls Try.prog 27 #[v, .int .u64 (n : Int)] w fun e w' => ∃ v', e = .returned (.tuple #[v', .bool (newB l n)]) ∧ Own2 w' 0 v' (addS l n) ∧ NewOr w v v' ∧ Below w.heap.size w w' := by
  refine (radd_any v l n w hr.rng hl.1 hl.2 hn hlen).mono ?_
  rintro e w' ⟨b, ⟨hm, rfl⟩ | ⟨hm, v', rfl, own⟩⟩
  · refine ⟨v, ?_, by rw [addS_no hm]; exact hr.kept b (Nat.le_refl _), .inl rfl, b⟩
    rw [show newB l n = false from Bool.eq_false_iff.2 fun h => (newB_true l n).1 h hm]
  · refine ⟨v', by rw [(newB_true l n).2 hm], by rw [addS_yes hm, ← put_eq_add hl.1 hm]; exact own.mono (Nat.zero_le _), ?_, b⟩
    by_cases h : v'.ownBlock = none
    · rcases own.2 with ⟨rfl, h0⟩ | ⟨g, cap, cur, rfl, hb, _⟩
      · have h1 := congrArg List.length (put_eq_add hl.1 hm)
        exact absurd h0 (by rw [h1]; simp [addL])
      · simp [Value.ownBlock] at h
    · obtain ⟨g, hg⟩ := Option.ne_none_iff_exists'.1 h
      exact .inr ⟨g, hg, (World.ownsRow.lt own g hg).1⟩

set_option maxRecDepth 20000 in
set_option maxHeartbeats 2000000 in
theorem rbadd_in (p m i : Nat) (v : Nat → Value) (f : Nat → List (Nat × Nat)) (n : Nat) (w : World) (h : RbAt w p v f) (hi : i < 8) (hm : m = i + 1) (hf : Fine (f i)) (hlen : (f i).length ≤ 100000) (hn : n < 18446744073709551616) :
    Calls Try.prog 11 #[ptrS p, .agg #[.int .i64 (m : Int), .int .u64 (n : Int)]] w fun e w' => e = .returned (.bool (newB (f i) n)) ∧ ∃ v', RbAt w' p (putF v (i + 1) v') (putF f i (addS (f i) n)) ∧ Moved w w' (footR p v) (footR p (putF v (i + 1) v')) := by
  obtain ⟨W, fold⟩ : ∃ W, w.alloc (.cells #[.int .i64 (m : Int), .int .u64 (n : Int)] 25) = W := ⟨_, rfl⟩
  have bW : Below w.heap.size w W := by rw [← fold]; exact (Below.refl _ _).alloc (Nat.le_refl _) _
  obtain ⟨e0, e1⟩ : W.cell? ⟨w.heap.size, 0, none⟩ = some (.int .i64 (m : Int)) ∧ W.cell? ⟨w.heap.size, 1, none⟩ = some (.int .u64 (n : Int)) := by rw [← fold]; exact id_cells w _ n
  have bD : Below w.heap.size w W.drew := bW.drew
  have hR : RbAt W.drew p v f := h.same fun k hk => bD.block k (h.lts k hk)
  have hp : p < w.heap.size := h.lts p (.inl rfl)
  have c0 : W.cell? ⟨p, m, none⟩ = some (v (i + 1)) := by rw [← fold, World.cell?_alloc_past _ _ _ hp, cell_of_list h.blk, hm]; exact fcells_get _ (by omega)
  have hI := fun V => is_any (m : Int) V
  rw [show knownB (m : Int) = true from decide_eq_true (by omega)] at hI
  have hA := radd2_any (v (i + 1)) (f i) n W.drew (hR.rows i hi) hf hn (by omega)
  have hm9 : (m : Int) < 9 := by omega
  obtain ⟨va, vn, vc, hv⟩ := (hR.rows i hi).rng.slice3
  have HX : Hid (∀ w3 v', Own2 w3 0 v' (addS (f i) n) → NewOr W.drew (v (i + 1)) v' → Below W.drew.heap.size W.drew w3 → (w3.cell? ⟨w.heap.size, 0, none⟩ = some (.int .i64 (m : Int)) ∧ w3.cell? ⟨w.heap.size, 1, none⟩ = some (.int .u64 (n : Int)) ∧ w3.cell? ⟨p, m, none⟩ = some (v (i + 1)) ∧ w3.frozen? ⟨p, m, none⟩ = false) ∧
      (RbAt (w3.drew.setCell ⟨p, m, none⟩ v') p (putF v (i + 1) v') (putF f i (addS (f i) n)) ∧ Moved w (w3.drew.setCell ⟨p, m, none⟩ v') (footR p v) (footR p (putF v (i + 1) v')))) := by
    intro w3 v' own nw b3
    have b03 : Below w.heap.size w w3 := bD.trans (b3.mono bD.size)
    have b03d : Below w.heap.size w w3.drew := b03.drew
    have hR3 : RbAt w3.drew p v f := h.same fun k hk => b03d.block k (h.lts k hk)
    have nw' : NewOr w (v (i + 1)) v' := nw.imp id fun ⟨g, h1, h2⟩ => ⟨g, h1, Nat.le_trans bD.size h2⟩
    refine ⟨⟨cell_on b3 e0, cell_on b3 e1, cell_on b3 c0, ?_⟩, ?_⟩
    · have : w3.heap[p]? = some (.cells (fcells 9 v).toArray 33 (0, 0)) := hR3.blk
      simp [World.frozen?, this]
    · rw [hm]
      exact ⟨hR3.put (own.same fun _ _ => rfl), RbAt.moved hi b03d nw'⟩
  generalize newB (f i) n = r at hA ⊢
  rw [hv] at c0 hA HX
  clear h hf hlen hR hi hm hn bW hp hv
  unfold ptrS
  go_enter Try.func11, Try.ntmps11
  go_wp2_with (go_at_call 18; refine (hI _).mono ?_; rintro e w2 ⟨rfl, rfl⟩)
  go_region_held3 (fun w' => w'.cell? ⟨w.heap.size, 0, none⟩ = some (.int .i64 (m : Int)) ∧ w'.cell? ⟨w.heap.size, 1, none⟩ = some (.int .u64 (n : Int)) ∧ w'.cell? ⟨p, m, none⟩ = some (.slice va vn vc)) (go_keep) (first
    | (go_at_call 27; refine hA.mono ?_; rintro e w3 ⟨v', rfl, own, nw, b3⟩; obtain ⟨ua, un, uc, rfl⟩ := own.rng.slice3; obtain ⟨⟨k0, k1, k2, k3⟩, HR0⟩ := HX.out w3 _ own nw b3; have HR : Hid _ := HR0; clear HR0 own nw b3))
  all_goals go_wp2
  all_goals go_region
  all_goals go_wp2
  all_goals go_ret
  all_goals exact ⟨rfl, _, HR.out⟩
theorem RbAt.told {w : World} {p : Nat} {F : Nat → Prop} {f : Nat → List (Nat × Nat)} (h : Rb w p F f) : ∃ v, RbAt w p v f ∧ F = footR p v := by
  obtain ⟨v, hb, hF⟩ := h
  exact ⟨v, hb, funext fun k => propext (hF k)⟩

set_option maxRecDepth 20000 in
set_option maxHeartbeats 2000000 in
theorem rbadd_out (p : Nat) (o : Int) (n : Nat) (w : World) (ho : knownB o = false) :
    Calls Try.prog 11 #[ptrS p, .agg #[.int .i64 o, .int .u64 (n : Int)]] w fun e w' => e = .returned (.bool false) ∧ Below w.heap.size w w' := by
  obtain ⟨W, fold⟩ : ∃ W, w.alloc (.cells #[.int .i64 o, .int .u64 (n : Int)] 25) = W := ⟨_, rfl⟩
  have bW : Below w.heap.size w W := by rw [← fold]; exact (Below.refl _ _).alloc (Nat.le_refl _) _
  obtain ⟨e0, e1⟩ : W.cell? ⟨w.heap.size, 0, none⟩ = some (.int .i64 o) ∧ W.cell? ⟨w.heap.size, 1, none⟩ = some (.int .u64 (n : Int)) := by rw [← fold]; exact id_cells w _ n
  have hI := fun V => is_any o V
  rw [ho] at hI
  clear ho
  unfold ptrS
  go_enter Try.func11, Try.ntmps11
  go_wp2_with (go_at_call 18; refine (hI _).mono ?_; rintro e w2 ⟨rfl, rfl⟩)
  go_ret
  exact ⟨rfl, bW⟩
theorem rbadd_any (p : Nat) (F : Nat → Prop) (f : Nat → List (Nat × Nat)) (o : Int) (n : Nat) (w : World) (h : Rb w p F f) (hf : FineF f) (hlen : LenF 100000 f) (hn : n < 18446744073709551616) :
    Calls Try.prog 11 #[ptrS p, .agg #[.int .i64 o, .int .u64 (n : Int)]] w fun e w' => e = .returned (.bool (freshF f o n)) ∧ ∃ F', Rb w' p F' (addF f o n) ∧ Moved w w' F F' := by
  obtain ⟨v, hb, rfl⟩ := RbAt.told h
  by_cases ho : 1 ≤ o ∧ o ≤ 8
  · obtain ⟨i, hi, he⟩ := known_at ho
    have hc := rbadd_in p (i + 1) i v f n w hb hi rfl (hf i hi) (hlen i hi) hn
    rw [show ((i + 1 : Nat) : Int) = o by omega] at hc
    refine hc.mono ?_
    rintro e w' ⟨rfl, v', h1, h2⟩
    exact ⟨ret_bool (freshF_in hi he).symm, _, ⟨_, by rw [addF_in hi he]; exact h1, fun _ => Iff.rfl⟩, h2⟩
  · refine (rbadd_out p o n w (decide_eq_false ho)).mono ?_
    rintro e w' ⟨rfl, b⟩
    exact ⟨ret_bool (freshF_out ho).symm, _, by rw [addF_out ho]; exact h.kept b, .of_below b⟩

set_option maxRecDepth 20000 in
set_option maxHeartbeats 2000000 in
theorem rbhas_in (p m i : Nat) (v : Nat → Value) (f : Nat → List (Nat × Nat)) (n : Nat) (w : World) (h : RbAt w p v f) (hi : i < 8) (hm : m = i + 1) :
    Calls Try.prog 14 #[ptrS p, .agg #[.int .i64 (m : Int), .int .u64 (n : Int)]] w fun e w' => e = .returned (.bool (memB (f i) n)) ∧ Below w.heap.size w w' := by
  obtain ⟨W, fold⟩ : ∃ W, w.alloc (.cells #[.int .i64 (m : Int), .int .u64 (n : Int)] 25) = W := ⟨_, rfl⟩
  have bW : Below w.heap.size w W := by rw [← fold]; exact (Below.refl _ _).alloc (Nat.le_refl _) _
  obtain ⟨e0, e1⟩ : W.cell? ⟨w.heap.size, 0, none⟩ = some (.int .i64 (m : Int)) ∧ W.cell? ⟨w.heap.size, 1, none⟩ = some (.int .u64 (n : Int)) := by rw [← fold]; exact id_cells w _ n
  have bD : Below w.heap.size w W.drew := bW.drew
  have hR : RbAt W.drew p v f := h.same fun k hk => bD.block k (h.lts k hk)
  have hp : p < w.heap.size := h.lts p (.inl rfl)
  have c0 : W.cell? ⟨p, m, none⟩ = some (v (i + 1)) := by rw [← fold, World.cell?_alloc_past _ _ _ hp, cell_of_list h.blk, hm]; exact fcells_get _ (by omega)
  have hI := fun V => is_any (m : Int) V
  rw [show knownB (m : Int) = true from decide_eq_true (by omega)] at hI
  have hA := rhas_any (v (i + 1)) (f i) n W.drew (hR.rows i hi).rng
  have hm9 : (m : Int) < 9 := by omega
  obtain ⟨va, vn, vc, hv⟩ := (hR.rows i hi).rng.slice3
  generalize memB (f i) n = r at hA ⊢
  rw [hv] at c0 hA
  clear h hR hi hm bW hp hv
  unfold ptrS
  go_enter Try.func14, Try.ntmps14
  go_wp2
  go_region_held3 (fun w' => w'.cell? ⟨w.heap.size, 0, none⟩ = some (.int .i64 (m : Int)) ∧ w'.cell? ⟨w.heap.size, 1, none⟩ = some (.int .u64 (n : Int)) ∧ w'.cell? ⟨p, m, none⟩ = some (.slice va vn vc)) (go_keep) (first
    | (go_at_call 18; refine (hI _).mono ?_; rintro e w2 ⟨rfl, rfl⟩)
    | (go_at_call 34; refine hA.mono ?_; rintro e w3 ⟨rfl, b3⟩; have k0 := cell_on b3 e0; have k1 := cell_on b3 e1; have k2 := cell_on b3 c0))
  all_goals go_wp2
  all_goals go_ret
  all_goals exact ⟨rfl, bD.trans (b3.mono bD.size)⟩
set_option maxRecDepth 20000 in
set_option maxHeartbeats 2000000 in
theorem rbhas_out (p : Nat) (o : Int) (n : Nat) (w : World) (ho : knownB o = false) :
    Calls Try.prog 14 #[ptrS p, .agg #[.int .i64 o, .int .u64 (n : Int)]] w fun e w' => e = .returned (.bool false) ∧ Below w.heap.size w w' := by
  obtain ⟨W, fold⟩ : ∃ W, w.alloc (.cells #[.int .i64 o, .int .u64 (n : Int)] 25) = W := ⟨_, rfl⟩
  have bW : Below w.heap.size w W := by rw [← fold]; exact (Below.refl _ _).alloc (Nat.le_refl _) _
  obtain ⟨e0, e1⟩ : W.cell? ⟨w.heap.size, 0, none⟩ = some (.int .i64 o) ∧ W.cell? ⟨w.heap.size, 1, none⟩ = some (.int .u64 (n : Int)) := by rw [← fold]; exact id_cells w _ n
  have hI := fun V => is_any o V
  rw [ho] at hI
  clear ho
  unfold ptrS
  go_enter Try.func14, Try.ntmps14
  go_wp2
  go_quiet (first | (go_at_call 18; refine Calls.quiet_of_same (hI _)))
  all_goals go_wp2
  all_goals go_ret
  all_goals exact ⟨rfl, ⟨bW.os, bW.tape, bW.output, bW.size, bW.block⟩⟩
theorem rbhas_any (p : Nat) (F : Nat → Prop) (f : Nat → List (Nat × Nat)) (o : Int) (n : Nat) (w : World) (h : Rb w p F f) :
    Calls Try.prog 14 #[ptrS p, .agg #[.int .i64 o, .int .u64 (n : Int)]] w fun e w' => e = .returned (.bool (memB (ofF f o) n)) ∧ Below w.heap.size w w' := by
  obtain ⟨v, hb, rfl⟩ := RbAt.told h
  by_cases ho : 1 ≤ o ∧ o ≤ 8
  · obtain ⟨i, hi, he⟩ := known_at ho
    have hc := rbhas_in p (i + 1) i v f n w hb hi rfl
    rw [show ((i + 1 : Nat) : Int) = o by omega] at hc
    rw [ofF_in hi he]
    exact hc
  · rw [ofF_out ho]
    exact rbhas_out p o n w (decide_eq_false ho)

set_option maxHeartbeats 1000000 in
theorem rbranges_any (p : Nat) (F : Nat → Prop) (f : Nat → List (Nat × Nat)) (o : Int) (w : World) (h : Rb w p F f) :
    Calls Try.prog 30 #[ptrS p, .int .i64 o] w fun e w' => ∃ u, e = .returned u ∧ Rng w u (ofF f o) ∧ w' = w := by
  have hI := is_any o w
  by_cases ho : 1 ≤ o ∧ o ≤ 8
  · obtain ⟨i, hi, he⟩ := known_at ho
    rw [show knownB o = true from decide_eq_true ho] at hI
    rw [ofF_in hi he]
    obtain ⟨u, hc, hr⟩ := h.row hi
    obtain ⟨m, hm⟩ : ∃ m, m = i + 1 := ⟨_, rfl⟩
    rw [← hm] at hc
    have hm9 : (m : Int) < 9 := by omega
    rw [show o = (m : Int) by omega] at hI ⊢
    have HR : Hid (Rng w u (f i)) := hr
    obtain ⟨ua, un, uc, rfl⟩ := hr.slice3
    clear h hr ho he hm hi
    unfold ptrS
    go_enter Try.func30, Try.ntmps30
    go_wp2_with (go_at_call 18; refine hI.mono ?_; rintro e w ⟨rfl, rfl⟩)
    go_ret
    exact ⟨_, rfl, HR.out, rfl⟩
  · rw [show knownB o = false from decide_eq_false ho] at hI
    rw [ofF_out ho]
    clear ho h
    unfold ptrS
    go_enter Try.func30, Try.ntmps30
    go_wp2_with (go_at_call 18; refine hI.mono ?_; rintro e w ⟨rfl, rfl⟩)
    go_ret
    exact ⟨_, rfl, rng_nil _, rfl⟩
end Go.Proofs.Ytnlllpgdhnmccaa
