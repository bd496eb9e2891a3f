/-
  PACKAGE fifo: Push, by its contract.
-/
import Derived.Test.YtocdfcaakflgpaaQueue
namespace Go.Proofs.Ytocdfcaakflgpaa
open Go.RowKit Go.Sort

theorem set4_1 {w : World} {b : Nat} {v0 v1 v2 v3 : Value} {t : TypeId} (u : Value) (h : w.heap[b]? = some (.cells #[v0, v1, v2, v3] t (0, 0))) : (w.setCell ⟨b, 1, none⟩ u).heap[b]? = some (.cells #[v0, u, v2, v3] t (0, 0)) := by
  have h1 := heap_setCell_same w b 1 _ _ u h
  simpa using h1
theorem set4_2 {w : World} {b : Nat} {v0 v1 v2 v3 : Value} {t : TypeId} (u : Value) (h : w.heap[b]? = some (.cells #[v0, v1, v2, v3] t (0, 0))) : (w.setCell ⟨b, 2, none⟩ u).heap[b]? = some (.cells #[v0, v1, u, v3] t (0, 0)) := by
  have h1 := heap_setCell_same w b 2 _ _ u h
  simpa using h1
theorem set4_3 {w : World} {b : Nat} {v0 v1 v2 v3 : Value} {t : TypeId} (u : Value) (h : w.heap[b]? = some (.cells #[v0, v1, v2, v3] t (0, 0))) : (w.setCell ⟨b, 3, none⟩ u).heap[b]? = some (.cells #[v0, v1, v2, u] t (0, 0)) := by
  have h1 := heap_setCell_same w b 3 _ _ u h
  simpa using h1
/-- What no call wrote. -/
theorem QAt.after {w w' : World} {p : Nat} {v : Value} {b : Nat} {s : St} (h : QAt w p v b s) (hb : Below w.heap.size w w') : QAt w' p v b s := h.same fun k hk => hb.block k (h.lts k hk)
theorem row_not {w : World} {v : Value} {l : List It} (h : Own8 w 0 v l) {p : Nat} {cs : Array Value} (hp : w.heap[p]? = some (.cells cs 64 (0, 0))) : v.ownBlock ≠ some p := by
  rcases h.2 with ⟨rfl, _⟩ | ⟨g, cap, cur, rfl, _, hg, _⟩
  · simp [Value.ownBlock]
  · intro he
    simp only [Value.ownBlock, Option.some.injEq] at he
    subst he
    rw [hp] at hg
    simp at hg
/-- The row of those that are ready is another one: written behind whatever has grown. -/
theorem row_set {w W w4 : World} {p : Nat} {v v' : Value} {b : Nat} {s : St} {l : List It} (hq : QAt w p v b s) (hW : Below w.heap.size w W) (own : Own8 w4 0 v' l) (gr : W.grownBy w4 v.ownBlock) (nw : NewOr W v v') :
    QAt (w4.setCell ⟨p, 2, none⟩ v') p v' b { s with rdy := l } ∧ Moved w (w4.setCell ⟨p, 2, none⟩ v') (foot p v b) (foot p v' b) := by
  have hqW := hq.after hW
  have hlt := hqW.lt
  have hb := hqW.out.lt
  have e1 : w4.heap[p]? = W.heap[p]? := gr.block p hlt (fun h => hqW.ne_row h.symm)
  have e2 : w4.heap[b]? = W.heap[b]? := gr.block b hb (fun h => hqW.row_map h.symm)
  have hp4 : w4.heap[p]? = some (.cells #[.int .i64 (s.most : Int), .int .u64 (s.next : Int), v, .map (some b)] 64 (0, 0)) := by rw [e1]; exact hqW.blk
  have hne := row_not own hp4
  refine ⟨⟨set4_2 v' hp4, own.same fun g hg => heap_setCell_other _ _ _ _ (fun he => hne (by rw [hg, he])), (hqW.out.same e2).same (heap_setCell_other _ _ _ _ hqW.ne_map)⟩, ?_⟩
  refine ⟨gr.os.trans hW.os, gr.tape.trans hW.tape, gr.output.trans hW.output, by rw [World.size_setCell]; exact Nat.le_trans hW.size gr.size, fun k hk hn => ?_, ?_⟩
  · have h1 : k ≠ p := fun h => hn (.inl h)
    have h2 : ¬ some k = v.ownBlock := fun h => hn (.inr (.inl h.symm))
    rw [heap_setCell_other _ _ _ _ h1, gr.block k (Nat.lt_of_lt_of_le hk hW.size) h2, hW.block k hk]
  · rintro k (rfl | hk | rfl)
    · exact .inl (.inl rfl)
    · rcases nw with h | ⟨g, h, hg⟩
      · exact .inl (.inr (.inl (h ▸ hk)))
      · rw [h] at hk; injection hk with hk; subst hk; exact .inr (Nat.le_trans hW.size hg)
    · exact .inl (.inr (.inr rfl))
theorem next_set {w : World} {p : Nat} {v : Value} {b : Nat} {s : St} (hq : QAt w p v b s) (n : Nat) :
    QAt (w.setCell ⟨p, 1, none⟩ (.int .u64 (n : Int))) p v b { s with next := n } ∧ Moved w (w.setCell ⟨p, 1, none⟩ (.int .u64 (n : Int))) (foot p v b) (foot p v b) := by
  refine ⟨⟨set4_1 _ hq.blk, hq.rows.same fun g hg => heap_setCell_other _ _ _ _ (fun he => hq.ne_row (by rw [hg, he])), hq.out.same (heap_setCell_other _ _ _ _ hq.ne_map)⟩, rfl, rfl, rfl, by rw [World.size_setCell]; exact Nat.le_refl _, fun k hk hn => heap_setCell_other _ _ _ _ (fun h => hn (.inl h)), fun k hk => .inl hk⟩
theorem Moved.to {w w' : World} {p : Nat} {v : Value} {b : Nat} {F F' : Nat → Prop} (h : Moved w w' (foot p v b) F') (hF : ∀ k, F k ↔ foot p v b k) : Moved w w' F F' := h.weak fun k hk => (hF k).2 hk

theorem push_ok {s : St} (m : Msg) (h1 : ¬ s.most ≤ s.rdy.length + s.out.length) (h2 : ¬ s.next = 18446744073709551615) : s.push m = (0, { s with next := s.next + 1, rdy := s.rdy ++ [⟨s.next, m, false⟩] }) := by
  unfold St.push; rw [if_neg h1, if_neg h2]

set_option maxRecDepth 20000 in
set_option maxHeartbeats 1000000 in
theorem push_any (p : Nat) (F : Nat → Prop) (s : St) (m : Msg) (w : World) (h : Q w p F s) (ok : s.Ok) :
    Calls Try.prog 15 #[.pointer (some ⟨p, 0, none⟩), mv m] w fun e w' => e = .returned (.int .i64 (s.push m).1) ∧ ∃ F', Q w' p F' (s.push m).2 ∧ Moved w w' F F' := by
  have bel0 : Below w.heap.size w (w.alloc (.cells #[.int .i64 m.o, .int .u64 m.s, .int .i64 m.hop, .string m.ex, .string m.key, .string m.body] 33)) := (Below.refl _ _).alloc (Nat.le_refl _) _
  have h0 := h.kept bel0
  have hroom := ok.room
  have hm := ok.m
  by_cases h1 : s.most ≤ s.rdy.length + s.out.length
  · have e : s.push m = (6, s) := by unfold St.push; rw [if_pos h1]
    rw [e]
    have hz : (s.most : Int) - s.rdy.length - s.out.length = 0 := by omega
    have hR := room_any p F s _ h0 ok
    rw [hz] at hR
    go_enter Try.func15, Try.ntmps15
    go_wp2_with fail
    refine (made_any p F s _ h0 ok.m1).mono ?_
    rintro e w1 ⟨rfl, rfl⟩
    go_wp2_with fail
    refine hR.mono ?_
    rintro e w2 ⟨rfl, q, rfl⟩
    go_wp2
    go_ret
    have bel : Below w.heap.size w (World.drewN (w.alloc (.cells #[.int .i64 m.o, .int .u64 m.s, .int .i64 m.hop, .string m.ex, .string m.key, .string m.body] 33)) q) := bel0.trans ⟨rfl, rfl, rfl, Nat.le_refl _, fun _ _ => rfl⟩
    exact ⟨rfl, F, h.kept bel, .of_below bel⟩
  · have hz : ¬ ((s.most : Int) - s.rdy.length - s.out.length = 0) := by omega
    have hR := room_any p F s _ h0 ok
    obtain ⟨v, b, hq, hF⟩ := h
    have hn := ok.n
    by_cases h2 : s.next = 18446744073709551615
    · have e : s.push m = (11, s) := by unfold St.push; rw [if_neg h1, if_pos h2]
      rw [e]
      obtain ⟨⟨c0, c1, c2, c3⟩, f0, f1, f2, f3⟩ := cells4 (hq.after bel0).blk
      rw [h2] at c1
      generalize (s.most : Int) - s.rdy.length - s.out.length = rm at hz hR
      clear hn h1
      go_enter Try.func15, Try.ntmps15
      go_wp2_with fail
      refine (made_any p F s _ h0 ok.m1).mono ?_
      rintro e w1 ⟨rfl, rfl⟩
      go_wp2_with fail
      refine hR.mono ?_
      rintro e w2 ⟨rfl, q, rfl⟩
      go_wp2
      go_ret
      have bel : Below w.heap.size w (World.drewN (w.alloc (.cells #[.int .i64 m.o, .int .u64 m.s, .int .i64 m.hop, .string m.ex, .string m.key, .string m.body] 33)) q) := bel0.trans ⟨rfl, rfl, rfl, Nat.le_refl _, fun _ _ => rfl⟩
      exact ⟨rfl, F, Q.kept ⟨v, b, hq, hF⟩ bel, .of_below bel⟩
    · rw [push_ok m h1 h2]
      have h2' : ¬ ((s.next : Int) = 18446744073709551615) := by omega
      have hw : IntKind.u64.wrap ((s.next : Int) + 1) = ((s.next + 1 : Nat) : Int) := by rw [IntKind.wrap_u64]; omega
      generalize (s.most : Int) - s.rdy.length - s.out.length = rm at hz hR
      obtain ⟨i0, hi0, hz0, hzs, hzb⟩ := itemInfo
      obtain ⟨W, hW⟩ : ∃ W, W = w.alloc (.cells #[.int .i64 m.o, .int .u64 m.s, .int .i64 m.hop, .string m.ex, .string m.key, .string m.body] 33) := ⟨_, rfl⟩
      rw [← hW] at bel0 h0 hR
      have hmsg : W.cell? ⟨w.heap.size, 0, none⟩ = some (.int .i64 m.o) ∧ W.cell? ⟨w.heap.size, 1, none⟩ = some (.int .u64 m.s) ∧ W.cell? ⟨w.heap.size, 2, none⟩ = some (.int .i64 m.hop) ∧ W.cell? ⟨w.heap.size, 3, none⟩ = some (.string m.ex) ∧ W.cell? ⟨w.heap.size, 4, none⟩ = some (.string m.key) ∧ W.cell? ⟨w.heap.size, 5, none⟩ = some (.string m.body) := by
        rw [hW]; simp [World.cell?_alloc_at]
      obtain ⟨m0, m1, m2, m3, m4, m5⟩ := hmsg
      obtain ⟨⟨c0, c1, c2, c3⟩, f0, f1, f2, f3⟩ := cells4 (hq.after bel0).blk
      obtain ⟨va, vc, hv⟩ := hq.rows.rng.slice
      subst hv
      have HQ : Hid (QAt w p (.slice va s.rdy.length vc) b s) := hq
      have HW : Hid (W = w.alloc (.cells #[.int .i64 m.o, .int .u64 m.s, .int .i64 m.hop, .string m.ex, .string m.key, .string m.body] 33)) := hW
      have hM := made_any p F s _ h0 ok.m1
      clear hq h1 h2 hn
      go_enter Try.func15, Try.ntmps15
      go_wp2_with fail
      rw [← HW.out]
      clear hW
      refine hM.mono ?_
      rintro e W ⟨rfl, rfl⟩
      go_wp2_with fail
      refine hR.mono ?_
      rintro e w2 ⟨rfl, q, rfl⟩
      go_wp2
      have HO : Hid (∀ X : World, X.heap = W.heap → ∀ o, Own8 (X.alloc o) 0 (.slice va s.rdy.length vc) s.rdy) := fun X hX o => ((HQ.out.after bel0).rows.same (w' := X) fun g _ => by rw [hX]).alloc o
      have HN : Hid (∀ X : World, X.heap = W.heap → W.heap.size = X.heap.size) := fun X hX => by rw [hX]
      have HP : Hid (∀ X : World, X.heap = W.heap → ∀ o w', (X.alloc o).grownBy w' (Value.slice va s.rdy.length vc).ownBlock → w'.cell? ⟨p, 1, none⟩ = some (.int .u64 (s.next : Int)) ∧ w'.cell? ⟨p, 2, none⟩ = some (.slice va s.rdy.length vc) ∧ w'.frozen? ⟨p, 1, none⟩ = false ∧ w'.frozen? ⟨p, 2, none⟩ = false) := fun X hX o w' gr => by
        have hqW := HQ.out.after bel0
        have hlt := hqW.lt
        have hb : w'.heap[p]? = W.heap[p]? := by
          rw [gr.block p (by rw [World.size_alloc, hX]; omega) (fun h => hqW.ne_row h.symm), Below.heap_alloc _ _ _ (by rw [hX]; exact hlt), hX]
        obtain ⟨⟨_, k1, k2, _⟩, _, k3, k4, _⟩ := cells4 (hb.trans hqW.blk)
        exact ⟨k1, k2, k3, k4⟩
      have HE : Hid (∀ X : World, X.heap = W.heap ∧ X.os = W.os ∧ X.tape = W.tape ∧ X.output = W.output → ∀ o w' v', Own8 w' 0 v' (s.rdy ++ [⟨s.next, m, false⟩]) → (X.alloc o).grownBy w' (Value.slice va s.rdy.length vc).ownBlock → NewOr (X.alloc o) (.slice va s.rdy.length vc) v' →
          ∃ F', Q ((w'.setCell ⟨p, 2, none⟩ v').setCell ⟨p, 1, none⟩ (.int .u64 ((s.next : Int) + 1))) p F' { s with next := s.next + 1, rdy := s.rdy ++ [⟨s.next, m, false⟩] } ∧ Moved w ((w'.setCell ⟨p, 2, none⟩ v').setCell ⟨p, 1, none⟩ (.int .u64 ((s.next : Int) + 1))) F F') := fun X hX o w' v' own gr nw => by
        have bX : Below w.heap.size w (X.alloc o) := (bel0.trans (show Below w.heap.size W X from ⟨hX.2.1, hX.2.2.1, hX.2.2.2, by rw [hX.1]; exact Nat.le_refl _, fun k _ => by rw [hX.1]⟩)).alloc (by rw [hX.1]; exact bel0.size) o
        obtain ⟨q1, m1⟩ := row_set HQ.out bX own gr nw
        obtain ⟨q2, m2⟩ := next_set q1 (s.next + 1)
        exact ⟨_, ⟨_, _, q2, fun _ => Iff.rfl⟩, (m1.trans m2).to hF⟩
      have c2' : ∀ o, ((W.drewN (q + 1)).alloc o).cell? ⟨p, 2, none⟩ = some (.slice va s.rdy.length vc) := fun o => cell_alloc_r (W := W.drewN (q + 1)) o c2
      go_region_law (refine step_append_rows (enc := icells) rfl (.tmp 23) (.tmp 30) 47 rfl Try.underlying47 i0 _ 88 hi0 hz0 hzs hzb rfl 0 (.slice va s.rdy.length vc) (.slice (some ⟨W.heap.size, 0, none⟩) 1 1) s.rdy [⟨s.next, m, false⟩] (by simp [Act.eval]) (by simp [Act.eval]) (HO.out _ rfl _) (row_one _ _ _ (HN.out _ rfl)) (by unfold maxLen; simp; omega) (by simp; omega) (Nat.zero_le _) ?_; intro v' w' own' gr' nw'; obtain ⟨d1, d2, d3, d4⟩ := HP.out (W.drewN (q + 1)) rfl _ _ gr'; have HE' : Hid _ := HE.out (W.drewN (q + 1)) ⟨rfl, rfl, rfl, rfl⟩ _ _ _ own' gr' nw'; obtain ⟨va', vc', hv'⟩ := own'.rng.slice; rw [List.length_append] at hv'; subst hv'; clear own' gr' nw')
      all_goals (try clear m0 m1 m2 m3 m4 m5 c0 c1 c2 c3)
      all_goals go_wp2
      all_goals go_ret
      all_goals exact ⟨rfl, HE'.out⟩
end Go.Proofs.Ytocdfcaakflgpaa
