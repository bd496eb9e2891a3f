/-
  PACKAGE span: Add, by its contract.
-/
import Derived.Test.YtjagaankkcbjmaaGreatDoorJ15
import Derived.Test.YtjagaankkcbjmaaGreatDoorJ12
namespace Go.Proofs.YtjagaankkcbjmaaGreatDoor.S
open Go.RowKit Go.Sort
set_option maxRecDepth 20000

/-- Nothing but the set's own blocks has changed. -/
structure Turned (w w' : World) (B : Nat) (v : Value) : Prop where
  os : w'.os = w.os
  tape : w'.tape = w.tape
  output : w'.output = w.output
  size : w.heap.size ≤ w'.heap.size
  block : ∀ k, k < w.heap.size → k ≠ B → v.ownBlock ≠ some k → w'.heap[k]? = w.heap[k]?
theorem Turned.ofBelow {w w' : World} {B C : Nat} {v : Value} (h : Below C w w') (hC : w.heap.size ≤ C) : Turned w w' B v := ⟨h.os, h.tape, h.output, h.size, fun k hk _ _ => h.block k (by omega)⟩
theorem below_undrew {w w' : World} (h : RowKit.Below w.drew.heap.size w.drew w') : RowKit.Below w.heap.size w w' := ⟨h.os, h.tape, h.output, h.size, h.block⟩
theorem Rng.slice3 {w : World} {v : Value} {l : List (Nat × Nat)} (h : Rng w v l) : ∃ a n c, v = .slice a n c := by
  obtain ⟨a, c, h⟩ := h.slice
  exact ⟨a, _, c, h⟩
/-- The set with one more. -/
def newB (l : List (Nat × Nat)) (n : Nat) : Bool := !(decide (n = 0) || memB l n)
theorem newB_true (l : List (Nat × Nat)) (n : Nat) : newB l n = true ↔ ¬ (n = 0 ∨ Mem l n) := by
  rw [← memB_iff]; unfold newB; cases memB l n <;> simp
def addS (l : List (Nat × Nat)) (n : Nat) : List (Nat × Nat) := if newB l n = true then addL l n else l
theorem addS_no {l : List (Nat × Nat)} {n : Nat} (h : n = 0 ∨ Mem l n) : addS l n = l := if_neg fun h' => (newB_true l n).1 h' h
theorem addS_yes {l : List (Nat × Nat)} {n : Nat} (h : ¬ (n = 0 ∨ Mem l n)) : addS l n = addL l n := if_pos ((newB_true l n).2 h)

theorem add_end {w w2 w3 w4 : World} {B : Nat} {V S : Value} {L : List (Nat × Nat)} {o : Obj} (bb : RowKit.Below w.heap.size w w2) (b3 : RowKit.Below w2.heap.size w2 w3) (hb4 : w4.heap[B]? = some (.cells #[.bool true, V] 253 (0, 0)))
    (own : Own2 w4 0 S L) (gr : (w3.alloc o).grownBy w4 V.ownBlock) (nw : NewOr (w3.alloc o) V S) : ∃ v', SetAt (w4.setCell ⟨B, 1, none⟩ S) B v' L ∧ Turned w (w4.setCell ⟨B, 1, none⟩ S) B V ∧ NewOr w V v' := by
  have hz : w.heap.size ≤ w3.heap.size := Nat.le_trans bb.size b3.size
  have hz4 := gr.size
  rw [World.size_alloc] at hz4
  refine ⟨S, ⟨?_, own.same fun g hg => ?_⟩, ⟨?_, ?_, ?_, ?_, fun k hk hkB hkV => ?_⟩, ?_⟩
  · have := heap_setCell_same w4 B 1 _ _ S hb4
    simpa using this
  · refine heap_setCell_other _ _ _ _ fun he => ?_
    rcases own.2 with ⟨rfl, _⟩ | ⟨g', cap, cur, rfl, _, hgg, _⟩
    · simp [Value.ownBlock] at hg
    · simp only [Value.ownBlock, Option.some.injEq] at hg
      subst hg
      have he' : g' = B := he
      rw [he', hb4] at hgg
      simp at hgg
  · exact (gr.os.trans (show (w3.alloc o).os = w3.os from rfl)).trans (b3.os.trans bb.os)
  · exact (gr.tape.trans (show (w3.alloc o).tape = w3.tape from rfl)).trans (b3.tape.trans bb.tape)
  · exact (gr.output.trans (show (w3.alloc o).output = w3.output from rfl)).trans (b3.output.trans bb.output)
  · show w.heap.size ≤ (w4.setCell ⟨B, 1, none⟩ S).heap.size
    simp; omega
  · rw [heap_setCell_other _ _ _ _ hkB, gr.block k (by rw [World.size_alloc]; omega) (fun he => hkV he.symm), Below.heap_alloc _ _ _ (by omega), b3.block k (by have := bb.size; omega), bb.block k hk]
  · rcases nw with h | ⟨g, h1, h2⟩
    · exact .inl h
    · rw [World.size_alloc] at h2
      exact .inr ⟨g, h1, by omega⟩

theorem touched_rng {w : World} {g i j c : Nat} {l : List (Nat × Nat)} {T : List Value} (hg : w.heap[g]? = some (.cells (rcells l ++ T).toArray 150 (0, 0))) (hij : i < j) (hj : j ≤ l.length) (hc : j - i ≤ c) (hcm : c ≤ maxLen) :
    Rng w (.slice (some ⟨g, i * 2, none⟩) (j - i) c) ((l.take j).drop i) := by
  have hlen : ((l.take j).drop i).length = j - i := by simp; omega
  refine .inr ⟨⟨g, i * 2, none⟩, c, by rw [hlen], by rw [hlen]; exact hc, hcm, fun q u hq => ?_⟩
  rw [Addr.add_lit, cell_of_list hg]
  have hq2 := (List.getElem?_eq_some_iff.1 hq).1
  rw [rcells_length, hlen] at hq2
  rw [List.getElem?_append_left (by rw [rcells_length]; omega), ← List.getElem?_drop, rcells_drop]
  rw [List.drop_take, ← rcells_take, List.getElem?_take] at hq
  by_cases h : q < (j - i) * 2
  · rw [if_pos h] at hq; exact hq
  · rw [if_neg h] at hq; simp at hq

set_option maxHeartbeats 2000000 in
theorem add_any (B n : Nat) (v : Value) (l : List (Nat × Nat)) (w : World) (hs : SetAt w B v l) (hl : Apart 1 l) (hu : Upto 18446744073709551616 l) (hn : n < 18446744073709551616) (hlen : l.length ≤ 100000) :
    Calls Tryz.prog 248 #[.pointer (some ⟨B, 0, none⟩), .int .u64 (n : Int)] w fun e w' => e = .returned (.bool (newB l n)) ∧ ∃ v', SetAt w' B v' (addS l n) ∧ Turned w w' B v ∧ NewOr w v v' := by
  obtain ⟨c0, c1, _, _⟩ := cells2 hs.blk
  have hB := hs.lt
  by_cases h0 : n = 0
  · subst h0
    have e1 : newB l 0 = false := by simp [newB]
    rw [e1, addS_no (.inl rfl)]
    go_enter Tryz.func248, Tryz.ntmps248
    go_wp2
    go_ret
    exact ⟨rfl, v, hs, Turned.ofBelow (Below.refl _ _) (Nat.le_refl _), .inl rfl⟩
  · have h0' : ¬ ((n : Int) = 0) := by omega
    cases hm : memB l n with
    | true =>
      have e1 : newB l n = false := by simp [newB, hm]
      rw [e1, addS_no (.inr ((memB_iff l n).1 hm))]
      go_enter Tryz.func248, Tryz.ntmps248
      go_wp2_with (go_at_call 138; refine (has_any _ l n _ hs.lies hl (by omega)).mono ?_; rw [hm]; rintro e w1 ⟨rfl, b1⟩)
      go_ret
      exact ⟨rfl, v, hs.kept b1 (Nat.le_refl _), Turned.ofBelow b1 (Nat.le_refl _), .inl rfl⟩
    | false =>
      have e1 : newB l n = true := by simp [newB, hm, h0]
      have hno : ¬ (n = 0 ∨ Mem l n) := fun h => h.elim h0 ((memB_false l n).1 hm)
      rw [e1, addS_yes hno]
      have HH := fun w1 (h1 : SetAt w1 B v l) => has_any _ l n w1 h1.lies hl (by omega)
      rw [hm] at HH
      have HBs := fun w1 (h1 : SetAt w1 B v l) => beside_any B n v l w1 h1 hl hu (by omega) hn (by omega)
      have hft := from_le_to (n := n) hl
      have htl := to_le l n
      have hA : Hid (addL l n = l.take (fromL l n) ++ growL ((l.take (toL l n)).drop (fromL l n)) n :: l.drop (toL l n)) := (rfl : _ = _)
      generalize addL l n = L at *
      generalize fromL l n = f at *
      generalize toL l n = t at *
      obtain ⟨TL, hTL⟩ : ∃ TL, TL = (l.take t).drop f := ⟨_, rfl⟩
      have HQL : Hid (TL = (l.take t).drop f) := hTL
      have hTL6 : TL.length ≤ 1000000 := by rw [hTL, List.length_drop, List.length_take]; omega
      have hA2 : Hid (L = l.take f ++ growL TL n :: l.drop t) := (by rw [hTL]; exact hA.out : L = l.take f ++ growL TL n :: l.drop t)
      clear hTL hA
      rcases hs.own.split with ⟨rfl, hl0⟩ | ⟨g, c, T, rfl, _, hgs, hcap, hcm, _⟩
      · obtain rfl : t = 0 := by rw [hl0] at htl; simpa using htl
        obtain rfl : f = 0 := by omega
        go_enter Tryz.func248, Tryz.ntmps248
        go_wp2_with (first
          | (go_at_call 138; refine (HH _ hs).mono ?_; rintro e w1 ⟨rfl, b1⟩; have hs1 := hs.kept b1 (Nat.le_refl _); obtain ⟨d0, d1, _, _⟩ := cells2 hs1.blk)
          | (go_at_call 292; refine (HBs _ hs1).mono ?_; rintro e w2 ⟨rfl, b2⟩; have hs2 : Hid (SetAt w2 B (.slice none 0 0) l) := hs1.kept b2 (Nat.le_refl _); obtain ⟨e0, e1, _, e3⟩ := cells2 hs2.out.blk))
        have bb : Hid (RowKit.Below w.heap.size w w2) := b1.trans (b2.mono b1.size)
        have RT : Hid (Rng w2 (.slice none 0 0) TL) := (.inl ⟨rfl, HQL.out.trans (by simp)⟩ : Rng w2 (.slice none 0 0) TL)
        clear b1 b2 hs1 d0 d1 hs HH HBs c0 c1
        go_region_with (first
          | (go_at_call 294; go_loud (refine (grown_any _ TL n _ (RT.out.below (Below.refl _ _).drew (Nat.le_refl _)) hTL6).mono ?_); rintro e w3 ⟨rfl, b3⟩; have hs3 : Hid (SetAt w3 B (.slice none 0 0) l ∧ RowKit.Below w2.heap.size w2 w3) := ⟨SetAt.kept hs2.out (below_undrew b3) (Nat.le_refl _), below_undrew b3⟩; obtain ⟨f0, f1, _, _⟩ := cells2 hs3.out.1.blk; have hB3 := hs3.out.1.lt; clear b3)
          | (go_at_call 293; refine (replace_any 0 w3.heap.size _ _ 0 0 _ l _ (hs3.out.1.own.alloc _) (Nat.le_refl 0) (Nat.zero_le _) (by omega) (Nat.zero_le _) (heap_alloc_new w3 _) (fun he => by have := (World.ownsRow.lt hs3.out.1.own _ he).2; omega)).mono ?_; rintro e w4 ⟨v4, rfl, own4, gr4, nw4⟩; obtain ⟨va, vn, vc, hv4⟩ := own4.rng.slice3; subst hv4; have hb4 : Hid (w4.heap[B]? = some (.cells #[.bool true, .slice none 0 0] 253 (0, 0))) := (by show w4.heap[B]? = _; rw [gr4.block B (le_alloc hs3.out.1.lt _) (fun he => hs3.out.1.ne he.symm), Below.heap_alloc _ _ _ hs3.out.1.lt]; exact hs3.out.1.blk); obtain ⟨g0, g1, _, g3⟩ := cells2 hb4.out; have H4 : Hid (Own2 w4 0 (.slice va vn vc) (l.take 0 ++ growL TL n :: l.drop 0) ∧ (w3.alloc (.cells #[.int .u64 ((growL TL n).1 : Int), .int .u64 ((growL TL n).2 : Int)] 150)).grownBy w4 (Value.ownBlock (.slice none 0 0)) ∧ NewOr (w3.alloc (.cells #[.int .u64 ((growL TL n).1 : Int), .int .u64 ((growL TL n).2 : Int)] 150)) (.slice none 0 0) (.slice va vn vc)) := ⟨own4, gr4, nw4⟩; clear own4 gr4 nw4))
        all_goals go_wp2
        all_goals go_ret
        all_goals (refine ⟨rfl, ?_⟩; rw [hA2.out]; exact add_end bb.out hs3.out.2 hb4.out H4.out.1 H4.out.2.1 H4.out.2.2)
      · have hc63 : c ≤ 9223372036854775807 := by unfold maxLen at hcm; omega
        have hgB := (Array.getElem?_eq_some_iff.1 hgs).1
        have hi1 : (f : Int) ≤ (t : Int) := by omega
        have hi2 : (t : Int) ≤ (c : Int) := by omega
        have hi3 : t ≤ c := by omega
        have hi4 : f ≤ c := by omega
        rcases Nat.eq_or_lt_of_le hft with rfl | hlt
        · have tr0 : ∀ W, Rng W (.slice (some ⟨g, 0, none⟩) 0 0) TL := fun W => (by rw [HQL.out]; exact .inr ⟨⟨g, 0, none⟩, 0, by simp, by simp, Nat.zero_le _, fun q u hq => by simp [rcells_nil] at hq⟩)
          go_enter Tryz.func248, Tryz.ntmps248
          go_wp2_with (first
            | (go_at_call 138; refine (HH _ hs).mono ?_; rintro e w1 ⟨rfl, b1⟩; have hs1 := hs.kept b1 (Nat.le_refl _); obtain ⟨d0, d1, _, _⟩ := cells2 hs1.blk)
            | (go_at_call 292; refine (HBs _ hs1).mono ?_; rintro e w2 ⟨rfl, b2⟩; have hs2 : Hid (SetAt w2 B (.slice (some ⟨g, 0, none⟩) l.length c) l) := hs1.kept b2 (Nat.le_refl _); obtain ⟨e0, e1, _, e3⟩ := cells2 hs2.out.blk))
          have bb : Hid (RowKit.Below w.heap.size w w2) := b1.trans (b2.mono b1.size)
          have RT : Hid (Rng w2 (.slice (some ⟨g, 0, none⟩) 0 0) TL) := tr0 w2
          clear b1 b2 hs1 d0 d1 hs HH HBs c0 c1
          go_region_with (first
            | (go_at_call 294; go_loud (refine (grown_any _ TL n _ (RT.out.below (Below.refl _ _).drew (Nat.le_refl _)) hTL6).mono ?_); rintro e w3 ⟨rfl, b3⟩; have hs3 : Hid (SetAt w3 B (.slice (some ⟨g, 0, none⟩) l.length c) l ∧ RowKit.Below w2.heap.size w2 w3) := ⟨SetAt.kept hs2.out (below_undrew b3) (Nat.le_refl _), below_undrew b3⟩; obtain ⟨f0, f1, _, _⟩ := cells2 hs3.out.1.blk; have hB3 := hs3.out.1.lt; clear b3)
            | (go_at_call 293; refine (replace_any 0 w3.heap.size _ _ f f _ l _ (hs3.out.1.own.alloc _) (Nat.le_refl f) htl (by omega) (Nat.zero_le _) (heap_alloc_new w3 _) (fun he => by have := (World.ownsRow.lt hs3.out.1.own _ he).2; omega)).mono ?_; rintro e w4 ⟨v4, rfl, own4, gr4, nw4⟩; obtain ⟨va, vn, vc, hv4⟩ := own4.rng.slice3; subst hv4; have hb4 : Hid (w4.heap[B]? = some (.cells #[.bool true, .slice (some ⟨g, 0, none⟩) l.length c] 253 (0, 0))) := (by show w4.heap[B]? = _; rw [gr4.block B (le_alloc hs3.out.1.lt _) (fun he => hs3.out.1.ne he.symm), Below.heap_alloc _ _ _ hs3.out.1.lt]; exact hs3.out.1.blk); obtain ⟨g0, g1, _, g3⟩ := cells2 hb4.out; have H4 : Hid (Own2 w4 0 (.slice va vn vc) (l.take f ++ growL TL n :: l.drop f) ∧ (w3.alloc (.cells #[.int .u64 ((growL TL n).1 : Int), .int .u64 ((growL TL n).2 : Int)] 150)).grownBy w4 (Value.ownBlock (.slice (some ⟨g, 0, none⟩) l.length c)) ∧ NewOr (w3.alloc (.cells #[.int .u64 ((growL TL n).1 : Int), .int .u64 ((growL TL n).2 : Int)] 150)) (.slice (some ⟨g, 0, none⟩) l.length c) (.slice va vn vc)) := ⟨own4, gr4, nw4⟩; clear own4 gr4 nw4))
          all_goals go_wp2
          all_goals go_ret
          all_goals (refine ⟨rfl, ?_⟩; rw [hA2.out]; exact add_end bb.out hs3.out.2 hb4.out H4.out.1 H4.out.2.1 H4.out.2.2)
        · have hne : ¬ (t = f) := by omega
          have hsz : t - f ≤ maxLen := by unfold maxLen; omega
          go_enter Tryz.func248, Tryz.ntmps248
          go_wp2_with (first
            | (go_at_call 138; refine (HH _ hs).mono ?_; rintro e w1 ⟨rfl, b1⟩; have hs1 := hs.kept b1 (Nat.le_refl _); obtain ⟨d0, d1, _, _⟩ := cells2 hs1.blk)
            | (go_at_call 292; refine (HBs _ hs1).mono ?_; rintro e w2 ⟨rfl, b2⟩; have hs2 : Hid (SetAt w2 B (.slice (some ⟨g, 0, none⟩) l.length c) l) := hs1.kept b2 (Nat.le_refl _); obtain ⟨e0, e1, _, e3⟩ := cells2 hs2.out.blk))
          have bb : Hid (RowKit.Below w.heap.size w w2) := b1.trans (b2.mono b1.size)
          have RT : Hid (Rng w2 (.slice (some ⟨g, f * 2, none⟩) (t - f) (t - f)) TL) := (by rw [HQL.out]; exact touched_rng (by rw [bb.out.block g hgB]; exact hgs) hlt htl (Nat.le_refl _) hsz : Rng w2 (.slice (some ⟨g, f * 2, none⟩) (t - f) (t - f)) TL)
          clear b1 b2 hs1 d0 d1 hs HH HBs c0 c1
          go_region_with (first
            | (go_at_call 294; go_loud (refine (grown_any _ TL n _ (RT.out.below (Below.refl _ _).drew (Nat.le_refl _)) hTL6).mono ?_); rintro e w3 ⟨rfl, b3⟩; have hs3 : Hid (SetAt w3 B (.slice (some ⟨g, 0, none⟩) l.length c) l ∧ RowKit.Below w2.heap.size w2 w3) := ⟨SetAt.kept hs2.out (below_undrew b3) (Nat.le_refl _), below_undrew b3⟩; obtain ⟨f0, f1, _, _⟩ := cells2 hs3.out.1.blk; have hB3 := hs3.out.1.lt; clear b3)
            | (go_at_call 293; refine (replace_any 0 w3.heap.size _ _ f t _ l _ (hs3.out.1.own.alloc _) hft htl (by omega) (Nat.zero_le _) (heap_alloc_new w3 _) (fun he => by have := (World.ownsRow.lt hs3.out.1.own _ he).2; omega)).mono ?_; rintro e w4 ⟨v4, rfl, own4, gr4, nw4⟩; obtain ⟨va, vn, vc, hv4⟩ := own4.rng.slice3; subst hv4; have hb4 : Hid (w4.heap[B]? = some (.cells #[.bool true, .slice (some ⟨g, 0, none⟩) l.length c] 253 (0, 0))) := (by show w4.heap[B]? = _; rw [gr4.block B (le_alloc hs3.out.1.lt _) (fun he => hs3.out.1.ne he.symm), Below.heap_alloc _ _ _ hs3.out.1.lt]; exact hs3.out.1.blk); obtain ⟨g0, g1, _, g3⟩ := cells2 hb4.out; have H4 : Hid (Own2 w4 0 (.slice va vn vc) (l.take f ++ growL TL n :: l.drop t) ∧ (w3.alloc (.cells #[.int .u64 ((growL TL n).1 : Int), .int .u64 ((growL TL n).2 : Int)] 150)).grownBy w4 (Value.ownBlock (.slice (some ⟨g, 0, none⟩) l.length c)) ∧ NewOr (w3.alloc (.cells #[.int .u64 ((growL TL n).1 : Int), .int .u64 ((growL TL n).2 : Int)] 150)) (.slice (some ⟨g, 0, none⟩) l.length c) (.slice va vn vc)) := ⟨own4, gr4, nw4⟩; clear own4 gr4 nw4))
          all_goals go_wp2
          all_goals go_ret
          all_goals (refine ⟨rfl, ?_⟩; rw [hA2.out]; exact add_end bb.out hs3.out.2 hb4.out H4.out.1 H4.out.2.1 H4.out.2.2)
end Go.Proofs.YtjagaankkcbjmaaGreatDoor.S

/-
  THE DOCUMENT's Same, Put, Add, Join and Good, by their contracts.
-/
namespace Go.Proofs.YtjagaankkcbjmaaGreatDoor.S
open Go.RowKit




/-- The box of x, and what else a round of Put carries. -/
structure PutAt (w wr : World) (X : Nat) (v : Value) (out : List (Nat × Nat)) (x : Nat × Nat) : Prop where
  box : wr.heap[X]? = some (.cells #[.int .u64 (x.1 : Int), .int .u64 (x.2 : Int)] 150 (0, 0))
  own : Own2 wr (X + 1) v out
  bel : Below X w wr
theorem PutAt.lt {w wr : World} {X : Nat} {v : Value} {out : List (Nat × Nat)} {x : Nat × Nat} (h : PutAt w wr X v out x) : X < wr.heap.size := (Array.getElem?_eq_some_iff.1 h.box).1
theorem PutAt.alloc {w wr : World} {X : Nat} {v : Value} {out : List (Nat × Nat)} {x : Nat × Nat} (h : PutAt w wr X v out x) (o : Obj) : PutAt w (wr.alloc o) X v out x :=
  ⟨by rw [Below.heap_alloc _ _ _ h.lt]; exact h.box, h.own.alloc o, h.bel.alloc (Nat.le_of_lt h.lt) o⟩
theorem PutAt.grown {w wr w' : World} {X : Nat} {v v' : Value} {out out' : List (Nat × Nat)} {x : Nat × Nat} (h : PutAt w wr X v out x) (ho : Own2 w' (X + 1) v' out') (hg : wr.grownBy w' v.ownBlock) : PutAt w w' X v' out' x := by
  refine ⟨?_, ho, h.own.below hg h.bel (Nat.le_of_lt h.lt) (Nat.le_succ _)⟩
  rw [hg.block X h.lt fun he => ?_]
  · exact h.box
  · have := (World.ownsRow.lt h.own X he.symm).1
    omega

theorem PutAt.other {w wr : World} {X : Nat} {v : Value} {out : List (Nat × Nat)} {x : Nat × Nat} (h : PutAt w wr X v out x) (p : Addr) (hp : p.block = X) (u : Value) : Own2 (wr.setCell p u) (X + 1) v out ∧ Below X w (wr.setCell p u) := by
  refine ⟨h.own.same fun g hg => ?_, h.bel.setCell (by omega) u⟩
  have := (World.ownsRow.lt h.own g hg).1
  exact heap_setCell_other _ _ _ _ (by omega)
theorem PutAt.lo {w wr : World} {X : Nat} {v : Value} {out : List (Nat × Nat)} {x : Nat × Nat} (h : PutAt w wr X v out x) (n : Nat) : PutAt w (wr.setCell ⟨X, 0, none⟩ (.int .u64 (n : Int))) X v out (n, x.2) := by
  obtain ⟨h1, h2⟩ := h.other ⟨X, 0, none⟩ rfl (.int .u64 (n : Int))
  refine ⟨?_, h1, h2⟩
  have := heap_setCell_same wr X 0 _ _ (.int .u64 (n : Int)) h.box
  simpa using this
theorem PutAt.hi {w wr : World} {X : Nat} {v : Value} {out : List (Nat × Nat)} {x : Nat × Nat} (h : PutAt w wr X v out x) (n : Nat) : PutAt w (wr.setCell ⟨X, 1, none⟩ (.int .u64 (n : Int))) X v out (x.1, n) := by
  obtain ⟨h1, h2⟩ := h.other ⟨X, 1, none⟩ rfl (.int .u64 (n : Int))
  refine ⟨?_, h1, h2⟩
  have := heap_setCell_same wr X 1 _ _ (.int .u64 (n : Int)) h.box
  simpa using this



end Go.Proofs.YtjagaankkcbjmaaGreatDoor.S

/-
  THE WALK of 'lives' and of 'alike'.
-/
namespace Go.Proofs.YtjagaankkcbjmaaGreatDoor.S
open Go.RowKit
set_option maxRecDepth 20000

/-- Ranges as a set has them. -/
def Fine (l : List (Nat × Nat)) : Prop := Apart 1 l ∧ Upto 18446744073709551616 l
theorem fine_nil : Fine [] := ⟨trivial, fun r h => by cases h⟩
theorem Fine.add {l : List (Nat × Nat)} {n : Nat} (h : Fine l) (hn : n < 18446744073709551616) : Fine (addS l n) := by
  by_cases hh : n = 0 ∨ Mem l n
  · rw [addS_no hh]; exact h
  · rw [addS_yes hh]
    exact ⟨(addL_ok h.1 (fun h0 => hh (.inl h0)) (fun hm => hh (.inr hm))).1, addL_upto h.2 hn⟩

/-- A set of the call's own: all its blocks lie from base on. -/
structure Mine (base : Nat) (w w' : World) (B : Nat) (v : Value) (l : List (Nat × Nat)) : Prop where
  set : SetAt w' B v l
  bel : Below base w w'
  fr : From0 base B v
  sz : base ≤ w'.heap.size
theorem Mine.add {base : Nat} {w w1 w2 : World} {B : Nat} {v v' : Value} {l l' : List (Nat × Nat)} (h : Mine base w w1 B v l) (hs : SetAt w2 B v' l') (t : Turned w1 w2 B v) (nw : NewOr w1 v v') : Mine base w w2 B v' l' := by
  refine ⟨hs, h.bel.trans ⟨t.os, t.tape, t.output, t.size, fun k hk => t.block k (by have := h.sz; omega) (by have := h.fr.1; omega) (fun he => by have := h.fr.2 k he; omega)⟩, ⟨h.fr.1, fun g hg => ?_⟩, Nat.le_trans h.sz t.size⟩
  rcases nw with e | ⟨g', e, hg'⟩
  · exact h.fr.2 g (by rw [← e]; exact hg)
  · rw [e] at hg
    injection hg with hg
    have := h.sz
    omega
theorem Mine.go {base : Nat} {w w1 w2 : World} {B : Nat} {v : Value} {l : List (Nat × Nat)} (h : Mine base w w1 B v l) (b : Below w1.heap.size w1 w2) : Mine base w w2 B v l :=
  ⟨h.set.kept b (Nat.le_refl _), h.bel.trans (b.mono h.sz), h.fr, Nat.le_trans h.sz b.size⟩


end Go.Proofs.YtjagaankkcbjmaaGreatDoor.S

/-
  THE LAW SpanAdds.
-/
namespace Go.Proofs.YtjagaankkcbjmaaGreatDoor.S
open Go.RowKit
set_option maxRecDepth 20000

/-- In w the slice v holds just these numbers. -/
def Nums (w : World) (v : Value) (l : List Nat) : Prop :=
  (v = .slice none 0 0 ∧ l = []) ∨ ∃ a cap, v = .slice (some a) l.length cap ∧ l.length ≤ cap ∧ cap ≤ maxLen ∧ ∀ i (h : i < l.length), w.cell? (a.add i) = some (.int .u64 (l[i] : Int))
theorem Nums.slice {w : World} {v : Value} {l : List Nat} (h : Nums w v l) : ∃ a cap, v = .slice a l.length cap ∧ l.length ≤ 9223372036854775807 := by
  rcases h with ⟨rfl, rfl⟩ | ⟨a, cap, rfl, h1, h2, _⟩
  · exact ⟨_, _, rfl, by simp⟩
  · exact ⟨_, _, rfl, by unfold maxLen at h2; omega⟩
theorem Nums.at {w : World} {a : Option Addr} {cap : Nat} {l : List Nat} (h : Nums w (.slice a l.length cap) l) (i : Nat) (hi : i < l.length) : ∃ b off, a = some ⟨b, off, none⟩ ∧ w.cell? ⟨b, off + i, none⟩ = some (.int .u64 (l[i] : Int)) := by
  rcases h with ⟨_, rfl⟩ | ⟨a', cap', hv, _, _, h3⟩
  · simp at hi
  · injection hv with hv1 _ _
    subst hv1
    obtain ⟨b, off, spot⟩ := a'
    have h0 := h3 i hi
    have hspot : spot = none := by simpa [Addr.add] using World.cell?_spot (h3 0 (by omega))
    subst hspot
    refine ⟨b, off, rfl, ?_⟩
    rw [← Go.WideShapes.add_plain]
    exact h0


/-- A row of ranges keeps while a set is added to, whose row it is not. -/
theorem Own2.turned {w1 w2 : World} {b B : Nat} {lv v : Value} {l k : List (Nat × Nat)} (h : Own2 w1 b lv l) (hs : SetAt w1 B v k) (t : Turned w1 w2 B v) (hne : ∀ g, lv.ownBlock = some g → v.ownBlock ≠ some g) : Own2 w2 b lv l := by
  refine h.same fun g hg => t.block g (World.ownsRow.lt h g hg).2 (fun he => ?_) (hne g hg)
  subst he
  rcases h.2 with ⟨rfl, _⟩ | ⟨g', cap, cur, rfl, _, hgg, _⟩
  · simp [Value.ownBlock] at hg
  · simp only [Value.ownBlock, Option.some.injEq] at hg
    subst hg
    have := hs.blk
    rw [hgg] at this
    simp at this

end Go.Proofs.YtjagaankkcbjmaaGreatDoor.S

/-
  THE LAW SpanOrder.
-/
namespace Go.Proofs.YtjagaankkcbjmaaGreatDoor.S
open Go.RowKit
set_option maxRecDepth 20000

/-- All of a list added. -/
def addAll (l : List (Nat × Nat)) (ns : List Nat) : List (Nat × Nat) := ns.foldl addS l
/-- Another set keeps while this one is added to. -/
theorem SetAt.turned {w1 w2 : World} {B B' : Nat} {v v' : Value} {l k : List (Nat × Nat)} (h : SetAt w1 B' v' k) (hs : SetAt w1 B v l) (t : Turned w1 w2 B v) (hB : B' ≠ B) (hne : ∀ g, v'.ownBlock = some g → v.ownBlock ≠ some g) : SetAt w2 B' v' k := by
  refine ⟨?_, h.own.turned hs t hne⟩
  rw [t.block B' h.lt hB (fun he => ?_)]
  · exact h.blk
  · rcases hs.own.2 with ⟨rfl, _⟩ | ⟨g', cap, cur, rfl, _, hgg, _⟩
    · simp [Value.ownBlock] at he
    · simp only [Value.ownBlock, Option.some.injEq] at he
      subst he
      have := h.blk
      rw [hgg] at this
      simp at this
/-- Two rows lie apart, also behind an addition to the one. -/
theorem apart_add {w1 : World} {B' : Nat} {v v' vb : Value} {l : List (Nat × Nat)} (h : SetAt w1 B' vb l) (hne : ∀ g, vb.ownBlock = some g → v.ownBlock ≠ some g) (nw : NewOr w1 v v') : ∀ g, vb.ownBlock = some g → v'.ownBlock ≠ some g := by
  intro g hg he
  rcases nw with e2 | ⟨g', e2, h2⟩
  · exact hne g hg (by rw [← e2]; exact he)
  · rw [e2] at he
    injection he with he
    have := (World.ownsRow.lt h.own g hg).2
    omega
theorem apart_symm {v v' : Value} (h : ∀ g, v.ownBlock = some g → v'.ownBlock ≠ some g) : ∀ g, v'.ownBlock = some g → v.ownBlock ≠ some g := fun g hg he => h g he hg

/-- Two sets of the call's own. -/
structure Two (base : Nat) (w w' : World) (A : Nat) (va : Value) (la : List (Nat × Nat)) (B : Nat) (vb : Value) (lb : List (Nat × Nat)) : Prop where
  a : Mine base w w' A va la
  b : Mine base w w' B vb lb
  ne : A ≠ B
  ap : ∀ g, va.ownBlock = some g → vb.ownBlock ≠ some g
theorem Two.swap {base : Nat} {w w1 : World} {A B : Nat} {va vb : Value} {la lb : List (Nat × Nat)} (h : Two base w w1 A va la B vb lb) : Two base w w1 B vb lb A va la := ⟨h.b, h.a, Ne.symm h.ne, apart_symm h.ap⟩
theorem Two.go {base : Nat} {w w1 w2 : World} {A B : Nat} {va vb : Value} {la lb : List (Nat × Nat)} (h : Two base w w1 A va la B vb lb) (b : Below w1.heap.size w1 w2) : Two base w w2 A va la B vb lb := ⟨h.a.go b, h.b.go b, h.ne, h.ap⟩


end Go.Proofs.YtjagaankkcbjmaaGreatDoor.S
