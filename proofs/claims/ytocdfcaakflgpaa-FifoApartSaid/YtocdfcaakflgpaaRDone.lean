/-
  THE DOCUMENT's Done, by its contract.
-/
import Derived.Test.YtocdfcaakflgpaaRTake
namespace Go.Proofs.Ytocdfcaakflgpaa
open Go.RowKit Go.Sort

theorem R.at {w : World} {p : Nat} {F : Nat → Prop} {s : St} (h : R w p F s) : p < w.heap.size := by
  obtain ⟨vr, vo, hq, _, _⟩ := h
  exact (Array.getElem?_eq_some_iff.1 hq.blk).1
theorem ref_row_not {w : World} {v : Value} {l : List It} {B p : Nat} (h : Own8 w B v l) (hp : p < B) : v.ownBlock ≠ some p := fun he => by have := (h.lt he).1; omega
/-- The row of those that are out is a new one. -/
theorem rout_set {w W : World} {p : Nat} {vr vo v' : Value} {s : St} {l : List It} {F : Nat → Prop} (hq : RAt w p vr vo s) (hF : ∀ k, F k ↔ rfoot p vr vo k) (hl : ∀ k, F k → k < w.heap.size) (hW : Below w.heap.size w W) (own : Own8 W w.heap.size v' l) :
    ∃ F', R (W.setCell ⟨p, 3, none⟩ v') p F' { s with out := l } ∧ Moved w (W.setCell ⟨p, 3, none⟩ v') F F' := by
  have hp : p < w.heap.size := (Array.getElem?_eq_some_iff.1 hq.blk).1
  have hqW : RAt W p vr vo s := hq.same fun k hk => hW.block k (hl k ((hF k).2 hk))
  have hne := ref_row_not own hp
  refine ⟨rfoot p vr v', ⟨vr, v', ⟨set4_3 v' hqW.blk, hqW.rdy.same fun g hg => heap_setCell_other _ _ _ _ (fun he => hq.nr (by rw [hg, he])), own.rng.same fun g hg => heap_setCell_other _ _ _ _ (fun he => hne (by rw [hg, he])), hq.nr, hne⟩, fun _ => Iff.rfl, ?_⟩, ?_⟩
  · rintro k (rfl | hk | hk)
    · rw [World.size_setCell]; exact Nat.lt_of_lt_of_le hp hW.size
    · rw [World.size_setCell]; exact Nat.lt_of_lt_of_le (hl k ((hF k).2 (.inr (.inl hk)))) hW.size
    · rw [World.size_setCell]; exact (own.lt hk).2
  · refine ⟨hW.os, hW.tape, hW.output, by rw [World.size_setCell]; exact hW.size, fun k hk hn => ?_, ?_⟩
    · rw [heap_setCell_other _ _ _ _ (fun h => hn ((hF k).2 (.inl h))), hW.block k hk]
    · rintro k (rfl | hk | hk)
      · exact .inl ((hF _).2 (.inl rfl))
      · exact .inl ((hF k).2 (.inr (.inl hk)))
      · exact .inr (own.lt hk).1
theorem rmoved_below {w w1 w2 : World} {p : Nat} {F : Nat → Prop} {s : St} (h : ∃ F', R w1 p F' s ∧ Moved w w1 F F') (hb : Below w1.heap.size w1 w2) : ∃ F', R w2 p F' s ∧ Moved w w2 F F' := by
  obtain ⟨F', hq, hm⟩ := h
  exact ⟨F', hq.kept hb, hm.trans (.of_below hb)⟩

set_option maxRecDepth 20000 in
set_option maxHeartbeats 1000000 in
theorem rdone_any (p : Nat) (F : Nat → Prop) (s : St) (t : Nat) (w : World) (h : R w p F s) (ok : s.Ok) :
    Calls Try.prog 35 #[.pointer (some ⟨p, 0, none⟩), .int .u64 (t : Int)] w fun e w' => e = .returned (.int .i64 (s.done t).1) ∧ ∃ F', R w' p F' (s.done t).2 ∧ Moved w w' F F' := by
  obtain ⟨vr, vo, hq, hF, hl⟩ := h
  obtain ⟨⟨c0, c1, c2, c3⟩, f0, f1, f2, f3⟩ := cells4 hq.blk
  have hT := rtake_any vo s.out t w hq.out ok.o (by have := ok.room; have := ok.m; omega)
  obtain ⟨ao, co, hvo⟩ := hq.out.slice
  have hp : p < w.heap.size := (Array.getElem?_eq_some_iff.1 hq.blk).1
  cases hf : findT s.out t with
  | none =>
    rw [done_none hf]
    rw [hf] at hT
    subst hvo
    have HQ : Hid (RAt w p vr (.slice ao s.out.length co) s) := hq
    clear hq
    go_enter Try.func35, Try.ntmps35
    go_wp2_with fail
    refine hT.mono ?_
    rintro e w1 ⟨v', rfl, own, b⟩
    obtain ⟨va', vc', hv'⟩ := own.rng.slice
    subst hv'
    go_wp2
    go_ret
    exact ⟨rfl, F, (show R w p F s from ⟨vr, _, HQ.out, hF, hl⟩).kept (b.alloc b.size _), .of_below (b.alloc b.size _)⟩
  | some x =>
    rw [done_some hf]
    rw [hf] at hT
    subst hvo
    have HQ : Hid (RAt w p vr (.slice ao s.out.length co) s) := hq
    clear hq
    go_enter Try.func35, Try.ntmps35
    go_wp2_with fail
    refine hT.mono ?_
    rintro e w1 ⟨v', rfl, own, b⟩
    simp only [Option.getD_some]
    obtain ⟨W1, fold⟩ : ∃ W1, w1.alloc (.cells #[.int .u64 (x.tag : Int), .int .i64 x.m.o, .int .u64 x.m.s, .int .i64 x.m.hop, .string x.m.ex, .string x.m.key, .string x.m.body, .bool x.again] 38) = W1 := ⟨_, rfl⟩
    have b1 : Below w.heap.size w W1 := by rw [← fold]; exact b.alloc b.size _
    have own1 : Own8 W1 w.heap.size v' (dropT s.out t) := by rw [← fold]; exact own.alloc _
    have HE : Hid _ := rout_set HQ.out hF hl b1 own1
    have d3 : W1.cell? ⟨p, 3, none⟩ = some (.slice ao s.out.length co) := (b1.cell (p := ⟨p, 3, none⟩) hp).trans c3
    have g3 : W1.frozen? ⟨p, 3, none⟩ = false := (cells4 ((b1.block p hp).trans HQ.out.blk)).2.2.2.2
    obtain ⟨va', vc', hv'⟩ := own.rng.slice
    subst hv'
    go_wp2
    go_ret
    exact ⟨rfl, HE.out⟩
end Go.Proofs.Ytocdfcaakflgpaa
