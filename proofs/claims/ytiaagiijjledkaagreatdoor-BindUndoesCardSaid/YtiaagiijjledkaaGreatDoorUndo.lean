/-
  WHAT IS SO of a binding that is bound and unbound; of a table all of whose exchanges are dropped; a table, what it was, and a copy of it.
-/
import Derived.Test.YtiaagiijjledkaaGreatDoorLawActs
namespace Go.Proofs.YtiaagiijjledkaaGreatDoor
open Go.RowKit Go.Sort Go.Shelf

theorem insC_undo {l : List Bd} {b : Bd} (hn : b ∉ l) : (insC cmpB b l).filter (fun y => !decide (y = b)) = l := by
  have hk : ∀ r : List Bd, b ∉ r → r.filter (fun y => !decide (y = b)) = r := fun r hr => List.filter_eq_self.2 fun y hy => by
    rw [decide_eq_false (fun (e : y = b) => hr (e ▸ hy))]
    rfl
  induction l with
  | nil => simp [insC]
  | cons y r ih =>
    have hy : y ≠ b := fun e => hn (e ▸ List.mem_cons_self)
    have hr : b ∉ r := fun h => hn (List.mem_cons_of_mem _ h)
    unfold insC
    split
    · rw [List.filter_cons_of_pos (by rw [decide_eq_false hy]; rfl), ih hr]
    · rw [List.filter_cons_of_neg (by simp), hk _ hn]
theorem bind_xs (s : Tb) (b : Bd) : (s.bind b).2.xs = s.xs := by
  unfold Tb.bind
  split
  · rfl
  · split
    · rfl
    · split
      · rfl
      · split
        · rfl
        · split <;> rfl
theorem unbind_xs (s : Tb) (b : Bd) : (s.unbind b).2.xs = s.xs := by
  unfold Tb.unbind
  split <;> rfl
theorem bind_zero {s : Tb} {b : Bd} (h : (s.bind b).1 = 0) : (b ∈ s.bs ∧ (s.bind b).2 = s) ∨ (b ∉ s.bs ∧ (s.bind b).2 = { s with bs := insC cmpB b s.bs }) := by
  unfold Tb.bind at h ⊢
  split at h
  · exact absurd (show (2 : Int) = 0 from h) (by decide)
  · rename_i h1
    rw [if_neg h1]
    split at h
    · exact absurd (show (3 : Int) = 0 from h) (by decide)
    · rename_i x h2
      split at h
      · exact absurd (show (2 : Int) = 0 from h) (by decide)
      · rename_i h3
        rw [if_neg h3]
        split at h
        · rename_i h4
          exact .inl ⟨h4, by rw [if_pos h4]⟩
        · rename_i h4
          split at h
          · exact absurd (show (5 : Int) = 0 from h) (by decide)
          · rename_i h5
            exact .inr ⟨h4, by rw [if_neg h4, if_neg h5]⟩
theorem bind_unbind {s : Tb} {b : Bd} (h : (s.bind b).1 = 0) : ((s.bind b).2.unbind b).1 = 0 ∧ (b ∉ s.bs → ((s.bind b).2.unbind b).2 = s) := by
  rcases bind_zero h with ⟨h1, h2⟩ | ⟨h1, h2⟩
  · rw [h2]
    unfold Tb.unbind
    rw [if_pos h1]
    exact ⟨rfl, fun hn => absurd h1 hn⟩
  · rw [h2]
    unfold Tb.unbind
    rw [if_pos (show b ∈ insC cmpB b s.bs from mem_insC.2 (.inl rfl))]
    refine ⟨rfl, fun _ => ?_⟩
    obtain ⟨xs, bs⟩ := s
    show (⟨xs, (insC cmpB b bs).filter fun y => !decide (y = b)⟩ : Tb) = ⟨xs, bs⟩
    rw [insC_undo h1]
theorem drop_step {sc : Tb} {l : List Ex} {j : Nat} (hj : j < l.length) (h : ∀ x ∈ sc.xs, x ∈ l.drop j) : ∀ x ∈ (sc.drop l[j].name).2.xs, x ∈ l.drop (j + 1) := by
  intro x hx
  have hc : x ∈ sc.xs ∧ x.name ≠ l[j].name := by
    unfold Tb.drop at hx
    cases hf : findX sc.xs l[j].name with
    | none =>
      rw [hf] at hx
      exact ⟨hx, findX_none hf x hx⟩
    | some y =>
      rw [hf] at hx
      have := List.mem_filter.1 hx
      exact ⟨this.1, by simpa using this.2⟩
  have h1 := h x hc.1
  rw [List.drop_eq_getElem_cons hj] at h1
  rcases List.mem_cons.1 h1 with e | h1
  · exact absurd (by rw [e]) hc.2
  · exact h1
theorem none_left {sc : Tb} (ok : sc.Ok) (h : ∀ x ∈ sc.xs, x ∈ ([] : List Ex)) : sc.xs.length = 0 ∧ sc.bs.length = 0 := by
  have hx : sc.xs = [] := List.eq_nil_iff_forall_not_mem.2 fun x hx => by have := h x hx; cases this
  refine ⟨by rw [hx]; rfl, ?_⟩
  have hb : sc.bs = [] := List.eq_nil_iff_forall_not_mem.2 fun b hb => by
    obtain ⟨x, hx', _⟩ := ok.leads b hb
    rw [hx] at hx'
    cases hx'
  rw [hb]; rfl
/-- A table, what it was, and a copy. -/
structure Un7 (W V : World) (pt : Nat) (Ft : Nat → Prop) (s : Tb) (pw : Nat) (Fw : Nat → Prop) (pc : Nat) (Fc : Nat → Prop) (sc : Tb) : Prop where
  t : T V pt Ft s
  okt : s.Ok
  was : RT V pw Fw s
  c : T V pc Fc sc
  okc : sc.Ok
  act : ∀ k, Fc k → ¬ Ft k
  acw : ∀ k, Fc k → ¬ Fw k
  fc : ∀ k, Fc k → W.heap.size ≤ k
  bel : Below W.heap.size W V
theorem Un7.goC {W V V' : World} {pt pw pc : Nat} {Ft Fw Fc Fc' : Nat → Prop} {s sc sc' : Tb} (h : Un7 W V pt Ft s pw Fw pc Fc sc) (c : T V' pc Fc' sc') (m : Moved V V' Fc Fc') (ok : sc'.Ok) : Un7 W V' pt Ft s pw Fw pc Fc' sc' :=
  ⟨h.t.beside m h.act, h.okt, h.was.beside m h.acw, c, ok, m.apart h.t.lts h.act, m.apart h.was.lts h.acw, m.from h.fc h.bel.size, m.below h.fc h.bel h.bel.size⟩
theorem Un7.below {W V V' : World} {pt pw pc : Nat} {Ft Fw Fc : Nat → Prop} {s sc : Tb} (h : Un7 W V pt Ft s pw Fw pc Fc sc) (b : Below V.heap.size V V') : Un7 W V' pt Ft s pw Fw pc Fc sc := h.goC (h.c.kept b) (.of_below b) h.okc
theorem was_new {V : World} {vx vb : Value} {s : Tb} {base : Nat} (ox : OwnX V base vx s.xs) (ob : OwnB V base vb s.bs) : ∃ F, RT (V.alloc (.cells #[vx, vb] 29)) V.heap.size F s ∧ ∀ g, vx.ownBlock = some g → F g := by
  have bV : Below V.heap.size V (V.alloc (.cells #[vx, vb] 29)) := (Below.refl _ _).alloc (Nat.le_refl _) _
  have hF : ∀ k, rfootT V.heap.size vx vb k → k ≤ V.heap.size := by
    rintro k (rfl | hk | hk)
    · exact Nat.le_refl _
    · exact Nat.le_of_lt (ox.lt hk).2
    · exact Nat.le_of_lt (ob.lt hk).2
  refine ⟨_, ⟨vx, vb, ⟨heap_alloc_new V _, ox.rng.below bV (Nat.le_refl _), ob.rng.below bV (Nat.le_refl _), fun e => ?_, fun e => ?_⟩, fun _ => Iff.rfl, fun k hk => ?_⟩, fun g hg => .inr (.inl hg)⟩
  · exact absurd (ox.lt e).2 (Nat.lt_irrefl _)
  · exact absurd (ob.lt e).2 (Nat.lt_irrefl _)
  · have := hF k hk
    rw [World.size_alloc]
    omega
/-- The exchanges that were told lie as they lay while the copy is changed. -/
theorem Un7.row {W V V' : World} {pt pw pc : Nat} {Ft Fw Fc Fc' : Nat → Prop} {s sc : Tb} {v : Value} {l : List Ex} (h : Un7 W V pt Ft s pw Fw pc Fc sc) (m : Moved V V' Fc Fc') (hown : ∀ g, v.ownBlock = some g → Fw g) (r : RowOf xcells V v l) : RowOf xcells V' v l :=
  r.same fun g hg => m.block g (h.was.lts g (hown g hg)) (fun hf => h.acw g hf (hown g hg))
end Go.Proofs.YtiaagiijjledkaaGreatDoor
