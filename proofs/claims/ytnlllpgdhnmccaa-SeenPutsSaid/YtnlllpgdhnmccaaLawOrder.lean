/-
  THE LAW SpanOrder.
-/
import Derived.Test.YtnlllpgdhnmccaaLawAdds
namespace Go.Proofs.Ytnlllpgdhnmccaa
open Go.RowKit

/-- All of a list added. -/
def addAll (l : List (Nat × Nat)) (ns : List Nat) : List (Nat × Nat) := ns.foldl addS l
theorem addAll_fine : ∀ (ns : List Nat) (l : List (Nat × Nat)), Fine l → (∀ n ∈ ns, n < 18446744073709551616) → Fine (addAll l ns)
  | [], _, h, _ => h
  | n :: t, l, h, hn => addAll_fine t (addS l n) (h.add (hn n (by simp))) fun m hm => hn m (by simp [hm])
theorem addAll_mem : ∀ (ns : List Nat) (l : List (Nat × Nat)), Fine l → (∀ n ∈ ns, n < 18446744073709551616) → ∀ m, Mem (addAll l ns) m ↔ Mem l m ∨ (m ∈ ns ∧ m ≠ 0)
  | [], l, _, _, m => by simp [addAll]
  | n :: t, l, h, hn, m => by
    show Mem (addAll (addS l n) t) m ↔ _
    rw [addAll_mem t (addS l n) (h.add (hn n (by simp))) (fun m hm => hn m (by simp [hm])) m, addS_mem h.1 m]
    constructor
    · rintro ((h1 | ⟨rfl, h1⟩) | ⟨h1, h2⟩)
      · exact .inl h1
      · exact .inr ⟨by simp, h1⟩
      · exact .inr ⟨by simp [h1], h2⟩
    · rintro (h1 | ⟨h1, h2⟩)
      · exact .inl (.inl h1)
      · rcases List.mem_cons.1 h1 with rfl | h1
        · exact .inl (.inr ⟨rfl, h2⟩)
        · exact .inr ⟨h1, h2⟩
theorem addAll_snoc (l : List (Nat × Nat)) (ns : List Nat) (n : Nat) : addAll l (ns ++ [n]) = addS (addAll l ns) n := by simp [addAll]
/-- The order does not matter. -/
theorem addAll_reverse (ns : List Nat) (hn : ∀ n ∈ ns, n < 18446744073709551616) : addAll [] ns.reverse = addAll [] ns := by
  have h1 := addAll_fine ns [] fine_nil hn
  have h2 := addAll_fine ns.reverse [] fine_nil (fun n h => hn n (by simpa using h))
  refine h2.1.unique h1.1 fun m => ?_
  rw [addAll_mem ns.reverse [] fine_nil (fun n h => hn n (by simpa using h)) m, addAll_mem ns [] fine_nil hn m]
  simp
/-- Another set keeps while this one is added to. -/
theorem SetAt.turned {w1 w2 : World} {B B' : Nat} {v v' : Value} {l k : List (Nat × Nat)} (h : SetAt w1 B' v' k) (hs : SetAt w1 B v l) (t : Turned w1 w2 B v) (hB : B' ≠ B) (hne : ∀ g, v'.ownBlock = some g → v.ownBlock ≠ some g) : SetAt w2 B' v' k := by
  refine ⟨?_, h.own.turned hs t hne⟩
  rw [t.block B' h.lt hB (fun he => ?_)]
  · exact h.blk
  · rcases hs.own.2 with ⟨rfl, _⟩ | ⟨g', cap, cur, rfl, _, hgg, _⟩
    · simp [Value.ownBlock] at he
    · simp only [Value.ownBlock, Option.some.injEq] at he
      subst he
      have := h.blk
      rw [hgg] at this
      simp at this
/-- Two rows lie apart, also behind an addition to the one. -/
theorem apart_add {w1 : World} {B' : Nat} {v v' vb : Value} {l : List (Nat × Nat)} (h : SetAt w1 B' vb l) (hne : ∀ g, vb.ownBlock = some g → v.ownBlock ≠ some g) (nw : NewOr w1 v v') : ∀ g, vb.ownBlock = some g → v'.ownBlock ≠ some g := by
  intro g hg he
  rcases nw with e2 | ⟨g', e2, h2⟩
  · exact hne g hg (by rw [← e2]; exact he)
  · rw [e2] at he
    injection he with he
    have := (World.ownsRow.lt h.own g hg).2
    omega
theorem apart_symm {v v' : Value} (h : ∀ g, v.ownBlock = some g → v'.ownBlock ≠ some g) : ∀ g, v'.ownBlock = some g → v.ownBlock ≠ some g := fun g hg he => h g he hg

/-- Two sets of the call's own. -/
structure Two (base : Nat) (w w' : World) (A : Nat) (va : Value) (la : List (Nat × Nat)) (B : Nat) (vb : Value) (lb : List (Nat × Nat)) : Prop where
  a : Mine base w w' A va la
  b : Mine base w w' B vb lb
  ne : A ≠ B
  ap : ∀ g, va.ownBlock = some g → vb.ownBlock ≠ some g
theorem Two.addA {base : Nat} {w w1 w2 : World} {A B : Nat} {va vb v' : Value} {la lb l' : List (Nat × Nat)} (h : Two base w w1 A va la B vb lb) (hs : SetAt w2 A v' l') (t : Turned w1 w2 A va) (nw : NewOr w1 va v') : Two base w w2 A v' l' B vb lb := by
  have ma := h.a.add hs t nw
  exact ⟨ma, ⟨h.b.set.turned h.a.set t (Ne.symm h.ne) (apart_symm h.ap), ma.bel, h.b.fr, ma.sz⟩, h.ne, apart_symm (apart_add h.b.set (apart_symm h.ap) nw)⟩
theorem Two.swap {base : Nat} {w w1 : World} {A B : Nat} {va vb : Value} {la lb : List (Nat × Nat)} (h : Two base w w1 A va la B vb lb) : Two base w w1 B vb lb A va la := ⟨h.b, h.a, Ne.symm h.ne, apart_symm h.ap⟩
theorem Two.addB {base : Nat} {w w1 w2 : World} {A B : Nat} {va vb v' : Value} {la lb l' : List (Nat × Nat)} (h : Two base w w1 A va la B vb lb) (hs : SetAt w2 B v' l') (t : Turned w1 w2 B vb) (nw : NewOr w1 vb v') : Two base w w2 A va la B v' l' := (h.swap.addA hs t nw).swap
theorem Two.go {base : Nat} {w w1 w2 : World} {A B : Nat} {va vb : Value} {la lb : List (Nat × Nat)} (h : Two base w w1 A va la B vb lb) (b : Below w1.heap.size w1 w2) : Two base w w2 A va la B vb lb := ⟨h.a.go b, h.b.go b, h.ne, h.ap⟩
theorem two_new (w : World) : Two w.heap.size w ((w.alloc (.cells #[.bool true, .slice none 0 0] 80)).alloc (.cells #[.bool true, .slice none 0 0] 80)) w.heap.size (.slice none 0 0) [] (w.heap.size + 1) (.slice none 0 0) [] := by
  have m := mine_new (w.alloc (.cells #[.bool true, .slice none 0 0] 80))
  have m1 := (mine_new w).go ((Below.refl _ _).alloc (Nat.le_refl _) (.cells #[.bool true, .slice none 0 0] 80))
  rw [World.size_alloc] at m
  exact ⟨m1, ⟨m.set, m1.bel, ⟨by omega, fun g hg => by simp [Value.ownBlock] at hg⟩, m1.sz⟩, by omega, fun g hg => by simp [Value.ownBlock] at hg⟩

theorem fresh_take (ns : List Nat) (k : Nat) (h : k < ns.length) : addAll [] (ns.take (k + 1)) = addS (addAll [] (ns.take k)) ns[k] := by
  rw [List.take_succ_eq_append_getElem h, addAll_snoc]
theorem addAll_size (ns : List Nat) (l : List (Nat × Nat)) (h : Fine l) (hn : ∀ n ∈ ns, n < 18446744073709551616) : sizeL (addAll l ns) ≤ sizeL l + ns.length := by
  induction ns generalizing l with
  | nil => simp [addAll]
  | cons n t ih =>
    have := ih (addS l n) (h.add (hn n (by simp))) fun m hm => hn m (by simp [hm])
    rw [addS_size h.1] at this
    show sizeL (addAll (addS l n) t) ≤ _
    rw [List.length_cons]
    split at this <;> omega
theorem reverse_take (ns : List Nat) (k : Nat) (h : k < ns.length) : ns.reverse.take (k + 1) = ns.reverse.take k ++ [ns[ns.length - 1 - k]'(by omega)] := by
  rw [List.take_succ_eq_append_getElem (by simpa using h), List.getElem_reverse]

end Go.Proofs.Ytnlllpgdhnmccaa
