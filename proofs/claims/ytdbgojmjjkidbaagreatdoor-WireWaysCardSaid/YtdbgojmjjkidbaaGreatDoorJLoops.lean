/-
  WHAT IS OF NO PROGRAM: a range over a function that keeps a state of its own in a box (strings.SplitSeq and the like), by a body that never leaves.
-/
import Derived.RangeFuncNested
import Derived.RangeFuncBound
import Derived.RangeFuncCalls
import Derived.RangeFuncLeaves
import Derived.RangeFuncBox
import Derived.Shelf.Abstract
import Derived.Shelf.RegionOpen
import Derived.WalkKit
import Derived.OwnWalkIn
import Derived.TacticsInMore
import Derived.LoopNIn
import Derived.LoopIn
import Derived.Maps.AppendAt
namespace Go.Proofs.YtdbgojmjjkidbaaGreatDoor
open Go.RowKit Go.Shelf


/-- The blocks from lo to hi lie as they lay. -/
def Kept (lo hi : Nat) (A B : World) : Prop := ∀ b, lo ≤ b → b < hi → B.heap[b]? = A.heap[b]?

theorem Kept.refl (lo hi : Nat) (A : World) : Kept lo hi A A := fun _ _ _ => rfl

theorem Kept.trans {lo hi : Nat} {A B C : World} (h : Kept lo hi A B) (k : Kept lo hi B C) : Kept lo hi A C := fun b h1 h2 => (k b h1 h2).trans (h b h1 h2)

theorem Kept.putObj (lo hi : Nat) (A : World) (l : Nat) (o : Obj) (hl : hi ≤ l) : Kept lo hi A (A.putObj l o) := fun b _ h2 => World.putObj_heap_other (by omega)

theorem Kept.cell {lo hi : Nat} {A B : World} (h : Kept lo hi A B) (b o : Nat) (h1 : lo ≤ b) (h2 : b < hi) : B.cell? ⟨b, o, none⟩ = A.cell? ⟨b, o, none⟩ := World.cell?_of_block (a := ⟨b, o, none⟩) (h b h1 h2)

theorem Kept.frozen {lo hi : Nat} {A B : World} (h : Kept lo hi A B) (b o : Nat) (h1 : lo ≤ b) (h2 : b < hi) : B.frozen? ⟨b, o, none⟩ = A.frozen? ⟨b, o, none⟩ := World.frozen?_of_block (a := ⟨b, o, none⟩) (h b h1 h2)


variable {F : Fence} {n : Nat} {P : Program}


/-- The iterator's word: for whatever is true between two rounds (J), if it stays true where memory grows and where the box Bs is written, and each round keeps the boxes from lo to hi. -/
def SeqBox {α : Type} (F : Fence) (n : Nat) (P : Program) (g : Nat) (lb : Array Value) (encs : α → Array Value) (Bs lo hi : Nat) (S : List α → Prop) (N : Nat) (w : World) : Prop :=
  ∀ (l : Nat) (J : List α → World → Prop) (W : World), Below w.heap.size w W → (∀ pre A B row, J pre A → A.grownBy B row → (∀ r, row = some r → r = Bs) → J pre B) →
    (∀ pre x W1, J pre W1 → pre.length < N → YieldAt F (n - 1) P l (encs x) W1 fun e W' => e = .returned (.bool true) ∧ J (pre ++ [x]) W' ∧ Kept lo hi W1 W') →
    J [] W → CallsIn F n P g (#[.func (.yield l) #[] #[]] ++ lb) W fun e W' => (∃ v, e = .returned v) ∧ ∃ xs, S xs ∧ J xs W'


/-- The loop over it. -/
theorem wpIn_range_box {α : Type} {g : Operand} {ps : Array Tmp} {assign body : Code} {Q : Exit → Act → World → Prop} {a : Act} {w : World} (hro : F.round = none) (h1 : 1 ≤ n) {gf : Nat} {lb : Array Value}
    (hg : a.eval g = .func (.func gf) #[] lb) (hF : F.fn gf) (eg : ∀ args w, (callFunc gf args).run P w = .ok (.enter gf args) w) {encs : α → Array Value} {Bs lo : Nat} {S : List α → Prop} {N : Nat} (hBs : Bs < w.heap.size)
    (hseq : SeqBox F (n - 1) P gf lb encs Bs lo w.heap.size S N w) (hps : ∀ x, (encs x).size = ps.size) (I : List α → World → Prop)
    (hI : ∀ pre A B row, I pre A → A.grownBy B row → (∀ r, row = some r → r = Bs ∨ (w.heap.size ≤ r ∧ ∃ o : Obj, A.heap[r]? = some o ∧ o.isCells = false)) → I pre B) (h0 : I [] w) (a1 : α → Act)
    (hassign : ∀ (l : Nat) (x : α) (W : World) (K : Act → World → Prop), K (a1 x) W →
      assign.wpIn (F.inRound l) (n - 1 - 1) P (Exit.then K (fun _ _ _ => False)) { tmps := (ps.zip (encs x)).foldl (fun t (p, v) => t.setIfInBounds p v) a.tmps, defers := [] } W)
    (hbody : ∀ (l : Nat) (pre : List α) (x : α) (W : World), I pre W → pre.length < N → body.wpIn (F.inRound l) (n - 1 - 1) P (fun e _ W' => e = .normal ∧ KeepsFrom w.heap.size W W' ∧ Kept lo w.heap.size W W' ∧ I (pre ++ [x]) W') (a1 x) W)
    (hdone : ∀ (D : Nat) (xs : List α) (W : World), w.heap.size ≤ D → S xs → I xs W → W.heap[D]? = some (.deferred (some [])) → Q .normal { a with defers := { target := .collected D, args := #[] } :: a.defers } W) :
    (Code.rangeFunc g ps assign body).wpIn F n P Q a w := by
  refine wpIn_rangeFunc fun fn hfn => ?_
  rw [hro]
  -- the record r of the loop lies at block w.heap.size + 1, the deferred calls at w.heap.size
  obtain ⟨r, hr⟩ : ∃ r : Loop, r = { state := .ready, pending := none, fn, tmps := a.tmps, params := ps, assign, body, defers := w.heap.size } := ⟨_, rfl⟩
  have hsize : ((w.alloc (.deferred (some []))).alloc (.loop r)).heap.size = w.heap.size + 2 := by simp
  have hrec : ((w.alloc (.deferred (some []))).alloc (.loop r)).heap[w.heap.size + 1]? = some (.loop r) := by
    have := World.alloc_heap_new (w.alloc (.deferred (some []))) (.loop r); rwa [World.size_alloc] at this
  have hdef : ((w.alloc (.deferred (some []))).alloc (.loop r)).heap[w.heap.size]? = some (.deferred (some [])) :=
    (Below.heap_alloc _ _ _ (by simp)).trans (World.alloc_heap_new w _)
  have hst : I [] ((w.alloc (.deferred (some []))).alloc (.loop r)) :=
    hI _ _ _ none (hI _ _ _ none h0 (World.grownBy_alloc w _ none) (fun _ e => by cases e)) (World.grownBy_alloc _ _ none) (fun _ e => by cases e)
  have hb : Below w.heap.size w ((w.alloc (.deferred (some []))).alloc (.loop r)) := ((Below.refl _ w).alloc (Nat.le_refl _) _).alloc (by simp) _
  refine ⟨w.heap.size + 1, [{ target := .collected w.heap.size, args := #[] }], (w.alloc (.deferred (some []))).alloc (.loop r), { target := .fn (.func gf) lb, args := #[.func (.yield (w.heap.size + 1)) #[] #[]] }, _, gf,
    #[.func (.yield (w.heap.size + 1)) #[] #[]] ++ lb, _, by rw [hr]; exact run_enterLoop_outer _ _ _ _ _, by simp only [resolve, hg]; simp [go_sem]; rfl, ?_, by simp [invoke, go_sem, eg]; rfl, fun _ => h1, ?_⟩
  · intro f' hf'
    simp [Target.leads] at hf'
    subst hf'
    exact hF
  have key := hseq (w.heap.size + 1) (fun pre W => I pre W ∧ W.heap[w.heap.size + 1]? = some (.loop r) ∧ W.heap[w.heap.size]? = some (.deferred (some []))) _ hb
    (fun pre A B row hA hgr hrow => by
      have hne : ∀ k, w.heap.size ≤ k → some k ≠ row := fun k hk e => by have := hrow k e.symm; omega
      exact ⟨hI pre A B row hA.1 hgr (fun x e => .inl (hrow x e)), (hgr.block _ (Array.getElem?_eq_some_iff.1 hA.2.1).1 (hne _ (by omega))).trans hA.2.1, (hgr.block _ (Array.getElem?_eq_some_iff.1 hA.2.2).1 (hne _ (Nat.le_refl _))).trans hA.2.2⟩)
    ?_ ⟨hst, hrec, hdef⟩
  · refine key.mono ?_
    rintro e W2 ⟨⟨v, rfl⟩, xs, hS, hi, hl, hk⟩
    refine ⟨none, _, ?_, hdone _ xs _ (Nat.le_refl _) hS (hI xs W2 _ (some (w.heap.size + 1)) hi (grownBy_putObj' W2 _ (.loop { r with state := .exhausted })) (fun x e => by cases e; exact .inr ⟨by omega, _, hl, rfl⟩)) ((World.putObj_heap_other (by omega)).trans hk)⟩
    have := run_endLoop (P := P) hl (by rw [hr]; simp)
    rw [hr] at this ⊢
    exact this
  · rintro pre x W ⟨hi, hl, hk⟩ hlen
    have hlt : w.heap.size + 1 < W.heap.size := (Array.getElem?_eq_some_iff.1 hl).1
    have hy := run_yield (P := P) (args := encs x) hl (by rw [hr]; exact hps x)
    rw [hr] at hy
    have busy : (W.putObj (w.heap.size + 1) (.loop { r with state := .busy })).heap[w.heap.size + 1]? = some (.loop { r with state := .busy }) := World.putObj_heap_same hlt
    have dfr : (W.putObj (w.heap.size + 1) (.loop { r with state := .busy })).heap[w.heap.size]? = some (.deferred (some [])) := (World.putObj_heap_other (by omega)).trans hk
    refine ⟨fn, _, assign, body, hy, roundIn_of_wpIn hfn (hassign _ x W _ ⟨_, run_beginRound hl (by rw [hr]), ?_⟩)⟩
    refine wpIn_mono (hbody _ pre x _ (hI pre W _ (some (w.heap.size + 1)) hi (grownBy_putObj' W _ _) (fun x e => by cases e; exact .inr ⟨by omega, _, hl, rfl⟩)) hlen) ?_
    rintro e a3 W3 ⟨rfl, hk3, hkp, hi3⟩
    have b3 := hk3.same _ _ (by omega) busy rfl
    have d3 := hk3.same _ _ (Nat.le_refl _) dfr rfl
    have hend := run_endRound (P := P) none b3
    have hback : ({ ({ r with state := .busy } : Loop) with state := if (none : Option Code).isNone = true then .ready else .done, pending := none } : Loop) = r := by rw [hr]; rfl
    rw [hback] at hend
    refine ⟨_, _, hend, rfl, ⟨hI _ W3 _ (some (w.heap.size + 1)) hi3 (grownBy_putObj' W3 _ _) (fun x e => by cases e; exact .inr ⟨by omega, _, b3, rfl⟩), World.putObj_heap_same (Array.getElem?_eq_some_iff.1 b3).1, (World.putObj_heap_other (by omega)).trans d3⟩, ?_⟩
    exact ((Kept.putObj lo _ W _ _ (by omega)).trans hkp).trans (Kept.putObj lo _ W3 _ _ (by omega))

end Go.Proofs.YtdbgojmjjkidbaaGreatDoor
