/-
  WHAT IS OF NO PROGRAM: a range over a function whose body writes what lay ahead of the loop, and never leaves; the iterator says of each element which it may be.
-/
import Derived.RangeFuncNested
import Derived.RangeFuncBound
import Derived.RangeFuncCalls
import Derived.RangeFuncLeaves
import Derived.RangeFuncBox
import Derived.Shelf.Abstract
import Derived.Shelf.AbstractIn
import Derived.Shelf.RegionOpen
import Derived.Sort.MapsRangeIn
import Derived.WalkKit
import Derived.OwnWalkIn
import Derived.TacticsInMore
import Derived.LoopNIn
import Derived.LoopIn
import Derived.RegionIn
namespace Go.Proofs.YtjgdmbfkondakaaGreatDoor
open Go.RowKit Go.Shelf

variable {F : Fence} {n : Nat} {P : Program}

/-- What a round keeps for the iterator: the walks' objects from N on, and at block b. -/
structure KpW (N b : Nat) (W W' : World) : Prop where
  size : W.heap.size ≤ W'.heap.size
  same : ∀ (k : Nat) (o : Obj), N ≤ k ∨ k = b → W.heap[k]? = some o → o.isWalk = true → W'.heap[k]? = some o
theorem KpW.refl (N b : Nat) (W : World) : KpW N b W W := ⟨Nat.le_refl _, fun _ _ _ h _ => h⟩
theorem KpW.trans {N b : Nat} {A B C : World} (h : KpW N b A B) (k : KpW N b B C) : KpW N b A C := ⟨Nat.le_trans h.size k.size, fun i o hi ho hw => k.same i o hi (h.same i o hi ho hw) hw⟩
theorem KpW.putObj {N b : Nat} {W : World} {r : Nat} {o : Obj} (o' : Obj) (h : W.heap[r]? = some o) (hw : o.isWalk = false) : KpW N b W (W.putObj r o') :=
  ⟨by simp, fun k o'' _ hk ho => by
    by_cases e : k = r
    · subst e; rw [h] at hk; cases hk; rw [hw] at ho; cases ho
    · exact (World.putObj_heap_other e).trans hk⟩

/-- The iterator's word. -/
def SeqP {α : Type} (F : Fence) (n : Nat) (P : Program) (g : Nat) (lb : Array Value) (encs : α → Array Value) (N b : Nat) (Pm : List α → α → Prop) (S : List α → Prop) (w : World) : Prop :=
  ∀ (l : Nat) (J : List α → World → Prop) (W : World), Below w.heap.size w W → AbidesFrom W.heap.size J →
    (∀ pre x W1, J pre W1 → Pm pre x → YieldAt F (n - 1) P l (encs x) W1 fun e W' => e = .returned (.bool true) ∧ J (pre ++ [x]) W' ∧ KpW N b W1 W') →
    J [] W → CallsIn F n P g (#[.func (.yield l) #[] #[]] ++ lb) W fun e W' => (∃ v, e = .returned v) ∧ ∃ xs, S xs ∧ J xs W'

/-- The loop over it. -/
theorem wpIn_range_own {α : Type} {g : Operand} {ps : Array Tmp} {assign body : Code} {Q : Exit → Act → World → Prop} {a : Act} {w : World} (hro : F.round = none) (h1 : 1 ≤ n) {gf : Nat} {lb : Array Value}
    (hg : a.eval g = .func (.func gf) #[] lb) (hF : F.fn gf) (eg : ∀ args w, (callFunc gf args).run P w = .ok (.enter gf args) w) {encs : α → Array Value} {b : Nat} {Pm : List α → α → Prop} {S : List α → Prop}
    (hseq : SeqP F (n - 1) P gf lb encs w.heap.size b Pm S w) (hps : ∀ x, (encs x).size = ps.size) (I : List α → World → Prop) (hI : OwnFrom w.heap.size I) (h0 : I [] w) (a1 : α → Act)
    (hassign : ∀ (l : Nat) (x : α) (W : World) (K : Act → World → Prop), K (a1 x) W →
      assign.wpIn (F.inRound l) (n - 1 - 1) P (Exit.then K (fun _ _ _ => False)) { tmps := (ps.zip (encs x)).foldl (fun t (p, v) => t.setIfInBounds p v) a.tmps, defers := [] } W)
    (hbody : ∀ (l : Nat) (pre : List α) (x : α) (W : World), I pre W → Pm pre x → body.wpIn (F.inRound l) (n - 1 - 1) P (fun e _ W' => e = .normal ∧ KeepsFrom w.heap.size W W' ∧ KpW w.heap.size b W W' ∧ I (pre ++ [x]) W') (a1 x) W)
    (hdone : ∀ (D : Nat) (xs : List α) (W : World), w.heap.size ≤ D → S xs → I xs W → W.heap[D]? = some (.deferred (some [])) → Q .normal { a with defers := { target := .collected D, args := #[] } :: a.defers } W) :
    (Code.rangeFunc g ps assign body).wpIn F n P Q a w := by
  refine wpIn_rangeFunc fun fn hfn => ?_
  rw [hro]
  obtain ⟨r, hr⟩ : ∃ r : Loop, r = { state := .ready, pending := none, fn, tmps := a.tmps, params := ps, assign, body, defers := w.heap.size } := ⟨_, rfl⟩
  have hsize : ((w.alloc (.deferred (some []))).alloc (.loop r)).heap.size = w.heap.size + 2 := by simp
  have hrec : ((w.alloc (.deferred (some []))).alloc (.loop r)).heap[w.heap.size + 1]? = some (.loop r) := by
    have := World.alloc_heap_new (w.alloc (.deferred (some []))) (.loop r); rwa [World.size_alloc] at this
  have hdef : ((w.alloc (.deferred (some []))).alloc (.loop r)).heap[w.heap.size]? = some (.deferred (some [])) :=
    (Below.heap_alloc _ _ _ (by simp)).trans (World.alloc_heap_new w _)
  have hst : I [] ((w.alloc (.deferred (some []))).alloc (.loop r)) := hI.alloc _ (hI.alloc _ h0)
  have hb : Below w.heap.size w ((w.alloc (.deferred (some []))).alloc (.loop r)) := ((Below.refl _ w).alloc (Nat.le_refl _) _).alloc (by simp) _
  refine ⟨w.heap.size + 1, [{ target := .collected w.heap.size, args := #[] }], (w.alloc (.deferred (some []))).alloc (.loop r), { target := .fn (.func gf) lb, args := #[.func (.yield (w.heap.size + 1)) #[] #[]] }, _, gf,
    #[.func (.yield (w.heap.size + 1)) #[] #[]] ++ lb, _, by rw [hr]; exact run_enterLoop_outer _ _ _ _ _, by simp only [resolve, hg]; simp [go_sem]; rfl, ?_, by simp [invoke, go_sem, eg]; rfl, fun _ => h1, ?_⟩
  · intro f' hf'
    simp [Target.leads] at hf'
    subst hf'
    exact hF
  have key := hseq (w.heap.size + 1) (fun pre W => I pre W ∧ W.heap[w.heap.size + 1]? = some (.loop r) ∧ W.heap[w.heap.size]? = some (.deferred (some []))) _ hb
    (fun pre A B row hA hgr hrow => by
      rw [hsize] at hrow
      have hne : ∀ k, k < w.heap.size + 2 → some k ≠ row := fun k hk e => by have := (hrow k e.symm).1; omega
      refine ⟨hI pre A B row hA.1 hgr (fun x e => ?_), (hgr.block _ (Array.getElem?_eq_some_iff.1 hA.2.1).1 (hne _ (by omega))).trans hA.2.1, (hgr.block _ (Array.getElem?_eq_some_iff.1 hA.2.2).1 (hne _ (by omega))).trans hA.2.2⟩
      obtain ⟨h2, o, ho, hw⟩ := hrow x e
      exact ⟨by omega, o, ho, by cases o <;> first | rfl | (simp [Obj.isWalk] at hw)⟩)
    ?_ ⟨hst, hrec, hdef⟩
  · refine key.mono ?_
    rintro e W2 ⟨⟨v, rfl⟩, xs, hS, hi, hl, hk⟩
    refine ⟨none, _, ?_, hdone _ xs _ (Nat.le_refl _) hS (hI.putObj (.loop { r with state := .exhausted }) hi (by omega) hl rfl) ((World.putObj_heap_other (by omega)).trans hk)⟩
    have := run_endLoop (P := P) hl (by rw [hr]; simp)
    rw [hr] at this ⊢
    exact this
  · rintro pre x W ⟨hi, hl, hk⟩ hPm
    have hlt : w.heap.size + 1 < W.heap.size := (Array.getElem?_eq_some_iff.1 hl).1
    have hy := run_yield (P := P) (args := encs x) hl (by rw [hr]; exact hps x)
    rw [hr] at hy
    have busy : (W.putObj (w.heap.size + 1) (.loop { r with state := .busy })).heap[w.heap.size + 1]? = some (.loop { r with state := .busy }) := World.putObj_heap_same hlt
    have dfr : (W.putObj (w.heap.size + 1) (.loop { r with state := .busy })).heap[w.heap.size]? = some (.deferred (some [])) := (World.putObj_heap_other (by omega)).trans hk
    refine ⟨fn, _, assign, body, hy, roundIn_of_wpIn hfn (hassign _ x W _ ⟨_, run_beginRound hl (by rw [hr]), ?_⟩)⟩
    refine wpIn_mono (hbody _ pre x _ (hI.putObj (.loop { r with state := .busy }) hi (by omega) hl rfl) hPm) ?_
    rintro e a3 W3 ⟨rfl, hk3, hkp, hi3⟩
    have b3 := hk3.same _ _ (by omega) busy rfl
    have d3 := hk3.same _ _ (Nat.le_refl _) dfr rfl
    have hend := run_endRound (P := P) none b3
    have hback : ({ ({ r with state := .busy } : Loop) with state := if (none : Option Code).isNone = true then .ready else .done, pending := none } : Loop) = r := by rw [hr]; rfl
    rw [hback] at hend
    refine ⟨_, _, hend, rfl, ⟨hI.putObj (.loop r) hi3 (by omega) b3 rfl, World.putObj_heap_same (Array.getElem?_eq_some_iff.1 b3).1, (World.putObj_heap_other (by omega)).trans d3⟩, ?_⟩
    exact ((KpW.putObj _ hl rfl).trans hkp).trans (KpW.putObj _ b3 rfl)
end Go.Proofs.YtjgdmbfkondakaaGreatDoor
