/-
  THE DOCUMENT's Same, Put, Add, Join and Good, by their contracts.
-/
import Derived.Test.YtdgbcjdikkmgdabRefs
namespace Go.Proofs.Ytdgbcjdikkmgdab
open Go.RowKit

theorem neqRng (a b c d : Nat) (w : World) : (binOp .neq 37 (.agg #[.int .u64 (a : Int), .int .u64 (b : Int)]) (.agg #[.int .u64 (c : Int), .int .u64 (d : Int)])).run Try.prog w = .ok (.bool (!(decide (a = c) && decide (b = d)))) w := by
  have u3 := Try.underlying26
  have a3 := Try.isAgg26
  have z3 := Try.sizeOf26
  have hS : Try.prog.underlying 37 = some (.struct (Try.prog.fieldsOf 37)) := by kernel_rfl
  have hp : Try.prog.stoodInHeld 37 = false := by kernel_rfl
  rw [run_neq_struct, show (10000 : Nat) = 9999 + 1 from rfl, run_equalIn_agg w 9999 37 _ _ hS hp]
  simp only [Program.fieldsOf, Try.underlying37]
  go_simp
  by_cases h1 : a = c <;> by_cases h2 : b = d <;> simp [h1, h2] <;> omega
theorem eqGuardRng : Try.prog.eqGuardType Try.prog.depth 37 = false := by kernel_rfl

/-- Are they the very same as far as k? -/
theorem same_of {a b : List (Nat × Nat)} (hl : a.length = b.length) (h : ∀ i (hi : i < a.length), a[i] = b[i]'(by omega)) : a = b := List.ext_getElem hl fun i h1 _ => h i h1

/-- The box of x, and what else a round of Put carries. -/
structure PutAt (w wr : World) (X : Nat) (v : Value) (out : List (Nat × Nat)) (x : Nat × Nat) : Prop where
  box : wr.heap[X]? = some (.cells #[.int .u64 (x.1 : Int), .int .u64 (x.2 : Int)] 37 (0, 0))
  own : Own2 wr (X + 1) v out
  bel : Below X w wr
theorem PutAt.lt {w wr : World} {X : Nat} {v : Value} {out : List (Nat × Nat)} {x : Nat × Nat} (h : PutAt w wr X v out x) : X < wr.heap.size := (Array.getElem?_eq_some_iff.1 h.box).1
theorem cell20 {w : World} {b : Nat} {u v : Value} {t : TypeId} (h : w.heap[b]? = some (.cells #[u, v] t (0, 0))) : w.cell? ⟨b, 0, none⟩ = some u ∧ w.cell? ⟨b, 1, none⟩ = some v ∧ w.frozen? ⟨b, 0, none⟩ = false ∧ w.frozen? ⟨b, 1, none⟩ = false := by
  simp [World.cell?, World.frozen?, h]
theorem PutAt.alloc {w wr : World} {X : Nat} {v : Value} {out : List (Nat × Nat)} {x : Nat × Nat} (h : PutAt w wr X v out x) (o : Obj) : PutAt w (wr.alloc o) X v out x :=
  ⟨by rw [Below.heap_alloc _ _ _ h.lt]; exact h.box, h.own.alloc o, h.bel.alloc (Nat.le_of_lt h.lt) o⟩
theorem PutAt.grown {w wr w' : World} {X : Nat} {v v' : Value} {out out' : List (Nat × Nat)} {x : Nat × Nat} (h : PutAt w wr X v out x) (ho : Own2 w' (X + 1) v' out') (hg : wr.grownBy w' v.ownBlock) : PutAt w w' X v' out' x := by
  refine ⟨?_, ho, h.own.below hg h.bel (Nat.le_of_lt h.lt) (Nat.le_succ _)⟩
  rw [hg.block X h.lt fun he => ?_]
  · exact h.box
  · have := (World.ownsRow.lt h.own X he.symm).1
    omega

theorem PutAt.other {w wr : World} {X : Nat} {v : Value} {out : List (Nat × Nat)} {x : Nat × Nat} (h : PutAt w wr X v out x) (p : Addr) (hp : p.block = X) (u : Value) : Own2 (wr.setCell p u) (X + 1) v out ∧ Below X w (wr.setCell p u) := by
  refine ⟨h.own.same fun g hg => ?_, h.bel.setCell (by omega) u⟩
  have := (World.ownsRow.lt h.own g hg).1
  exact heap_setCell_other _ _ _ _ (by omega)
theorem PutAt.lo {w wr : World} {X : Nat} {v : Value} {out : List (Nat × Nat)} {x : Nat × Nat} (h : PutAt w wr X v out x) (n : Nat) : PutAt w (wr.setCell ⟨X, 0, none⟩ (.int .u64 (n : Int))) X v out (n, x.2) := by
  obtain ⟨h1, h2⟩ := h.other ⟨X, 0, none⟩ rfl (.int .u64 (n : Int))
  refine ⟨?_, h1, h2⟩
  have := heap_setCell_same wr X 0 _ _ (.int .u64 (n : Int)) h.box
  simpa using this
theorem PutAt.hi {w wr : World} {X : Nat} {v : Value} {out : List (Nat × Nat)} {x : Nat × Nat} (h : PutAt w wr X v out x) (n : Nat) : PutAt w (wr.setCell ⟨X, 1, none⟩ (.int .u64 (n : Int))) X v out (x.1, n) := by
  obtain ⟨h1, h2⟩ := h.other ⟨X, 1, none⟩ rfl (.int .u64 (n : Int))
  refine ⟨?_, h1, h2⟩
  have := heap_setCell_same wr X 1 _ _ (.int .u64 (n : Int)) h.box
  simpa using this

end Go.Proofs.Ytdgbcjdikkmgdab
