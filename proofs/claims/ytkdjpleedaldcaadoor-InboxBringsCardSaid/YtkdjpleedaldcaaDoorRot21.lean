/-
  TWO ROWS, EACH TURNED BY ONE ('x, y = append(x[1:], x[0]), append(y[1:], y[0])'): in whatever order the memory is made.
-/
import Derived.Test.YtkdjpleedaldcaaDoorBrW21
import Derived.Deep.RegionLaw
namespace Go.Proofs.YtkdjpleedaldcaaDoor
open Go.RowKit Go.Maps
set_option maxRecDepth 20000

theorem own_head {w : World} {R : Nat} {e : TypeId} {a : Option Addr} {n cap : Nat} {c : Value} {cs : List Value} (h : Own1 w R e (.slice a n cap) (c :: cs)) : ∃ g, a = some ⟨g, 0, none⟩ ∧ n = cs.length + 1 ∧ n ≤ cap ∧ cap ≤ maxLen ∧ R ≤ g ∧ g < w.heap.size ∧ w.cell? ⟨g, 0, none⟩ = some c ∧ ∃ cur, w.heap[g]? = some (.cells cur e (0, 0)) := by
  rcases h.2 with ⟨h1, h2⟩ | ⟨g, cap', cur, h1, hg, hb, hnc, hcm, hcs, htk⟩
  · simp at h2
  · injection h1 with h1 h2 h3
    subst h1 h3
    have hc := World.ownsRow.cells (w := w) h (g := g) rfl 0 c rfl
    rw [Addr.add_lit] at hc
    exact ⟨g, rfl, h2, by omega, hcm, hg, World.block_lt_of_cell? w ⟨g, 0, none⟩ hc, hc, cur, hb⟩

/-- One row's part: nothing was done; its first value lies in a slice of its own; it is turned. -/
def Stg (N R go : Nat) (u : Value) (cs : List Value) (X : World) : Nat → Value → Prop
  | 0, _ => True
  | 1, v => ∃ d, v = .slice (some ⟨d, 0, none⟩) 1 1 ∧ N ≤ d ∧ X.cell? ⟨d, 0, none⟩ = some u
  | _, v => (∃ g' o c, v = .slice (some ⟨g', o, none⟩) (cs.length + 1) c ∧ g' ≠ go) ∧ RowIn R X v (cs ++ [u])
theorem Stg.keep {N R go g : Nat} {u : Value} {cs : List Value} {X Y : World} {i : Nat} {v : Value} (h : Stg N R go u cs X i v) (hg : X.grownBy Y (some g)) (hgo : g = go) (hN : g < N) : Stg N R go u cs Y i v := by
  subst hgo
  match i with
  | 0 => trivial
  | 1 =>
    obtain ⟨d, h1, h2, h3⟩ := h
    exact ⟨d, h1, h2, hg.cell h3 (by simp; omega)⟩
  | _ + 2 =>
    obtain ⟨⟨g', o, c, rfl, h2⟩, h3⟩ := h
    refine ⟨⟨g', o, c, rfl, h2⟩, ?_⟩
    rcases h3 with ⟨h4, _⟩ | ⟨g1, o1, c1, h4, h5, h6, h7, h8⟩
    · cases h4
    · injection h4 with h4 h9 h10
      injection h4 with h4
      injection h4 with h4 h11
      subst h4 h11 h10
      exact .inr ⟨g', o, c, by rw [h9], h5, h6, h7, fun j x hj => hg.cell (h8 j x hj) (by simpa using h2)⟩
theorem Stg.fresh {N R go : Nat} {u : Value} {cs : List Value} {X Y : World} {i : Nat} {v : Value} (h : Stg N R go u cs X i v) (hg : X.grownBy Y none) : Stg N R go u cs Y i v := by
  match i with
  | 0 => trivial
  | 1 =>
    obtain ⟨d, h1, h2, h3⟩ := h
    exact ⟨d, h1, h2, hg.cell h3 (by simp)⟩
  | _ + 2 =>
    obtain ⟨h2, h3⟩ := h
    refine ⟨h2, ?_⟩
    rcases h3 with h4 | ⟨g1, o1, c1, h4, h5, h6, h7, h8⟩
    · exact .inl h4
    · exact .inr ⟨g1, o1, c1, h4, h5, h6, h7, fun j x hj => hg.cell (h8 j x hj) (by simp)⟩

/-- Two rows x, y in the blocks g, k. -/
structure Rot (N R g k nx cx ny cy : Nat) (u z : Value) (xs ys : List Value) (w0 X : World) (i : Nat) (v : Value) (j : Nat) (v' : Value) : Prop where
  bel : Below R w0 X
  big : N ≤ X.heap.size
  gN : g < N
  kN : k < N
  ne : g ≠ k
  Rg : R ≤ g
  Rk : R ≤ k
  hx : nx = xs.length + 1
  hy : ny = ys.length + 1
  lx : xs.length ≤ 1000
  ly : ys.length ≤ 1000
  ux : u.oneCell' = true
  uz : z.oneCell' = true
  x : Own1 X R 32 (.slice (some ⟨g, 0, none⟩) nx cx) (u :: xs)
  y : Own1 X R 3 (.slice (some ⟨k, 0, none⟩) ny cy) (z :: ys)
  sx : Stg N R k u xs X i v
  sy : Stg N R g z ys X j v'

section
variable {N R g k nx cx ny cy i j ox : Nat} {u z v v' : Value} {xs ys : List Value} {w0 X : World}
theorem Rot.drew (h : Rot N R g k nx cx ny cy u z xs ys w0 X 0 v 0 v') : Rot N R g k nx cx ny cy u z xs ys w0 X.drew 0 v 0 v' :=
  ⟨h.bel.drew, h.big, h.gN, h.kN, h.ne, h.Rg, h.Rk, h.hx, h.hy, h.lx, h.ly, h.ux, h.uz, h.x, h.y, trivial, trivial⟩
theorem Rot.allocX (h : Rot N R g k nx cx ny cy u z xs ys w0 X 0 v j v') : Rot N R g k nx cx ny cy u z xs ys w0 (X.alloc (.cells #[u] 32)) 1 (.slice (some ⟨X.heap.size, 0, none⟩) 1 1) j v' :=
  ⟨h.bel.alloc (Nat.le_trans (by have := h.Rg; have := h.gN; omega) h.big) _, by have := h.big; simp; omega, h.gN, h.kN, h.ne, h.Rg, h.Rk, h.hx, h.hy, h.lx, h.ly, h.ux, h.uz, World.ownsRow.alloc h.x _, World.ownsRow.alloc h.y _,
    ⟨X.heap.size, rfl, h.big, by rw [cell_of_row _ X.heap.size 0 #[u] 32 (0, 0) (heap_alloc_new X _)]; rfl⟩, h.sy.fresh (World.grownBy_alloc X _ none)⟩
theorem Rot.allocY (h : Rot N R g k nx cx ny cy u z xs ys w0 X i v 0 v') : Rot N R g k nx cx ny cy u z xs ys w0 (X.alloc (.cells #[z] 3)) i v 1 (.slice (some ⟨X.heap.size, 0, none⟩) 1 1) :=
  ⟨h.bel.alloc (Nat.le_trans (by have := h.Rg; have := h.gN; omega) h.big) _, by have := h.big; simp; omega, h.gN, h.kN, h.ne, h.Rg, h.Rk, h.hx, h.hy, h.lx, h.ly, h.ux, h.uz, World.ownsRow.alloc h.x _, World.ownsRow.alloc h.y _,
    h.sx.fresh (World.grownBy_alloc X _ none), ⟨X.heap.size, rfl, h.big, by rw [cell_of_row _ X.heap.size 0 #[z] 3 (0, 0) (heap_alloc_new X _)]; rfl⟩⟩
theorem Rot.runX (hoo : ox = 1 ∨ (ox = 0 ∧ cx ≤ 1)) (h : Rot N R g k nx cx ny cy u z xs ys w0 X 1 v j v') (ty : TypeId) : ∃ q Y, (Builtin.append_ #[29, 29] ty #[.slice (some ⟨g, ox, none⟩) (nx - 1) (cx - 1), v]).run Tryd.prog X = .ok q Y ∧ Rot N R g k nx cx ny cy u z xs ys w0 Y 2 q j v' := by
  obtain ⟨d, rfl, hd, hc⟩ := h.sx
  obtain ⟨q, Y, hrun, hrow, hgr, hown, g', o', c', hq, hg'⟩ := run_rot2 29 32 _ _ isU16 (by decide) hoo h.x h.hx h.lx hc h.ux ty (Nat.le_trans (by have := h.Rg; have := h.gN; omega) h.big)
  refine ⟨q, Y, hrun, ⟨h.bel.grown hgr (Nat.le_trans (by have := h.Rg; have := h.gN; omega) h.big) (fun k hk => by injection hk with hk; rw [← hk]; exact h.Rg), Nat.le_trans h.big hgr.size, h.gN, h.kN, h.ne, h.Rg, h.Rk, h.hx, h.hy, h.lx, h.ly, h.ux, h.uz, hown, ?_, ⟨⟨g', o', c', hq, ?_⟩, hrow⟩, h.sy.keep hgr rfl h.gN⟩⟩
  · exact World.ownsRow.kept h.y hgr (.inr (by simp [Value.ownBlock]; exact fun e => h.ne e.symm))
  · have := h.ne
    have := h.big
    have := h.kN
    omega
theorem Rot.runY (hoo : ox = 1 ∨ (ox = 0 ∧ cy ≤ 1)) (h : Rot N R g k nx cx ny cy u z xs ys w0 X i v 1 v') (ty : TypeId) : ∃ q Y, (Builtin.append_ #[30, 30] ty #[.slice (some ⟨k, ox, none⟩) (ny - 1) (cy - 1), v']).run Tryd.prog X = .ok q Y ∧ Rot N R g k nx cx ny cy u z xs ys w0 Y i v 2 q := by
  obtain ⟨d, rfl, hd, hc⟩ := h.sy
  obtain ⟨q, Y, hrun, hrow, hgr, hown, g', o', c', hq, hg'⟩ := run_rot2 30 3 _ _ isI (by decide) hoo h.y h.hy h.ly hc h.uz ty (Nat.le_trans (by have := h.Rg; have := h.gN; omega) h.big)
  refine ⟨q, Y, hrun, ⟨h.bel.grown hgr (Nat.le_trans (by have := h.Rg; have := h.gN; omega) h.big) (fun k hk => by injection hk with hk; rw [← hk]; exact h.Rk), Nat.le_trans h.big hgr.size, h.gN, h.kN, h.ne, h.Rg, h.Rk, h.hx, h.hy, h.lx, h.ly, h.ux, h.uz, ?_, hown, h.sx.keep hgr rfl h.kN, ⟨⟨g', o', c', hq, ?_⟩, hrow⟩⟩⟩
  · exact World.ownsRow.kept h.x hgr (.inr (by simp [Value.ownBlock]; exact h.ne))
  · have := h.ne
    have := h.big
    have := h.gN
    omega
theorem Rot.cells (h : Rot N R g k nx cx ny cy u z xs ys w0 X i v j v') : X.cell? ⟨g, 0, none⟩ = some u ∧ X.cell? ⟨k, 0, none⟩ = some z := by
  obtain ⟨_, e, _, _, _, _, _, h1, _⟩ := own_head h.x
  obtain ⟨_, e', _, _, _, _, _, h2, _⟩ := own_head h.y
  injection e with e
  injection e' with e'
  injection e with e
  injection e' with e'
  subst e e'
  exact ⟨h1, h2⟩
theorem Rot.done {d k0 : Nat} {K : List Nat} (h : Rot N R g k nx cx ny cy (.int .u16 ((d + k0 : Nat) : Int)) (.int .i64 ((d + k0 : Nat) : Int)) (lcells d K) (hwcells d K) w0 X 2 v 2 v') :
    ∃ a c a' c', v = .slice a (K ++ [k0]).length c ∧ v' = .slice a' (K ++ [k0]).length c' ∧ RowIn R X v (lcells d (K ++ [k0])) ∧ RowIn R X v' (hwcells d (K ++ [k0])) ∧ Below R w0 X := by
  obtain ⟨⟨g', o, c, e1, _⟩, r1⟩ := h.sx
  obtain ⟨⟨g2, o2, c2, e2, _⟩, r2⟩ := h.sy
  refine ⟨some ⟨g', o, none⟩, c, some ⟨g2, o2, none⟩, c2, ?_, ?_, ?_, ?_, h.bel⟩
  · rw [e1, lcells_len, List.length_append, List.length_singleton]
  · rw [e2, hwcells_len, List.length_append, List.length_singleton]
  · rw [lcells_snoc]; exact r1
  · rw [hwcells_snoc]; exact r2
theorem step_rotX {ops : Array Oper} {o : Oper} {a : Act} {K : Act → World → Prop} {Q : Exit → Act → World → Prop} {E : Prop} (hgd : o.guard = none) (s x : Operand)
    (ho : o.op = Op.call { callee := Callee.builtin Builtin.append, args := #[s, x], argTypes := #[29, 29] }) (hs : a.eval s = .slice (some ⟨g, ox, none⟩) (nx - 1) (cx - 1)) (hoo : ox = 1 ∨ (ox = 0 ∧ cx ≤ 1)) (h : Rot N R g k nx cx ny cy u z xs ys w0 X 1 v j v') (hx : a.eval x = v)
    (hK : ∀ q Y, Rot N R g k nx cx ny cy u z xs ys w0 Y 2 q j v' → K (a.put o.dst q) Y) : if Region.wanted o (yielded ops a.tmps) = true then Oper.wp Tryd.prog o a X K Q else E := by
  have hw : Region.wanted o (yielded ops a.tmps) = true := by simp [Region.wanted, hgd]
  rw [if_pos hw]
  obtain ⟨q, Y, hrun, hR⟩ := h.runX hoo o.type
  unfold Oper.wp
  simp [execOp, ho, resolve, invoke, builtin, hs, hx, hrun, Result.andThen]
  exact hK _ _ hR
theorem step_rotY {ops : Array Oper} {o : Oper} {a : Act} {K : Act → World → Prop} {Q : Exit → Act → World → Prop} {E : Prop} (hgd : o.guard = none) (s x : Operand)
    (ho : o.op = Op.call { callee := Callee.builtin Builtin.append, args := #[s, x], argTypes := #[30, 30] }) (hs : a.eval s = .slice (some ⟨k, ox, none⟩) (ny - 1) (cy - 1)) (hoo : ox = 1 ∨ (ox = 0 ∧ cy ≤ 1)) (h : Rot N R g k nx cx ny cy u z xs ys w0 X i v 1 v') (hx : a.eval x = v')
    (hK : ∀ q Y, Rot N R g k nx cx ny cy u z xs ys w0 Y i v 2 q → K (a.put o.dst q) Y) : if Region.wanted o (yielded ops a.tmps) = true then Oper.wp Tryd.prog o a X K Q else E := by
  have hw : Region.wanted o (yielded ops a.tmps) = true := by simp [Region.wanted, hgd]
  rw [if_pos hw]
  obtain ⟨q, Y, hrun, hR⟩ := h.runY hoo o.type
  unfold Oper.wp
  simp [execOp, ho, resolve, invoke, builtin, hs, hx, hrun, Result.andThen]
  exact hK _ _ hR
end
end Go.Proofs.YtkdjpleedaldcaaDoor
