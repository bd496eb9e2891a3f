/-
  BOTH INBOXES, an act beside them.
-/
import Derived.Test.YtkdjpleedaldcaaRPop21
namespace Go.Proofs.Ytkdjpleedaldcaa
open Go.RowKit Go.Maps
set_option maxRecDepth 20000

theorem blk_ne {w : World} {p q : Nat} {c c' : Array Value} {t t' : TypeId} {z z' : Nat × Nat} (h : w.heap[p]? = some (.cells c t z)) (h' : w.heap[q]? = some (.cells c' t' z')) (ne : t ≠ t') : p ≠ q := fun e => by
  rw [e, h'] at h
  injection h with h
  injection h with _ h _
  exact ne h.symm
theorem RI.stay {B q p : Nat} {w w' : World} {v : Value} {m : Ib} (h : RI B w q v m) (ok : m.Ok) (s : Stay p w w') (hq : q ≠ p) (hr : ∀ g, v.ownBlock = some g → g ≠ p) : RI B w' q v m := by
  refine h.same ((s.cells _ _ _ _ hq h.blk).trans h.blk.symm) fun g hg => ?_
  obtain ⟨g', c, R, rfl, _, hb, _⟩ := h.split ok
  have e : g' = g := by simpa [Value.ownBlock] using hg
  subst e
  exact (s.cells _ _ _ _ (hr g' rfl) hb).trans hb.symm

structure Tw (B : Nat) (w0 w : World) (p q : Nat) (m m' : Ib) : Prop where
  ex : ∃ b v, IAt w p b m ∧ RI B w q v m' ∧ B ≤ b
  ok : m.Ok
  ok' : m'.Ok
  lp : B ≤ p
  lq : B ≤ q
  bel : Below B w0 w
section
variable {B : Nat} {w0 w : World} {p q : Nat} {m m' : Ib}
theorem Tw.size (h : Tw B w0 w p q m m') : B ≤ w.heap.size := by
  obtain ⟨b, v, h1, _⟩ := h.ex
  exact Nat.le_of_lt (Nat.lt_of_le_of_lt h.lp h1.lt)
theorem Tw.go {w' : World} (h : Tw B w0 w p q m m') (b : Below w.heap.size w w') : Tw B w0 w' p q m m' := by
  obtain ⟨c, v, h1, h2, h3⟩ := h.ex
  exact ⟨⟨c, v, h1.go b, h2.go b, h3⟩, h.ok, h.ok', h.lp, h.lq, h.bel.trans (b.mono h.size)⟩
theorem Tw.progD {w' : World} {b c : Nat} {v : Value} {n : Ib} (h : Tw B w0 w p q m m') (h1 : IAt w p b m) (h2 : RI B w q v m') (hb : B ≤ b) (hx : IAt w' p c n) (ok : n.Ok) (hc : B ≤ c) (d : Dry p b w w') : Tw B w0 w' p q n m' ∧ Stay p w w' := by
  have s := d.stay h1
  have hq : q ≠ p := blk_ne h2.blk h1.blk (by decide)
  have hr : ∀ g, v.ownBlock = some g → g ≠ p := fun g hg => by
    obtain ⟨g', c, R, rfl, _, hb, _⟩ := h2.split h.ok'
    have e : g' = g := by simpa [Value.ownBlock] using hg
    subst e
    exact blk_ne hb h1.blk (by decide)
  exact ⟨⟨⟨c, v, hx, h2.stay h.ok' s hq hr, hc⟩, ok, h.ok', h.lp, h.lq, h.bel.trans (d.below h.lp hb h.size)⟩, s⟩
theorem Tw.refD {w' : World} {b : Nat} {v v' : Value} {n : Ib} (h : Tw B w0 w p q m m') (h1 : IAt w p b m) (h2 : RI B w q v m') (hb : B ≤ b) (hx : RI B w' q v' n) (ok : n.Ok) (d : Dry q q w w') : Tw B w0 w' p q m n := by
  have hq : p ≠ q := blk_ne h1.blk h2.blk (by decide)
  have hbq : b ≠ q := fun e => h1.map.noCells (e ▸ h2.blk)
  exact ⟨⟨b, v', h1.same (d.block p h1.lt hq hq) (d.block b h1.map.lt hbq hbq), hx, hb⟩, h.ok, ok, h.lp, h.lq, h.bel.trans (d.below h.lq h.lq h.size)⟩
theorem Tw.take (h : Tw B w0 w p q m m') {num : Nat} (hn : num < 65536) (x : Ms) : Calls Try.prog 11 #[.pointer (some ⟨p, 0, none⟩), .int .u16 num, mv x] w fun e w' => e = .returned (.bool (mayT m num)) ∧ Tw B w0 w' p q (takeM m num x) m' ∧ Stay p w w' := by
  obtain ⟨b, v, h1, h2, hb⟩ := h.ex
  refine (take_at h1 h.ok hn x).mono ?_
  rintro e w' ⟨rfl, hx, d⟩
  exact ⟨rfl, h.progD h1 h2 hb hx (takeM_ok h.ok _ _) hb d⟩
theorem Tw.pop (h : Tw B w0 w p q m m') : Calls Try.prog 13 #[.pointer (some ⟨p, 0, none⟩)] w fun e w' => e = .returned (.bool (m.h 0).isSome) ∧ Tw B w0 w' p q (popM m) m' ∧ Stay p w w' := by
  obtain ⟨b, v, h1, h2, hb⟩ := h.ex
  refine (pop_at h1 h.ok).mono ?_
  rintro e w' ⟨rfl, hx, d⟩
  exact ⟨rfl, h.progD h1 h2 hb hx (popM_ok h.ok) hb d⟩
theorem Tw.reset (h : Tw B w0 w p q m m') : Calls Try.prog 15 #[.pointer (some ⟨p, 0, none⟩)] w fun e w' => e = .returned (.tuple #[]) ∧ Tw B w0 w' p q (newI m.s) m' ∧ Stay p w w' := by
  obtain ⟨b, v, h1, h2, hb⟩ := h.ex
  refine (ireset_at h1 h.ok).mono ?_
  rintro e w' ⟨rfl, b', hx, d, hbb⟩
  exact ⟨rfl, h.progD h1 h2 hb hx (newI_ok h.ok.s1 h.ok.s2) (Nat.le_trans h.size hbb) d⟩
theorem Tw.head (h : Tw B w0 w p q m m') : Calls Try.prog 17 #[.pointer (some ⟨p, 0, none⟩)] w fun e w' => e = .returned (.tuple #[mv ((m.h 0).getD zM), .bool (m.h 0).isSome]) ∧ Below w.heap.size w w' := by
  obtain ⟨b, v, h1, h2, hb⟩ := h.ex
  exact head_at h1 h.ok
theorem Tw.ack (h : Tw B w0 w p q m m') : Calls Try.prog 19 #[.pointer (some ⟨p, 0, none⟩)] w fun e w' => e = .returned (.tuple #[.int .u16 m.n, .int .u64 (ackS m)]) ∧ Below w.heap.size w w' := by
  obtain ⟨b, v, h1, h2, hb⟩ := h.ex
  exact ack_at h1 h.ok
theorem Tw.held (h : Tw B w0 w p q m m') : Calls Try.prog 21 #[.pointer (some ⟨p, 0, none⟩)] w fun e w' => e = .returned (.int .i64 ((heldL m).length : Nat)) ∧ w' = w := by
  obtain ⟨b, v, h1, h2, hb⟩ := h.ex
  exact held_at h1 h.ok
theorem Tw.next (h : Tw B w0 w p q m m') : Calls Try.prog 23 #[.pointer (some ⟨p, 0, none⟩)] w fun e w' => e = .returned (.int .u16 m.n) ∧ w' = w := by
  obtain ⟨b, v, h1, h2, hb⟩ := h.ex
  exact next_at h1 h.ok
theorem Tw.rtake (h : Tw B w0 w p q m m') (num : Nat) (x : Ms) : Calls Try.prog 12 #[.pointer (some ⟨q, 0, none⟩), .int .u16 num, mv x] w fun e w' => e = .returned (.bool (mayT m' num)) ∧ Tw B w0 w' p q m (takeM m' num x) ∧ Dry q q w w' := by
  obtain ⟨b, v, h1, h2, hb⟩ := h.ex
  refine (ritake_at h2 h.ok' h.size num x).mono ?_
  rintro e w' ⟨rfl, ⟨v', hx⟩, d⟩
  exact ⟨rfl, h.refD h1 h2 hb hx (takeM_ok h.ok' _ _) d, d⟩
theorem Tw.rpop (h : Tw B w0 w p q m m') : Calls Try.prog 14 #[.pointer (some ⟨q, 0, none⟩)] w fun e w' => e = .returned (.bool (m'.h 0).isSome) ∧ Tw B w0 w' p q m (popM m') ∧ Dry q q w w' := by
  obtain ⟨b, v, h1, h2, hb⟩ := h.ex
  refine (ripop_at h2 h.ok' h.size).mono ?_
  rintro e w' ⟨rfl, ⟨v', hx⟩, d⟩
  exact ⟨rfl, h.refD h1 h2 hb hx (popM_ok h.ok') d, d⟩
theorem Tw.rreset (h : Tw B w0 w p q m m') : Calls Try.prog 16 #[.pointer (some ⟨q, 0, none⟩)] w fun e w' => e = .returned (.tuple #[]) ∧ Tw B w0 w' p q m (newI m'.s) ∧ Dry q q w w' := by
  obtain ⟨b, v, h1, h2, hb⟩ := h.ex
  refine (rireset_at h2 h.ok' h.size).mono ?_
  rintro e w' ⟨rfl, ⟨v', hx⟩, d⟩
  exact ⟨rfl, h.refD h1 h2 hb hx (newI_ok h.ok'.s1 h.ok'.s2) d, d⟩
theorem Tw.rhead (h : Tw B w0 w p q m m') : Calls Try.prog 18 #[.pointer (some ⟨q, 0, none⟩)] w fun e w' => e = .returned (.tuple #[mv ((m'.h 0).getD zM), .bool (m'.h 0).isSome]) ∧ Below w.heap.size w w' := by
  obtain ⟨b, v, h1, h2, hb⟩ := h.ex
  exact rihead_at h2 h.ok'
theorem Tw.rack (h : Tw B w0 w p q m m') : Calls Try.prog 20 #[.pointer (some ⟨q, 0, none⟩)] w fun e w' => e = .returned (.tuple #[.int .u16 m'.n, .int .u64 (ackS m')]) ∧ Below w.heap.size w w' := by
  obtain ⟨b, v, h1, h2, hb⟩ := h.ex
  exact riack_at h2 h.ok'
theorem Tw.rheld (h : Tw B w0 w p q m m') : Calls Try.prog 22 #[.pointer (some ⟨q, 0, none⟩)] w fun e w' => e = .returned (.int .i64 ((heldL m').length : Nat)) ∧ Below w.heap.size w w' := by
  obtain ⟨b, v, h1, h2, hb⟩ := h.ex
  exact riheld_at h2 h.ok'
theorem Tw.rnext (h : Tw B w0 w p q m m') : w.cell? ⟨q, 1, none⟩ = some (.int .u16 m'.n) := by
  obtain ⟨b, v, h1, h2, hb⟩ := h.ex
  exact h2.cells.2.1
/-- An act beside them. -/
structure Rw (B : Nat) (w0 w : World) (p q : Nat) (m m' : Ib) (qa : Nat) (a : Ac) : Prop where
  T : Tw B w0 w p q m m'
  act : w.heap[qa]? = some (.cells (acells a).toArray 35 (0, 0))
theorem Rw.go {w' : World} {qa : Nat} {a : Ac} (h : Rw B w0 w p q m m' qa a) (b : Below w.heap.size w w') : Rw B w0 w' p q m m' qa a := ⟨h.T.go b, (b.block qa (Array.getElem?_eq_some_iff.1 h.act).1).trans h.act⟩
theorem Rw.prog {w' : World} {n n' : Ib} {qa : Nat} {a : Ac} (h : Rw B w0 w p q m m' qa a) (t : Tw B w0 w' p q n n') (s : Stay p w w') : Rw B w0 w' p q n n' qa a := by
  obtain ⟨b, v, h1, h2, hb⟩ := h.T.ex
  exact ⟨t, s.cells _ _ _ _ (blk_ne h.act h1.blk (by decide)) h.act⟩
theorem Rw.doc {w' : World} {n n' : Ib} {qa : Nat} {a : Ac} (h : Rw B w0 w p q m m' qa a) (t : Tw B w0 w' p q n n') (d : Dry q q w w') : Rw B w0 w' p q n n' qa a := by
  obtain ⟨b, v, h1, h2, hb⟩ := h.T.ex
  have hne : qa ≠ q := blk_ne h.act h2.blk (by decide)
  exact ⟨t, (d.block qa (Array.getElem?_eq_some_iff.1 h.act).1 hne hne).trans h.act⟩
theorem Rw.cells {qa : Nat} {a : Ac} (h : Rw B w0 w p q m m' qa a) : w.cell? ⟨qa, 0, none⟩ = some (.int .i64 a.kind) ∧ w.cell? ⟨qa, 1, none⟩ = some (.int .u16 a.num) ∧ w.cell? ⟨qa, 2, none⟩ = some (.int .i64 a.m.origin) ∧ w.cell? ⟨qa, 3, none⟩ = some (.int .u64 a.m.seq) ∧ w.cell? ⟨qa, 4, none⟩ = some (.int .i64 a.m.hop) ∧ w.cell? ⟨qa, 5, none⟩ = some (.string a.m.ex) ∧ w.cell? ⟨qa, 6, none⟩ = some (.string a.m.key) ∧ w.cell? ⟨qa, 7, none⟩ = some (.string a.m.body) := by
  refine ⟨?_, ?_, ?_, ?_, ?_, ?_, ?_, ?_⟩ <;> rw [cell_of_row w qa _ _ 35 (0, 0) h.act] <;> rfl
end
theorem great_any (m : Ms) (w : World) (h1 : m.ex.size ≤ 140737488355328) (h2 : m.key.size ≤ 140737488355328) (h3 : m.body.size ≤ 140737488355328) : Calls Try.prog 10 #[mv m] w fun e w' => e = .returned (.bool (decide (2000 < m.ex.size + m.key.size + m.body.size))) ∧ Below w.heap.size w w' := by
  have g1 : (m.ex.size : Int) ≤ 140737488355328 := by omega
  have g2 : (m.key.size : Int) ≤ 140737488355328 := by omega
  have g3 : (m.body.size : Int) ≤ 140737488355328 := by omega
  go_enter Try.func10, Try.ntmps10
  go_wp2
  go_ret
  refine ⟨?_, (Below.refl _ w).alloc (Nat.le_refl _) _⟩
  exact ret_b (decide_eq_decide.2 (by omega))
end Go.Proofs.Ytkdjpleedaldcaa
