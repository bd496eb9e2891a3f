/-
  BOTH WINDOWS, the program's and the document's, beside an act in a box.
-/
import Derived.Test.YthdoilinpeheiaaDoorRAck20
import Derived.Test.YthdoilinpeheiaaDoorLawBounds20
namespace Go.Proofs.YthdoilinpeheiaaDoor
open Go.RowKit
set_option maxRecDepth 20000

/-- Both windows, apart: the program's is told by m, the document's by mr. -/
structure Tw (B : Nat) (w0 w : World) (p q : Nat) (m mr : Wn) : Prop where
  X : Lw B w0 w p m
  rok : mr.Ok
  r : ∃ v g, RAt w q v mr g ∧ ∃ k, v.ownBlock = some k ∧ B ≤ k ∧ k ≠ p
  pq : p ≠ q
  lowq : B ≤ q
/-- .. beside an act. -/
structure Rw (B : Nat) (w0 w : World) (p q : Nat) (m mr : Wn) (qa : Nat) (a : Ac) : Prop where
  T : Tw B w0 w p q m mr
  act : w.heap[qa]? = some (.cells (acells a).toArray 31 (0, 0))
  ap : qa ≠ p
  aq : qa ≠ q
section
variable {B p q qa : Nat} {w0 w : World} {m mr : Wn} {a : Ac}
theorem Tw.onW {w' : World} {m' : Wn} (h : Tw B w0 w p q m mr) (X : Lw B w0 w' p m') (o : Only p w w') : Tw B w0 w' p q m' mr := by
  obtain ⟨v, g, hr, k, hk, hB, hp⟩ := h.r
  obtain ⟨j, hj, hjl⟩ := hr.row_lt h.rok.s1
  have : j = k := by rw [hk] at hj; injection hj with hj; exact hj.symm
  subst this
  exact ⟨X, h.rok, ⟨v, g, hr.same (o.block q hr.lt (fun e => h.pq e.symm)) (fun i hi => by rw [hk] at hi; injection hi with hi; subst hi; exact o.block _ hjl hp), _, hk, hB, hp⟩, h.pq, h.lowq⟩
theorem Tw.go {w' : World} (h : Tw B w0 w p q m mr) (b : Below w.heap.size w w') : Tw B w0 w' p q m mr := h.onW (h.X.go b) (Only.of_below b)
theorem Tw.onR {w' : World} {mr' : Wn} {v' : Value} {g' : Nat → Nat} (h : Tw B w0 w p q m mr) (r : RAt w' q v' mr' g') (o : Only q w w') (ok : mr'.Ok) (hv : ∃ k, v'.ownBlock = some k ∧ B ≤ k ∧ k ≠ p) : Tw B w0 w' p q m mr' :=
  ⟨⟨h.X.at.same (o.block p h.X.at.lt h.pq), h.X.ok, h.X.low, h.X.bel.trans (o.below h.lowq h.X.size), h.X.tab, h.X.pos⟩, ok, ⟨v', g', r, hv⟩, h.pq, h.lowq⟩
theorem Tw.rlt (h : Tw B w0 w p q m mr) : q < w.heap.size := by
  obtain ⟨v, g, hr, _⟩ := h.r
  exact hr.lt
theorem Tw.rcell (h : Tw B w0 w p q m mr) : w.cell? ⟨q, 2, none⟩ = some (.int .u16 mr.b) := by
  obtain ⟨v, g, hr, _⟩ := h.r
  exact hr.cells.2.2.1
theorem Rw.lt (h : Rw B w0 w p q m mr qa a) : qa < w.heap.size := by
  rcases Nat.lt_or_ge qa w.heap.size with hb | hb
  · exact hb
  · have : w.heap[qa]? = none := by simpa using hb
    rw [h.act] at this; cases this
theorem Rw.cell (h : Rw B w0 w p q m mr qa a) : w.cell? ⟨qa, 0, none⟩ = some (.int .i64 a.kind) ∧ w.cell? ⟨qa, 1, none⟩ = some (.int .i64 a.hv) ∧ w.cell? ⟨qa, 2, none⟩ = some (.int .i64 a.now) ∧ w.cell? ⟨qa, 3, none⟩ = some (.int .u16 a.num) ∧ w.cell? ⟨qa, 4, none⟩ = some (.int .u64 a.set) := by
  refine ⟨?_, ?_, ?_, ?_, ?_⟩ <;> rw [cell_of_row w qa _ _ 31 (0, 0) h.act] <;> rfl
theorem Rw.cells6 (h : Rw B w0 w p q m mr qa a) : (w.cell? ⟨qa, 0, none⟩ = some (.int .i64 a.kind) ∧ w.cell? ⟨qa, 1, none⟩ = some (.int .i64 a.hv) ∧ w.cell? ⟨qa, 2, none⟩ = some (.int .i64 a.now) ∧ w.cell? ⟨qa, 3, none⟩ = some (.int .u16 a.num) ∧ w.cell? ⟨qa, 4, none⟩ = some (.int .u64 a.set)) ∧ w.cell? ⟨q, 2, none⟩ = some (.int .u16 mr.b) := ⟨h.cell, h.T.rcell⟩
theorem Rw.go {w' : World} (h : Rw B w0 w p q m mr qa a) (b : Below w.heap.size w w') : Rw B w0 w' p q m mr qa a := ⟨h.T.go b, (b.block qa h.lt).trans h.act, h.ap, h.aq⟩
theorem Rw.onW {w' : World} {m' : Wn} (h : Rw B w0 w p q m mr qa a) (X : Lw B w0 w' p m') (o : Only p w w') : Rw B w0 w' p q m' mr qa a := ⟨h.T.onW X o, (o.block qa h.lt h.ap).trans h.act, h.ap, h.aq⟩
theorem Rw.onR {w' : World} {mr' : Wn} (h : Rw B w0 w p q m mr qa a) (T : Tw B w0 w' p q m mr') (o : Only q w w') : Rw B w0 w' p q m mr' qa a := ⟨T, (o.block qa h.lt h.aq).trans h.act, h.ap, h.aq⟩
theorem Rw.send (h : Rw B w0 w p q m mr qa a) (hv now : Int) : Calls Tryd.prog 12 #[.pointer (some ⟨p, 0, none⟩), .int .i64 hv, .int .i64 now] w fun e w' =>
    ∃ v, e = .returned v ∧ Own1 w' w.heap.size 3 v (icells (sendL m (nowN now) (lookN m hv))) ∧ Rw B w0 w' p q (sendM m (nowN now) (lookN m hv)) mr qa a ∧ w.heap.size ≤ w'.heap.size := by
  refine (send_at h.T.X.at h.T.X.ok hv now).mono ?_
  rintro e w' ⟨v, rfl, r, at', o⟩
  exact ⟨v, rfl, r, h.onW (h.T.X.on at' o (sendM_ok h.T.X.ok (nowN_le now) _ (lookN_le m hv))) o, o.size⟩
theorem Rw.rsend (h : Rw B w0 w p q m mr qa a) (hv now : Int) {c : Nat} {v : Value} {cs : List Value} (hrow : Own1 w c 3 v cs) (hc : q < c) (hps : p < w.heap.size) : Calls Tryd.prog 13 #[.pointer (some ⟨q, 0, none⟩), .int .i64 hv, .int .i64 now] w fun e w' =>
    ∃ u, e = .returned u ∧ Row w' u (icells (sendL mr (nowN now) (lookN mr hv))) ∧ Row w' v cs ∧ Rw B w0 w' p q m (sendM mr (nowN now) (lookN mr hv)) qa a := by
  obtain ⟨v0, g0, hr, k0, hk0, hB0, hp0⟩ := h.T.r
  refine (rsend_at hr h.T.rok hv now).mono ?_
  rintro e w' ⟨u, v', g', rfl, r1, r2, o, k, hk, hks⟩
  have hB : B ≤ w.heap.size := h.T.X.size
  exact ⟨u, rfl, r1, (Only.row hrow o hc).row, h.onR (h.T.onR r2 o (sendM_ok h.T.rok (nowN_le now) _ (lookN_le mr hv)) ⟨k, hk, by omega, by omega⟩) o⟩
theorem Rw.ack (h : Rw B w0 w p q m mr qa a) (num set : Nat) (hs : IsSet set) : Calls Tryd.prog 15 #[.pointer (some ⟨p, 0, none⟩), .int .u16 num, .int .u64 set] w fun e w' =>
    e = .returned (.int .i64 (ackN m num)) ∧ Rw B w0 w' p q (ackW m num set) mr qa a := by
  refine (ack_at h.T.X.at h.T.X.ok num set hs h.T.X.tabs).mono ?_
  rintro e w' ⟨rfl, at', o⟩
  exact ⟨rfl, h.onW (h.T.X.on at' o (ackW_ok h.T.X.ok _ _)) o⟩
theorem Rw.rack (h : Rw B w0 w p q m mr qa a) (num set : Nat) (hn : num < 65536) (hs : IsSet set) : Calls Tryd.prog 16 #[.pointer (some ⟨q, 0, none⟩), .int .u16 num, .int .u64 set] w fun e w' =>
    e = .returned (.int .i64 (ackN mr num)) ∧ Rw B w0 w' p q m (ackW mr num set) qa a := by
  obtain ⟨v0, g0, hr, k0, hk0, hB0, hp0⟩ := h.T.r
  refine (rack_at hr h.T.rok num set hn hs).mono ?_
  rintro e w' ⟨rfl, v', g', r2, o, hv⟩
  have hB : B ≤ w.heap.size := h.T.X.size
  have hpl := h.T.X.at.lt
  refine ⟨rfl, h.onR (h.T.onR r2 o (ackW_ok h.T.rok _ _) ?_) o⟩
  rcases hv with rfl | ⟨k, hk, hks⟩
  · exact ⟨k0, hk0, hB0, hp0⟩
  · exact ⟨k, hk, by omega, by omega⟩
theorem Rw.reset (h : Rw B w0 w p q m mr qa a) : Calls Tryd.prog 17 #[.pointer (some ⟨p, 0, none⟩)] w fun e w' => e = .returned (.tuple #[]) ∧ Rw B w0 w' p q (newW m.s m.t) mr qa a := by
  refine (reset_at h.T.X.at h.T.X.ok.s1).mono ?_
  rintro e w' ⟨rfl, at', o⟩
  exact ⟨rfl, h.onW (h.T.X.on at' o (newW_ok h.T.X.ok.s1 h.T.X.ok.s2 h.T.X.ok.t1 h.T.X.ok.t2)) o⟩
theorem Rw.rreset (h : Rw B w0 w p q m mr qa a) : Calls Tryd.prog 18 #[.pointer (some ⟨q, 0, none⟩)] w fun e w' => e = .returned (.tuple #[]) ∧ Rw B w0 w' p q m (newW mr.s mr.t) qa a := by
  obtain ⟨v0, g0, hr, k0, hk0, hB0, hp0⟩ := h.T.r
  refine (rreset_at hr h.T.rok).mono ?_
  rintro e w' ⟨rfl, v', g', r2, o, k, hk, hks⟩
  have hB : B ≤ w.heap.size := h.T.X.size
  have hpl := h.T.X.at.lt
  exact ⟨rfl, h.onR (h.T.onR r2 o (newW_ok h.T.rok.s1 h.T.rok.s2 h.T.rok.t1 h.T.rok.t2) ⟨k, hk, by omega, by omega⟩) o⟩
theorem Rw.opens (h : Rw B w0 w p q m mr qa a) : Calls Tryd.prog 20 #[.pointer (some ⟨p, 0, none⟩)] w fun e w' => e = .returned (.int .i64 (openN m)) ∧ Rw B w0 w' p q m mr qa a := by
  refine (open_at h.T.X.at h.T.X.ok.s1 h.T.X.ok.setS h.T.X.ok.setT h.T.X.tabs).mono ?_
  rintro e w' ⟨rfl, b⟩
  exact ⟨rfl, h.go b⟩
theorem Rw.ropens (h : Rw B w0 w p q m mr qa a) : Calls Tryd.prog 21 #[.pointer (some ⟨q, 0, none⟩)] w fun e w' => e = .returned (.int .i64 (openN mr)) ∧ Rw B w0 w' p q m mr qa a := by
  obtain ⟨v0, g0, hr, _⟩ := h.T.r
  refine (ropen_at hr h.T.rok).mono ?_
  rintro e w' ⟨rfl, b⟩
  exact ⟨rfl, h.go b⟩
end
end Go.Proofs.YthdoilinpeheiaaDoor
