/-
  A WINDOW AND AN INBOX of the call's own, in memory; rows of numbers beside them.
-/
import Derived.Test.YtkdjpleedaldcaaDoorBrings21
import Derived.ArgAppend
import Derived.Deep.Onto
namespace Go.Proofs.YtkdjpleedaldcaaDoor
open Go.RowKit Go.Maps
set_option maxRecDepth 20000

/-- Both lie from block B on, and below block R. -/
structure Br (B R : Nat) (w0 w : World) (p q b : Nat) (m : W.Wn) (x : Ib) : Prop where
  win : W.WAt w p m
  box : IAt w q b x
  wok : m.Ok
  xok : x.Ok
  lp : B ≤ p
  lq : B ≤ q
  lb : B ≤ b
  up : p < R
  uq : q < R
  ub : b < R
  pq : p ≠ q
  pb : p ≠ b
  siz : R ≤ w.heap.size
  bel : Below B w0 w
  tab : Tab w0
  pos : 0 < B

/-- What lies from block R on is as it was. -/
structure Kept (R : Nat) (w w' : World) : Prop where
  size : w.heap.size ≤ w'.heap.size
  block : ∀ k, R ≤ k → k < w.heap.size → w'.heap[k]? = w.heap[k]?
theorem Kept.refl (R : Nat) (w : World) : Kept R w w := ⟨Nat.le_refl _, fun _ _ _ => rfl⟩
theorem Kept.of_below {R : Nat} {w w' : World} (h : Below w.heap.size w w') : Kept R w w' := ⟨h.size, fun k _ hk => h.block k hk⟩
theorem Kept.trans {R : Nat} {u v w : World} (h : Kept R u v) (k : Kept R v w) : Kept R u w := ⟨Nat.le_trans h.size k.size, fun i hi hu => (k.block i hi (Nat.lt_of_lt_of_le hu h.size)).trans (h.block i hi hu)⟩
theorem Kept.cell {R : Nat} {w w' : World} {g j : Nat} {v : Value} (h : Kept R w w') (hc : w.cell? ⟨g, j, none⟩ = some v) (hg : R ≤ g) : w'.cell? ⟨g, j, none⟩ = some v :=
  (World.cell?_of_block (a := ⟨g, j, none⟩) (h.block g hg (World.block_lt_of_cell? w _ hc))).trans hc

/-- A row that lies from block R on. -/
def RowIn (R : Nat) (w : World) (v : Value) (cs : List Value) : Prop :=
  (v = .slice none 0 0 ∧ cs = []) ∨ ∃ g o cap, v = .slice (some ⟨g, o, none⟩) cs.length cap ∧ cs.length ≤ cap ∧ cap ≤ maxLen ∧ R ≤ g ∧ ∀ j u, cs[j]? = some u → w.cell? ⟨g, o + j, none⟩ = some u
theorem RowIn.keep {R : Nat} {w w' : World} {v : Value} {cs : List Value} (h : RowIn R w v cs) (k : Kept R w w') : RowIn R w' v cs := by
  rcases h with h | ⟨g, o, cap, h1, h2, h3, h4, h5⟩
  · exact .inl h
  · exact .inr ⟨g, o, cap, h1, h2, h3, h4, fun j u hj => k.cell (h5 j u hj) h4⟩
theorem RowIn.of_own {R : Nat} {w : World} {e : TypeId} {v : Value} {cs : List Value} (h : Own1 w R e v cs) : RowIn R w v cs := by
  have h' : w.ownsRow R e 1 v cs.length cs := h
  rcases h.2 with ⟨rfl, hn⟩ | ⟨g, cap, cur, rfl, hg, _, hnc, hcm, _, _⟩
  · exact .inl ⟨rfl, List.eq_nil_of_length_eq_zero hn⟩
  · exact .inr ⟨g, 0, cap, rfl, hnc, hcm, hg, fun j u hj => by have := h'.cells (g := g) rfl j u hj; rwa [Addr.add_lit] at this⟩
theorem RowIn.slice {R : Nat} {w : World} {v : Value} {cs : List Value} (h : RowIn R w v cs) : ∃ a cap, v = .slice a cs.length cap := by
  rcases h with ⟨rfl, rfl⟩ | ⟨g, o, cap, rfl, _⟩
  · exact ⟨_, _, rfl⟩
  · exact ⟨_, _, rfl⟩
theorem RowIn.at {R : Nat} {w : World} {a : Option Addr} {n cap : Nat} {cs : List Value} (h : RowIn R w (.slice a n cap) cs) {i : Nat} (hi : i < cs.length) : ∃ g o, a = some ⟨g, o, none⟩ ∧ R ≤ g ∧ w.cell? ⟨g, o + i, none⟩ = some cs[i] := by
  rcases h with ⟨_, h2⟩ | ⟨g, o, c, h1, _, _, h4, h5⟩
  · subst h2; simp at hi
  · injection h1 with h1 _ _
    exact ⟨g, o, h1, h4, h5 i _ (by simp [hi])⟩
/-- All but the first. -/
theorem RowIn.tail {R : Nat} {w : World} {g o n cap : Nat} {c : Value} {cs : List Value} (h : RowIn R w (.slice (some ⟨g, o, none⟩) n cap) (c :: cs)) : RowIn R w (.slice (some ⟨g, o + 1, none⟩) (n - 1) (cap - 1)) cs := by
  rcases h with ⟨h1, _⟩ | ⟨g', o', c', h1, h2, h3, h4, h5⟩
  · cases h1
  · injection h1 with h1 hn hc
    injection h1 with h1
    injection h1 with hg ho
    subst hg ho hn hc
    refine .inr ⟨g, o + 1, cap - 1, by simp, by simp only [List.length_cons] at h2; omega, by omega, h4, fun j u hj => ?_⟩
    have := h5 (j + 1) u (by simpa using hj)
    rwa [show o + (j + 1) = o + 1 + j by omega] at this
/-- Nothing is left, and no room. -/
theorem RowIn.tail0 {R : Nat} {w : World} {g o n cap : Nat} {c : Value} {cs : List Value} (h : RowIn R w (.slice (some ⟨g, o, none⟩) n cap) (c :: cs)) (h1 : cap ≤ 1) (p : Nat) : RowIn R w (.slice (some ⟨g, p, none⟩) (n - 1) 0) cs := by
  rcases h with ⟨h2, _⟩ | ⟨g', o', c', h2, h3, h4, h5, _⟩
  · cases h2
  · injection h2 with h2 hn hc
    injection h2 with h2
    injection h2 with hg ho
    subst hg ho hn hc
    have hl : cs = [] := List.eq_nil_of_length_eq_zero (by simp only [List.length_cons] at h3; omega)
    subst hl
    exact .inr ⟨g, p, 0, rfl, Nat.le_refl _, by unfold maxLen; omega, h5, fun j u hj => by simp at hj⟩
/-- Rows of values of unlike types lie apart. -/
theorem own_apart {w : World} {base base' : Nat} {e e' : TypeId} {v v' : Value} {cs cs' : List Value} (h : Own1 w base e v cs) (h' : Own1 w base' e' v' cs') (ne : e ≠ e') : v.ownBlock = none ∨ v.ownBlock ≠ v'.ownBlock := by
  rcases h.2 with ⟨rfl, _⟩ | ⟨g, cap, cur, rfl, _, hg, _⟩
  · exact .inl rfl
  · rcases h'.2 with ⟨rfl, _⟩ | ⟨g', cap', cur', rfl, _, hg', _⟩
    · exact .inr (by simp [Value.ownBlock])
    · refine .inr fun hgg => ?_
      simp only [Value.ownBlock, Option.some.injEq] at hgg
      subst hgg
      rw [hg] at hg'
      injection hg' with hg'
      injection hg' with _ ht _
      exact ne ht

section
variable {B R p q b : Nat} {w0 w : World} {m : W.Wn} {x : Ib}
theorem Br.keep {w' : World} (h : Br B R w0 w p q b m x) (hb : Below R w w') (hB : B ≤ R) : Br B R w0 w' p q b m x :=
  ⟨h.win.below hb h.up, h.box.below hb h.uq h.ub, h.wok, h.xok, h.lp, h.lq, h.lb, h.up, h.uq, h.ub, h.pq, h.pb, Nat.le_trans h.siz hb.size, h.bel.trans (hb.mono hB), h.tab, h.pos⟩
theorem Br.BR (h : Br B R w0 w p q b m x) : B ≤ R := by have := h.lp; have := h.up; omega
theorem Br.go {w' : World} (h : Br B R w0 w p q b m x) (hb : Below w.heap.size w w') : Br B R w0 w' p q b m x := h.keep (hb.mono h.siz) h.BR
theorem Br.only {w' : World} {m' : W.Wn} (h : Br B R w0 w p q b m x) (ha : W.WAt w' p m') (ok : m'.Ok) (o : W.Only p w w') : Br B R w0 w' p q b m' x :=
  ⟨ha, h.box.same (o.block q h.box.lt (fun e => h.pq e.symm)) (o.block b h.box.map.lt (fun e => h.pb e.symm)), ok, h.xok, h.lp, h.lq, h.lb, h.up, h.uq, h.ub, h.pq, h.pb, Nat.le_trans h.siz o.size, h.bel.trans (o.below h.lp (Nat.le_trans h.BR h.siz)), h.tab, h.pos⟩
theorem Br.dry {w' : World} {x' : Ib} (h : Br B R w0 w p q b m x) (hx : IAt w' q b x') (ok : x'.Ok) (d : Dry q b w w') : Br B R w0 w' p q b m x' :=
  ⟨h.win.same (d.block p h.win.lt h.pq h.pb), hx, h.wok, ok, h.lp, h.lq, h.lb, h.up, h.uq, h.ub, h.pq, h.pb, Nat.le_trans h.siz d.size, h.bel.trans (d.below h.lq h.lb (Nat.le_trans h.BR h.siz)), h.tab, h.pos⟩
theorem Br.keptO {w' : World} (h : Br B R w0 w p q b m x) (o : W.Only p w w') : Kept R w w' := ⟨o.size, fun k hk hl => o.block k hl (by have := h.up; omega)⟩
theorem Br.keptD {w' : World} (h : Br B R w0 w p q b m x) (d : Dry q b w w') : Kept R w w' := ⟨d.size, fun k hk hl => d.block k hl (by have := h.uq; omega) (by have := h.ub; omega)⟩
theorem Br.send (h : Br B R w0 w p q b m x) (hv now : Int) : Calls Tryd.prog 7 #[.pointer (some ⟨p, 0, none⟩), .int .i64 hv, .int .i64 now] w fun e w' =>
    ∃ a cap, e = .returned (.slice a (W.sendL m (W.nowN now) (W.lookN m hv)).length cap) ∧ Row w' (.slice a (W.sendL m (W.nowN now) (W.lookN m hv)).length cap) (icells (W.sendL m (W.nowN now) (W.lookN m hv))) ∧ Br B R w0 w' p q b (W.sendM m (W.nowN now) (W.lookN m hv)) x := by
  refine (W.send_at h.win h.wok hv now).mono ?_
  rintro e w' ⟨v, rfl, r, a, o⟩
  obtain ⟨ad, cap, rfl⟩ := r.row.sliceInts
  exact ⟨ad, cap, rfl, r.row, h.only a (W.sendM_ok h.wok (W.nowN_le now) _ (W.lookN_le m hv)) o⟩
theorem Br.num (h : Br B R w0 w p q b m x) (i : Int) : Calls Tryd.prog 8 #[.pointer (some ⟨p, 0, none⟩), .int .i64 i] w fun e w' => e = .returned (.int .u16 (moveI m.b i)) ∧ w' = w := W.num_at h.win h.wok.s1 i
theorem Br.ack (h : Br B R w0 w p q b m x) (num set : Nat) (hs : IsSet set) : Calls Tryd.prog 13 #[.pointer (some ⟨p, 0, none⟩), .int .u16 num, .int .u64 set] w fun e w' =>
    e = .returned (.int .i64 (W.ackN m num)) ∧ Br B R w0 w' p q b (W.ackW m num set) x := by
  refine (W.ack_at h.win h.wok num set hs (h.tab.below h.bel h.pos)).mono ?_
  rintro e w' ⟨rfl, a, o⟩
  exact ⟨rfl, h.only a (W.ackW_ok h.wok _ _) o⟩
theorem Br.take (h : Br B R w0 w p q b m x) {num : Nat} (hn : num < 65536) (y : Ms) : Calls Tryd.prog 9 #[.pointer (some ⟨q, 0, none⟩), .int .u16 num, mv y] w fun e w' =>
    e = .returned (.bool (mayT x num)) ∧ Br B R w0 w' p q b m (takeM x num y) ∧ Kept R w w' := by
  refine (take_at h.box h.xok hn y).mono ?_
  rintro e w' ⟨rfl, hx, d⟩
  exact ⟨rfl, h.dry hx (takeM_ok h.xok _ _) d, h.keptD d⟩
theorem Br.pop (h : Br B R w0 w p q b m x) : Calls Tryd.prog 12 #[.pointer (some ⟨q, 0, none⟩)] w fun e w' =>
    e = .returned (.bool (x.h 0).isSome) ∧ Br B R w0 w' p q b m (popM x) ∧ Kept R w w' := by
  refine (pop_at h.box h.xok).mono ?_
  rintro e w' ⟨rfl, hx, d⟩
  exact ⟨rfl, h.dry hx (popM_ok h.xok) d, h.keptD d⟩
theorem Br.head (h : Br B R w0 w p q b m x) : Calls Tryd.prog 11 #[.pointer (some ⟨q, 0, none⟩)] w fun e w' =>
    e = .returned (.tuple #[mv ((x.h 0).getD zM), .bool (x.h 0).isSome]) ∧ Below w.heap.size w w' := head_at h.box h.xok
theorem Br.tell (h : Br B R w0 w p q b m x) : Calls Tryd.prog 14 #[.pointer (some ⟨q, 0, none⟩)] w fun e w' =>
    e = .returned (.tuple #[.int .u16 x.n, .int .u64 (ackS x)]) ∧ Br B R w0 w' p q b m x := by
  refine (ack_at h.box h.xok).mono ?_
  rintro e w' ⟨rfl, b⟩
  exact ⟨rfl, h.go b⟩
end

/-- Numbers that were sent, and what they bear. -/
def lcells (d : Nat) (K : List Nat) : List Value := K.map fun k : Nat => .int .u16 ((d + k : Nat) : Int)
def hwcells (d : Nat) (K : List Nat) : List Value := K.map fun k : Nat => .int .i64 ((d + k : Nat) : Int)
theorem lcells_len (d : Nat) (K : List Nat) : (lcells d K).length = K.length := by simp [lcells]
theorem hwcells_len (d : Nat) (K : List Nat) : (hwcells d K).length = K.length := by simp [hwcells]

theorem isU16 : Elem Tryd.prog 29 32 (.int .u16 0) 2 := by
  have hinfo : (Tryd.prog.info? 32).map (fun i => (i.zero, i.size, i.bytes)) = some (some (.int .u16 0), 1, 2) := by kernel_rfl
  obtain ⟨i0, hi, hz0, hz1, hz2⟩ := info_parts hinfo
  exact ⟨Tryd.underlying29, ⟨i0, hi, hz0, hz1, hz2⟩, rfl⟩
/-- 'append(v, src...)', v of the call's own: nothing but its block has changed. -/
theorem wpList_append_rowO {P : Program} {w : World} {ops : Array Oper} {rest : List Oper} {o : Oper} {a : Act} {Q : Exit → Act → World → Prop} (hgd : o.guard = none) (s x : Operand) (t e : TypeId) (z : Value) (by' : Nat) (U : Elem P t e z by')
    (ho : o.op = .call { callee := .builtin .append, args := #[s, x], argTypes := #[t, t] }) (base : Nat) (v src : Value) (xs ys : List Value) (hs : a.eval s = v) (hx : a.eval x = src)
    (hown : Own1 w base e v xs) (hy : Row w src ys) (h1 : ∀ u ∈ ys, u.oneCell' = true) (hlen : xs.length + ys.length ≤ 140737488355328) (hlen' : (xs.length + ys.length) * by' ≤ 140737488355328) (hbase : base ≤ w.heap.size)
    (h : ∀ v' w', Own1 w' base e v' (xs ++ ys) → w.grownBy w' v.ownBlock → wpList P ops Q rest (a.put o.dst v') w') : wpList P ops Q (o :: rest) a w := by
  obtain ⟨i, hi, hz, hsz, hby⟩ := U.info
  rcases hy with ⟨rfl, rfl⟩ | ⟨ad, cap, rfl, h2, h3, h4⟩
  · refine wpList_append_own_none hgd s x t ho base e i 1 U.ht hi v xs.length xs hs hown hx ?_
    exact h v w (by simpa [Own1] using hown) (World.grownBy.refl _ _)
  · refine wpList_append_own w hgd s x t ho base e i z 1 by' U.ht hi hz hsz hby U.one (by decide) v xs.length xs hs hown ad ys.length cap ys hx (by simp) h4 h1
      (by unfold maxLen; omega) hlen' hbase ?_
    intro v' w' ho' hg _
    refine h v' w' ?_ hg
    unfold Own1
    rw [List.length_append]
    exact ho'
theorem Own1.far {w w' : World} {base base' : Nat} {e e' : TypeId} {v v' : Value} {cs cs' : List Value} (h : Own1 w base e v cs) (h' : Own1 w base' e' v' cs') (ne : e ≠ e') (hg : w.grownBy w' v'.ownBlock) : Own1 w' base e v cs := World.ownsRow.kept h hg (own_apart h h' ne)
theorem Own1.under {w w' w0 : World} {base : Nat} {e : TypeId} {v : Value} {cs : List Value} (h : Own1 w base e v cs) (hg : w.grownBy w' v.ownBlock) (h0 : Below base w0 w) (hb : base ≤ w.heap.size) : Below base w0 w' := Own1.belowGrown h hg h0 hb
theorem Own1.mono {w : World} {base R : Nat} {e : TypeId} {v : Value} {cs : List Value} (h : Own1 w base e v cs) (hR : R ≤ base) : Own1 w R e v cs := World.ownsRow.mono h hR
theorem lcells_snoc (d : Nat) (K : List Nat) (k : Nat) : lcells d (K ++ [k]) = lcells d K ++ [.int .u16 ((d + k : Nat) : Int)] := by simp [lcells]
theorem hwcells_snoc (d : Nat) (K : List Nat) (k : Nat) : hwcells d (K ++ [k]) = hwcells d K ++ [.int .i64 ((d + k : Nat) : Int)] := by simp [hwcells]

/-- 'append(l[1:], u)', l of the call's own: all is as it was but for what lies behind l. -/
theorem run_rot2 {w : World} {R : Nat} (t e : TypeId) (z : Value) (by' : Nat) (U : Elem Tryd.prog t e z by') (hby : by' ≤ 8) {g n cap o : Nat} {c : Value} {cs : List Value} (hoo : o = 1 ∨ (o = 0 ∧ cap ≤ 1)) (h : Own1 w R e (.slice (some ⟨g, 0, none⟩) n cap) (c :: cs)) (hn : n = cs.length + 1) (hs : cs.length ≤ 1000)
    {d : Nat} {u : Value} (hd : w.cell? ⟨d, 0, none⟩ = some u) (hu : u.oneCell' = true) (ty : TypeId) (hR : R ≤ w.heap.size) :
    ∃ v' w', (Builtin.append_ #[t, t] ty #[.slice (some ⟨g, o, none⟩) (n - 1) (cap - 1), .slice (some ⟨d, 0, none⟩) 1 1]).run Tryd.prog w = .ok v' w' ∧ RowIn R w' v' (cs ++ [u]) ∧ w.grownBy w' (some g) ∧ Own1 w' R e (.slice (some ⟨g, 0, none⟩) n cap) (c :: cs) ∧ ∃ g' o' c', v' = .slice (some ⟨g', o', none⟩) (cs.length + 1) c' ∧ (g' = g ∨ w.heap.size ≤ g') := by
  obtain ⟨i, hi, hz, hsz, hbz⟩ := U.info
  have hrow : RowIn R w (.slice (some ⟨g, o, none⟩) (n - 1) (cap - 1)) cs := by
    rcases hoo with rfl | ⟨rfl, h1⟩
    · exact (RowIn.of_own h).tail
    · rw [show cap - 1 = 0 by omega]
      exact (RowIn.of_own h).tail0 h1 0
  have h0 := h
  rcases h.2 with ⟨h1, _⟩ | ⟨g', cap', cur, h1, hg, hb, hnc, hcm, hcs, htk⟩
  · cases h1
  · injection h1 with h1 hn1 hc1
    injection h1 with h1
    injection h1 with hgg _
    subst hgg hc1
    have hl : (c :: cs).length = n := by simp [hn]
    by_cases hroom : n - 1 + 1 ≤ cap - 1
    · obtain rfl : o = 1 := by omega
      have hsize : cur.size = cap := by rw [hcs]; omega
      have hrun := run_append_room_cells (P := Tryd.prog) w t ty e i U.ht hi g 1 (n - 1) (cap - 1) ⟨d, 0, none⟩ 1 1 [u] (by simp [hsz]) (fun j v hj => by
          rcases j with _ | j
          · simp only [List.getElem?_cons_zero, Option.some.injEq] at hj; subst hj; exact hd
          · simp at hj) (by simpa using hu) hroom (fun j hj => by
          have hj0 : j = 0 := by simpa using hj
          rw [cell_of_row w g _ cur e (0, 0) hb]
          have : 1 + (n - 1) * i.size + j < cur.size := by rw [hsz, hsize, Nat.mul_one]; omega
          simp [this]) (fun j hj => by simp [World.frozen?, hb])
      have hidx : 1 + (n - 1) * i.size = n := by rw [hsz, Nat.mul_one]; omega
      rw [hidx] at hrun
      have hset : w.setCells g n [u] = w.setCell ⟨g, n, none⟩ u := by simp [World.setCells]
      rw [hset] at hrun
      have hb2 := heap_setCell_same w g n cur e u hb
      have hg2 : w.grownBy (w.setCell ⟨g, n, none⟩ u) (some g) := by
        have hB : Below g w (w.setCell ⟨g, n, none⟩ u) := (Below.refl g w).setCell (p := ⟨g, n, none⟩) (Nat.le_refl _) _
        exact ⟨hB.os, hB.tape, hB.output, by simp, fun k _ hk => Below.heap_setCell w ⟨g, n, none⟩ u k (by simpa using hk)⟩
      have hown : Own1 (w.setCell ⟨g, n, none⟩ u) R e (.slice (some ⟨g, 0, none⟩) n cap) (c :: cs) := by
        refine ⟨h.1, .inr ⟨g, cap, _, by rw [hl], hg, hb2, hnc, hcm, by simpa using hcs, ?_⟩⟩
        have ht : List.take ((c :: cs).length * 1) (cur.toList.set n u) = List.take ((c :: cs).length * 1) cur.toList := List.take_set_of_le (by rw [hl]; omega)
        rw [Array.toList_setIfInBounds]
        exact ht.trans htk
      refine ⟨_, _, hrun, ?_, hg2, hown, g, 1, cap - 1, by congr 1; omega, .inl rfl⟩
      refine .inr ⟨g, 1, cap - 1, by rw [List.length_append, List.length_singleton, hn]; congr 1, by rw [List.length_append, List.length_singleton]; omega, by omega, hg, fun j v hj => ?_⟩
      by_cases hjl : j < cs.length
      · rw [List.getElem?_append_left hjl] at hj
        have := (World.ownsRow.cells (w := w.setCell ⟨g, n, none⟩ u) hown (g := g) rfl (j + 1) v (by simpa using hj))
        rw [Nat.add_comm 1 j]
        rwa [Addr.add_lit, Nat.zero_add] at this
      · rw [List.getElem?_append_right (by omega)] at hj
        have hj1 : j - cs.length = 0 := by
          rcases Nat.eq_zero_or_pos (j - cs.length) with h | h
          · exact h
          · rw [List.getElem?_eq_none (by simp; omega)] at hj; cases hj
        rw [hj1] at hj
        simp only [List.getElem?_cons_zero, Option.some.injEq] at hj
        subst hj
        rw [show 1 + j = n by omega, cell_of_row _ g n _ e (0, 0) hb2]
        have : n < cur.size := by rw [hsize]; omega
        simp [this]
    · rcases hrow with ⟨h1, _⟩ | ⟨g', o', c', h1, h2, h3, h4, h5⟩
      · cases h1
      · injection h1 with h1 h6 h7
        injection h1 with h1
        injection h1 with h1 h8
        subst h1 h7
        have ho : o' = o := h8.symm
        subst ho
        obtain ⟨v', w', hrun, hown, hgr⟩ := run_append_arg_grows (P := Tryd.prog) w t ty e i z 1 by' U.ht hi hz hsz hbz U.one (by decide) ⟨g, o', none⟩ (n - 1) (cap - 1) cs (by omega) (fun j v hj => by rw [Addr.add_lit]; exact h5 j v hj) ⟨d, 0, none⟩ 1 1 [u] rfl (fun j v hj => by
          rcases j with _ | j
          · simp only [List.getElem?_cons_zero, Option.some.injEq] at hj; subst hj; exact hd
          · simp at hj) (by omega) (by unfold maxLen; omega) (by
            have := Nat.mul_le_mul (show n - 1 + 1 ≤ 1001 by omega) hby
            omega)
        have hown1 : Own1 w' w.heap.size e v' (cs ++ [u]) := by
          unfold Own1
          rw [List.length_append, List.length_singleton, show cs.length + 1 = n - 1 + 1 by omega]
          exact hown
        refine ⟨v', w', hrun, RowIn.of_own (World.ownsRow.mono hown1 hR), ⟨hgr.os, hgr.tape, hgr.output, hgr.size, fun k hk _ => hgr.block k hk (by simp)⟩, World.ownsRow.kept h0 hgr (.inr (by simp [Value.ownBlock])), ?_⟩
        rcases hown1.2 with ⟨_, h9⟩ | ⟨g9, c9, _, h9, hg9, _⟩
        · simp at h9
        · exact ⟨g9, 0, c9, by rw [h9, List.length_append, List.length_singleton], .inr hg9⟩
end Go.Proofs.YtkdjpleedaldcaaDoor
