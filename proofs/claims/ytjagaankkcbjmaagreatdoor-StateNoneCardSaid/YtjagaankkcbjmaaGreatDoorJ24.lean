/-
  makeExchange, dropExchange, dropBinding, by their contracts.
-/
import Derived.Test.YtjagaankkcbjmaaGreatDoorJ20
import Derived.Test.YtjagaankkcbjmaaGreatDoorJ22
import Derived.Test.YtjagaankkcbjmaaGreatDoorJ23
import Derived.Deep.RegionHeld3
import Derived.Test.YtjagaankkcbjmaaGreatDoorJ8
import Derived.Test.YtjagaankkcbjmaaGreatDoorJ6
import Derived.Laws.ResultCell
import Derived.Laws.Rows
namespace Go.Proofs.YtjagaankkcbjmaaGreatDoor
open Go.RowKit

/-- How a deed that changes a state ends. -/
def DeedPost (p : Nat) (F : Nat → Prop) (w : World) (er : Int) (s' : Sm) (e : Ending) (w' : World) : Prop := e = .returned (.int .i64 er) ∧ ∃ F', SS w' p F' s' ∧ Moved w w' F F'
/-- An act in a box, beside a state. -/
structure Boxd (w W : World) (a : Ax) : Prop where
  bel : Below w.heap.size w W
  box : W.heap[w.heap.size]? = some (.cells (xcells a).toArray 42 (0, 0))
theorem boxd_new (w : World) (a : Ax) : Boxd w (w.alloc (.cells (xcells a).toArray 42)) a := ⟨box_below w _, heap_alloc_new w _⟩
theorem Moved.from_below {w W w' : World} {F F' : Nat → Prop} (b : Below w.heap.size w W) (m : Moved W w' F F') : Moved w w' F F' :=
  ⟨m.os.trans b.os, m.tape.trans b.tape, m.output.trans b.output, Nat.le_trans b.size m.size, fun k hk hn => (m.block k (Nat.lt_of_lt_of_le hk b.size) hn).trans (b.block k hk), fun k hk => (m.sub k hk).imp id fun h => Nat.le_trans b.size h⟩
/-- What a part that is not the state's own block leaves as it is: that block, and the act's box. -/
theorem keepP {w V w2 : World} {p : Nat} {ft : Ix → Nat → Prop} {d : Ad} {s : Sm} {F : Nat → Prop} {c : Ix} (hs : SAt V p ft d s) (hF : ∀ k, F k ↔ ∃ a, ft a k) (hlt : ∀ k, F k → k < w.heap.size) (hg : w.heap.size < V.heap.size) (hc : Ix.main ≠ c) {F2 : Nat → Prop} (m : Moved V w2 (ft c) F2) :
    (∀ j u, V.cell? ⟨p, j, none⟩ = some u → w2.cell? ⟨p, j, none⟩ = some u) ∧ (∀ j u, V.cell? ⟨w.heap.size, j, none⟩ = some u → w2.cell? ⟨w.heap.size, j, none⟩ = some u) := by
  have h1 : w2.heap[p]? = V.heap[p]? := hs.others m .main hc p ((hs.fm p).2 rfl)
  have h2 : w2.heap[w.heap.size]? = V.heap[w.heap.size]? := m.block _ hg fun hk => by have := hlt _ ((hF _).2 ⟨c, hk⟩); omega
  exact ⟨fun j u hu => (World.cell?_of_block (w := V) (a := ⟨p, j, none⟩) h1).trans hu, fun j u hu => (World.cell?_of_block (w := V) (a := ⟨w.heap.size, j, none⟩) h2).trans hu⟩
/-- The table is changed: how a deed ends. -/
theorem deed_table {w W w2 : World} {p : Nat} {ft : Ix → Nat → Prop} {d : Ad} {s : Sm} {F : Nat → Prop} (hs : SAt W.drew p ft d s) (hF : ∀ k, F k ↔ ∃ a, ft a k) (hb : Below w.heap.size w W) {er : Int} {tb' : B.Tb} {F2 : Nat → Prop} (t2 : B.T w2 d.tp F2 tb') (m2 : Moved W.drew w2 (ft .table) F2) : DeedPost p F w er { s with tb := tb' } (.returned (.int .i64 er)) w2 := by
  have e : F = fun k => ∃ a, ft a k := funext fun k => propext (hF k)
  subst e
  exact ⟨rfl, _, ⟨_, d, hs.turnTable m2 t2, fun k => Iff.rfl⟩, Moved.from_below (keptW hb (drew_below W)) (moved_upd m2)⟩
set_option maxRecDepth 20000 in
set_option maxHeartbeats 1000000 in
theorem makeEx_any (p : Nat) (F : Nat → Prop) (s : Sm) (a : Ax) (w : World) (h : SS w p F s) (ok : s.tb.Ok) (hs : a.xn.size ≤ maxLen) :
    Calls Tryz.prog 96 #[.pointer (some ⟨p, 0, none⟩), av a] w (DeedPost p F w (s.tb.declare ⟨a.xn, a.xk, a.xf⟩).1 { s with tb := (s.tb.declare ⟨a.xn, a.xk, a.xf⟩).2 }) := by
  obtain ⟨W, fold⟩ : ∃ W, w.alloc (.cells #[.int .i64 a.kind, .string a.name, .int .i64 a.n, .int .u64 a.tag, .int .i64 a.to, .string a.xn, .int .i64 a.xk, .bool a.xf, .string a.be, .string a.bq, .string a.bp, .int .i64 a.m.origin, .int .u64 a.m.seq, .int .i64 a.m.hop, .string a.m.ex, .string a.m.key, .string a.m.body] 42) = W := ⟨_, rfl⟩
  have hB : Boxd w W a := by rw [← fold]; exact boxd_new w a
  have hW := (h.kept hB.bel).kept (drew_below W)
  have hlt := h.lts
  obtain ⟨ft, d, hs', hF⟩ := hW
  have hD := B.declare_any d.tp (ft .table) s.tb ⟨a.xn, a.xk, a.xf⟩ W.drew hs'.table ok hs
  have HS : Hid (SAt W.drew p ft d s ∧ (∀ k, F k ↔ ∃ a, ft a k) ∧ Boxd w W a ∧ ∀ k, F k → k < w.heap.size) := ⟨hs', hF, hB, hlt⟩
  have HK : Hid (∀ w2 F2, Moved W.drew w2 (ft .table) F2 → (∀ j u, W.drew.cell? ⟨p, j, none⟩ = some u → w2.cell? ⟨p, j, none⟩ = some u) ∧ (∀ j u, W.drew.cell? ⟨w.heap.size, j, none⟩ = some u → w2.cell? ⟨w.heap.size, j, none⟩ = some u)) := fun w2 F2 m => keepP hs' hF hlt (Array.getElem?_eq_some_iff.1 hB.box).1 (by simp) m
  obtain ⟨c0, c1, c2, c3, c4, c5, c6, c7, c8, c9⟩ := cells10 hs'.blk
  obtain ⟨x0, x1, x2, x3, x4, x5, x6, x7, x8, x9, x10, x11, x12, x13, x14, x15, x16⟩ := cells17 hB.box
  obtain ⟨dd, hdd⟩ : ∃ z, s.tb.declare ⟨a.xn, a.xk, a.xf⟩ = z := ⟨_, rfl⟩
  rw [hdd] at hD ⊢
  have c6' : W.cell? ⟨p, 6, none⟩ = some (.pointer (some ⟨d.tp, 0, none⟩)) := c6
  clear hs' hF hB hlt c0 c1 c2 c3 c4 c5 c6 c7 c8 c9 x0 x1 x2 x3 x4 x8 x9 x10 x11 x12 x13 x14 x15 x16 h hdd
  go_enter Tryz.func96, Tryz.ntmps96
  go_wp2
  try rw [fold]
  (go_region_held3 (fun w' => w'.cell? ⟨p, 6, none⟩ = some (.pointer (some ⟨d.tp, 0, none⟩)) ∧ w'.cell? ⟨w.heap.size, 5, none⟩ = some (.string a.xn) ∧ w'.cell? ⟨w.heap.size, 6, none⟩ = some (.int .i64 a.xk) ∧ w'.cell? ⟨w.heap.size, 7, none⟩ = some (.bool a.xf)) (go_keep) (first
    | (go_at_call 139; refine hD.mono ?_; rintro e w2 ⟨rfl, F2, t2, m2⟩; have H2 : Hid _ := And.intro t2 m2; have f := (HK.out w2 F2 m2).1 6 _ c6'; have f5 := (HK.out w2 F2 m2).2 5 _ x5; have f6 := (HK.out w2 F2 m2).2 6 _ x6; have f7 := (HK.out w2 F2 m2).2 7 _ x7; clear t2 m2 hD)))
  all_goals go_wp2
  all_goals go_ret
  all_goals exact deed_table HS.out.1 HS.out.2.1 HS.out.2.2.1.bel H2.out.1 H2.out.2
end Go.Proofs.YtjagaankkcbjmaaGreatDoor

/-
  makeBinding, by its contract.
-/
namespace Go.Proofs.YtjagaankkcbjmaaGreatDoor
open Go.RowKit

/-- A queue by its name. -/
def findQ (l : List (ByteArray × F.St)) (n : ByteArray) : Option F.St := (l.find? fun x => decide (x.1 = n)).map Prod.snd
theorem findQ_some {l : List (ByteArray × F.St)} {n : ByteArray} {q : F.St} (h : findQ l n = some q) : (n, q) ∈ l := by
  unfold findQ at h
  cases hf : l.find? fun x => decide (x.1 = n) with
  | none => rw [hf] at h; cases h
  | some x =>
    rw [hf] at h
    have h1 := List.mem_of_find?_eq_some hf
    have h2 : x.1 = n := by simpa using List.find?_some hf
    injection h with h
    rw [← h2, ← h]
    exact h1
theorem findQ_none {l : List (ByteArray × F.St)} {n : ByteArray} (h : findQ l n = none) : n ∉ l.map Prod.fst := by
  unfold findQ at h
  intro hn
  obtain ⟨x, hx, e⟩ := List.mem_map.1 hn
  cases hf : l.find? fun x => decide (x.1 = n) with
  | none => exact absurd e (by simpa using List.find?_eq_none.1 hf x hx)
  | some y => rw [hf] at h; cases h
/-- .. and in memory: none, or its block. -/
theorem SAt.queueAt {w : World} {p : Nat} {ft : Ix → Nat → Prop} {d : Ad} {s : Sm} (h : SAt w p ft d s) (ok : s.Fit) (n : ByteArray) :
    (findQ s.qs n = none ∧ findP d.ps n = none) ∨ ∃ q b, findQ s.qs n = some q ∧ findP d.ps n = some (n, b) ∧ (n, b) ∈ d.ps ∧ F.Q w b (ft (.queue n)) q := by
  cases hq : findQ s.qs n with
  | none =>
    refine .inl ⟨rfl, ?_⟩
    unfold findP
    rw [List.find?_eq_none]
    intro x hx he
    refine findQ_none hq ?_
    rw [← h.names]
    exact List.mem_map.2 ⟨x, hx, by simpa using he⟩
  | some q =>
    obtain ⟨b, h1, h2⟩ := h.queue n q (findQ_some hq)
    refine .inr ⟨q, b, rfl, ?_, h1, h2⟩
    cases hf : findP d.ps n with
    | none => exact absurd rfl (findP_none hf (n, b) h1)
    | some z =>
      obtain ⟨hz, e⟩ := findP_some hf
      obtain ⟨n', b'⟩ := z
      obtain rfl : n' = n := e
      obtain rfl := nodup_pair (by rw [h.names]; exact ok.names) h1 hz
      rfl
theorem deed_none {w W : World} {p : Nat} {s : Sm} {F : Nat → Prop} (h : SS w p F s) (hb : Below w.heap.size w W) (er : Int) : DeedPost p F w er s (.returned (.int .i64 er)) W :=
  ⟨rfl, F, h.kept hb, .of_below hb⟩
/-- ActBind's answer. -/
def bindM (s : Sm) (x : B.Bd) : Int × B.Tb := if (findQ s.qs x.que).isSome then s.tb.bind x else (3, s.tb)
end Go.Proofs.YtjagaankkcbjmaaGreatDoor

/-
  PACKAGE fifo: Push, by its contract.
-/
namespace Go.Proofs.YtjagaankkcbjmaaGreatDoor.K
end Go.Proofs.YtjagaankkcbjmaaGreatDoor.K
namespace Go.Proofs.YtjagaankkcbjmaaGreatDoor.F
open Go.Proofs.YtjagaankkcbjmaaGreatDoor.K
open Go.RowKit Go.Sort

theorem set4_1 {w : World} {b : Nat} {v0 v1 v2 v3 : Value} {t : TypeId} (u : Value) (h : w.heap[b]? = some (.cells #[v0, v1, v2, v3] t (0, 0))) : (w.setCell ⟨b, 1, none⟩ u).heap[b]? = some (.cells #[v0, u, v2, v3] t (0, 0)) := by
  have h1 := heap_setCell_same w b 1 _ _ u h
  simpa using h1
theorem set4_2 {w : World} {b : Nat} {v0 v1 v2 v3 : Value} {t : TypeId} (u : Value) (h : w.heap[b]? = some (.cells #[v0, v1, v2, v3] t (0, 0))) : (w.setCell ⟨b, 2, none⟩ u).heap[b]? = some (.cells #[v0, v1, u, v3] t (0, 0)) := by
  have h1 := heap_setCell_same w b 2 _ _ u h
  simpa using h1
/-- What no call wrote. -/
theorem QAt.after {w w' : World} {p : Nat} {v : Value} {b : Nat} {s : St} (h : QAt w p v b s) (hb : Below w.heap.size w w') : QAt w' p v b s := h.same fun k hk => hb.block k (h.lts k hk)
theorem row_not {w : World} {v : Value} {l : List It} (h : Own8 w 0 v l) {p : Nat} {cs : Array Value} (hp : w.heap[p]? = some (.cells cs 238 (0, 0))) : v.ownBlock ≠ some p := by
  rcases h.2 with ⟨rfl, _⟩ | ⟨g, cap, cur, rfl, _, hg, _⟩
  · simp [Value.ownBlock]
  · intro he
    simp only [Value.ownBlock, Option.some.injEq] at he
    subst he
    rw [hp] at hg
    simp at hg
/-- The row of those that are ready is another one: written behind whatever has grown. -/
theorem row_set {w W w4 : World} {p : Nat} {v v' : Value} {b : Nat} {s : St} {l : List It} (hq : QAt w p v b s) (hW : Below w.heap.size w W) (own : Own8 w4 0 v' l) (gr : W.grownBy w4 v.ownBlock) (nw : NewOr W v v') :
    QAt (w4.setCell ⟨p, 2, none⟩ v') p v' b { s with rdy := l } ∧ Moved w (w4.setCell ⟨p, 2, none⟩ v') (foot p v b) (foot p v' b) := by
  have hqW := hq.after hW
  have hlt := hqW.lt
  have hb := hqW.out.lt
  have e1 : w4.heap[p]? = W.heap[p]? := gr.block p hlt (fun h => hqW.ne_row h.symm)
  have e2 : w4.heap[b]? = W.heap[b]? := gr.block b hb (fun h => hqW.row_map h.symm)
  have hp4 : w4.heap[p]? = some (.cells #[.int .i64 (s.most : Int), .int .u64 (s.next : Int), v, .map (some b)] 238 (0, 0)) := by rw [e1]; exact hqW.blk
  have hne := row_not own hp4
  refine ⟨⟨set4_2 v' hp4, own.same fun g hg => heap_setCell_other _ _ _ _ (fun he => hne (by rw [hg, he])), (hqW.out.same e2).same (heap_setCell_other _ _ _ _ hqW.ne_map)⟩, ?_⟩
  refine ⟨gr.os.trans hW.os, gr.tape.trans hW.tape, gr.output.trans hW.output, by rw [World.size_setCell]; exact Nat.le_trans hW.size gr.size, fun k hk hn => ?_, ?_⟩
  · have h1 : k ≠ p := fun h => hn (.inl h)
    have h2 : ¬ some k = v.ownBlock := fun h => hn (.inr (.inl h.symm))
    rw [heap_setCell_other _ _ _ _ h1, gr.block k (Nat.lt_of_lt_of_le hk hW.size) h2, hW.block k hk]
  · rintro k (rfl | hk | rfl)
    · exact .inl (.inl rfl)
    · rcases nw with h | ⟨g, h, hg⟩
      · exact .inl (.inr (.inl (h ▸ hk)))
      · rw [h] at hk; injection hk with hk; subst hk; exact .inr (Nat.le_trans hW.size hg)
    · exact .inl (.inr (.inr rfl))
theorem next_set {w : World} {p : Nat} {v : Value} {b : Nat} {s : St} (hq : QAt w p v b s) (n : Nat) :
    QAt (w.setCell ⟨p, 1, none⟩ (.int .u64 (n : Int))) p v b { s with next := n } ∧ Moved w (w.setCell ⟨p, 1, none⟩ (.int .u64 (n : Int))) (foot p v b) (foot p v b) := by
  refine ⟨⟨set4_1 _ hq.blk, hq.rows.same fun g hg => heap_setCell_other _ _ _ _ (fun he => hq.ne_row (by rw [hg, he])), hq.out.same (heap_setCell_other _ _ _ _ hq.ne_map)⟩, rfl, rfl, rfl, by rw [World.size_setCell]; exact Nat.le_refl _, fun k hk hn => heap_setCell_other _ _ _ _ (fun h => hn (.inl h)), fun k hk => .inl hk⟩
theorem _root_.Go.Proofs.YtjagaankkcbjmaaGreatDoor.Moved.to {w w' : World} {p : Nat} {v : Value} {b : Nat} {F F' : Nat → Prop} (h : Moved w w' (foot p v b) F') (hF : ∀ k, F k ↔ foot p v b k) : Moved w w' F F' := h.weak fun k hk => (hF k).2 hk

theorem push_ok {s : St} (m : Msg) (h1 : ¬ s.most ≤ s.rdy.length + s.out.length) (h2 : ¬ s.next = 18446744073709551615) : s.push m = (0, { s with next := s.next + 1, rdy := s.rdy ++ [⟨s.next, m, false⟩] }) := by
  unfold St.push; rw [if_neg h1, if_neg h2]

set_option maxRecDepth 20000 in
set_option maxHeartbeats 1000000 in
theorem push_any (p : Nat) (F : Nat → Prop) (s : St) (m : Msg) (w : World) (h : Q w p F s) (ok : s.Ok) :
    Calls Tryz.prog 185 #[.pointer (some ⟨p, 0, none⟩), mv m] w fun e w' => e = .returned (.int .i64 (s.push m).1) ∧ ∃ F', Q w' p F' (s.push m).2 ∧ Moved w w' F F' := by
  have bel0 : Below w.heap.size w (w.alloc (.cells #[.int .i64 m.o, .int .u64 m.s, .int .i64 m.hop, .string m.ex, .string m.key, .string m.body] 40)) := (Below.refl _ _).alloc (Nat.le_refl _) _
  have h0 := h.kept bel0
  have hroom := ok.room
  have hm := ok.m
  by_cases h1 : s.most ≤ s.rdy.length + s.out.length
  · have e : s.push m = (6, s) := by unfold St.push; rw [if_pos h1]
    rw [e]
    have hz : (s.most : Int) - s.rdy.length - s.out.length = 0 := by omega
    have hR := room_any p F s _ h0 ok
    rw [hz] at hR
    go_enter Tryz.func185, Tryz.ntmps185
    go_wp2_with fail
    refine (made_any p F s _ h0 ok.m1).mono ?_
    rintro e w1 ⟨rfl, rfl⟩
    go_wp2_with fail
    refine hR.mono ?_
    rintro e w2 ⟨rfl, q, rfl⟩
    go_wp2
    go_ret
    have bel : Below w.heap.size w (World.drewN (w.alloc (.cells #[.int .i64 m.o, .int .u64 m.s, .int .i64 m.hop, .string m.ex, .string m.key, .string m.body] 40)) q) := bel0.trans ⟨rfl, rfl, rfl, Nat.le_refl _, fun _ _ => rfl⟩
    exact ⟨rfl, F, h.kept bel, .of_below bel⟩
  · have hz : ¬ ((s.most : Int) - s.rdy.length - s.out.length = 0) := by omega
    have hR := room_any p F s _ h0 ok
    obtain ⟨v, b, hq, hF⟩ := h
    have hn := ok.n
    by_cases h2 : s.next = 18446744073709551615
    · have e : s.push m = (11, s) := by unfold St.push; rw [if_neg h1, if_pos h2]
      rw [e]
      obtain ⟨⟨c0, c1, c2, c3⟩, f0, f1, f2, f3⟩ := cells4 (hq.after bel0).blk
      rw [h2] at c1
      generalize (s.most : Int) - s.rdy.length - s.out.length = rm at hz hR
      clear hn h1
      go_enter Tryz.func185, Tryz.ntmps185
      go_wp2_with fail
      refine (made_any p F s _ h0 ok.m1).mono ?_
      rintro e w1 ⟨rfl, rfl⟩
      go_wp2_with fail
      refine hR.mono ?_
      rintro e w2 ⟨rfl, q, rfl⟩
      go_wp2
      go_ret
      have bel : Below w.heap.size w (World.drewN (w.alloc (.cells #[.int .i64 m.o, .int .u64 m.s, .int .i64 m.hop, .string m.ex, .string m.key, .string m.body] 40)) q) := bel0.trans ⟨rfl, rfl, rfl, Nat.le_refl _, fun _ _ => rfl⟩
      exact ⟨rfl, F, Q.kept ⟨v, b, hq, hF⟩ bel, .of_below bel⟩
    · rw [push_ok m h1 h2]
      have h2' : ¬ ((s.next : Int) = 18446744073709551615) := by omega
      have hw : IntKind.u64.wrap ((s.next : Int) + 1) = ((s.next + 1 : Nat) : Int) := by rw [IntKind.wrap_u64]; omega
      generalize (s.most : Int) - s.rdy.length - s.out.length = rm at hz hR
      obtain ⟨i0, hi0, hz0, hzs, hzb⟩ := itemInfo
      obtain ⟨W, hW⟩ : ∃ W, W = w.alloc (.cells #[.int .i64 m.o, .int .u64 m.s, .int .i64 m.hop, .string m.ex, .string m.key, .string m.body] 40) := ⟨_, rfl⟩
      rw [← hW] at bel0 h0 hR
      have hmsg : W.cell? ⟨w.heap.size, 0, none⟩ = some (.int .i64 m.o) ∧ W.cell? ⟨w.heap.size, 1, none⟩ = some (.int .u64 m.s) ∧ W.cell? ⟨w.heap.size, 2, none⟩ = some (.int .i64 m.hop) ∧ W.cell? ⟨w.heap.size, 3, none⟩ = some (.string m.ex) ∧ W.cell? ⟨w.heap.size, 4, none⟩ = some (.string m.key) ∧ W.cell? ⟨w.heap.size, 5, none⟩ = some (.string m.body) := by
        rw [hW]; simp [World.cell?_alloc_at]
      obtain ⟨m0, m1, m2, m3, m4, m5⟩ := hmsg
      obtain ⟨⟨c0, c1, c2, c3⟩, f0, f1, f2, f3⟩ := cells4 (hq.after bel0).blk
      obtain ⟨va, vc, hv⟩ := hq.rows.rng.slice
      subst hv
      have HQ : Hid (QAt w p (.slice va s.rdy.length vc) b s) := hq
      have HW : Hid (W = w.alloc (.cells #[.int .i64 m.o, .int .u64 m.s, .int .i64 m.hop, .string m.ex, .string m.key, .string m.body] 40)) := hW
      have hM := made_any p F s _ h0 ok.m1
      clear hq h1 h2 hn
      go_enter Tryz.func185, Tryz.ntmps185
      go_wp2_with fail
      rw [← HW.out]
      clear hW
      refine hM.mono ?_
      rintro e W ⟨rfl, rfl⟩
      go_wp2_with fail
      refine hR.mono ?_
      rintro e w2 ⟨rfl, q, rfl⟩
      go_wp2
      have HO : Hid (∀ X : World, X.heap = W.heap → ∀ o, Own8 (X.alloc o) 0 (.slice va s.rdy.length vc) s.rdy) := fun X hX o => ((HQ.out.after bel0).rows.same (w' := X) fun g _ => by rw [hX]).alloc o
      have HN : Hid (∀ X : World, X.heap = W.heap → W.heap.size = X.heap.size) := fun X hX => by rw [hX]
      have HP : Hid (∀ X : World, X.heap = W.heap → ∀ o w', (X.alloc o).grownBy w' (Value.slice va s.rdy.length vc).ownBlock → w'.cell? ⟨p, 1, none⟩ = some (.int .u64 (s.next : Int)) ∧ w'.cell? ⟨p, 2, none⟩ = some (.slice va s.rdy.length vc) ∧ w'.frozen? ⟨p, 1, none⟩ = false ∧ w'.frozen? ⟨p, 2, none⟩ = false) := fun X hX o w' gr => by
        have hqW := HQ.out.after bel0
        have hlt := hqW.lt
        have hb : w'.heap[p]? = W.heap[p]? := by
          rw [gr.block p (by rw [World.size_alloc, hX]; omega) (fun h => hqW.ne_row h.symm), Below.heap_alloc _ _ _ (by rw [hX]; exact hlt), hX]
        obtain ⟨⟨_, k1, k2, _⟩, _, k3, k4, _⟩ := cells4 (hb.trans hqW.blk)
        exact ⟨k1, k2, k3, k4⟩
      have HE : Hid (∀ X : World, X.heap = W.heap ∧ X.os = W.os ∧ X.tape = W.tape ∧ X.output = W.output → ∀ o w' v', Own8 w' 0 v' (s.rdy ++ [⟨s.next, m, false⟩]) → (X.alloc o).grownBy w' (Value.slice va s.rdy.length vc).ownBlock → NewOr (X.alloc o) (.slice va s.rdy.length vc) v' →
          ∃ F', Q ((w'.setCell ⟨p, 2, none⟩ v').setCell ⟨p, 1, none⟩ (.int .u64 ((s.next : Int) + 1))) p F' { s with next := s.next + 1, rdy := s.rdy ++ [⟨s.next, m, false⟩] } ∧ Moved w ((w'.setCell ⟨p, 2, none⟩ v').setCell ⟨p, 1, none⟩ (.int .u64 ((s.next : Int) + 1))) F F') := fun X hX o w' v' own gr nw => by
        have bX : Below w.heap.size w (X.alloc o) := (bel0.trans (show Below w.heap.size W X from ⟨hX.2.1, hX.2.2.1, hX.2.2.2, by rw [hX.1]; exact Nat.le_refl _, fun k _ => by rw [hX.1]⟩)).alloc (by rw [hX.1]; exact bel0.size) o
        obtain ⟨q1, m1⟩ := row_set HQ.out bX own gr nw
        obtain ⟨q2, m2⟩ := next_set q1 (s.next + 1)
        exact ⟨_, ⟨_, _, q2, fun _ => Iff.rfl⟩, (m1.trans m2).to hF⟩
      have c2' : ∀ o, ((W.drewN (q + 1)).alloc o).cell? ⟨p, 2, none⟩ = some (.slice va s.rdy.length vc) := fun o => cell_alloc_r (W := W.drewN (q + 1)) o c2
      go_region_law (refine step_append_rows (enc := icells) rfl (.tmp 23) (.tmp 30) 84 rfl Tryz.underlying84 i0 _ 88 hi0 hz0 hzs hzb rfl 0 (.slice va s.rdy.length vc) (.slice (some ⟨W.heap.size, 0, none⟩) 1 1) s.rdy [⟨s.next, m, false⟩] (by simp [Act.eval]) (by simp [Act.eval]) (HO.out _ rfl _) (rowK_one _ _ _ (HN.out _ rfl)) (by unfold maxLen; simp; omega) (by simp; omega) (Nat.zero_le _) ?_; intro v' w' own' gr' nw'; obtain ⟨d1, d2, d3, d4⟩ := HP.out (W.drewN (q + 1)) rfl _ _ gr'; have HE' : Hid _ := HE.out (W.drewN (q + 1)) ⟨rfl, rfl, rfl, rfl⟩ _ _ _ own' gr' nw'; obtain ⟨va', vc', hv'⟩ := own'.rng.slice; rw [List.length_append] at hv'; subst hv'; clear own' gr' nw')
      all_goals (try clear m0 m1 m2 m3 m4 m5 c0 c1 c2 c3)
      all_goals go_wp2
      all_goals go_ret
      all_goals exact ⟨rfl, HE'.out⟩
end Go.Proofs.YtjagaankkcbjmaaGreatDoor.F

/-
  AN ITEM in a block of its own: made, written, handed back.
-/
namespace Go.Proofs.YtjagaankkcbjmaaGreatDoor.K
end Go.Proofs.YtjagaankkcbjmaaGreatDoor.K
namespace Go.Proofs.YtjagaankkcbjmaaGreatDoor.F
open Go.Proofs.YtjagaankkcbjmaaGreatDoor.K
open Go.RowKit Go.Sort

/-- An item in a block of its own. -/
theorem itAt_new (w : World) (x : It) (n : Nat) (hn : n = w.heap.size) : ItAt (w.alloc (.cells #[.int .u64 (x.tag : Int), .int .i64 x.m.o, .int .u64 x.m.s, .int .i64 x.m.hop, .string x.m.ex, .string x.m.key, .string x.m.body, .bool x.again] 102)) n 0 x := by
  subst hn
  constructor <;> simp [World.cell?_alloc_at]
theorem ItAt.same {w w' : World} {b off : Nat} {x : It} (h : ItAt w b off x) (hs : w'.heap[b]? = w.heap[b]?) : ItAt w' b off x := by
  have e : ∀ o, w'.cell? ⟨b, o, none⟩ = w.cell? ⟨b, o, none⟩ := fun o => by simp [World.cell?, hs]
  exact ⟨(e _).trans h.c0, (e _).trans h.c1, (e _).trans h.c2, (e _).trans h.c3, (e _).trans h.c4, (e _).trans h.c5, (e _).trans h.c6, (e _).trans h.c7⟩
/-- A block of items that may be written. -/
def Soft (w : World) (b : Nat) : Prop := ∃ cs, w.heap[b]? = some (.cells cs 102 (0, 0)) ∧ cs.size = 8
theorem Soft.same {w w' : World} {b : Nat} (h : Soft w b) (hs : w'.heap[b]? = w.heap[b]?) : Soft w' b := by
  obtain ⟨cs, h1, h2⟩ := h
  exact ⟨cs, by rw [hs]; exact h1, h2⟩
theorem Soft.frozen {w : World} {b : Nat} (h : Soft w b) (o : Nat) : w.frozen? ⟨b, o, none⟩ = false := by
  obtain ⟨cs, h1, _⟩ := h
  simp [World.frozen?, h1]
theorem Soft.cell {w : World} {b : Nat} (h : Soft w b) (o : Nat) (ho : o < 8) : ∃ u, w.cell? ⟨b, o, none⟩ = some u := by
  obtain ⟨cs, h1, h2⟩ := h
  exact ⟨cs[o]'(by omega), by simp [World.cell?, h1, h2, ho]⟩
/-- Eight cells are written into a block. -/
abbrev put8 (w : World) (g : Nat) (v0 v1 v2 v3 v4 v5 v6 v7 : Value) : World := (((((((w.setCell ⟨g, 0, none⟩ v0).setCell ⟨g, 1, none⟩ v1).setCell ⟨g, 2, none⟩ v2).setCell ⟨g, 3, none⟩ v3).setCell ⟨g, 4, none⟩ v4).setCell ⟨g, 5, none⟩ v5).setCell ⟨g, 6, none⟩ v6).setCell ⟨g, 7, none⟩ v7
theorem put8_at {w : World} {g : Nat} (h : Soft w g) (v0 v1 v2 v3 v4 v5 v6 v7 : Value) : (put8 w g v0 v1 v2 v3 v4 v5 v6 v7).heap[g]? = some (.cells #[v0, v1, v2, v3, v4, v5, v6, v7] 102 (0, 0)) := by
  obtain ⟨⟨l⟩, h1, h2⟩ := h
  match l, h2 with
  | [a0, a1, a2, a3, a4, a5, a6, a7], _ =>
    have e0 := heap_setCell_same w g 0 _ _ v0 h1
    have e1 := heap_setCell_same _ g 1 _ _ v1 e0
    have e2 := heap_setCell_same _ g 2 _ _ v2 e1
    have e3 := heap_setCell_same _ g 3 _ _ v3 e2
    have e4 := heap_setCell_same _ g 4 _ _ v4 e3
    have e5 := heap_setCell_same _ g 5 _ _ v5 e4
    have e6 := heap_setCell_same _ g 6 _ _ v6 e5
    have e7 := heap_setCell_same _ g 7 _ _ v7 e6
    rw [e7]
    simp
theorem put8_other {w : World} {g k : Nat} (v0 v1 v2 v3 v4 v5 v6 v7 : Value) (h : k ≠ g) : (put8 w g v0 v1 v2 v3 v4 v5 v6 v7).heap[k]? = w.heap[k]? := by
  unfold put8
  rw [heap_setCell_other _ _ _ _ h, heap_setCell_other _ _ _ _ h, heap_setCell_other _ _ _ _ h, heap_setCell_other _ _ _ _ h, heap_setCell_other _ _ _ _ h, heap_setCell_other _ _ _ _ h, heap_setCell_other _ _ _ _ h, heap_setCell_other _ _ _ _ h]
theorem put8_size (w : World) (g : Nat) (v0 v1 v2 v3 v4 v5 v6 v7 : Value) : (put8 w g v0 v1 v2 v3 v4 v5 v6 v7).heap.size = w.heap.size := by simp [put8]
theorem results_item_tmp {fn : Func} {p u : Tmp} (h : fn.results = #[.cell p 102, .tmp u]) (tmps : Array Value) (w : World) (g : Nat) (v0 v1 v2 v3 v4 v5 v6 v7 : Value) (hp : tmps.getD p undef = .pointer (some ⟨g, 0, none⟩)) (hg : w.heap[g]? = some (.cells #[v0, v1, v2, v3, v4, v5, v6, v7] 102 (0, 0))) :
    (results fn tmps).run Tryz.prog w = .ok (.tuple #[.agg #[v0, v1, v2, v3, v4, v5, v6, v7], tmps.getD u undef]) w := by
  rw [results_cell_tmp h, hp]
  simp [asAddr, run_loadVar_row w g _ _ _ _ _ hg Tryz.underlying102 rfl info8, Result.andThen]
theorem ret_item {fn : Func} {R : Ending → World → Prop} {a : Act} {w : World} {p u : Tmp} (h : fn.results = #[.cell p 102, .tmp u]) (g : Nat) {v0 v1 v2 v3 v4 v5 v6 v7 r : Value} (hp : a.tmps.getD p undef = .pointer (some ⟨g, 0, none⟩)) (hu : a.tmps.getD u undef = r) (hd : a.defers = [])
    (hg : w.heap[g]? = some (.cells #[v0, v1, v2, v3, v4, v5, v6, v7] 102 (0, 0))) (hR : R (.returned (.tuple #[.agg #[v0, v1, v2, v3, v4, v5, v6, v7], r])) w) : bodyPost Tryz.prog fn R .ret a w :=
  bodyPost_ret (results_item_tmp h a.tmps w g v0 v1 v2 v3 v4 v5 v6 v7 hp hg) hd (by rw [hu]; exact hR)
end Go.Proofs.YtjagaankkcbjmaaGreatDoor.F

/-
  PACKAGE fifo: Give, by its contract.
-/
namespace Go.Proofs.YtjagaankkcbjmaaGreatDoor.K
end Go.Proofs.YtjagaankkcbjmaaGreatDoor.K
namespace Go.Proofs.YtjagaankkcbjmaaGreatDoor.F
open Go.Proofs.YtjagaankkcbjmaaGreatDoor.K
open Go.RowKit Go.Sort

theorem _root_.Go.Proofs.YtjagaankkcbjmaaGreatDoor.Moved.on {w w6 w7 : World} {F F' : Nat → Prop} (h : Moved w w6 F F') (nz : Nat) (hz : w.heap.size ≤ nz) (os : w7.os = w6.os) (tape : w7.tape = w6.tape) (output : w7.output = w6.output) (size : w7.heap.size = w6.heap.size) (hs : ∀ k, k ≠ nz → w7.heap[k]? = w6.heap[k]?) : Moved w w7 F F' :=
  ⟨os.trans h.os, tape.trans h.tape, output.trans h.output, by rw [size]; exact h.size, fun k hk hn => (hs k (by omega)).trans (h.block k hk hn), h.sub⟩
theorem os_setCell_r (w : World) (a : Addr) (v : Value) : (w.setCell a v).os = w.os := rfl
theorem tape_setCell_r (w : World) (a : Addr) (v : Value) : (w.setCell a v).tape = w.tape := rfl
theorem output_setCell_r (w : World) (a : Addr) (v : Value) : (w.setCell a v).output = w.output := rfl
theorem put8_world (W : World) (nz : Nat) (v0 v1 v2 v3 v4 v5 v6 v7 : Value) : (put8 W nz v0 v1 v2 v3 v4 v5 v6 v7).os = W.os ∧ (put8 W nz v0 v1 v2 v3 v4 v5 v6 v7).tape = W.tape ∧ (put8 W nz v0 v1 v2 v3 v4 v5 v6 v7).output = W.output := by
  simp only [put8, os_setCell_r, tape_setCell_r, output_setCell_r, and_self]
theorem put8_end {w W : World} {F F' : Nat → Prop} {p : Nat} {s : St} (hq : Q W p F' s) (mvd : Moved w W F F') (nz : Nat) (hz : w.heap.size ≤ nz) (hn : ¬ F' nz) (v0 v1 v2 v3 v4 v5 v6 v7 : Value) : ∃ F', Q (put8 W nz v0 v1 v2 v3 v4 v5 v6 v7) p F' s ∧ Moved w (put8 W nz v0 v1 v2 v3 v4 v5 v6 v7) F F' := by
  obtain ⟨h1, h2, h3⟩ := put8_world W nz v0 v1 v2 v3 v4 v5 v6 v7
  have h4 := put8_size W nz v0 v1 v2 v3 v4 v5 v6 v7
  have h5 : ∀ k, k ≠ nz → (put8 W nz v0 v1 v2 v3 v4 v5 v6 v7).heap[k]? = W.heap[k]? := fun k hk => put8_other v0 v1 v2 v3 v4 v5 v6 v7 hk
  generalize put8 W nz v0 v1 v2 v3 v4 v5 v6 v7 = X at *
  exact ⟨F', hq.same fun k hk => h5 k (fun e => hn (e ▸ hk)), mvd.on nz hz h1 h2 h3 h4 h5⟩
/-- The map is another one. -/
theorem map_set {w w' : World} {p : Nat} {v : Value} {b : Nat} {s : St} {l : List It} (hq : QAt w p v b s) (out : OutAt w' b l) (gr : w.grownBy w' (some b)) :
    QAt w' p v b { s with out := l } ∧ Moved w w' (foot p v b) (foot p v b) := by
  have h1 : w'.heap[p]? = w.heap[p]? := gr.block p hq.lt (fun h => hq.ne_map (by injection h with h; exact h.symm))
  refine ⟨⟨by rw [h1]; exact hq.blk, hq.rows.same fun g hg => gr.block g (hq.rows.lt hg).2 (fun h => hq.row_map (by rw [hg]; exact h)), out⟩, gr.os, gr.tape, gr.output, gr.size, fun k hk hn => gr.block k hk (fun h => hn (.inr (.inr (by injection h)))), fun k hk => .inl hk⟩


end Go.Proofs.YtjagaankkcbjmaaGreatDoor.F
