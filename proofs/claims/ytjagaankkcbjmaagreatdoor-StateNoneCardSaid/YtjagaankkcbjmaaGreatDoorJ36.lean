/-
  PACKAGE seen: Origins, by its contract.
-/
import Derived.Test.YtjagaankkcbjmaaGreatDoorJ35
import Derived.Test.YtjagaankkcbjmaaGreatDoorJ1
import Derived.Test.YtjagaankkcbjmaaGreatDoorJ28
import Derived.Test.YtjagaankkcbjmaaGreatDoorJ34
import Derived.Test.YtjagaankkcbjmaaGreatDoorJ27
import Derived.Test.YtjagaankkcbjmaaGreatDoorJ24
namespace Go.Proofs.YtjagaankkcbjmaaGreatDoor.S
open Go.RowKit Go.Shelf
set_option maxRecDepth 20000

attribute [local go_sem] Oper.semAt_some

/-- all's word, for a loop over what it hands back. -/
theorem all_stops (n : Nat) (hn : 1 ≤ n) (Bn : Nat) (b : Value) (s : Nat → Value) (f : Nat → List (Nat × Nat)) (w w0 : World) (hg : Gives w b s f) (hb : Below w.heap.size w w0) (hBn : Bn < w0.heap.size) (hc : w0.cell? ⟨Bn, 0, none⟩ = some b) :
    SeqStopsK Fence.wide n Tryz.prog 213 #[.pointer (some ⟨Bn, 0, none⟩)] (fun x : Nat => #[Value.int .i64 ((x : Int) + 1), s x]) (KeepB w.heap.size Bn) (fun ys => ys = liveL f) (fun pre => pre <+: liveL f) 8 w0 := fun l J Jx W hW _ _ hY h0 =>
  all1_in n hn l Bn b s f w hg J Jx (fun pre x W _ => hY pre x W) W (hb.trans (hW.mono hb.size)) ((hW.cell (p := ⟨Bn, 0, none⟩) hBn).trans hc) h0
theorem infoInt : (Tryz.prog.info? 3).map (fun i => (i.zero, i.size, i.bytes)) = some (some (.int .i64 0), 1, 8) := by kernel_rfl
theorem boxed_own {β : Type} (B : Nat) (t : TypeId) (v : Value) : Own (fun (_ : β) W => Boxed W B t v) := by
  intro s X Y row h hg hrow
  refine h.kept hg fun e => ?_
  obtain ⟨o, ho, hc⟩ := hrow B e.symm
  rw [show X.heap[B]? = _ from h] at ho
  cases ho
  cases hc
def places (l : List Nat) : List Int := l.map fun i : Nat => (i : Int) + 1
theorem places_len (l : List Nat) : (places l).length = l.length := by simp [places]
theorem places_snoc (l : List Nat) (x : Nat) : places (l ++ [x]) = places l ++ [(x : Int) + 1] := by simp [places]

set_option maxRecDepth 100000 in
set_option maxHeartbeats 2000000 in
theorem origins_in (q : Option Addr) (f : Nat → List (Nat × Nat)) (w : World) (h : Told w (.pointer q) f) :
    CallsIn Fence.wide 3 Tryz.prog 60 #[.pointer q] w fun e W' => ∃ v, e = .returned v ∧ Own1 W' w.heap.size 3 v (icells (places (liveL f))) ∧ Below w.heap.size w W' := by
  obtain ⟨s, hg⟩ := h.gives
  obtain ⟨i0, hi, hz0, hz1, hz2⟩ := info_parts infoInt
  clear h
  refine callsIn_of_wp_marks Tryz.func60 rfl trivial ?_ rfl
  simp only [Tryz.ntmps60, List.size_toArray, List.length_cons, List.length_nil, Nat.reduceAdd, Nat.reduceSub, Array.replicate_succ, Array.replicate_zero, List.push_toArray, List.append_toArray, List.nil_append, List.cons_append]
  gi_wp2_with (refine ⟨trivial, ?_⟩; gi_at_call 133; refine (callsIn_wide.2 (all_any q _)).mono ?_; rintro e w' ⟨rfl, rfl⟩)
  have bO := Boxed.new w 87 (.slice none 0 0)
  have bN := Boxed.new (w.alloc (.cells #[.slice none 0 0] 87)) 93 (.pointer q)
  simp only [World.size_alloc] at bN
  have hB0 : Below w.heap.size w ((w.alloc (.cells #[.slice none 0 0] 87)).alloc (.cells #[.pointer q] 93)) := ((Below.refl _ _).alloc (Nat.le_refl _) _).alloc (by simp) _
  refine wpIn_rangeFunc_ownG rfl (by decide) (gf := 213) (lb := #[.pointer (some ⟨w.heap.size + 1, 0, none⟩)]) rfl trivial (enters_of Tryz.func213 (by kernel_rfl) rfl)
    (all_stops _ (by decide) (w.heap.size + 1) (.pointer q) s f w _ hg hB0 bN.lt bN.cell) keepB_t (keepB_b (by simp; omega) bN.lt) (Below.refl _ _) (fun _ => rfl)
    (fun pre W => ((∃ v, Boxed W w.heap.size 87 v ∧ W.ownsRow w.heap.size 3 1 v pre.length (icells (places pre)) ∧ True) ∧ Boxed W (w.heap.size + 1) 93 (.pointer q)) ∧ Below w.heap.size w W)
    (fun _ _ _ => False)
    (OwnFrom.and (OwnFrom.and (Own.from (holdsRow_own w.heap.size w.heap.size 87 3 1 (fun pre : List Nat => pre.length) (fun pre => icells (places pre)) (fun _ _ => True)) _) (Own.from (boxed_own _ _ _) _)) (ownFrom_below (Nat.le_refl _) (by simp; omega)))
    (fun _ _ _ _ _ hs _ _ => hs)
    ⟨⟨⟨_, bO.alloc _, World.ownsRow_nil _ _ _ _, trivial⟩, bN⟩, hB0⟩
    (fun x => { tmps := #[.pointer q, undef, .slice none 0 0, .pointer (some ⟨w.heap.size, 0, none⟩), .int .i64 ((x : Int) + 1), .pointer q, .func (.func 213) #[] #[.pointer (some ⟨w.heap.size + 1, 0, none⟩)], .int .i64 ((x : Int) + 1), s x, undef, undef, undef, undef, undef], defers := [] }) ?assign ?body ?done ?stop
  case assign =>
    intro l x W K hK
    gi_wp2
    exact hK
  case body =>
    rintro l pre x W ⟨⟨⟨v, hv, hrow, _⟩, hN⟩, hB⟩ hlt
    have hc := hv.cell
    have hsz : w.heap.size ≤ W.heap.size := hB.size
    obtain ⟨ga, gc, hgv⟩ : ∃ a cap, v = .slice a pre.length cap := by
      obtain ⟨a, cap, h⟩ := (row_of_owns (cs := icells (places pre)) (by rw [icells_length, places_len]; exact hrow)).slice
      rw [icells_length, places_len] at h
      exact ⟨a, cap, h⟩
    subst hgv
    gi_wp2_with (gi_at_builtin; refine wpListIn_append_own _ rfl _ _ 87 rfl w.heap.size 3 i0 (.int .i64 0) 1 8 Tryz.underlying87 hi hz0 hz1 hz2 rfl (by decide) _ _ _ rfl (hrow.alloc _) ⟨W.heap.size, 0, none⟩ 1 1 [.int .i64 ((x : Int) + 1)] rfl rfl (cell_one_new _ _ _) (by simp [Value.oneCell']) (by unfold maxLen; omega) (by omega) (by simp; omega) ?_; intro v' w1 hown' hgrow _; obtain ⟨g', cap', rfl⟩ := ownsRow_succ hown'; obtain ⟨hv1, hv2, hr2, hk2, hb2⟩ := hv.appended (by decide) hrow hsz (Nat.le_refl _) hown' hgrow; have hc1 := hv1.cell; have hf1 := hv1.frozen; have hN1 : Hid _ := (hN.alloc _).kept hgrow (hN.not_row (by decide) hrow))
    have hN2 : Boxed (w1.setCell ⟨w.heap.size, 0, none⟩ (.slice (some ⟨g', 0, none⟩) (pre.length + 1) cap')) (w.heap.size + 1) 93 (.pointer q) := (Below.heap_setCell _ _ _ _ (show w.heap.size + 1 ≠ w.heap.size by omega)).trans hN1.out
    refine ⟨hk2.from _, ⟨hb2, ?_⟩, ⟨⟨_, hv2, ?_, trivial⟩, hN2⟩, hB.trans hb2⟩
    · rw [show (w1.setCell ⟨w.heap.size, 0, none⟩ (.slice (some ⟨g', 0, none⟩) (pre.length + 1) cap')).heap[w.heap.size + 1]? = _ from hN2, show W.heap[w.heap.size + 1]? = _ from hN]
    · rw [places_snoc, icells_append, List.length_append]
      exact hr2
  case done =>
    rintro D ys W hD rfl ⟨⟨⟨v, hv, hrow, _⟩, hN⟩, hB⟩ hK
    have hc := hv.cell
    gi_wp2
    refine ⟨by simp, .inl ⟨_, _, rfl, run_takeDeferred hK, ?_⟩⟩
    refine ⟨_, results_tmp rfl _ _ _, v, rfl, ?_, hB.trans (belowK_b (w := w) (Nat.le_refl _) W D _ _ (by simp at hD; omega) hK rfl rfl)⟩
    unfold Own1
    rw [icells_length, places_len]
    exact ownsRow_putObj hrow _ hK rfl
  case stop =>
    rintro D c pre W _ _ h _
    exact h.elim
theorem origins_any (b : Value) (f : Nat → List (Nat × Nat)) (w : World) (h : Told w b f) :
    Calls Tryz.prog 60 #[b] w fun e W' => ∃ v, e = .returned v ∧ Own1 W' w.heap.size 3 v (icells (places (liveL f))) ∧ Below w.heap.size w W' := by
  obtain ⟨q, rfl⟩ := h.ptr
  exact callsIn_wide.1 (origins_in q f w h)
end Go.Proofs.YtjagaankkcbjmaaGreatDoor.S

/-
  A STATE's PARTS in memory: rows of the call's own, told by a model's state.
-/
namespace Go.Proofs.YtjagaankkcbjmaaGreatDoor
open Go.RowKit

/-- Two lists, one beside the other. -/
inductive All2 {α β : Type} (R : α → β → Prop) : List α → List β → Prop
  | nil : All2 R [] []
  | cons {a : α} {b : β} {l : List α} {m : List β} : R a b → All2 R l m → All2 R (a :: l) (b :: m)
theorem All2.len {α β : Type} {R : α → β → Prop} {l : List α} {m : List β} (h : All2 R l m) : l.length = m.length := by
  induction h with
  | nil => rfl
  | cons _ _ ih => simp [ih]
theorem All2.imp {α β : Type} {R S : α → β → Prop} {l : List α} {m : List β} (h : All2 R l m) (hi : ∀ a b, R a b → S a b) : All2 S l m := by
  induction h with
  | nil => exact .nil
  | cons h _ ih => exact .cons (hi _ _ h) ih
theorem All2.snoc {α β : Type} {R : α → β → Prop} {l : List α} {m : List β} (h : All2 R l m) {a : α} {b : β} (hr : R a b) : All2 R (l ++ [a]) (m ++ [b]) := by
  induction h with
  | nil => exact .cons hr .nil
  | cons h _ ih => exact .cons h ih
theorem All2.at {α β : Type} {R : α → β → Prop} {l : List α} {m : List β} (h : All2 R l m) : ∀ (i : Nat) (hi : i < l.length) (hj : i < m.length), R l[i] m[i] := by
  induction h with
  | nil => intro i hi; simp at hi
  | cons h _ ih =>
    intro i hi hj
    cases i with
    | zero => exact h
    | succ i => exact ih i (by simpa using hi) (by simpa using hj)
/-- Nothing but new memory, and blocks of one type, has changed. -/
structure But (T : TypeId) (B : Nat) (w w' : World) : Prop where
  bel : Below B w w'
  size : w.heap.size ≤ w'.heap.size
  keep : ∀ (k : Nat) (c : Array Value) (T' : TypeId) (z : Nat × Nat), w.heap[k]? = some (.cells c T' z) → T' ≠ T → w'.heap[k]? = w.heap[k]?
theorem But.refl (T : TypeId) (B : Nat) (w : World) : But T B w w := ⟨Below.refl _ _, Nat.le_refl _, fun _ _ _ _ _ _ => rfl⟩
theorem owns_but {w w' : World} {lo B : Nat} {T T' : TypeId} {K n : Nat} {v : Value} {cs : List Value} (h : w.ownsRow lo T' K v n cs) (hb : But T B w w') (hne : T' ≠ T) : w'.ownsRow lo T' K v n cs := by
  refine ⟨h.1, ?_⟩
  rcases h.2 with hn | ⟨g, cap, cur, hv, hbg, hg, rest⟩
  · exact .inl hn
  · exact .inr ⟨g, cap, cur, hv, hbg, by rw [hb.keep g _ _ _ hg hne]; exact hg, rest⟩
theorem owns_same {w w' : World} {lo : Nat} {T' : TypeId} {K n : Nat} {v : Value} {cs : List Value} (h : w.ownsRow lo T' K v n cs) (hs : ∀ g, lo ≤ g → g < w.heap.size → w'.heap[g]? = w.heap[g]?) : w'.ownsRow lo T' K v n cs := by
  refine ⟨h.1, ?_⟩
  rcases h.2 with hn | ⟨g, cap, cur, hv, hbg, hg, rest⟩
  · exact .inl hn
  · exact .inr ⟨g, cap, cur, hv, hbg, by rw [hs g hbg (Array.getElem?_eq_some_iff.1 hg).1]; exact hg, rest⟩
theorem owns_lower {w : World} {b c : Nat} {T' : TypeId} {K n : Nat} {v : Value} {cs : List Value} (h : w.ownsRow b T' K v n cs) (hc : c ≤ b) : w.ownsRow c T' K v n cs := by
  refine ⟨h.1, ?_⟩
  rcases h.2 with hn | ⟨g, cap, cur, hv, hbg, rest⟩
  · exact .inl hn
  · exact .inr ⟨g, cap, cur, hv, Nat.le_trans hc hbg, rest⟩
theorem but_grown {w w' : World} {lo : Nat} {T : TypeId} {K n : Nat} {v : Value} {cs : List Value} (h : w.ownsRow lo T K v n cs) (hg : w.grownBy w' v.ownBlock) (hlo : lo ≤ w.heap.size) : But T lo w w' := by
  refine ⟨(Below.refl _ _).grown hg hlo (fun k hk => (World.ownsRow.lt h k hk).1), hg.size, fun k c T' z hk hne => hg.block k (Array.getElem?_eq_some_iff.1 hk).1 fun e => ?_⟩
  rcases h.2 with ⟨rfl, _⟩ | ⟨g, cap, cur, hv, hbg, hg', _⟩
  · simp [Value.ownBlock] at e
  · rw [hv] at e
    simp only [Value.ownBlock] at e
    injection e with e
    subst e
    rw [hk] at hg'
    injection hg' with hg'
    injection hg' with _ h2 _
    exact hne h2
theorem but_setCell {w : World} {g j B : Nat} {c : Array Value} {T : TypeId} {z : Nat × Nat} (h : w.heap[g]? = some (.cells c T z)) (hB : B ≤ g) (v : Value) : But T B w (w.setCell ⟨g, j, none⟩ v) := by
  refine ⟨(Below.refl _ _).setCell (p := ⟨g, j, none⟩) hB v, by simp, fun k c' T' z' hk hne => heap_setCell_other _ _ _ _ fun e => ?_⟩
  have e : k = g := e
  subst e
  rw [h] at hk
  injection hk with hk
  injection hk with _ h2 _
  exact hne h2.symm
theorem but_setRow {w : World} {g B : Nat} {c : Array Value} {T : TypeId} {z : Nat × Nat} (h : w.heap[g]? = some (.cells c T z)) (hB : B ≤ g) (cs : Array Value) : But T B w (w.setRow g cs) := by
  refine ⟨below_setRow (Below.refl _ _) hB cs, by simp [World.setRow], fun k c' T' z' hk hne => setRow_other14 _ _ _ _ fun e => ?_⟩
  subst e
  rw [h] at hk
  injection hk with hk
  injection hk with _ h2 _
  exact hne h2.symm
/-- All of a state. -/
structure Pt where
  seq : Int
  boots : Int
  x : Sl
  b : Sl
  q : Sl
  s : Sl
  l : Sl
def ptcells (x : Pt) : List Value := [.int .u64 x.seq, .int .u64 x.boots, slv x.x, slv x.b, slv x.q, slv x.s, slv x.l]
abbrev ptv (x : Pt) : Value := .agg #[.int .u64 x.seq, .int .u64 x.boots, slv x.x, slv x.b, slv x.q, slv x.s, slv x.l]
def zSl : Sl := (none, 0, 0)
def zPt : Pt := ⟨0, 0, zSl, zSl, zSl, zSl, zSl⟩
theorem infoPt : (Tryz.prog.info? 57).map (·.size) = some 7 := by kernel_rfl
theorem onePt (x : Pt) : (ptcells x).toArray.all (·.oneCell') = true := by simp [ptcells, Value.oneCell']
/-- A pair of a number and a slice: a part of what was seen, or of what waits. -/
def spcells (x : Int × Sl) : List Value := [.int .i64 x.1, slv x.2]
instance encSp : K.Enc spcells 2 := ⟨fun _ => rfl, fun m u hu => by simp [spcells] at hu; rcases hu with rfl | rfl <;> rfl, by decide⟩
theorem infoQP : ∃ i, Tryz.prog.info? 86 = some i ∧ i.zero = some (qpv zQp) ∧ i.size = 5 ∧ i.bytes = 80 := by
  have hinfo : (Tryz.prog.info? 86).map (fun i => (i.zero, i.size, i.bytes)) = some (some (qpv zQp), 5, 80) := by kernel_rfl
  cases h : Tryz.prog.info? 86 with
  | none => rw [h] at hinfo; simp at hinfo
  | some i =>
    rw [h] at hinfo
    simp only [Option.map_some, Option.some.injEq, Prod.mk.injEq] at hinfo
    exact ⟨i, rfl, hinfo.1, hinfo.2.1, hinfo.2.2⟩
theorem infoSP : ∃ i, Tryz.prog.info? 132 = some i ∧ i.zero = some (.agg #[.int .i64 0, .slice none 0 0]) ∧ i.size = 2 ∧ i.bytes = 32 := by
  have hinfo : (Tryz.prog.info? 132).map (fun i => (i.zero, i.size, i.bytes)) = some (some (.agg #[.int .i64 0, .slice none 0 0]), 2, 32) := by kernel_rfl
  cases h : Tryz.prog.info? 132 with
  | none => rw [h] at hinfo; simp at hinfo
  | some i =>
    rw [h] at hinfo
    simp only [Option.map_some, Option.some.injEq, Prod.mk.injEq] at hinfo
    exact ⟨i, rfl, hinfo.1, hinfo.2.1, hinfo.2.2⟩
theorem infoLP : ∃ i, Tryz.prog.info? 136 = some i ∧ i.zero = some (.agg #[.int .i64 0, .slice none 0 0]) ∧ i.size = 2 ∧ i.bytes = 32 := by
  have hinfo : (Tryz.prog.info? 136).map (fun i => (i.zero, i.size, i.bytes)) = some (some (.agg #[.int .i64 0, .slice none 0 0]), 2, 32) := by kernel_rfl
  cases h : Tryz.prog.info? 136 with
  | none => rw [h] at hinfo; simp at hinfo
  | some i =>
    rw [h] at hinfo
    simp only [Option.map_some, Option.some.injEq, Prod.mk.injEq] at hinfo
    exact ⟨i, rfl, hinfo.1, hinfo.2.1, hinfo.2.2⟩
abbrev OwnQp (w : World) (base : Nat) (v : Value) (l : List Qp) : Prop := K.OwnOf qpcells 5 86 w base v l
abbrev OwnSp (w : World) (base : Nat) (v : Value) (l : List (Int × Sl)) : Prop := K.OwnOf spcells 2 132 w base v l
abbrev OwnLp (w : World) (base : Nat) (v : Value) (l : List (Int × Sl)) : Prop := K.OwnOf spcells 2 136 w base v l
def SpIs (w : World) (base : Nat) (bk : Nat → List (Nat × Nat)) (x : Int × Sl) (o : Int) : Prop := x.1 = o ∧ S.Own2 w base (slv x.2) (S.ofF bk o)
def LpIs (w : World) (base : Nat) (x : Int × Sl) (y : Int × List Ms) : Prop := x.1 = y.1 ∧ OwnM w base (slv x.2) y.2
/-- These rows tell a state, of which these queues, origins and links have been told. -/
structure PtIs (w : World) (base : Nat) (P : Pt) (s : Sm) (qs : List (ByteArray × F.St)) (os : List Int) (lk : List (Int × List Ms)) : Prop where
  seq : P.seq = s.seq
  boots : P.boots = s.boots
  x : B.OwnX w base (slv P.x) s.tb.xs
  b : B.OwnB w base (slv P.b) s.tb.bs
  q : ∃ Q, OwnQp w base (slv P.q) Q ∧ All2 (fun x y => QpIs w base x y.1 y.2) Q qs
  s : ∃ Q, OwnSp w base (slv P.s) Q ∧ All2 (SpIs w base s.bk) Q os
  l : ∃ Q, OwnLp w base (slv P.l) Q ∧ All2 (LpIs w base) Q lk
/-- .. all of it. -/
def PartsIs (w : World) (base : Nat) (P : Pt) (s : Sm) : Prop := PtIs w base P s s.qs (S.places (S.liveL s.bk)) s.lk
section
variable {w w' : World} {base : Nat} {P : Pt} {s : Sm} {qs : List (ByteArray × F.St)} {os : List Int} {lk : List (Int × List Ms)}
theorem PtIs.same (h : PtIs w base P s qs os lk) (hs : ∀ g, base ≤ g → g < w.heap.size → w'.heap[g]? = w.heap[g]?) : PtIs w' base P s qs os lk := by
  obtain ⟨Q1, q1, a1⟩ := h.q
  obtain ⟨Q2, q2, a2⟩ := h.s
  obtain ⟨Q3, q3, a3⟩ := h.l
  exact ⟨h.seq, h.boots, owns_same h.x hs, owns_same h.b hs, ⟨Q1, owns_same q1 hs, a1.imp fun _ _ r => ⟨r.name, r.most, r.next, owns_same r.r hs, owns_same r.o hs⟩⟩, ⟨Q2, owns_same q2 hs, a2.imp fun _ _ r => ⟨r.1, owns_same r.2 hs⟩⟩, ⟨Q3, owns_same q3 hs, a3.imp fun _ _ r => ⟨r.1, owns_same r.2 hs⟩⟩⟩
theorem PtIs.kept (h : PtIs w base P s qs os lk) (hb : Below w.heap.size w w') : PtIs w' base P s qs os lk := h.same fun g _ hg => hb.block g hg
/-- A block of parts was written. -/
theorem PtIs.butPt {B : Nat} (h : PtIs w base P s qs os lk) (hb : But 57 B w w') : PtIs w' base P s qs os lk := by
  obtain ⟨Q1, q1, a1⟩ := h.q
  obtain ⟨Q2, q2, a2⟩ := h.s
  obtain ⟨Q3, q3, a3⟩ := h.l
  exact ⟨h.seq, h.boots, owns_but h.x hb (by decide), owns_but h.b hb (by decide), ⟨Q1, owns_but q1 hb (by decide), a1.imp fun _ _ r => ⟨r.name, r.most, r.next, owns_but r.r hb (by decide), owns_but r.o hb (by decide)⟩⟩, ⟨Q2, owns_but q2 hb (by decide), a2.imp fun _ _ r => ⟨r.1, owns_but r.2 hb (by decide)⟩⟩, ⟨Q3, owns_but q3 hb (by decide), a3.imp fun _ _ r => ⟨r.1, owns_but r.2 hb (by decide)⟩⟩⟩
/-- A queue's part more. -/
theorem PtIs.addQ {B : Nat} (h : PtIs w base P s qs os lk) (hb : But 86 B w w') {v : Sl} {Q : List Qp} {x : Qp} {y : ByteArray × F.St} (a1 : All2 (fun x y => QpIs w base x y.1 y.2) Q qs) (hv : OwnQp w' base (slv v) (Q ++ [x])) (hx : QpIs w base x y.1 y.2) : PtIs w' base { P with q := v } s (qs ++ [y]) os lk := by
  obtain ⟨Q2, q2, a2⟩ := h.s
  obtain ⟨Q3, q3, a3⟩ := h.l
  exact ⟨h.seq, h.boots, owns_but h.x hb (by decide), owns_but h.b hb (by decide), ⟨Q ++ [x], hv, (a1.snoc hx).imp fun _ _ r => ⟨r.name, r.most, r.next, owns_but r.r hb (by decide), owns_but r.o hb (by decide)⟩⟩, ⟨Q2, owns_but q2 hb (by decide), a2.imp fun _ _ r => ⟨r.1, owns_but r.2 hb (by decide)⟩⟩, ⟨Q3, owns_but q3 hb (by decide), a3.imp fun _ _ r => ⟨r.1, owns_but r.2 hb (by decide)⟩⟩⟩
theorem PtIs.addS {B : Nat} (h : PtIs w base P s qs os lk) (hb : But 132 B w w') {v : Sl} {Q : List (Int × Sl)} {x : Int × Sl} {o : Int} (a2 : All2 (SpIs w base s.bk) Q os) (hv : OwnSp w' base (slv v) (Q ++ [x])) (hx : SpIs w base s.bk x o) : PtIs w' base { P with s := v } s qs (os ++ [o]) lk := by
  obtain ⟨Q1, q1, a1⟩ := h.q
  obtain ⟨Q3, q3, a3⟩ := h.l
  exact ⟨h.seq, h.boots, owns_but h.x hb (by decide), owns_but h.b hb (by decide), ⟨Q1, owns_but q1 hb (by decide), a1.imp fun _ _ r => ⟨r.name, r.most, r.next, owns_but r.r hb (by decide), owns_but r.o hb (by decide)⟩⟩, ⟨Q ++ [x], hv, (a2.snoc hx).imp fun _ _ r => ⟨r.1, owns_but r.2 hb (by decide)⟩⟩, ⟨Q3, owns_but q3 hb (by decide), a3.imp fun _ _ r => ⟨r.1, owns_but r.2 hb (by decide)⟩⟩⟩
theorem PtIs.addL {B : Nat} (h : PtIs w base P s qs os lk) (hb : But 136 B w w') {v : Sl} {Q : List (Int × Sl)} {x : Int × Sl} {y : Int × List Ms} (a3 : All2 (LpIs w base) Q lk) (hv : OwnLp w' base (slv v) (Q ++ [x])) (hx : LpIs w base x y) : PtIs w' base { P with l := v } s qs os (lk ++ [y]) := by
  obtain ⟨Q1, q1, a1⟩ := h.q
  obtain ⟨Q2, q2, a2⟩ := h.s
  exact ⟨h.seq, h.boots, owns_but h.x hb (by decide), owns_but h.b hb (by decide), ⟨Q1, owns_but q1 hb (by decide), a1.imp fun _ _ r => ⟨r.name, r.most, r.next, owns_but r.r hb (by decide), owns_but r.o hb (by decide)⟩⟩, ⟨Q2, owns_but q2 hb (by decide), a2.imp fun _ _ r => ⟨r.1, owns_but r.2 hb (by decide)⟩⟩, ⟨Q ++ [x], hv, (a3.snoc hx).imp fun _ _ r => ⟨r.1, owns_but r.2 hb (by decide)⟩⟩⟩
end
/-- The parts as they are being told, in a block of the call's own; the result's box beside it. -/
structure PIn (w V : World) (g1 : Nat) (P : Pt) (s : Sm) (qs : List (ByteArray × F.St)) (os : List Int) (lk : List (Int × List Ms)) : Prop where
  bel : Below w.heap.size w V
  box : V.heap[w.heap.size]? = some (.cells (ptcells zPt).toArray 57 (0, 0))
  blk : V.heap[g1]? = some (.cells (ptcells P).toArray 57 (0, 0))
  ne : w.heap.size < g1
  is : PtIs V w.heap.size P s qs os lk
section
variable {w V V1 V2 : World} {g1 : Nat} {P : Pt} {s : Sm} {qs : List (ByteArray × F.St)} {os : List Int} {lk : List (Int × List Ms)}
theorem PIn.go (h : PIn w V g1 P s qs os lk) (hb : Below V.heap.size V V1) : PIn w V1 g1 P s qs os lk :=
  ⟨keptW h.bel hb, (hb.block _ (Array.getElem?_eq_some_iff.1 h.box).1).trans h.box, (hb.block _ (Array.getElem?_eq_some_iff.1 h.blk).1).trans h.blk, h.ne, h.is.kept hb⟩
theorem PIn.start {xv bv : Sl} (hb : Below w.heap.size w V) (box : V.heap[w.heap.size]? = some (.cells (ptcells zPt).toArray 57 (0, 0))) (blk : V.heap[g1]? = some (.cells (ptcells zPt).toArray 57 (0, 0))) (ne : w.heap.size < g1) (hx : B.OwnX V w.heap.size (slv xv) s.tb.xs) (hB : B.OwnB V w.heap.size (slv bv) s.tb.bs) :
    PIn w (V.setRow g1 (ptcells ⟨s.seq, s.boots, xv, bv, zSl, zSl, zSl⟩).toArray) g1 ⟨s.seq, s.boots, xv, bv, zSl, zSl, zSl⟩ s [] [] [] := by
  have bu := but_setRow (B := w.heap.size) blk (Nat.le_of_lt ne) (ptcells ⟨s.seq, s.boots, xv, bv, zSl, zSl, zSl⟩).toArray
  have h0 : PtIs V w.heap.size ⟨s.seq, s.boots, xv, bv, zSl, zSl, zSl⟩ s [] [] [] := ⟨rfl, rfl, hx, hB, ⟨[], K.ownOf_nil _ _, .nil⟩, ⟨[], K.ownOf_nil _ _, .nil⟩, ⟨[], K.ownOf_nil _ _, .nil⟩⟩
  exact ⟨below_setRow hb (Nat.le_of_lt ne) _, (setRow_other14 _ _ _ _ (by omega)).trans box, setRow_heap _ _ _ _ _ _ blk, ne, h0.butPt bu⟩
theorem PIn.put (h : PIn w V g1 P s qs os lk) {T : TypeId} (hb : But T w.heap.size V V1) (hT : 57 ≠ T) {P' : Pt} {qs' : List (ByteArray × F.St)} {os' : List Int} {lk' : List (Int × List Ms)} (hi : PtIs V1 w.heap.size P' s qs' os' lk') {j : Nat} {v : Value} (hj : (ptcells P).set j v = ptcells P') : PIn w (V1.setCell ⟨g1, j, none⟩ v) g1 P' s qs' os' lk' := by
  have blk1 := (hb.keep _ _ _ _ h.blk hT).trans h.blk
  have bu := but_setCell (B := w.heap.size) (j := j) blk1 (Nat.le_of_lt h.ne) v
  have hlt := Array.getElem?_eq_some_iff.1 h.box
  refine ⟨(h.bel.trans hb.bel).trans bu.bel, ?_, ?_, h.ne, hi.butPt bu⟩
  · exact (heap_setCell_other _ _ _ _ (by show w.heap.size ≠ g1; have := h.ne; omega)).trans ((hb.keep _ _ _ _ h.box hT).trans h.box)
  · rw [← hj]
    exact set_list blk1 v
end
end Go.Proofs.YtjagaankkcbjmaaGreatDoor

/-
  enter: its model, and what it holds on its way.
-/
namespace Go.Proofs.YtjagaankkcbjmaaGreatDoor
open Go.RowKit

def toM (m : Ms) : F.Msg := ⟨m.origin, m.seq, m.hop, m.ex, m.key, m.body⟩
def pushQ (m : Ms) (s : Sm) (n : ByteArray) : Sm := match findQ s.qs n with
  | some q => { s with qs := setQ s.qs n (q.push (toM m)).2 }
  | none => s
theorem pushQ_some {m : Ms} {s : Sm} {n : ByteArray} {q : F.St} (h : findQ s.qs n = some q) : pushQ m s n = { s with qs := setQ s.qs n (q.push (toM m)).2 } := by unfold pushQ; rw [h]
def linkAdd (m : Ms) (s : Sm) (t : Int) : Sm := { s with lk := insL t (linkOf s.lk t ++ [m]) s.lk }
def hopM (m : Ms) : Ms := { m with hop := m.hop + 1 }
theorem pushQ_names (m : Ms) (s : Sm) (n : ByteArray) : (pushQ m s n).qs.map Prod.fst = s.qs.map Prod.fst := by
  cases h : findQ s.qs n with
  | none => unfold pushQ; rw [h]
  | some q => rw [pushQ_some h]; exact setQ_names _ _ _
theorem pushQ_lk (m : Ms) (s : Sm) (n : ByteArray) : (pushQ m s n).lk = s.lk := by
  unfold pushQ
  split <;> rfl
theorem findQ_mem {l : List (ByteArray × F.St)} {n : ByteArray} (h : n ∈ l.map Prod.fst) : ∃ q, findQ l n = some q := by
  cases hq : findQ l n with
  | none => exact absurd h (findQ_none hq)
  | some q => exact ⟨q, rfl⟩
/-- Names that may be keys, queues that are whole. -/
structure Sm.Whole (s : Sm) : Prop where
  fit : s.Fit
  qok : ∀ x ∈ s.qs, x.2.Ok
theorem Sm.Whole.push {s : Sm} (h : s.Whole) (m : Ms) (n : ByteArray) : (pushQ m s n).Whole := by
  have hn := pushQ_names m s n
  have hl := pushQ_lk m s n
  refine ⟨⟨by rw [hn]; exact h.fit.names, fun x hx => ?_, by rw [hl]; exact h.fit.tos, by rw [hl]; exact h.fit.small, by rw [hl]; exact h.fit.few⟩, fun x hx => ?_⟩
  · have : x.1 ∈ (pushQ m s n).qs.map Prod.fst := List.mem_map.2 ⟨x, hx, rfl⟩
    rw [hn] at this
    obtain ⟨y, hy, e⟩ := List.mem_map.1 this
    rw [← e]
    exact h.fit.short y hy
  · cases hq : findQ s.qs n with
    | none => unfold pushQ at hx; rw [hq] at hx; exact h.qok x hx
    | some q =>
      rw [pushQ_some hq] at hx
      obtain ⟨x1, x2⟩ := x
      rcases mem_setQ hx with ⟨rfl, rfl⟩ | ⟨_, hm⟩
      · exact (h.qok _ (findQ_some hq)).push _
      · exact h.qok _ hm
theorem pushAll_whole {s : Sm} (h : s.Whole) (m : Ms) (l : List ByteArray) : (l.foldl (pushQ m) s).Whole ∧ (l.foldl (pushQ m) s).qs.map Prod.fst = s.qs.map Prod.fst ∧ (l.foldl (pushQ m) s).lk = s.lk := by
  induction l generalizing s with
  | nil => exact ⟨h, rfl, rfl⟩
  | cons n t ih =>
    obtain ⟨h1, h2, h3⟩ := ih (h.push m n)
    exact ⟨h1, h2.trans (pushQ_names m s n), h3.trans (pushQ_lk m s n)⟩
/-- The state behind a message that has come in. -/
def takenM (s : Sm) (m : Ms) (ways : List Int) : Sm :=
  ways.foldl (linkAdd (hopM m)) ((intoM s m).foldl (pushQ m) { s with bk := S.addF s.bk m.origin m.seq.toNat, seq := if m.origin = s.site then m.seq.toNat else s.seq })
/-- ActEnter's answer. -/
def enterM (s : Sm) (m : Ms) : Int × Sm := match admitM s m with
  | (ways, er) => if er ≠ 0 then (er, s) else if (intoM s m).any (fullN s) = true then (6, s) else if ways.any (fullT s) = true then (6, s) else (0, takenM s m ways)
/-- A row that a state's blocks do not hold. -/
def Away (V : World) (G : Nat → Prop) (v : Value) (n : Nat) : Prop := n = 0 ∨ ∃ g cap, v = .slice (some ⟨g, 0, none⟩) n cap ∧ g < V.heap.size ∧ ¬ G g
theorem Away.move {V V' : World} {G G' : Nat → Prop} {v : Value} {n : Nat} (h : Away V G v n) (m : Moved V V' G G') : Away V' G' v n :=
  h.imp id fun ⟨g, cap, h1, h2, h3⟩ => ⟨g, cap, h1, Nat.lt_of_lt_of_le h2 m.size, fun hg => (m.sub g hg).elim h3 fun h => by omega⟩
theorem Row.away {V V' : World} {G G' : Nat → Prop} {v : Value} {cs : List Value} (h : Row V v cs) (a : Away V G v cs.length) (m : Moved V V' G G') : Row V' v cs := by
  rcases h with h | ⟨ad, cap, hv, h1, h2, h3⟩
  · exact .inl h
  · refine .inr ⟨ad, cap, hv, h1, h2, fun j u hj => ?_⟩
    have hj' := (List.getElem?_eq_some_iff.1 hj).1
    rcases a with a | ⟨g, cap', hv', hg, hn⟩
    · omega
    · rw [hv] at hv'
      injection hv' with e
      injection e with e
      have hb : (ad.add j).block = g := by rw [e]; exact Addr.block_add _ _
      rw [World.cell?_of_block (w := V) (a := ad.add j) (by rw [hb]; exact m.block g hg hn)]
      exact h3 j u hj
theorem away_of {V : World} {G : Nat → Prop} {base : Nat} {v : Value} {cs : List Value} (hr : Row V v cs) (hn : Newer base v cs.length) (hG : ∀ k, G k → k < base) : Away V G v cs.length := by
  rcases hn with hn | ⟨g, cap, hv, hg⟩
  · exact .inl hn
  · by_cases h0 : cs.length = 0
    · exact .inl h0
    · refine .inr ⟨g, cap, hv, ?_, fun hk => by have := hG g hk; omega⟩
      rcases hr with ⟨_, e⟩ | ⟨ad, cap', e, _, _, h3⟩
      · rw [e] at h0; exact absurd rfl h0
      · rw [hv] at e
        injection e with e
        injection e with e
        have hc := h3 0 _ (List.getElem?_eq_getElem (show 0 < cs.length by omega))
        have := World.block_lt_of_cell? V _ hc
        rw [← e, Addr.block_add] at this
        exact this
/-- What enter holds on its way: the state, the message in its box, the names, the ways. -/
def EIn (w V : World) (p bm : Nat) (G : Nat → Prop) (s : Sm) (m : Ms) (vn : Value) (ns : List ByteArray) (vw : Value) (ts : List Int) : Prop :=
  ∃ G', SS V p G' s ∧ Moved w V G G' ∧ (V.heap[bm]? = some (.cells (mcells m).toArray 40 (0, 0)) ∧ ¬ G' bm) ∧ (Row V vn (scells ns) ∧ Away V G' vn ns.length) ∧ Row V vw (icells ts) ∧ Away V G' vw ts.length
theorem EIn.step {w V V' : World} {p bm : Nat} {G G' G'' : Nat → Prop} {s' : Sm} {m : Ms} {vn : Value} {ns : List ByteArray} {vw : Value} {ts : List Int} (m0 : Moved w V G G') (hb : V.heap[bm]? = some (.cells (mcells m).toArray 40 (0, 0)) ∧ ¬ G' bm) (hn : Row V vn (scells ns) ∧ Away V G' vn ns.length) (ht : Row V vw (icells ts) ∧ Away V G' vw ts.length) (h' : SS V' p G'' s') (m' : Moved V V' G' G'') : EIn w V' p bm G s' m vn ns vw ts := by
  have hlt := (Array.getElem?_eq_some_iff.1 hb.1).1
  refine ⟨G'', h', m0.trans m', ⟨(m'.block bm hlt hb.2).trans hb.1, fun hg => (m'.sub bm hg).elim hb.2 fun h => by omega⟩, ⟨hn.1.away (by rw [scells_length]; exact hn.2) m', hn.2.move m'⟩, ht.1.away (by rw [icells_length]; exact ht.2) m', ht.2.move m'⟩
theorem EIn.pushAt {w V : World} {p bm : Nat} {G : Nat → Prop} {sc : Sm} {m : Ms} {vn : Value} {ns : List ByteArray} {vw : Value} {ts : List Int} (h : EIn w V p bm G sc m vn ns vw ts) (wh : sc.Whole) {x : ByteArray} {q : F.St} (hx : x.size ≤ maxLen) (hq : findQ sc.qs x = some q) :
    ∃ (qm b : Nat) (Fq : Nat → Prop), (∀ V', V'.heap[p]? = V.heap[p]? → V'.heap[qm]? = V.heap[qm]? → V'.heap[bm]? = V.heap[bm]? → V'.cell? ⟨p, 7, none⟩ = some (.map (some qm)) ∧ (Instr.lookup 92 (.map (some qm)) (.string x) false).run Tryz.prog V' = .ok (.pointer (some ⟨b, 0, none⟩)) V' ∧ V'.cell? ⟨bm, 0, none⟩ = some (.int .i64 m.origin) ∧ V'.cell? ⟨bm, 1, none⟩ = some (.int .u64 m.seq) ∧ V'.cell? ⟨bm, 2, none⟩ = some (.int .i64 m.hop) ∧ V'.cell? ⟨bm, 3, none⟩ = some (.string m.ex) ∧ V'.cell? ⟨bm, 4, none⟩ = some (.string m.key) ∧ V'.cell? ⟨bm, 5, none⟩ = some (.string m.body)) ∧ F.Q V.drew b Fq q ∧ ∀ V' F', F.Q V' b F' (q.push (toM m)).2 → Moved V.drew V' Fq F' → EIn w V' p bm G (pushQ m sc x) m vn ns vw ts ∧ V'.heap[p]? = V.heap[p]? ∧ V'.heap[qm]? = V.heap[qm]? ∧ V'.heap[bm]? = V.heap[bm]? := by
  obtain ⟨G', ⟨ft, d, hs, hF⟩, m0, hb, hn, ht⟩ := h
  rcases hs.queueAt wh.fit x with ⟨q1, _⟩ | ⟨q', b, q1, q2, q3, q4⟩
  · rw [q1] at hq; cases hq
  obtain rfl := Option.some.inj (q1.symm.trans hq)
  refine ⟨d.qm, b, ft (.queue x), fun V' h1 h2 h3 => ?_, q4.same fun _ _ => rfl, fun V' F' t' m' => ?_⟩
  · have hc := (cells10 (h1.trans hs.blk)).2.2.2.2.2.2.2.1
    have hl := DAt.look (w := V') (hs.qmap.same h2) (hs.dl wh.fit) hx
    rw [q2] at hl
    exact ⟨hc, hl, cellsM (h3.trans hb.1)⟩
  · have m1 : Moved V V' (ft (.queue x)) F' := Moved.from_below (drew_below V) m'
    have e : G' = fun k => ∃ a, ft a k := funext fun k => propext (hF k)
    have h' := hs.turnQueue q3 m1 t'
    have mm : Moved V V' G' (fun k => ∃ a, upd ft (.queue x) F' a k) := by rw [e]; exact moved_upd m1
    have hE := EIn.step m0 hb hn ht ⟨_, d, h', fun k => Iff.rfl⟩ mm
    rw [← pushQ_some hq] at hE
    refine ⟨hE, hs.others m1 .main (by simp) p ((hs.fm p).2 rfl), hs.others m1 .qmap (by simp) d.qm ((hs.fq _).2 rfl), ?_⟩
    exact mm.block bm (Array.getElem?_eq_some_iff.1 hb.1).1 hb.2
end Go.Proofs.YtjagaankkcbjmaaGreatDoor
