/-
  ack, back, give, by their contracts.
-/
import Derived.Test.YtjagaankkcbjmaaGreatDoorJ24
import Derived.Test.YtjagaankkcbjmaaGreatDoorJ26
import Derived.Test.YtjagaankkcbjmaaGreatDoorJ7
import Derived.RangeFuncNested
import Derived.RangeFuncBound
import Derived.RangeFuncCalls
import Derived.RangeFuncLeaves
import Derived.Shelf.Abstract
import Derived.Shelf.AbstractIn
import Derived.Shelf.RegionOpen
import Derived.Sort.MapsRangeIn
import Derived.Sort.KeysCollected
import Derived.WalkKit
import Derived.OwnWalkIn
import Derived.TacticsInMore
import Derived.RegionIn
import Derived.LoopNIn
import Derived.LoopIn
import Derived.Shelf.SlSortCmp.WholeK
import Derived.Shelf.SlSortCmp.NoneTotal
import Derived.Test.YtjagaankkcbjmaaGreatDoorProg
namespace Go.Proofs.YtjagaankkcbjmaaGreatDoor
open Go.RowKit

/-- An act on a queue that must be there. -/
def onQ (s : Sm) (n : ByteArray) (f : F.St → Int × F.St) : Int × Sm := match findQ s.qs n with
  | none => (3, s)
  | some q => ((f q).1, { s with qs := setQ s.qs n (f q).2 })
theorem info8 : (Tryz.prog.info? 102).map (·.size) = some 8 := by kernel_rfl
def giveM (q : F.St) : Int × F.St := (if q.give.2.1 then 0 else 10, q.give.2.2)
theorem DeedPost.more {p : Nat} {G : Nat → Prop} {w : World} {er : Int} {s' : Sm} {e : Ending} {w' w'' : World} (h : DeedPost p G w er s' e w') (b : Below w'.heap.size w' w'') : DeedPost p G w er s' e w'' := by
  obtain ⟨h1, F', h2, h3⟩ := h
  exact ⟨h1, F', h2.kept b, h3.trans (.of_below b)⟩
end Go.Proofs.YtjagaankkcbjmaaGreatDoor

/-
  A STATE THAT NO CALL MADE: Apply, Link, Has, Copy, by their contracts.
-/
namespace Go.Proofs.YtjagaankkcbjmaaGreatDoor
open Go.RowKit

set_option maxRecDepth 20000 in
theorem un14_apply (q : Value) (a : Ax) (w : World) (h : Un14 w q) : Calls Tryz.prog 13 #[q, av a] w fun e w' => e = .returned (.tuple #[.slice none 0 0, .int .i64 1]) ∧ Below w.heap.size w w' := by
  obtain ⟨W, fold⟩ : ∃ W, w.alloc (.cells #[.int .i64 a.kind, .string a.name, .int .i64 a.n, .int .u64 a.tag, .int .i64 a.to, .string a.xn, .int .i64 a.xk, .bool a.xf, .string a.be, .string a.bq, .string a.bp, .int .i64 a.m.origin, .int .u64 a.m.seq, .int .i64 a.m.hop, .string a.m.ex, .string a.m.key, .string a.m.body] 42) = W := ⟨_, rfl⟩
  have bW : Below w.heap.size w W := by rw [← fold]; exact box_below w _
  have hM := un14_made q W (h.below bW)
  have HB : Hid (Below w.heap.size w W) := bW
  obtain ⟨o, rfl⟩ := h.ptr
  clear h bW
  go_enter Tryz.func13, Tryz.ntmps13
  go_wp2_with fail
  try rw [fold]
  refine hM.mono ?_
  rintro e W ⟨rfl, rfl⟩
  clear hM
  go_wp2
  go_ret2
  exact ⟨rfl, HB.out⟩
set_option maxRecDepth 20000 in
theorem un14_link (q : Value) (t : Int) (w : World) (h : Un14 w q) : Calls Tryz.prog 27 #[q, .int .i64 t] w fun e w' => e = .returned (.slice none 0 0) ∧ w' = w := by
  have hM := un14_made q w h
  obtain ⟨o, rfl⟩ := h.ptr
  clear h
  go_enter Tryz.func27, Tryz.ntmps27
  go_wp2_with fail
  refine hM.mono ?_
  rintro e w ⟨rfl, rfl⟩
  clear hM
  go_wp2
  go_ret
  exact ⟨rfl, rfl⟩
set_option maxRecDepth 20000 in
theorem un14_copy (q : Value) (w : World) (h : Un14 w q) : Calls Tryz.prog 25 #[q] w fun e w' => e = .returned (.pointer none) ∧ w' = w := by
  have hM := un14_made q w h
  obtain ⟨o, rfl⟩ := h.ptr
  clear h
  go_enter Tryz.func25, Tryz.ntmps25
  go_wp2_with fail
  refine hM.mono ?_
  rintro e w ⟨rfl, rfl⟩
  clear hM
  go_wp2
  go_ret
  exact ⟨rfl, rfl⟩
set_option maxRecDepth 20000 in
theorem un14_has (q : Value) (o n : Int) (w : World) (h : Un14 w q) : Calls Tryz.prog 18 #[q, .agg #[.int .i64 o, .int .u64 n]] w fun e w' => e = .returned (.bool false) ∧ Below w.heap.size w w' := by
  obtain ⟨W, fold⟩ : ∃ W, w.alloc (.cells #[.int .i64 o, .int .u64 n] 38) = W := ⟨_, rfl⟩
  have bW : Below w.heap.size w W := by rw [← fold]; exact box_below w _
  have hM : Hid (∀ V, Below W.heap.size W V → Calls Tryz.prog 36 #[q] V fun e w' => e = .returned (.bool false) ∧ w' = V) := fun V b => un14_made q V ((h.below bW).below b)
  have HB : Hid (Below w.heap.size w W) := bW
  obtain ⟨p, rfl⟩ := h.ptr
  clear h bW
  go_enter Tryz.func18, Tryz.ntmps18
  go_wp2
  try rw [fold]
  go_quiet (first | (go_at_call 36; refine Calls.quiet_of_same (hM.out _ (drewN_below W _))))
  go_wp2
  go_ret
  exact ⟨rfl, keptW HB.out (drewN_below W _)⟩
end Go.Proofs.YtjagaankkcbjmaaGreatDoor

/-
  maps.Values at the map of items: its iterator, for every loop body.
-/
namespace Go.Proofs.YtjagaankkcbjmaaGreatDoor.K
end Go.Proofs.YtjagaankkcbjmaaGreatDoor.K
namespace Go.Proofs.YtjagaankkcbjmaaGreatDoor.F
open Go.Proofs.YtjagaankkcbjmaaGreatDoor.K
open Go.RowKit Go.Maps Go.Sort Go.Shelf

/-- Those that have come: each once, each of the map's; who has not come is still to come. -/
def Come (out : List It) (left : Lit → Bool) (ps : List It) : Prop := (ps.map (·.tag)).Nodup ∧ (∀ x ∈ ps, x ∈ out) ∧ ∀ x ∈ out, x ∈ ps ↔ left (.int .u64 (x.tag : Int)) = false
theorem Come.start (out : List It) : Come out (Maps.has (Dof out)) [] := by
  refine ⟨List.nodup_nil, by simp, fun x hx => ?_⟩
  rw [has_Dof, hasT_of_mem hx]; simp
theorem Rise.unique {l : List It} (h : Rise l) {x y : It} (hx : x ∈ l) (hy : y ∈ l) (e : x.tag = y.tag) : x = y := by
  induction l with
  | nil => cases hx
  | cons z r ih =>
    obtain ⟨h1, h2⟩ := List.pairwise_cons.1 h
    rcases List.mem_cons.1 hx with hxz | hxr
    · rcases List.mem_cons.1 hy with hyz | hyr
      · rw [hxz, hyz]
      · have := h1 y hyr; rw [← hxz] at this; omega
    · rcases List.mem_cons.1 hy with hyz | hyr
      · have := h1 x hxr; rw [← hyz] at this; omega
      · exact ih h2 hxr hyr
theorem Come.step {out : List It} (hr : Rise out) {left : Lit → Bool} {ps : List It} (h : Come out left ps) {c : It} (hc : c ∈ out) (hl : left (.int .u64 (c.tag : Int)) = true) : Come out (fun z => left z && !z.sameKey (.int .u64 (c.tag : Int))) (ps ++ [c]) := by
  obtain ⟨h1, h2, h3⟩ := h
  have hn : c ∉ ps := fun hm => by have := (h3 c hc).1 hm; rw [hl] at this; cases this
  refine ⟨?_, ?_, ?_⟩
  · rw [List.map_append, List.nodup_append]
    refine ⟨h1, by simp, fun a ha b hb e => ?_⟩
    simp at hb
    subst e hb
    obtain ⟨y, hy, hyt⟩ := List.mem_map.1 ha
    exact hn (hr.unique (h2 y hy) hc hyt ▸ hy)
  · intro x hx
    rcases List.mem_append.1 hx with hx | hx
    · exact h2 x hx
    · rw [List.mem_singleton.1 hx]; exact hc
  · intro x hx
    rw [List.mem_append, h3 x hx, List.mem_singleton]
    simp only [sameKey_u64]
    by_cases e : x.tag = c.tag
    · have := hr.unique hx hc e
      subst this; simp
    · have : x ≠ c := fun h => e (by rw [h])
      have hb : (x.tag == c.tag) = false := by simpa using e
      simp [this, hb]
theorem Come.perm {out : List It} (hr : Rise out) {left : Lit → Bool} {ps : List It} (h : Come out left ps) (hl : ∀ kl, left kl = false) : ps.Perm out := by
  obtain ⟨h1, h2, h3⟩ := h
  have n1 : ps.Nodup := (List.pairwise_map.1 h1).imp (fun h e => h (by rw [e]))
  have n2 : out.Nodup := hr.imp (fun h e => by rw [e] at h; exact Nat.lt_irrefl _ h)
  rw [List.perm_ext_iff_of_nodup n1 n2]
  exact fun x => ⟨h2 x, fun hx => (h3 x hx).2 (hl _)⟩
set_option maxRecDepth 10000 in
theorem key_inv {key : Value} {kl : Lit} (h : keyOf Tryz.prog 32 key = some kl) : ∃ t : Nat, key = .int .u64 (t : Int) ∧ kl = .int .u64 (t : Int) := by
  have hu := Tryz.underlying32
  simp only [keyOf, hu, mapKey] at h
  cases key with
  | int q n =>
    simp at h
    obtain ⟨⟨rfl, hw⟩, rfl⟩ := h
    have h1 : IntKind.u64.min = 0 := rfl
    simp [Lit.wf, h1] at hw
    exact ⟨n.toNat, by congr 1; omega, by congr 1; omega⟩
  | _ => simp at h
/-- The entry that has come is an item of the list. -/
theorem entry_item {out : List It} {t : Nat} {c : It} {yd : DataW It} {yp : List MemPlace} (hv : rdIt (iv c) = some (yd, yp)) (hat : ∀ zd, (Dof out).atKey (.int .u64 (t : Int)) zd = yd) : c ∈ out ∧ c.tag = t := by
  rw [rdIt_iv] at hv
  simp at hv
  obtain ⟨rfl, rfl⟩ := hv
  have h1 := hat .nil
  rw [atKey_Dof] at h1
  cases hf : findT out t with
  | none => rw [hf] at h1; cases h1
  | some x =>
    rw [hf] at h1
    injection h1 with h1
    subst h1
    exact findT_some hf

set_option maxRecDepth 100000 in
set_option maxHeartbeats 1000000 in
theorem values1_in (F : Fence) (n : Nat) (h58 : F.fn 236) (hro : F.round = none) (hn : 1 ≤ n) (l Bm b : Nat) (out : List It) (hr : Rise out) (J Jx : List It → World → Prop)
    (hY : ∀ pre x W, J pre W → pre.length < out.length → YieldAt F (n - 1) Tryz.prog l #[iv x] W fun e W' =>
      (e = .returned (.bool true) ∧ J (pre ++ [x]) W' ∧ KeepsWalks W W') ∨ (e = .returned (.bool false) ∧ Jx (pre ++ [x]) W'))
    (W : World) (hJ : AbidesFrom W.heap.size J) (hm : W.cell? ⟨Bm, 0, none⟩ = some (.map (some b))) (hown : OutAt W b out) (h0 : J [] W) :
    CallsIn F n Tryz.prog 236 #[.func (.yield l) #[] #[], .pointer (some ⟨Bm, 0, none⟩)] W fun e W' => (∃ v, e = .returned v) ∧
      ((∃ xs, xs.Perm out ∧ J xs W') ∨ (∃ pre, True ∧ Jx pre W')) := by
  refine callsIn_of_wp Tryz.func236 rfl h58 ?_ hro
  simp only [Tryz.ntmps236, List.size_toArray, List.length_cons, List.length_nil, Nat.reduceAdd, Nat.reduceSub, Array.replicate_succ, Array.replicate_zero, List.push_toArray, List.append_toArray, List.nil_append, List.cons_append]
  have hD : Maps.size (Dof out) = out.length := size_Dof out
  gi_wp2_with (first
    | (gi_at_range; refine wpListIn_range_own _ rfl _ 236 rfl 32 102 keyed Tryz.underlying236 rdIt b out.length (Dof out) rfl hown ?_; intro w0 hrg0 hg0 hs0)
    | gi_in)
  go_frame
  gi_loopw [4] (fun _ wr => ∃ (left : Lit → Bool) (cnt : Nat) (ps : List It), wr.ranges Tryz.prog 32 rdIt b W.heap.size out.length (Dof out) left cnt ∧ ps.length + cnt ≤ out.length ∧ Come out left ps ∧ J ps wr)
    (fun _ wr => wr.rangeLeft b W.heap.size)
  case atStart =>
    exact ⟨_, _, [], hrg0, by rw [hD]; simp, Come.start out, hJ [] W w0 none h0 hg0 (fun r e => by cases e)⟩
  case round =>
    obtain ⟨left, cnt, ps, hrg, hcs, hC, hJs⟩ := hrel
    gi_wp2_with (first
      | (gi_at_next; refine wpListIn_next_ranges _ rfl _ rfl 32 keyed rdIt (fun t : Nat => Value.int .u64 (t : Int)) iv (fun key kl hk => by obtain ⟨t, ht, _⟩ := key_inv hk; exact ⟨t, ht⟩) (fun v y hv => by obtain ⟨c, hc, _⟩ := rdIt_inv hv; exact ⟨c, hc⟩) b W.heap.size out.length _ _ _ rfl hrg ?_ ?_)
      | gi_in)
    · intro hc0 hl0
      gi_wp2
      go_end0
      exact ⟨⟨_, rfl⟩, .inl ⟨ps, hC.perm hr hl0, hJs⟩⟩
    · intro x c kl yd yp w2 cnt2 hkey hlk hv hat hrg2 hlt hg2 hs2 hen
      obtain ⟨t, ht, rfl⟩ := key_inv hkey
      obtain rfl : x = t := by simp at ht; omega
      obtain ⟨hc, rfl⟩ := entry_item hv hat
      have hJ2 : J ps w2 := hJ ps wr w2 (some W.heap.size) hJs hg2 (fun r e => by cases e; exact ⟨Nat.le_refl _, hrg.iter_walk⟩)
      obtain ⟨w3, fold⟩ : ∃ w3, w2.alloc (.cells #[.int .u64 (c.tag : Int), .int .i64 c.m.o, .int .u64 c.m.s, .int .i64 c.m.hop, .string c.m.ex, .string c.m.key, .string c.m.body, .bool c.again] 102) = w3 := ⟨_, rfl⟩
      have hJ3 : J ps w3 := hJ ps w2 w3 none hJ2 (by rw [← fold]; exact World.grownBy_alloc _ _ _) (fun r e => by cases e)
      have hrg3 := hrg2.alloc (.cells #[.int .u64 (c.tag : Int), .int .i64 c.m.o, .int .u64 c.m.s, .int .i64 c.m.hop, .string c.m.ex, .string c.m.key, .string c.m.body, .bool c.again] 102)
      rw [fold] at hrg3
      have i3 : ItAt w3 w2.heap.size 0 c := by rw [← fold]; constructor <;> simp [World.cell?_alloc_at]
      obtain ⟨x0, x1, x2, x3, x4, x5, x6, x7⟩ := i3
      simp only [Nat.zero_add] at x0 x1 x2 x3 x4 x5 x6 x7
      obtain ⟨fn, tmps, assign, body, hy, hR⟩ := hY ps c w3 hJ3 (by omega)
      clear hs2 ht hkey hv hat
      gi_wp2
      refine hR.mono ?_
      have hC2 := hC.step hr hc hlk
      rintro e W3 (⟨rfl, hJ4, hk4⟩ | ⟨rfl, hJx4⟩)
      · gi_wp2
        have hrg4 := hrg3.of_walks hk4
        go_roundw
        case rel => exact ⟨_, cnt2, ps ++ [c], hrg4, by simp; omega, hC2, hJ4⟩
        case measure => rw [hrg4.left_eq, hrg.left_eq]; exact hlt
      · gi_wp2
        refine bodyPost_ret (results_none rfl _ _ _) rfl ?_
        exact ⟨⟨_, rfl⟩, .inr ⟨ps ++ [c], trivial, hJx4⟩⟩
end Go.Proofs.YtjagaankkcbjmaaGreatDoor.F

/-
  slices.AppendSeq, slices.Collect of the map's items.
-/
namespace Go.Proofs.YtjagaankkcbjmaaGreatDoor.K
end Go.Proofs.YtjagaankkcbjmaaGreatDoor.K
namespace Go.Proofs.YtjagaankkcbjmaaGreatDoor.F
open Go.Proofs.YtjagaankkcbjmaaGreatDoor.K
open Go.RowKit Go.Maps Go.Sort Go.Shelf
attribute [local go_sem] Oper.semAt_some

set_option maxRecDepth 100000 in
set_option maxHeartbeats 1000000 in
theorem values1_nil (F : Fence) (n : Nat) (h58 : F.fn 236) (hro : F.round = none) (l Bm : Nat) (J : List It → World → Prop) (W : World) (hJ : AbidesFrom W.heap.size J) (hm : W.cell? ⟨Bm, 0, none⟩ = some (.map none)) (h0 : J [] W) :
    CallsIn F n Tryz.prog 236 #[.func (.yield l) #[] #[], .pointer (some ⟨Bm, 0, none⟩)] W fun e W' => (∃ v, e = .returned v) ∧ J [] W' := by
  refine callsIn_of_wp Tryz.func236 rfl h58 ?_ hro
  simp only [Tryz.ntmps236, List.size_toArray, List.length_cons, List.length_nil, Nat.reduceAdd, Nat.reduceSub, Array.replicate_succ, Array.replicate_zero, List.push_toArray, List.append_toArray, List.nil_append, List.cons_append]
  have hrg := run_range_nilMap (P := Tryz.prog) W 236 32 102 Tryz.underlying236
  have hnx : ∀ ty, (Instr.next (.pointer (some ⟨W.heap.size, 0, none⟩)) false ty).run Tryz.prog (W.alloc (.mapIter none 0 #[] 0)) = _ := fun ty => run_next_nilMap _ ty 0 0 #[]
  gi_wp2
  refine wpIn_loop_rounds 1 ?_
  rw [roundsIn_succ]
  gi_wp2
  go_end0
  exact ⟨⟨_, rfl⟩, hJ [] W _ none h0 (World.grownBy_alloc W _ none) (fun r e => by cases e)⟩

/-- The map's value: of these items, or nil. -/
def MapAt (w : World) (mb : Option Nat) (out : List It) : Prop := (mb = none ∧ out = []) ∨ ∃ b, mb = some b ∧ OutAt w b out
theorem MapAt.below {w w' : World} {mb : Option Nat} {out : List It} (h : MapAt w mb out) (hb : Below w.heap.size w w') : MapAt w' mb out := by
  rcases h with h | ⟨b, rfl, ho⟩
  · exact .inl h
  · exact .inr ⟨b, rfl, ho.same (hb.block b ho.lt)⟩
theorem values_stops (Bm : Nat) (mb : Option Nat) (out : List It) (hr : Rise out) (n : Nat) (hn : 1 ≤ n) (w : World) (hBm : w.cell? ⟨Bm, 0, none⟩ = some (.map mb)) (hown : MapAt w mb out) :
    SeqStopsK Fence.wide n Tryz.prog 236 #[.pointer (some ⟨Bm, 0, none⟩)] (fun x : It => #[iv x]) KeepsWalks (fun xs => xs.Perm out) (fun _ => True) out.length w := fun l J Jx W hW hJ _ hY h0 => by
  have hm : W.cell? ⟨Bm, 0, none⟩ = some (.map mb) := (hW.cell (p := ⟨Bm, 0, none⟩) (World.block_lt_of_cell? _ _ hBm)).trans hBm
  rcases hown.below hW with ⟨rfl, rfl⟩ | ⟨b, rfl, ho⟩
  · exact (values1_nil Fence.wide n trivial rfl l Bm J W hJ hm h0).mono fun _ _ ⟨he, hj⟩ => ⟨he, .inl ⟨[], List.Perm.refl _, hj⟩⟩
  · exact values1_in Fence.wide n trivial rfl hn l Bm b out hr J Jx hY W hJ hm ho h0

theorem item_news (W : World) (x : It) : ∀ j u, (icells x)[j]? = some u → (W.alloc (.cells #[.int .u64 (x.tag : Int), .int .i64 x.m.o, .int .u64 x.m.s, .int .i64 x.m.hop, .string x.m.ex, .string x.m.key, .string x.m.body, .bool x.again] 102)).cell? ((⟨W.heap.size, 0, none⟩ : Addr).add j) = some u := by
  intro j u hj
  rw [Addr.add_lit, Nat.zero_add]
  have := cell_of_list (C := icells x) (w := W.alloc (.cells (icells x).toArray 102)) (g := W.heap.size) (t := 102) (heap_alloc_new W _) j
  exact this.trans hj

set_option maxRecDepth 100000 in
set_option maxHeartbeats 4000000 in
theorem appendSeq_in (Bm : Nat) (mb : Option Nat) (out : List It) (hr : Rise out) (hlen : out.length ≤ 1000000) (w : World) (hBm : w.cell? ⟨Bm, 0, none⟩ = some (.map mb)) (hown : MapAt w mb out) :
    CallsIn Fence.wide 5 Tryz.prog 286 #[.slice none 0 0, .func (.func 236) #[] #[.pointer (some ⟨Bm, 0, none⟩)]] w fun e W' => ∃ v xs, e = .returned v ∧ xs.Perm out ∧ Own8 W' w.heap.size v xs ∧ Below w.heap.size w W' := by
  refine callsIn_of_wp_marks Tryz.func286 rfl trivial ?_ rfl
  simp only [Tryz.ntmps286, List.size_toArray, List.length_cons, List.length_nil, Nat.reduceAdd, Nat.reduceSub, Array.replicate_succ, Array.replicate_zero, List.push_toArray, List.append_toArray, List.nil_append, List.cons_append]
  gi_wp2
  obtain ⟨W0, hW0⟩ : ∃ W0, w.alloc (.cells #[.slice none 0 0] 84) = W0 := ⟨_, rfl⟩
  have bS : Boxed W0 w.heap.size 84 (.slice none 0 0) := by rw [← hW0]; exact Boxed.new w _ _
  have hB0 : Below w.heap.size w W0 := by rw [← hW0]; exact (Below.refl _ w).alloc (Nat.le_refl _) _
  have hsz : W0.heap.size = w.heap.size + 1 := by rw [← hW0]; simp
  rw [hW0]
  clear hW0
  obtain ⟨i0, hi0, hz0, hzs, hzb⟩ := itemInfo
  refine wpIn_rangeFunc_ownH rfl (by decide) (gf := 236) (lb := #[.pointer (some ⟨Bm, 0, none⟩)]) rfl trivial (enters_of Tryz.func236 (by kernel_rfl) rfl)
    (values_stops Bm mb out hr (5 - 1) (by decide) w hBm hown) walksK_t walksK_b hB0 (fun _ => rfl)
    (fun pre W => (∃ v, Boxed W w.heap.size 84 v ∧ W.ownsRow w.heap.size 102 8 v pre.length (cellsOf icells pre) ∧ True) ∧ Below w.heap.size w W)
    (fun _ _ _ => False)
    (OwnFrom.and (Own.from (holdsRow_own w.heap.size w.heap.size 84 102 8 (fun pre : List It => pre.length) (fun pre => cellsOf icells pre) (fun _ _ => True)) _) (ownFrom_below (Nat.le_refl _) (by omega)))
    (fun _ _ _ _ _ hs _ _ => hs)
    ⟨⟨_, bS, World.ownsRow_nil _ _ _ _, trivial⟩, hB0⟩
    (fun x a' W => ∃ Bx, w.heap.size < Bx ∧ W.heap[Bx]? = some (.cells (icells x).toArray 102 (0, 0)) ∧ a' = { tmps := #[.slice none 0 0, .func (.func 236) #[] #[.pointer (some ⟨Bm, 0, none⟩)], .pointer (some ⟨w.heap.size, 0, none⟩), undef, .slice none 0 0, .pointer (some ⟨Bx, 0, none⟩), .func (.func 236) #[] #[.pointer (some ⟨Bm, 0, none⟩)], iv x, undef, undef, undef, undef, undef], defers := [] })
    (fun x a' _ X Y row hs hg hr => by
      obtain ⟨Bx, h1, h2, h3⟩ := hs
      refine ⟨Bx, h1, (hg.block Bx (Array.getElem?_eq_some_iff.1 h2).1 (fun e => ?_)).trans h2, h3⟩
      obtain ⟨_, o, ho, hc⟩ := hr Bx e.symm
      rw [h2] at ho; cases ho; cases hc)
    ?assign ?body ?done ?stop
  case assign =>
    rintro l pre x W K ⟨⟨v, bS1, hrow, _⟩, hB1⟩ hK
    gi_wp2
    exact hK _ _ ((KeepsOthers.alloc _ _).from _) (KeepsWalks.alloc _ _) ⟨⟨v, bS1.alloc _, hrow.alloc _, trivial⟩, hB1.alloc hB1.size _⟩ ⟨W.heap.size, bS1.lt, heap_alloc_new W _, rfl⟩
  case body =>
    rintro l pre x a' W hl ⟨r, hr'⟩ ⟨⟨v, bS1, hrow, _⟩, hB1⟩ ⟨Bx, hBx, hX, rfl⟩ hlt
    have cS := bS1.cell
    have fS := bS1.frozen
    have iX : ItAt W Bx 0 x := by constructor <;> simp [World.cell?, hX, icells]
    obtain ⟨x0, x1, x2, x3, x4, x5, x6, x7⟩ := iX
    simp only [Nat.zero_add] at x0 x1 x2 x3 x4 x5 x6 x7
    have hBl := bS1.lt
    gi_wp2_with (first
      | (gi_at_builtin; refine wpListIn_append_own _ rfl _ _ 84 rfl w.heap.size 102 i0 _ 8 88 Tryz.underlying84 hi0 hz0 hzs hzb rfl (by decide) v pre.length (cellsOf icells pre) rfl (hrow.alloc _) ⟨W.heap.size, 0, none⟩ 1 1 (icells x) rfl rfl (item_news W x) (Enc.one x) (by unfold maxLen; omega) (by omega) (by have := hB1.size; simp; omega) ?_; intro v' w1 hown' hgrow _; obtain ⟨g', cap', rfl⟩ := ownsRow_succ hown'; obtain ⟨hv1, hv2, hr2, hk2, hb2⟩ := bS1.appended (by decide) hrow hB1.size (Nat.le_refl _) hown' hgrow; have hc1 := hv1.cell; have hf1 := hv1.frozen)
      | gi_in)
    refine ⟨hk2.from _, hk2.walks, ⟨_, hv2, ?_, trivial⟩, hB1.trans hb2⟩
    rw [cellsOf_append, List.length_append]
    simpa [cellsOf_cons, cellsOf_nil] using hr2
  case done =>
    rintro D xs W hD hperm ⟨⟨v, bS1, hrow, _⟩, hB1⟩ hK
    have cS := bS1.cell
    obtain ⟨va, vc, rfl⟩ := (show Own8 W w.heap.size v xs from hrow).rng.slice
    gi_wp2
    refine ⟨by simp, .inl ⟨_, _, rfl, run_takeDeferred hK, ?_⟩⟩
    exact ⟨_, results_tmp (t := 4) rfl _ _ _, .slice va xs.length vc, xs, rfl, hperm, ownsRow_putObj hrow _ hK rfl, hB1.trans (belowK_b (w := w) (Nat.le_refl _) W D _ _ (by omega) hK rfl rfl)⟩
  case stop =>
    rintro D c pre W _ _ h _
    exact h.elim

set_option maxHeartbeats 400000 in
theorem collect_any (Bm : Nat) (mb : Option Nat) (out : List It) (hr : Rise out) (hlen : out.length ≤ 1000000) (w : World) (hBm : w.cell? ⟨Bm, 0, none⟩ = some (.map mb)) (hown : MapAt w mb out) :
    Calls Tryz.prog 234 #[.func (.func 236) #[] #[.pointer (some ⟨Bm, 0, none⟩)]] w fun e W' => ∃ v xs, e = .returned v ∧ xs.Perm out ∧ Own8 W' w.heap.size v xs ∧ Below w.heap.size w W' := by
  have hA := callsIn_wide.1 (appendSeq_in Bm mb out hr hlen w hBm hown)
  go_enter Tryz.func234, Tryz.ntmps234
  go_wp2_with fail
  refine hA.mono ?_
  rintro e w1 ⟨v, xs, rfl, hp, own, b⟩
  obtain ⟨va, vc, rfl⟩ := own.rng.slice
  go_wp2
  go_ret
  exact ⟨_, xs, rfl, hp, own, b⟩
set_option maxHeartbeats 400000 in
theorem values_any (mb : Option Nat) (w : World) :
    Calls Tryz.prog 165 #[.map mb] w fun e w' => e = .returned (.func (.func 236) #[] #[.pointer (some ⟨w.heap.size, 0, none⟩)]) ∧ w' = w.alloc (.cells #[.map mb] 236) := by
  go_enter Tryz.func165, Tryz.ntmps165
  go_wp2
  go_ret
  exact ⟨rfl, rfl⟩
end Go.Proofs.YtjagaankkcbjmaaGreatDoor.F

/-
  THE SHELF's CONTRACT of slices.SortFunc at items, at this dump.
-/
namespace Go.Proofs
open Go.Shelf
def Tryz.sortR_ren : Go.Shelf.Ren := ⟨fun | 6 => 235 | 15 => 233 | 14 => 287 | 28 => 284 | 29 => 285 | 20 => 331 | 21 => 332 | 22 => 333 | 23 => 334 | 24 => 335 | 25 => 336 | 26 => 337 | 27 => 338 | 46 => 362 | 47 => 326 | 48 => 327 | 49 => 363 | 50 => 364 | 57 => 376 | n => n, fun | 22 => 84 | 24 => 102 | 25 => 250 | 3 => 3 | 39 => 72 | 0 => 0 | 53 => 334 | 55 => 32 | 4 => 4 | 46 => 326 | 45 => 325 | 50 => 331 | 5 => 5 | 9 => 9 | 66 => 361 | 70 => 364 | 76 => 384 | 77 => 341 | n => n, fun | n => n⟩
theorem Tryz.sortR : Go.Proofs.SlLaysF0.n6 Tryz.prog Tryz.sortR_ren := {
  mixed := by kernel_rfl
  f6 := ⟨Tryz.f235.name, by decide, Tryz.func235.trans (congrArg some (by kernel_rfl))⟩
  f14 := ⟨Tryz.f287.name, by decide, Tryz.func287.trans (congrArg some (by kernel_rfl))⟩
  f15 := Tryz.func233.trans (congrArg some (by kernel_rfl))
  f20 := ⟨Tryz.f331.name, by decide, Tryz.func331.trans (congrArg some (by kernel_rfl))⟩
  f21 := ⟨Tryz.f332.name, by decide, Tryz.func332.trans (congrArg some (by kernel_rfl))⟩
  f22 := ⟨Tryz.f333.name, by decide, Tryz.func333.trans (congrArg some (by kernel_rfl))⟩
  f23 := ⟨Tryz.f334.name, by decide, Tryz.func334.trans (congrArg some (by kernel_rfl))⟩
  f24 := ⟨Tryz.f335.name, by decide, Tryz.func335.trans (congrArg some (by kernel_rfl))⟩
  f25 := ⟨Tryz.f336.name, by decide, Tryz.func336.trans (congrArg some (by kernel_rfl))⟩
  f26 := ⟨Tryz.f337.name, by decide, Tryz.func337.trans (congrArg some (by kernel_rfl))⟩
  f27 := ⟨Tryz.f338.name, by decide, Tryz.func338.trans (congrArg some (by kernel_rfl))⟩
  f28 := Tryz.func284.trans (congrArg some (by kernel_rfl))
  f29 := Tryz.func285.trans (congrArg some (by kernel_rfl))
  f46 := ⟨Tryz.f362.name, by decide, Tryz.func362.trans (congrArg some (by kernel_rfl))⟩
  f47 := Tryz.func326.trans (congrArg some (by kernel_rfl))
  f48 := Tryz.func327.trans (congrArg some (by kernel_rfl))
  f49 := ⟨Tryz.f363.name, by decide, Tryz.func363.trans (congrArg some (by kernel_rfl))⟩
  f50 := ⟨Tryz.f364.name, by decide, Tryz.func364.trans (congrArg some (by kernel_rfl))⟩
  f57 := ⟨Tryz.f376.name, by decide, Tryz.func376.trans (congrArg some (by kernel_rfl))⟩
  t0 := Tryz.underlying0
  a0 := Tryz.isAgg0
  z0 := Tryz.sizeOf0
  v0 := Tryz.zeroValue0
  t3 := Tryz.underlying3
  a3 := Tryz.isAgg3
  z3 := Tryz.sizeOf3
  v3 := Tryz.zeroValue3
  t4 := Tryz.underlying4
  a4 := Tryz.isAgg4
  z4 := Tryz.sizeOf4
  v4 := Tryz.zeroValue4
  t5 := Tryz.underlying5
  a5 := Tryz.isAgg5
  z5 := Tryz.sizeOf5
  v5 := Tryz.zeroValue5
  t9 := Tryz.underlying9
  a9 := Tryz.isAgg9
  z9 := Tryz.sizeOf9
  v9 := Tryz.zeroValue9
  t22 := Tryz.underlying84
  a22 := Tryz.isAgg84
  z22 := Tryz.sizeOf84
  v22 := Tryz.zeroValue84
  t25 := Tryz.underlying250
  a25 := Tryz.isAgg250
  z25 := Tryz.sizeOf250
  v25 := Tryz.zeroValue250
  t39 := Tryz.underlying72
  a39 := Tryz.isAgg72
  z39 := Tryz.sizeOf72
  v39 := Tryz.zeroValue72
  t45 := Tryz.underlying325
  a45 := Tryz.isAgg325
  z45 := Tryz.sizeOf325
  v45 := Tryz.zeroValue325
  t46 := Tryz.underlying326
  a46 := Tryz.isAgg326
  z46 := Tryz.sizeOf326
  v46 := Tryz.zeroValue326
  t50 := Tryz.underlying331
  a50 := Tryz.isAgg331
  z50 := Tryz.sizeOf331
  v50 := Tryz.zeroValue331
  t53 := Tryz.underlying334
  a53 := Tryz.isAgg334
  z53 := Tryz.sizeOf334
  v53 := Tryz.zeroValue334
  t55 := Tryz.underlying32
  a55 := Tryz.isAgg32
  z55 := Tryz.sizeOf32
  v55 := Tryz.zeroValue32
  t66 := Tryz.underlying361
  a66 := Tryz.isAgg361
  z66 := Tryz.sizeOf361
  v66 := Tryz.zeroValue361
  t70 := Tryz.underlying364
  a70 := Tryz.isAgg364
  z70 := Tryz.sizeOf364
  v70 := Tryz.zeroValue364
  t76 := Tryz.underlying384
  a76 := Tryz.isAgg384
  z76 := Tryz.sizeOf384
  v76 := Tryz.zeroValue384
  t77 := Tryz.underlying341
  a77 := Tryz.isAgg341
  z77 := Tryz.sizeOf341
  v77 := Tryz.zeroValue341 }
end Go.Proofs
