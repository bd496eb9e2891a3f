/-
  WHAT A TABLE's MAP HOLDS (api.Edge), collected and in order.
-/
import Derived.Test.YtdbgojmjjkidbaaGreatDoorJIters22
import Derived.Test.YtdbgojmjjkidbaaGreatDoorJShelf22
import Derived.Shelf.SlSortCmp.WholeK
import Derived.Shelf.SlSortCmp.NoneTotal
import Derived.Deep.RegionHeld3
namespace Go.Proofs.YtdbgojmjjkidbaaGreatDoor
open Go.RowKit Go.Maps Go.Sort Go.Shelf K
attribute [local go_sem] Oper.semAt_some
instance : Inhabited Ed := ⟨zeroEd⟩

set_option maxRecDepth 100000 in
set_option maxHeartbeats 1000000 in
theorem values1_inEd (F : Fence) (n : Nat) (h58 : F.fn 74) (hro : F.round = none) (hn : 1 ≤ n) (l Bm b : Nat) (out : List Ed) (hr : EL out) (J Jx : List Ed → World → Prop)
    (hY : ∀ pre x W, J pre W → pre.length < out.length → YieldAt F (n - 1) Tryz.prog l #[ev x] W fun e W' =>
      (e = .returned (.bool true) ∧ J (pre ++ [x]) W' ∧ KeepsWalks W W') ∨ (e = .returned (.bool false) ∧ Jx (pre ++ [x]) W'))
    (W : World) (hJ : AbidesFrom W.heap.size J) (hm : W.cell? ⟨Bm, 0, none⟩ = some (.map (some b))) (hown : EAt W b out) (h0 : J [] W) :
    CallsIn F n Tryz.prog 74 #[.func (.yield l) #[] #[], .pointer (some ⟨Bm, 0, none⟩)] W fun e W' => (∃ v, e = .returned v) ∧
      ((∃ xs, xs.Perm out ∧ J xs W') ∨ (∃ pre, True ∧ Jx pre W')) := by
  refine callsIn_of_wp Tryz.func74 rfl h58 ?_ hro
  simp only [Tryz.ntmps74, List.size_toArray, List.length_cons, List.length_nil, Nat.reduceAdd, Nat.reduceSub, Array.replicate_succ, Array.replicate_zero, List.push_toArray, List.append_toArray, List.nil_append, List.cons_append]
  have hD : Maps.size (DofG ekl ed out) = out.length := size_DofG out
  gi_wp2_with (first
    | (gi_at_range; refine wpListIn_range_own _ rfl _ 68 rfl 37 87 eKeyed Tryz.underlying68 unitElem b out.length (DofG ekl ed out) rfl hown ?_; intro w0 hrg0 hg0 hs0)
    | gi_in)
  go_frame
  gi_loopw [3] (fun _ wr => ∃ (left : Lit → Bool) (cnt : Nat) (ps : List Ed), wr.ranges Tryz.prog 37 unitElem b W.heap.size out.length (DofG ekl ed out) left cnt ∧ ps.length + cnt ≤ out.length ∧ ComeG ekl out left ps ∧ J ps wr)
    (fun _ wr => wr.rangeLeft b W.heap.size)
  case atStart =>
    exact ⟨_, _, [], hrg0, by rw [hD]; simp, ComeG.start eKeyed.one hr.keys, hJ [] W w0 none h0 hg0 (fun r e => by cases e)⟩
  case round =>
    obtain ⟨left, cnt, ps, hrg, hcs, hC, hJs⟩ := hrel
    gi_wp2_with (first
      | (gi_at_next; refine wpListIn_next_ranges _ rfl _ rfl 37 eKeyed unitElem ev (fun _ : Unit => Value.agg #[]) (fun key kl hk => by obtain ⟨s, _, hs, _⟩ := ekey_inv hk; exact ⟨s, hs⟩) (fun v y hv => ⟨(), (unitElem_inv hv).1⟩) b W.heap.size out.length _ _ _ rfl hrg ?_ ?_)
      | gi_in)
    · intro hc0 hl0
      gi_wp2
      go_end0
      exact ⟨⟨_, rfl⟩, .inl ⟨ps, hC.perm hr.diff hl0, hJs⟩⟩
    · intro c kl yd yp w2 cnt2 hkey hlk hv hat hrg2 hlt hg2 hs2 hen
      obtain ⟨hc, rfl⟩ := e_entry hr hkey hv hat
      have hJ2 : J ps w2 := hJ ps wr w2 (some W.heap.size) hJs hg2 (fun r e => by cases e; exact ⟨Nat.le_refl _, hrg.iter_walk⟩)
      obtain ⟨w3, fold⟩ : ∃ w3, w2.alloc (.cells #[.int .i64 c.1, .int .i64 c.2] 37) = w3 := ⟨_, rfl⟩
      have hJ3 : J ps w3 := hJ ps w2 w3 none hJ2 (by rw [← fold]; exact World.grownBy_alloc _ _ _) (fun r e => by cases e)
      have hrg3 := hrg2.alloc (.cells #[.int .i64 c.1, .int .i64 c.2] 37)
      rw [fold] at hrg3
      have x0 : w3.cell? ⟨w2.heap.size, 0, none⟩ = (ecells c)[0]? := by rw [← fold]; simp [World.cell?_alloc_at, ecells]
      have x1 : w3.cell? ⟨w2.heap.size, 1, none⟩ = (ecells c)[1]? := by rw [← fold]; simp [World.cell?_alloc_at, ecells]
      simp only [ecells, List.getElem?_cons_zero, List.getElem?_cons_succ] at x0 x1
      obtain ⟨fn, tmps, assign, body, hy, hR⟩ := hY ps c w3 hJ3 (by omega)
      clear hs2 hkey hv hat
      gi_wp2
      refine hR.mono ?_
      have hC2 := hC.step eKeyed.one hr.keys hr.diff hc hlk
      rintro e W3 (⟨rfl, hJ4, hk4⟩ | ⟨rfl, hJx4⟩)
      · gi_wp2
        have hrg4 := hrg3.of_walks hk4
        go_roundw
        case rel => exact ⟨_, cnt2, ps ++ [c], hrg4, by simp; omega, hC2, hJ4⟩
        case measure => rw [hrg4.left_eq, hrg.left_eq]; exact hlt
      · gi_wp2
        refine bodyPost_ret (results_none rfl _ _ _) rfl ?_
        exact ⟨⟨_, rfl⟩, .inr ⟨ps ++ [c], trivial, hJx4⟩⟩
set_option maxRecDepth 100000 in
set_option maxHeartbeats 1000000 in
theorem values1_nilEd (F : Fence) (n : Nat) (h58 : F.fn 74) (hro : F.round = none) (l Bm : Nat) (J : List Ed → World → Prop) (W : World) (hJ : AbidesFrom W.heap.size J) (hm : W.cell? ⟨Bm, 0, none⟩ = some (.map none)) (h0 : J [] W) :
    CallsIn F n Tryz.prog 74 #[.func (.yield l) #[] #[], .pointer (some ⟨Bm, 0, none⟩)] W fun e W' => (∃ v, e = .returned v) ∧ J [] W' := by
  refine callsIn_of_wp Tryz.func74 rfl h58 ?_ hro
  simp only [Tryz.ntmps74, List.size_toArray, List.length_cons, List.length_nil, Nat.reduceAdd, Nat.reduceSub, Array.replicate_succ, Array.replicate_zero, List.push_toArray, List.append_toArray, List.nil_append, List.cons_append]
  have hrg := run_range_nilMap (P := Tryz.prog) W 68 37 87 Tryz.underlying68
  have hnx : ∀ ty, (Instr.next (.pointer (some ⟨W.heap.size, 0, none⟩)) false ty).run Tryz.prog (W.alloc (.mapIter none 0 #[] 0)) = _ := fun ty => run_next_nilMap _ ty 0 0 #[]
  gi_wp2
  refine wpIn_loop_rounds 1 ?_
  rw [roundsIn_succ]
  gi_wp2
  go_end0
  exact ⟨⟨_, rfl⟩, hJ [] W _ none h0 (World.grownBy_alloc W _ none) (fun r e => by cases e)⟩

/-- The map's value: of these items, or nil. -/
def MapAtEd (w : World) (mb : Option Nat) (out : List Ed) : Prop := (mb = none ∧ out = []) ∨ ∃ b, mb = some b ∧ EAt w b out
theorem MapAtEd.below {w w' : World} {mb : Option Nat} {out : List Ed} (h : MapAtEd w mb out) (hb : Below w.heap.size w w') : MapAtEd w' mb out := by
  rcases h with h | ⟨b, rfl, ho⟩
  · exact .inl h
  · exact .inr ⟨b, rfl, ho.same (hb.block b ho.lt)⟩
theorem values_stopsEd (Bm : Nat) (mb : Option Nat) (out : List Ed) (hr : EL out) (n : Nat) (hn : 1 ≤ n) (w : World) (hBm : w.cell? ⟨Bm, 0, none⟩ = some (.map mb)) (hown : MapAtEd w mb out) :
    SeqStopsK Fence.wide n Tryz.prog 74 #[.pointer (some ⟨Bm, 0, none⟩)] (fun x : Ed => #[ev x]) KeepsWalks (fun xs => xs.Perm out) (fun _ => True) out.length w := fun l J Jx W hW hJ _ hY h0 => by
  have hm : W.cell? ⟨Bm, 0, none⟩ = some (.map mb) := (hW.cell (p := ⟨Bm, 0, none⟩) (World.block_lt_of_cell? _ _ hBm)).trans hBm
  rcases hown.below hW with ⟨rfl, rfl⟩ | ⟨b, rfl, ho⟩
  · exact (values1_nilEd Fence.wide n trivial rfl l Bm J W hJ hm h0).mono fun _ _ ⟨he, hj⟩ => ⟨he, .inl ⟨[], List.Perm.refl _, hj⟩⟩
  · exact values1_inEd Fence.wide n trivial rfl hn l Bm b out hr J Jx hY W hJ hm ho h0

theorem item_newsEd (W : World) (x : Ed) : ∀ j u, (ecells x)[j]? = some u → (W.alloc (.cells #[.int .i64 x.1, .int .i64 x.2] 37)).cell? ((⟨W.heap.size, 0, none⟩ : Addr).add j) = some u := by
  intro j u hj
  rw [Addr.add_lit, Nat.zero_add]
  have := cell_of_list (C := ecells x) (w := W.alloc (.cells (ecells x).toArray 37)) (g := W.heap.size) (t := 37) (heap_alloc_new W _) j
  exact this.trans hj

set_option maxRecDepth 100000 in
set_option maxHeartbeats 4000000 in
theorem appendSeq_inEd (Bm : Nat) (mb : Option Nat) (out : List Ed) (hr : EL out) (hlen : out.length ≤ 1000000) (w : World) (hBm : w.cell? ⟨Bm, 0, none⟩ = some (.map mb)) (hown : MapAtEd w mb out) :
    CallsIn Fence.wide 5 Tryz.prog 93 #[.slice none 0 0, .func (.func 74) #[] #[.pointer (some ⟨Bm, 0, none⟩)]] w fun e W' => ∃ v xs, e = .returned v ∧ xs.Perm out ∧ OwnE W' w.heap.size v xs ∧ Below w.heap.size w W' := by
  refine callsIn_of_wp_marks Tryz.func93 rfl trivial ?_ rfl
  simp only [Tryz.ntmps93, List.size_toArray, List.length_cons, List.length_nil, Nat.reduceAdd, Nat.reduceSub, Array.replicate_succ, Array.replicate_zero, List.push_toArray, List.append_toArray, List.nil_append, List.cons_append]
  gi_wp2
  obtain ⟨W0, hW0⟩ : ∃ W0, w.alloc (.cells #[.slice none 0 0] 54) = W0 := ⟨_, rfl⟩
  have bS : Boxed W0 w.heap.size 54 (.slice none 0 0) := by rw [← hW0]; exact Boxed.new w _ _
  have hB0 : Below w.heap.size w W0 := by rw [← hW0]; exact (Below.refl _ w).alloc (Nat.le_refl _) _
  have hsz : W0.heap.size = w.heap.size + 1 := by rw [← hW0]; simp
  rw [hW0]
  clear hW0
  obtain ⟨i0, hi0, hz0, hzs, hzb⟩ := eInfo
  refine wpIn_rangeFunc_ownH rfl (by decide) (gf := 74) (lb := #[.pointer (some ⟨Bm, 0, none⟩)]) rfl trivial (enters_of Tryz.func74 (by kernel_rfl) rfl)
    (values_stopsEd Bm mb out hr (5 - 1) (by decide) w hBm hown) walksK_t walksK_b hB0 (fun _ => rfl)
    (fun pre W => (∃ v, Boxed W w.heap.size 54 v ∧ W.ownsRow w.heap.size 37 2 v pre.length (cellsOf ecells pre) ∧ True) ∧ Below w.heap.size w W)
    (fun _ _ _ => False)
    (OwnFrom.and (Own.from (holdsRow_own w.heap.size w.heap.size 54 37 2 (fun pre : List Ed => pre.length) (fun pre => cellsOf ecells pre) (fun _ _ => True)) _) (ownFrom_below (Nat.le_refl _) (by omega)))
    (fun _ _ _ _ _ hs _ _ => hs)
    ⟨⟨_, bS, World.ownsRow_nil _ _ _ _, trivial⟩, hB0⟩
    (fun x a' W => ∃ Bx, w.heap.size < Bx ∧ W.heap[Bx]? = some (.cells (ecells x).toArray 37 (0, 0)) ∧ a' = { tmps := #[.slice none 0 0, .func (.func 74) #[] #[.pointer (some ⟨Bm, 0, none⟩)], .pointer (some ⟨w.heap.size, 0, none⟩), undef, .slice none 0 0, .pointer (some ⟨Bx, 0, none⟩), .func (.func 74) #[] #[.pointer (some ⟨Bm, 0, none⟩)], ev x, undef, undef, undef, undef, undef], defers := [] })
    (fun x a' _ X Y row hs hg hr => by
      obtain ⟨Bx, h1, h2, h3⟩ := hs
      refine ⟨Bx, h1, (hg.block Bx (Array.getElem?_eq_some_iff.1 h2).1 (fun e => ?_)).trans h2, h3⟩
      obtain ⟨_, o, ho, hc⟩ := hr Bx e.symm
      rw [h2] at ho; cases ho; cases hc)
    ?assign ?body ?done ?stop
  case assign =>
    rintro l pre x W K ⟨⟨v, bS1, hrow, _⟩, hB1⟩ hK
    gi_wp2
    exact hK _ _ ((KeepsOthers.alloc _ _).from _) (KeepsWalks.alloc _ _) ⟨⟨v, bS1.alloc _, hrow.alloc _, trivial⟩, hB1.alloc hB1.size _⟩ ⟨W.heap.size, bS1.lt, heap_alloc_new W _, rfl⟩
  case body =>
    rintro l pre x a' W hl ⟨r, hr'⟩ ⟨⟨v, bS1, hrow, _⟩, hB1⟩ ⟨Bx, hBx, hX, rfl⟩ hlt
    have cS := bS1.cell
    have fS := bS1.frozen
    have x0 : W.cell? ⟨Bx, 0, none⟩ = (ecells x)[0]? := by simp [World.cell?, hX, ecells]
    have x1 : W.cell? ⟨Bx, 1, none⟩ = (ecells x)[1]? := by simp [World.cell?, hX, ecells]
    simp only [ecells, List.getElem?_cons_zero, List.getElem?_cons_succ] at x0 x1
    have hBl := bS1.lt
    gi_wp2_with (first
      | (gi_at_builtin; refine wpListIn_append_own _ rfl _ _ 54 rfl w.heap.size 37 i0 _ 2 16 Tryz.underlying54 hi0 hz0 hzs hzb rfl (by decide) v pre.length (cellsOf ecells pre) rfl (hrow.alloc _) ⟨W.heap.size, 0, none⟩ 1 1 (ecells x) rfl rfl (item_newsEd W x) (Enc.one x) (by unfold maxLen; omega) (by omega) (by have := hB1.size; simp; omega) ?_; intro v' w1 hown' hgrow _; obtain ⟨g', cap', rfl⟩ := ownsRow_succ hown'; obtain ⟨hv1, hv2, hr2, hk2, hb2⟩ := bS1.appended (by decide) hrow hB1.size (Nat.le_refl _) hown' hgrow; have hc1 := hv1.cell; have hf1 := hv1.frozen)
      | gi_in)
    refine ⟨hk2.from _, hk2.walks, ⟨_, hv2, ?_, trivial⟩, hB1.trans hb2⟩
    rw [cellsOf_append, List.length_append]
    simpa [cellsOf_cons, cellsOf_nil] using hr2
  case done =>
    rintro D xs W hD hperm ⟨⟨v, bS1, hrow, _⟩, hB1⟩ hK
    have cS := bS1.cell
    obtain ⟨va, vc, rfl⟩ := (show OwnE W w.heap.size v xs from hrow).rng.slice
    gi_wp2
    refine ⟨by simp, .inl ⟨_, _, rfl, run_takeDeferred hK, ?_⟩⟩
    exact ⟨_, results_tmp (t := 4) rfl _ _ _, .slice va xs.length vc, xs, rfl, hperm, ownsRow_putObj hrow _ hK rfl, hB1.trans (belowK_b (w := w) (Nat.le_refl _) W D _ _ (by omega) hK rfl rfl)⟩
  case stop =>
    rintro D c pre W _ _ h _
    exact h.elim

set_option maxHeartbeats 400000 in
theorem collect_anyEd (Bm : Nat) (mb : Option Nat) (out : List Ed) (hr : EL out) (hlen : out.length ≤ 1000000) (w : World) (hBm : w.cell? ⟨Bm, 0, none⟩ = some (.map mb)) (hown : MapAtEd w mb out) :
    Calls Tryz.prog 72 #[.func (.func 74) #[] #[.pointer (some ⟨Bm, 0, none⟩)]] w fun e W' => ∃ v xs, e = .returned v ∧ xs.Perm out ∧ OwnE W' w.heap.size v xs ∧ Below w.heap.size w W' := by
  have hA := callsIn_wide.1 (appendSeq_inEd Bm mb out hr hlen w hBm hown)
  go_enter Tryz.func72, Tryz.ntmps72
  go_wp2_with fail
  refine hA.mono ?_
  rintro e w1 ⟨v, xs, rfl, hp, own, b⟩
  obtain ⟨va, vc, rfl⟩ := own.rng.slice
  go_wp2
  go_ret
  exact ⟨_, xs, rfl, hp, own, b⟩
set_option maxHeartbeats 400000 in
theorem values_anyEd (mb : Option Nat) (w : World) :
    Calls Tryz.prog 50 #[.map mb] w fun e w' => e = .returned (.func (.func 74) #[] #[.pointer (some ⟨w.heap.size, 0, none⟩)]) ∧ w' = w.alloc (.cells #[.map mb] 68) := by
  go_enter Tryz.func50, Tryz.ntmps50
  go_wp2
  go_ret
  exact ⟨rfl, rfl⟩
theorem ltEd (x y : Ed) : ltOf cmpE x y = decide (cmpE x y < 0) := rfl
theorem swoEd : SWO (ltOf cmpE) := cmpE3.swo
set_option maxRecDepth 20000 in
set_option maxHeartbeats 1000000 in
/-- cmp.Or of two. -/
theorem or2_any (n : Nat) (a b : Int) (w : World) (h0 : w.cell? ⟨n, 0, none⟩ = some (.int .i64 a)) (h1 : w.cell? ⟨n, 1, none⟩ = some (.int .i64 b)) :
    Calls Tryz.prog 52 #[.slice (some ⟨n, 0, none⟩) 2 2] w fun e w' => e = .returned (.int .i64 (if a = 0 then b else a)) ∧ w' = w := by
  by_cases ha : a = 0
  · rw [if_pos ha]
    by_cases hb : b = 0
    · subst ha hb
      go_enter Tryz.func52, Tryz.ntmps52
      go_wp2
      go_rounds 3
      go_ret
      exact ⟨rfl, rfl⟩
    · subst ha
      go_enter Tryz.func52, Tryz.ntmps52
      go_wp2
      go_rounds 3
      go_ret
      exact ⟨rfl, rfl⟩
  · rw [if_neg ha]
    go_enter Tryz.func52, Tryz.ntmps52
    go_wp2
    go_rounds 3
    go_ret
    exact ⟨rfl, rfl⟩
set_option maxRecDepth 20000 in
set_option maxHeartbeats 1000000 in
theorem cmpI_any (a b : Int) (w : World) : Calls Tryz.prog 53 #[.int .i64 a, .int .i64 b] w fun e w' => e = .returned (.int .i64 (cmpI a b)) ∧ w' = w := by
  unfold cmpI
  by_cases h1 : a < b
  · rw [if_pos h1]
    go_enter Tryz.func53, Tryz.ntmps53
    go_wp2
    go_ret
    exact ⟨rfl, rfl⟩
  · rw [if_neg h1]
    by_cases h2 : b < a
    · rw [if_pos h2]
      go_enter Tryz.func53, Tryz.ntmps53
      go_wp2
      go_ret
      exact ⟨rfl, rfl⟩
    · rw [if_neg h2]
      go_enter Tryz.func53, Tryz.ntmps53
      go_wp2
      go_ret
      exact ⟨rfl, rfl⟩
set_option maxRecDepth 20000 in
set_option maxHeartbeats 4000000 in
theorem cmpEd_any (x y : Ed) (W : World) : Calls Tryz.prog 51 #[ev x, ev y] W fun e w' => e = .returned (.int .i64 (cmpE x y)) ∧ ∃ q os', w' = grow (W.drewN q) os' := by
  have hB : cmpE x y = if cmpI x.1 y.1 = 0 then cmpI x.2 y.2 else cmpI x.1 y.1 := rfl
  have h1 := fun W' => cmpI_any x.1 y.1 W'
  have h2 := fun W' => cmpI_any x.2 y.2 W'
  rw [hB]
  generalize cmpI x.1 y.1 = r1 at h1 ⊢
  generalize cmpI x.2 y.2 = r2 at h2 ⊢
  clear hB
  obtain ⟨X, fold⟩ : ∃ X, (W.alloc (.cells #[.int .i64 x.1, .int .i64 x.2] 37)).alloc (.cells #[.int .i64 y.1, .int .i64 y.2] 37) = X := ⟨_, rfl⟩
  have a0 : X.cell? ⟨W.heap.size, 0, none⟩ = some (.int .i64 x.1) := by rw [← fold]; simp [World.cell?_alloc_old, World.cell?_alloc_at]
  have a1 : X.cell? ⟨W.heap.size, 1, none⟩ = some (.int .i64 x.2) := by rw [← fold]; simp [World.cell?_alloc_old, World.cell?_alloc_at]
  have b0 : X.cell? ⟨W.heap.size + 1, 0, none⟩ = some (.int .i64 y.1) := by rw [← fold, ← World.size_alloc W (.cells #[.int .i64 x.1, .int .i64 x.2] 37)]; simp [World.cell?_alloc_at]
  have b1 : X.cell? ⟨W.heap.size + 1, 1, none⟩ = some (.int .i64 y.2) := by rw [← fold, ← World.size_alloc W (.cells #[.int .i64 x.1, .int .i64 x.2] 37)]; simp [World.cell?_alloc_at]
  have HX : Hid (X = grow W #[.cells #[.int .i64 x.1, .int .i64 x.2] 37, .cells #[.int .i64 y.1, .int .i64 y.2] 37]) := by
    show X = _
    rw [← fold, alloc_eq_grow, alloc_eq_grow, grow_grow]; rfl
  have hO := or2_any X.heap.size r1 r2 (X.drew.alloc (.cells #[.int .i64 r1, .int .i64 r2] 3)) (cell_of_list (C := [.int .i64 r1, .int .i64 r2]) (heap_alloc_new X.drew _) 0) (cell_of_list (C := [.int .i64 r1, .int .i64 r2]) (heap_alloc_new X.drew _) 1)
  generalize (if r1 = 0 then r2 else r1) = r at hO ⊢
  go_enter Tryz.func51, Tryz.ntmps51
  go_wp2
  go_region_held3 (fun w' => w'.cell? ⟨W.heap.size, 0, none⟩ = some (.int .i64 x.1) ∧ w'.cell? ⟨W.heap.size, 1, none⟩ = some (.int .i64 x.2) ∧ w'.cell? ⟨W.heap.size + 1, 0, none⟩ = some (.int .i64 y.1) ∧ w'.cell? ⟨W.heap.size + 1, 1, none⟩ = some (.int .i64 y.2)) (go_keep) (first
    | (go_at_call_of 53 (Value.int .i64 x.1); refine (h1 _).mono ?_; rintro e w' ⟨rfl, rfl⟩)
    | (go_at_call_of 53 (Value.int .i64 x.2); refine (h2 _).mono ?_; rintro e w' ⟨rfl, rfl⟩)
    | (go_at_call 52; refine hO.mono ?_; rintro e w' ⟨rfl, rfl⟩))
  all_goals go_wp2
  all_goals go_ret
  all_goals exact ⟨rfl, 1, #[.cells #[.int .i64 x.1, .int .i64 x.2] 37, .cells #[.int .i64 y.1, .int .i64 y.2] 37, .cells #[.int .i64 r1, .int .i64 r2] 3], by rw [HX.out]; rfl⟩

theorem flatREd (l : List Ed) : flatK ecells 2 l.toArray = (cellsOf ecells l).toArray := by
  have hll := cellsOf_length (enc := ecells) l
  refine ext_get! (by simp [hll]) fun t ht => ?_
  have ht' : t < l.length * 2 := by simpa using ht
  rw [get_flatK _ _ _ _ (by simpa using ht')]
  have hil : t / 2 < l.length := by omega
  have hj : t % 2 < 2 := Nat.mod_lt _ (by decide)
  have hg := cellsOf_get (enc := ecells) l (t / 2) (t % 2) hil hj
  rw [show t / 2 * 2 + t % 2 = t by omega] at hg
  have e : l.toArray[t / 2]! = l[t / 2] := by simp [hil]
  have hb : t < (cellsOf ecells l).length := by rw [hll]; exact ht'
  have hr : (cellsOf ecells l).toArray[t]! = (cellsOf ecells l)[t] := by rw [getElem!_pos _ t (by simpa using hb)]; simp
  rw [hr, e]
  rw [List.getElem?_eq_getElem hb] at hg
  have hc : t % 2 < (ecells l[t / 2]).length := hj
  rw [List.getElem?_eq_getElem hc] at hg
  injection hg with hg
  rw [hg]
  first
    | rw [getElem!_pos _ _ hc]
    | simp [hc]
theorem holdsREd {w : World} {g : Nat} {l : List Ed} {T : List Value} (hg : w.heap[g]? = some (.cells (cellsOf ecells l ++ T).toArray 37 (0, 0))) : HoldsK ecells 2 w g 0 l.toArray := by
  intro j hj
  rw [flatREd] at hj ⊢
  have hj' : j < (cellsOf ecells l).length := by simpa using hj
  refine ⟨?_, frozen_of_list hg _⟩
  rw [Nat.zero_add, cell_of_list hg, List.getElem?_append_left hj', List.getElem?_eq_getElem hj', getElem!_pos _ j (by simpa using hj')]
  simp
theorem sortedWorldEd {w : World} {g n : Nat} {l l' : List Ed} {T : List Value} {os : Array Obj} (hg : w.heap[g]? = some (.cells (cellsOf ecells l ++ T).toArray 37 (0, 0))) (hl : l'.length = l.length) :
    (sortWorldK ecells 2 w g 0 n l'.toArray os).heap[g]? = some (.cells (cellsOf ecells l' ++ T).toArray 37 (0, 0)) ∧ w.grownBy (sortWorldK ecells 2 w g 0 n l'.toArray os) (some g) := by
  have hlt := (Array.getElem?_eq_some_iff.1 hg).1
  have hsz : (putRowK ecells 2 (Sort.ahead w n) g 0 l'.toArray).heap.size = w.heap.size := by unfold putRowK; simp
  have hgb : (putRowK ecells 2 (Sort.ahead w n) g 0 l'.toArray).heap[g]? = some (.cells (cellsOf ecells l' ++ T).toArray 37 (0, 0)) := by
    unfold putRowK putRow mapBlock
    show (w.heap.modify g _)[g]? = _
    rw [Array.getElem?_modify, if_pos rfl, hg]
    simp only [Option.map_some, onCells, flatREd]
    congr 2
    apply Array.ext'
    apply List.ext_getElem?
    intro k
    have e1 := cellsOf_length (enc := ecells) l
    have e2 := cellsOf_length (enc := ecells) l'
    unfold putCells
    simp only [Array.toList_mapIdx, List.getElem?_mapIdx, Nat.zero_le, true_and, Nat.zero_add, Nat.sub_zero, List.size_toArray, id]
    by_cases hk : k < (cellsOf ecells l').length
    · have hk2 : k < (cellsOf ecells l).length := by omega
      rw [List.getElem?_append_left hk2, List.getElem?_append_left hk, List.getElem?_eq_getElem hk2, List.getElem?_eq_getElem hk]
      simp [hk]
    · rw [List.getElem?_append_right (by omega), List.getElem?_append_right (by omega), e1, e2, hl]
      have hk3 : ¬ k < l.length * 2 := by omega
      cases T[k - l.length * 2]? with
      | none => rfl
      | some x => simp [hk3]
  refine ⟨?_, ?_⟩
  · unfold sortWorldK
    rw [heap_grow_old _ _ (by rw [hsz]; exact hlt)]
    exact hgb
  · refine ⟨rfl, rfl, rfl, ?_, fun k hk hne => ?_⟩
    · unfold sortWorldK
      rw [size_grow, hsz]; omega
    · unfold sortWorldK
      rw [heap_grow_old _ _ (by rw [hsz]; exact hk)]
      unfold putRowK putRow mapBlock
      show (w.heap.modify g _)[k]? = _
      rw [Array.getElem?_modify, if_neg (fun he => hne (by rw [he]))]

theorem sort_anyEd (base : Nat) (v : Value) (l : List Ed) (w : World) (hown : OwnE w base v l) (hlen : l.length ≤ 1000000) :
    Calls Tryz.prog 73 #[v, .func (.func 51) #[] #[]] w fun e w' => e = .returned (.tuple #[]) ∧ ∃ l', l'.Perm l ∧ (∀ i j (hi : i < l'.length) (hj : j < l'.length), i < j → ¬ cmpE l'[j] l'[i] < 0) ∧ OwnE w' base v l' ∧ w.grownBy w' v.ownBlock := by
  by_cases hp : 0 < l.length
  · rcases hown.split with ⟨rfl, rfl⟩ | ⟨g, c, T, rfl, hbg, hg, h1, h2, hT⟩
    · simp at hp
    · have eg : ∀ args w, (callFunc 51 args).run Tryz.prog w = .ok (.enter 51 args) w := enters_of Tryz.func51 (by kernel_rfl) rfl
      have hcon := AnyQ.slices_SortFunc Tryz.sortE 2 Tryz.isAgg37 Tryz.sizeOf37 ecells (fun _ => rfl) (fun x v hv => Enc.one x v hv) cmpE swoEd 51 #[] g 0 c l.toArray w eg
        (fun _ _ _ _ x y => cmpEd_any x y _) (holdsREd hg) (Array.getElem?_eq_some_iff.1 hg).1 (by simp; omega)
      change Calls Tryz.prog 73 _ _ _ at hcon
      refine hcon.mono ?_
      rintro e w' ⟨rfl, d', n, os, hperm, hsort, rfl⟩
      have hd : d' = d'.toList.toArray := by simp
      have hs : d'.toList.length = l.length := by simpa using hperm.1
      obtain ⟨hw1, hw2⟩ := sortedWorldEd (n := n) (l' := d'.toList) (os := os) hg hs
      rw [← hd] at hw1 hw2
      refine ⟨rfl, d'.toList, ?_, fun i j hi hj hij => ?_, ownOf_mk hbg hw1 hs.symm (by omega) h2 (by rw [hs]; exact hT), hw2⟩
      · have h3 := hperm.2.2
        have e1 : d'.extract 0 l.toArray.size = d' := by rw [← hperm.1]; simp
        rw [e1] at h3
        simpa using h3
      · have h4 := hsort i j (Nat.zero_le _) hij (by rw [hs] at hj; simpa using hj)
        rw [ltEd] at h4
        have a1 : d'[i]! = d'.toList[i] := by rw [getElem!_pos _ i (by simpa using hi)]; simp
        have a2 : d'[j]! = d'.toList[j] := by rw [getElem!_pos _ j (by simpa using hj)]; simp
        rw [a1, a2] at h4
        simpa using h4
  · obtain rfl : l = [] := List.eq_nil_of_length_eq_zero (by omega)
    obtain ⟨a, cap, rfl⟩ := hown.rng.slice
    have hcon := AnyF.slices_SortFunc_none Tryz.sortE a cap (.func (.func 51) #[] #[]) w
    change Calls Tryz.prog 73 _ _ _ at hcon
    refine hcon.mono ?_
    rintro e w' ⟨rfl, rfl⟩
    exact ⟨rfl, [], List.Perm.refl _, fun i j hi => by simp at hi, hown, ⟨rfl, rfl, rfl, Nat.le_refl _, fun _ _ _ => rfl⟩⟩


set_option maxHeartbeats 400000 in
theorem sortedFunc_anyEd (Bm : Nat) (mb : Option Nat) (out : List Ed) (hr : EL out) (ho : Ord cmpE out) (hlen : out.length ≤ 1000000) (w : World) (hBm : w.cell? ⟨Bm, 0, none⟩ = some (.map mb)) (hown : MapAtEd w mb out) :
    Calls Tryz.prog 49 #[.func (.func 74) #[] #[.pointer (some ⟨Bm, 0, none⟩)], .func (.func 51) #[] #[]] w fun e W' => ∃ v, e = .returned v ∧ OwnE W' w.heap.size v out ∧ Below w.heap.size w W' := by
  have hC := collect_anyEd Bm mb out hr hlen w hBm hown
  go_enter Tryz.func49, Tryz.ntmps49
  go_wp2_with fail
  refine hC.mono ?_
  rintro e w1 ⟨v, xs, rfl, hp, own, b⟩
  have hl : xs.length ≤ 1000000 := by rw [hp.length_eq]; exact hlen
  have hS := sort_anyEd w.heap.size v xs w1 own hl
  obtain ⟨va, vc, hva⟩ := own.rng.slice
  subst hva
  go_wp2_with fail
  refine hS.mono ?_
  rintro e w2 ⟨rfl, l2, hp2, hs2, own2, gr2⟩
  obtain rfl := ho.uniq cmpE3 (hp2.trans hp) (List.pairwise_iff_getElem.2 fun i j hi hj h => by have := hs2 i j hi hj h; omega)
  have bel : Below w.heap.size w w2 := own.below gr2 b b.size (Nat.le_refl _)
  go_wp2
  go_ret
  exact ⟨_, rfl, own2, bel⟩

end Go.Proofs.YtdbgojmjjkidbaaGreatDoor
