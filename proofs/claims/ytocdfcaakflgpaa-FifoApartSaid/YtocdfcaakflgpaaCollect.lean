/-
  slices.AppendSeq, slices.Collect of the map's items.
-/
import Derived.Test.YtocdfcaakflgpaaValues
namespace Go.Proofs.Ytocdfcaakflgpaa
open Go.RowKit Go.Maps Go.Sort Go.Shelf
attribute [local go_sem] Oper.semAt_some

set_option maxRecDepth 100000 in
set_option maxHeartbeats 1000000 in
theorem values1_nil (F : Fence) (n : Nat) (h58 : F.fn 58) (hro : F.round = none) (l Bm : Nat) (J : List It → World → Prop) (W : World) (hJ : AbidesFrom W.heap.size J) (hm : W.cell? ⟨Bm, 0, none⟩ = some (.map none)) (h0 : J [] W) :
    CallsIn F n Try.prog 58 #[.func (.yield l) #[] #[], .pointer (some ⟨Bm, 0, none⟩)] W fun e W' => (∃ v, e = .returned v) ∧ J [] W' := by
  refine callsIn_of_wp Try.func58 rfl h58 ?_ hro
  simp only [Try.ntmps58, List.size_toArray, List.length_cons, List.length_nil, Nat.reduceAdd, Nat.reduceSub, Array.replicate_succ, Array.replicate_zero, List.push_toArray, List.append_toArray, List.nil_append, List.cons_append]
  have hrg := run_range_nilMap (P := Try.prog) W 62 29 38 Try.underlying62
  have hnx : ∀ ty, (Instr.next (.pointer (some ⟨W.heap.size, 0, none⟩)) false ty).run Try.prog (W.alloc (.mapIter none 0 #[] 0)) = _ := fun ty => run_next_nilMap _ ty 0 0 #[]
  gi_wp2
  refine wpIn_loop_rounds 1 ?_
  rw [roundsIn_succ]
  gi_wp2
  go_end0
  exact ⟨⟨_, rfl⟩, hJ [] W _ none h0 (World.grownBy_alloc W _ none) (fun r e => by cases e)⟩

/-- The map's value: of these items, or nil. -/
def MapAt (w : World) (mb : Option Nat) (out : List It) : Prop := (mb = none ∧ out = []) ∨ ∃ b, mb = some b ∧ OutAt w b out
theorem MapAt.below {w w' : World} {mb : Option Nat} {out : List It} (h : MapAt w mb out) (hb : Below w.heap.size w w') : MapAt w' mb out := by
  rcases h with h | ⟨b, rfl, ho⟩
  · exact .inl h
  · exact .inr ⟨b, rfl, ho.same (hb.block b ho.lt)⟩
theorem values_stops (Bm : Nat) (mb : Option Nat) (out : List It) (hr : Rise out) (n : Nat) (hn : 1 ≤ n) (w : World) (hBm : w.cell? ⟨Bm, 0, none⟩ = some (.map mb)) (hown : MapAt w mb out) :
    SeqStopsK Fence.wide n Try.prog 58 #[.pointer (some ⟨Bm, 0, none⟩)] (fun x : It => #[iv x]) KeepsWalks (fun xs => xs.Perm out) (fun _ => True) out.length w := fun l J Jx W hW hJ _ hY h0 => by
  have hm : W.cell? ⟨Bm, 0, none⟩ = some (.map mb) := (hW.cell (p := ⟨Bm, 0, none⟩) (World.block_lt_of_cell? _ _ hBm)).trans hBm
  rcases hown.below hW with ⟨rfl, rfl⟩ | ⟨b, rfl, ho⟩
  · exact (values1_nil Fence.wide n trivial rfl l Bm J W hJ hm h0).mono fun _ _ ⟨he, hj⟩ => ⟨he, .inl ⟨[], List.Perm.refl _, hj⟩⟩
  · exact values1_in Fence.wide n trivial rfl hn l Bm b out hr J Jx hY W hJ hm ho h0

theorem item_news (W : World) (x : It) : ∀ j u, (icells x)[j]? = some u → (W.alloc (.cells #[.int .u64 (x.tag : Int), .int .i64 x.m.o, .int .u64 x.m.s, .int .i64 x.m.hop, .string x.m.ex, .string x.m.key, .string x.m.body, .bool x.again] 38)).cell? ((⟨W.heap.size, 0, none⟩ : Addr).add j) = some u := by
  intro j u hj
  rw [Addr.add_lit, Nat.zero_add]
  have := cell_of_list (C := icells x) (w := W.alloc (.cells (icells x).toArray 38)) (g := W.heap.size) (t := 38) (heap_alloc_new W _) j
  exact this.trans hj

set_option maxRecDepth 100000 in
set_option maxHeartbeats 4000000 in
theorem appendSeq_in (Bm : Nat) (mb : Option Nat) (out : List It) (hr : Rise out) (hlen : out.length ≤ 1000000) (w : World) (hBm : w.cell? ⟨Bm, 0, none⟩ = some (.map mb)) (hown : MapAt w mb out) :
    CallsIn Fence.wide 5 Try.prog 61 #[.slice none 0 0, .func (.func 58) #[] #[.pointer (some ⟨Bm, 0, none⟩)]] w fun e W' => ∃ v xs, e = .returned v ∧ xs.Perm out ∧ Own8 W' w.heap.size v xs ∧ Below w.heap.size w W' := by
  refine callsIn_of_wp_marks Try.func61 rfl trivial ?_ rfl
  simp only [Try.ntmps61, List.size_toArray, List.length_cons, List.length_nil, Nat.reduceAdd, Nat.reduceSub, Array.replicate_succ, Array.replicate_zero, List.push_toArray, List.append_toArray, List.nil_append, List.cons_append]
  gi_wp2
  obtain ⟨W0, hW0⟩ : ∃ W0, w.alloc (.cells #[.slice none 0 0] 47) = W0 := ⟨_, rfl⟩
  have bS : Boxed W0 w.heap.size 47 (.slice none 0 0) := by rw [← hW0]; exact Boxed.new w _ _
  have hB0 : Below w.heap.size w W0 := by rw [← hW0]; exact (Below.refl _ w).alloc (Nat.le_refl _) _
  have hsz : W0.heap.size = w.heap.size + 1 := by rw [← hW0]; simp
  rw [hW0]
  clear hW0
  obtain ⟨i0, hi0, hz0, hzs, hzb⟩ := itemInfo
  refine wpIn_rangeFunc_ownH rfl (by decide) (gf := 58) (lb := #[.pointer (some ⟨Bm, 0, none⟩)]) rfl trivial (enters_of Try.func58 (by kernel_rfl) rfl)
    (values_stops Bm mb out hr (5 - 1) (by decide) w hBm hown) walksK_t walksK_b hB0 (fun _ => rfl)
    (fun pre W => (∃ v, Boxed W w.heap.size 47 v ∧ W.ownsRow w.heap.size 38 8 v pre.length (cellsOf icells pre) ∧ True) ∧ Below w.heap.size w W)
    (fun _ _ _ => False)
    (OwnFrom.and (Own.from (holdsRow_own w.heap.size w.heap.size 47 38 8 (fun pre : List It => pre.length) (fun pre => cellsOf icells pre) (fun _ _ => True)) _) (ownFrom_below (Nat.le_refl _) (by omega)))
    (fun _ _ _ _ _ hs _ _ => hs)
    ⟨⟨_, bS, World.ownsRow_nil _ _ _ _, trivial⟩, hB0⟩
    (fun x a' W => ∃ Bx, w.heap.size < Bx ∧ W.heap[Bx]? = some (.cells (icells x).toArray 38 (0, 0)) ∧ a' = { tmps := #[.slice none 0 0, .func (.func 58) #[] #[.pointer (some ⟨Bm, 0, none⟩)], .pointer (some ⟨w.heap.size, 0, none⟩), undef, .slice none 0 0, .pointer (some ⟨Bx, 0, none⟩), .func (.func 58) #[] #[.pointer (some ⟨Bm, 0, none⟩)], iv x, undef, undef, undef, undef, undef], defers := [] })
    (fun x a' _ X Y row hs hg hr => by
      obtain ⟨Bx, h1, h2, h3⟩ := hs
      refine ⟨Bx, h1, (hg.block Bx (Array.getElem?_eq_some_iff.1 h2).1 (fun e => ?_)).trans h2, h3⟩
      obtain ⟨_, o, ho, hc⟩ := hr Bx e.symm
      rw [h2] at ho; cases ho; cases hc)
    ?assign ?body ?done ?stop
  case assign =>
    rintro l pre x W K ⟨⟨v, bS1, hrow, _⟩, hB1⟩ hK
    gi_wp2
    exact hK _ _ ((KeepsOthers.alloc _ _).from _) (KeepsWalks.alloc _ _) ⟨⟨v, bS1.alloc _, hrow.alloc _, trivial⟩, hB1.alloc hB1.size _⟩ ⟨W.heap.size, bS1.lt, heap_alloc_new W _, rfl⟩
  case body =>
    rintro l pre x a' W hl ⟨r, hr'⟩ ⟨⟨v, bS1, hrow, _⟩, hB1⟩ ⟨Bx, hBx, hX, rfl⟩ hlt
    have cS := bS1.cell
    have fS := bS1.frozen
    have iX : ItAt W Bx 0 x := by constructor <;> simp [World.cell?, hX, icells]
    obtain ⟨x0, x1, x2, x3, x4, x5, x6, x7⟩ := iX
    simp only [Nat.zero_add] at x0 x1 x2 x3 x4 x5 x6 x7
    have hBl := bS1.lt
    gi_wp2_with (first
      | (gi_at_builtin; refine wpListIn_append_own _ rfl _ _ 47 rfl w.heap.size 38 i0 _ 8 88 Try.underlying47 hi0 hz0 hzs hzb rfl (by decide) v pre.length (cellsOf icells pre) rfl (hrow.alloc _) ⟨W.heap.size, 0, none⟩ 1 1 (icells x) rfl rfl (item_news W x) (Enc.one x) (by unfold maxLen; omega) (by omega) (by have := hB1.size; simp; omega) ?_; intro v' w1 hown' hgrow _; obtain ⟨g', cap', rfl⟩ := ownsRow_succ hown'; obtain ⟨hv1, hv2, hr2, hk2, hb2⟩ := bS1.appended (by decide) hrow hB1.size (Nat.le_refl _) hown' hgrow; have hc1 := hv1.cell; have hf1 := hv1.frozen)
      | gi_in)
    refine ⟨hk2.from _, hk2.walks, ⟨_, hv2, ?_, trivial⟩, hB1.trans hb2⟩
    rw [cellsOf_append, List.length_append]
    simpa [cellsOf_cons, cellsOf_nil] using hr2
  case done =>
    rintro D xs W hD hperm ⟨⟨v, bS1, hrow, _⟩, hB1⟩ hK
    have cS := bS1.cell
    obtain ⟨va, vc, rfl⟩ := (show Own8 W w.heap.size v xs from hrow).rng.slice
    gi_wp2
    refine ⟨by simp, .inl ⟨_, _, rfl, run_takeDeferred hK, ?_⟩⟩
    exact ⟨_, results_tmp (t := 4) rfl _ _ _, .slice va xs.length vc, xs, rfl, hperm, ownsRow_putObj hrow _ hK rfl, hB1.trans (belowK_b (w := w) (Nat.le_refl _) W D _ _ (by omega) hK rfl rfl)⟩
  case stop =>
    rintro D c pre W _ _ h _
    exact h.elim

set_option maxHeartbeats 400000 in
theorem collect_any (Bm : Nat) (mb : Option Nat) (out : List It) (hr : Rise out) (hlen : out.length ≤ 1000000) (w : World) (hBm : w.cell? ⟨Bm, 0, none⟩ = some (.map mb)) (hown : MapAt w mb out) :
    Calls Try.prog 56 #[.func (.func 58) #[] #[.pointer (some ⟨Bm, 0, none⟩)]] w fun e W' => ∃ v xs, e = .returned v ∧ xs.Perm out ∧ Own8 W' w.heap.size v xs ∧ Below w.heap.size w W' := by
  have hA := callsIn_wide.1 (appendSeq_in Bm mb out hr hlen w hBm hown)
  go_enter Try.func56, Try.ntmps56
  go_wp2_with fail
  refine hA.mono ?_
  rintro e w1 ⟨v, xs, rfl, hp, own, b⟩
  obtain ⟨va, vc, rfl⟩ := own.rng.slice
  go_wp2
  go_ret
  exact ⟨_, xs, rfl, hp, own, b⟩
set_option maxHeartbeats 400000 in
theorem values_any (mb : Option Nat) (w : World) :
    Calls Try.prog 47 #[.map mb] w fun e w' => e = .returned (.func (.func 58) #[] #[.pointer (some ⟨w.heap.size, 0, none⟩)]) ∧ w' = w.alloc (.cells #[.map mb] 62) := by
  go_enter Try.func47, Try.ntmps47
  go_wp2
  go_ret
  exact ⟨rfl, rfl⟩
end Go.Proofs.Ytocdfcaakflgpaa
