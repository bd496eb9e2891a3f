/-
  maps.Keys at a set of tags: its iterator, for every loop body; slices.AppendSeq, slices.Collect of it.
-/
import Derived.Test.YtooaiomghbjpiaaMaps17
import Derived.Test.YtooaiomghbjpiaaRow
import Derived.RangeFuncNested
import Derived.RangeFuncBound
import Derived.RangeFuncCalls
import Derived.RangeFuncLeaves
import Derived.Shelf.Abstract
import Derived.Shelf.AbstractIn
import Derived.Shelf.RegionOpen
import Derived.Sort.MapsRangeIn
import Derived.Sort.KeysCollected
import Derived.WalkKit
import Derived.OwnWalkIn
import Derived.TacticsInMore
import Derived.RegionIn
import Derived.LoopNIn
import Derived.LoopIn
namespace Go.Proofs.Ytooaiomghbjpiaa
open Go.RowKit Go.Maps Go.Sort Go.Shelf
attribute [local go_sem] Oper.semAt_some

/-- The cells of a list of tags. -/
def ucells (l : List Int) : List Value := l.map (Value.int .u64)
theorem ucells_length (l : List Int) : (ucells l).length = l.length := by simp [ucells]
theorem ucells_append (a b : List Int) : ucells (a ++ b) = ucells a ++ ucells b := by simp [ucells]
set_option maxRecDepth 20000 in
theorem ukey_inv {key : Value} {kl : Lit} (h : keyOf Try.prog 31 key = some kl) : ∃ t : Int, key = .int .u64 t ∧ kl = .int .u64 t := by
  have hu := Try.underlying31
  simp only [keyOf, hu, mapKey] at h
  cases key with
  | int q n =>
    simp at h
    obtain ⟨⟨rfl, hw⟩, rfl⟩ := h
    exact ⟨n, rfl, rfl⟩
  | _ => simp at h
theorem u_entry {l : List Int} {c : Int} {z : Lit} {yd : DataW Unit} {v : Value} {yp : List MemPlace} (hk : keyOf Try.prog 31 (.int .u64 c) = some z) (hv : unitElem v = some (yd, yp)) (hat : ∀ zd, (DofG tkl td l).atKey z zd = yd) : c ∈ l ∧ tkl c = z := by
  obtain ⟨rfl, hz⟩ := unitElem_inv hv
  simp at hz
  obtain ⟨rfl, rfl⟩ := hz
  obtain ⟨t, ht, rfl⟩ := ukey_inv hk
  injection ht with _ ht
  subst ht
  by_cases hn : ∃ y ∈ l, tkl y = .int .u64 c
  · obtain ⟨y, hy, e⟩ := hn
    rw [← int_inj e]
    exact ⟨hy, rfl⟩
  · have h1 := hat .nil
    rw [atKey_none (fun y hy e => hn ⟨y, hy, e⟩)] at h1
    cases h1
set_option maxRecDepth 100000 in
set_option maxHeartbeats 1000000 in
theorem keysU1_in (F : Fence) (n : Nat) (h58 : F.fn 63) (hro : F.round = none) (hn : 1 ≤ n) (l Bm b : Nat) (out : List Int) (hr : TL out) (J Jx : List Int → World → Prop)
    (hY : ∀ pre x W, J pre W → pre.length < out.length → YieldAt F (n - 1) Try.prog l #[.int .u64 x] W fun e W' =>
      (e = .returned (.bool true) ∧ J (pre ++ [x]) W' ∧ KeepsWalks W W') ∨ (e = .returned (.bool false) ∧ Jx (pre ++ [x]) W'))
    (W : World) (hJ : AbidesFrom W.heap.size J) (hm : W.cell? ⟨Bm, 0, none⟩ = some (.map (some b))) (hown : TAt W b out) (h0 : J [] W) :
    CallsIn F n Try.prog 63 #[.func (.yield l) #[] #[], .pointer (some ⟨Bm, 0, none⟩)] W fun e W' => (∃ v, e = .returned v) ∧
      ((∃ xs, xs.Perm out ∧ J xs W') ∨ (∃ pre, True ∧ Jx pre W')) := by
  refine callsIn_of_wp Try.func63 rfl h58 ?_ hro
  simp only [Try.ntmps63, List.size_toArray, List.length_cons, List.length_nil, Nat.reduceAdd, Nat.reduceSub, Array.replicate_succ, Array.replicate_zero, List.push_toArray, List.append_toArray, List.nil_append, List.cons_append]
  have hD : Maps.size (DofG tkl td out) = out.length := size_DofG out
  gi_wp2_with (first
    | (gi_at_range; refine wpListIn_range_own _ rfl _ 85 rfl 31 91 uKeyed Try.underlying85 (unitElem (H := Unit)) b out.length (DofG tkl td out) rfl hown ?_; intro w0 hrg0 hg0 hs0)
    | gi_in)
  go_frame
  gi_loopw [3] (fun _ wr => ∃ (left : Lit → Bool) (cnt : Nat) (ps : List Int), wr.ranges Try.prog 31 (unitElem (H := Unit)) b W.heap.size out.length (DofG tkl td out) left cnt ∧ ps.length + cnt ≤ out.length ∧ ComeG tkl out left ps ∧ J ps wr)
    (fun _ wr => wr.rangeLeft b W.heap.size)
  case atStart =>
    exact ⟨_, _, [], hrg0, by rw [hD]; simp, ComeG.start uKeyed.one hr.keys, hJ [] W w0 none h0 hg0 (fun r e => by cases e)⟩
  case round =>
    obtain ⟨left, cnt, ps, hrg, hcs, hC, hJs⟩ := hrel
    gi_wp2_with (first
      | (gi_at_next; refine wpListIn_next_ranges _ rfl _ rfl 31 uKeyed (unitElem (H := Unit)) (Value.int .u64) (fun _ : Unit => Value.agg #[]) (fun key kl hk => by obtain ⟨s, hs, _⟩ := ukey_inv hk; exact ⟨s, hs⟩) (fun v y hv => ⟨(), (unitElem_inv hv).1⟩) b W.heap.size out.length _ _ _ rfl hrg ?_ ?_)
      | gi_in)
    · intro hc0 hl0
      gi_wp2
      go_end0
      exact ⟨⟨_, rfl⟩, .inl ⟨ps, hC.perm hr.diff hl0, hJs⟩⟩
    · intro c kl yd yp w2 cnt2 hkey hlk hv hat hrg2 hlt hg2 hs2 hen
      obtain ⟨hc, rfl⟩ := u_entry hkey hv hat
      have hJ2 : J ps w2 := hJ ps wr w2 (some W.heap.size) hJs hg2 (fun r e => by cases e; exact ⟨Nat.le_refl _, hrg.iter_walk⟩)
      obtain ⟨fn, tmps, assign, body, hy, hR⟩ := hY ps c w2 hJ2 (by omega)
      clear hs2 hkey hv hat
      gi_wp2
      refine hR.mono ?_
      have hC2 := hC.step uKeyed.one hr.keys hr.diff hc hlk
      rintro e W3 (⟨rfl, hJ4, hk4⟩ | ⟨rfl, hJx4⟩)
      · gi_wp2
        have hrg4 := hrg2.of_walks hk4
        go_roundw
        case rel => exact ⟨_, cnt2, ps ++ [c], hrg4, by simp; omega, hC2, hJ4⟩
        case measure => rw [hrg4.left_eq, hrg.left_eq]; exact hlt
      · gi_wp2
        refine bodyPost_ret (results_none rfl _ _ _) rfl ?_
        exact ⟨⟨_, rfl⟩, .inr ⟨ps ++ [c], trivial, hJx4⟩⟩
theorem keysU_stops (Bm b : Nat) (out : List Int) (hr : TL out) (n : Nat) (hn : 1 ≤ n) (w : World) (hBm : w.cell? ⟨Bm, 0, none⟩ = some (.map (some b))) (hown : TAt w b out) :
    SeqStopsK Fence.wide n Try.prog 63 #[.pointer (some ⟨Bm, 0, none⟩)] (fun x : Int => #[Value.int .u64 x]) KeepsWalks (fun xs => xs.Perm out) (fun _ => True) out.length w := fun l J Jx W hW hJ _ hY h0 =>
  keysU1_in Fence.wide n trivial rfl hn l Bm b out hr J Jx hY W hJ ((hW.cell (p := ⟨Bm, 0, none⟩) (World.block_lt_of_cell? _ _ hBm)).trans hBm) (hown.same (hW.block b hown.lt)) h0
theorem infoU : (Try.prog.info? 31).map (fun i => (i.zero, i.size, i.bytes)) = some (some (.int .u64 0), 1, 8) := by kernel_rfl
set_option maxRecDepth 100000 in
set_option maxHeartbeats 4000000 in
theorem appendSeqU_in (Bm b : Nat) (out : List Int) (hr : TL out) (hlen : out.length ≤ 1000000) (w : World) (hBm : w.cell? ⟨Bm, 0, none⟩ = some (.map (some b))) (hown : TAt w b out) :
    CallsIn Fence.wide 5 Try.prog 76 #[.slice none 0 0, .func (.func 63) #[] #[.pointer (some ⟨Bm, 0, none⟩)]] w fun e W' => ∃ v xs, e = .returned v ∧ xs.Perm out ∧ Own1 W' w.heap.size 31 v (ucells xs) ∧ Below w.heap.size w W' := by
  refine callsIn_of_wp_marks Try.func76 rfl trivial ?_ rfl
  simp only [Try.ntmps76, List.size_toArray, List.length_cons, List.length_nil, Nat.reduceAdd, Nat.reduceSub, Array.replicate_succ, Array.replicate_zero, List.push_toArray, List.append_toArray, List.nil_append, List.cons_append]
  gi_wp2
  obtain ⟨W0, hW0⟩ : ∃ W0, w.alloc (.cells #[.slice none 0 0] 38) = W0 := ⟨_, rfl⟩
  have bS : Boxed W0 w.heap.size 38 (.slice none 0 0) := by rw [← hW0]; exact Boxed.new w _ _
  have hB0 : Below w.heap.size w W0 := by rw [← hW0]; exact (Below.refl _ w).alloc (Nat.le_refl _) _
  have hsz : W0.heap.size = w.heap.size + 1 := by rw [← hW0]; simp
  rw [hW0]
  clear hW0
  obtain ⟨i0, hi0, hz0, hzs, hzb⟩ := info_parts infoU
  refine wpIn_rangeFunc_ownG rfl (by decide) (gf := 63) (lb := #[.pointer (some ⟨Bm, 0, none⟩)]) rfl trivial (enters_of Try.func63 (by kernel_rfl) rfl)
    (keysU_stops Bm b out hr (5 - 1) (by decide) w hBm hown) walksK_t walksK_b hB0 (fun _ => rfl)
    (fun pre W => (∃ v, Boxed W w.heap.size 38 v ∧ W.ownsRow w.heap.size 31 1 v pre.length (ucells pre) ∧ True) ∧ Below w.heap.size w W)
    (fun _ _ _ => False)
    (OwnFrom.and (Own.from (holdsRow_own w.heap.size w.heap.size 38 31 1 (fun pre : List Int => pre.length) (fun pre => ucells pre) (fun _ _ => True)) _) (ownFrom_below (Nat.le_refl _) (by omega)))
    (fun _ _ _ _ _ hs _ _ => hs)
    ⟨⟨_, bS, World.ownsRow_nil _ _ _ _, trivial⟩, hB0⟩
    (fun x => { tmps := #[.slice none 0 0, .func (.func 63) #[] #[.pointer (some ⟨Bm, 0, none⟩)], .pointer (some ⟨w.heap.size, 0, none⟩), undef, .slice none 0 0, .int .u64 x, .func (.func 63) #[] #[.pointer (some ⟨Bm, 0, none⟩)], .int .u64 x, undef, undef, undef, undef, undef], defers := [] }) ?assign ?body ?done ?stop
  case assign =>
    intro l x W K hK
    gi_wp2
    exact hK
  case body =>
    rintro l pre x W ⟨⟨v, bS1, hrow, _⟩, hB1⟩ hlt
    have cS := bS1.cell
    have hsz1 : w.heap.size ≤ W.heap.size := hB1.size
    obtain ⟨ga, gc, hgv⟩ : ∃ a cap, v = .slice a pre.length cap := by
      obtain ⟨a, cap, h⟩ := (row_of_owns (cs := ucells pre) (by rw [ucells_length]; exact hrow)).slice
      rw [ucells_length] at h
      exact ⟨a, cap, h⟩
    subst hgv
    gi_wp2_with (gi_at_builtin; refine wpListIn_append_own _ rfl _ _ 38 rfl w.heap.size 31 i0 (.int .u64 0) 1 8 Try.underlying38 hi0 hz0 hzs hzb rfl (by decide) _ _ _ rfl (hrow.alloc _) ⟨W.heap.size, 0, none⟩ 1 1 [.int .u64 x] rfl rfl (cell_one_new _ _ _) (by simp [Value.oneCell']) (by unfold maxLen; omega) (by omega) (by simp; omega) ?_; intro v' w1 hown' hgrow _; obtain ⟨g', cap', rfl⟩ := ownsRow_succ hown'; obtain ⟨hv1, hv2, hr2, hk2, hb2⟩ := bS1.appended (by decide) hrow hsz1 (Nat.le_refl _) hown' hgrow; have hc1 := hv1.cell; have hf1 := hv1.frozen)
    refine ⟨hk2.from _, hk2.walks, ⟨_, hv2, ?_, trivial⟩, hB1.trans hb2⟩
    rw [ucells_append, List.length_append]
    exact hr2
  case done =>
    rintro D xs W hD hperm ⟨⟨v, bS1, hrow, _⟩, hB1⟩ hK
    have cS := bS1.cell
    gi_wp2
    refine ⟨by simp, .inl ⟨_, _, rfl, run_takeDeferred hK, ?_⟩⟩
    refine ⟨_, results_tmp (t := 4) rfl _ _ _, v, xs, rfl, hperm, ?_, hB1.trans (belowK_b (w := w) (Nat.le_refl _) W D _ _ (by omega) hK rfl rfl)⟩
    unfold Own1
    rw [ucells_length]
    exact ownsRow_putObj hrow _ hK rfl
  case stop =>
    rintro D c pre W _ _ h _
    exact h.elim
set_option maxHeartbeats 400000 in
theorem collectU_any (Bm b : Nat) (out : List Int) (hr : TL out) (hlen : out.length ≤ 1000000) (w : World) (hBm : w.cell? ⟨Bm, 0, none⟩ = some (.map (some b))) (hown : TAt w b out) :
    Calls Try.prog 61 #[.func (.func 63) #[] #[.pointer (some ⟨Bm, 0, none⟩)]] w fun e W' => ∃ v xs, e = .returned v ∧ xs.Perm out ∧ Own1 W' w.heap.size 31 v (ucells xs) ∧ Below w.heap.size w W' := by
  have hA := callsIn_wide.1 (appendSeqU_in Bm b out hr hlen w hBm hown)
  go_enter Try.func61, Try.ntmps61
  go_wp2_with fail
  refine hA.mono ?_
  rintro e w1 ⟨v, xs, rfl, hp, own, b⟩
  obtain ⟨va, vc, rfl⟩ := own.row.slice
  go_wp2
  go_ret
  exact ⟨_, xs, rfl, hp, own, b⟩
theorem keysU_any (mb : Option Nat) (w : World) :
    Calls Try.prog 50 #[.map mb] w fun e w' => e = .returned (.func (.func 63) #[] #[.pointer (some ⟨w.heap.size, 0, none⟩)]) ∧ w' = w.alloc (.cells #[.map mb] 85) := by
  go_enter Try.func50, Try.ntmps50
  go_wp2
  go_ret
  exact ⟨rfl, rfl⟩
end Go.Proofs.Ytooaiomghbjpiaa
