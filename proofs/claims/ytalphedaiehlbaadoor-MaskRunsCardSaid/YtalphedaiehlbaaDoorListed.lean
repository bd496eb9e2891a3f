/-
  THE WALK of the law's list: all of a set's numbers, up to a count.
-/
import Derived.Test.YtalphedaiehlbaaDoorRanges
namespace Go.Proofs.YtalphedaiehlbaaDoor
open Go.RowKit Go.Shelf

attribute [local go_sem] Oper.semAt_some

theorem infoInt : (Tryd.prog.info? 3).map (fun i => (i.zero, i.size, i.bytes)) = some (some (.int .i64 0), 1, 8) := by kernel_rfl

/-- A set's numbers, left at a count if there are as many. -/
def pickS (m : Nat) (stop : Int) : List Int := if 0 ≤ stop ∧ stop < (listS m).length then (listS m).take stop.toNat else listS m
theorem pick_done {m : Nat} {stop : Int} (h : ∀ j : Nat, j < (listS m).length → (j : Int) ≠ stop) : pickS m stop = listS m := by
  unfold pickS
  rw [if_neg]
  intro hh
  exact h stop.toNat (by omega) (by omega)
theorem pick_left {m : Nat} {stop : Int} {pre : List Int} (h : pre <+: listS m) (hp : pre ≠ []) (hs : (pre.dropLast.length : Int) = stop) : pickS m stop = pre.dropLast := by
  obtain ⟨t, ht⟩ := h
  have hl : pre.dropLast.length + 1 = pre.length := by
    rw [List.length_dropLast]
    have := List.length_pos_iff.2 hp
    omega
  unfold pickS
  rw [← ht, if_pos (by rw [List.length_append]; omega), ← hs, Int.toNat_natCast, List.take_append_of_le_length (by omega), List.dropLast_eq_take]
  congr 1
  simp

set_option maxRecDepth 100000 in
set_option maxHeartbeats 2000000 in
theorem list_in (m : Nat) (stop : Int) (w : World) (hm : IsSet m) (hT : Tab w) :
    CallsIn Fence.wide 3 Tryd.prog 20 #[.int .u64 m, .int .i64 stop] w fun e W' => ∃ v, e = .returned v ∧ Row W' v (icells (pickS m stop)) ∧ Below w.heap.size w W' := by
  have hlen : (listS m).length ≤ 64 := by rw [listS_length]; exact listN_length m
  have hpos := hT.pos
  obtain ⟨i0, hi, hz0, hz1, hz2⟩ := info_parts infoInt
  refine callsIn_of_wp_marks Tryd.func20 rfl trivial ?_ rfl
  simp only [Tryd.ntmps20, List.size_toArray, List.length_cons, List.length_nil, Nat.reduceAdd, Nat.reduceSub, Array.replicate_succ, Array.replicate_zero, List.push_toArray, List.append_toArray, List.nil_append, List.cons_append]
  have hnil : ∀ (b : Nat) (w : World), (binOp .eql 40 (.func (.func 31) #[] #[.pointer (some ⟨b, 0, none⟩)]) .nilFunc).run Tryd.prog w = .ok (.bool false) w := fun _ _ => by kernel_rfl
  gi_wp2_with (refine ⟨trivial, ?_⟩; gi_at_call 30; refine (callsIn_wide.2 (all_any m _)).mono ?_; rintro e w' ⟨rfl, rfl⟩)
  have bS := Boxed.new w 3 (.int .i64 stop)
  have bO := Boxed.new (w.alloc (.cells #[.int .i64 stop] 3)) 27 (.slice none 0 0)
  have bN := Boxed.new ((w.alloc (.cells #[.int .i64 stop] 3)).alloc (.cells #[.slice none 0 0] 27)) 22 (.int .u64 m)
  simp only [World.size_alloc] at bO bN
  have hB1 : Below w.heap.size w (w.alloc (.cells #[.int .i64 stop] 3)) := (Below.refl _ w).alloc (Nat.le_refl _) _
  have hB0 : Below (w.heap.size + 1) (w.alloc (.cells #[.int .i64 stop] 3)) (((w.alloc (.cells #[.int .i64 stop] 3)).alloc (.cells #[.slice none 0 0] 27)).alloc (.cells #[.int .u64 m] 22)) := ((Below.refl _ _).alloc (by simp) _).alloc (by simp) _
  refine wpIn_rangeFunc_ownG rfl (by decide) (gf := 31) (lb := #[.pointer (some ⟨w.heap.size + 1 + 1, 0, none⟩)]) rfl trivial (enters_of Tryd.func31 (by kernel_rfl) rfl)
    (all_stops _ (by decide) (w.heap.size + 1 + 1) (w.heap.size + 1) m hm (by omega) _ (by simp) (by simp) bN.cell ((hT.below hB1 hpos).below hB0 (by omega))) belowK_t (belowK_b (by simp)) (Below.refl _ _) (fun _ => rfl)
    (fun pre W => (∃ v, Boxed W (w.heap.size + 1) 27 v ∧ W.ownsRow (w.heap.size + 1) 3 1 v pre.length (icells pre) ∧ (∀ j : Nat, j < pre.length → (j : Int) ≠ stop)) ∧ Below (w.heap.size + 1) (w.alloc (.cells #[.int .i64 stop] 3)) W)
    (fun c pre W => (∃ v, Boxed W (w.heap.size + 1) 27 v ∧ W.ownsRow (w.heap.size + 1) 3 1 v pre.dropLast.length (icells pre.dropLast) ∧ (c = .exit 0 ∧ pre ≠ [] ∧ (pre.dropLast.length : Int) = stop)) ∧ Below (w.heap.size + 1) (w.alloc (.cells #[.int .i64 stop] 3)) W)
    (OwnFrom.and (Own.from (holdsRow_own (w.heap.size + 1) (w.heap.size + 1) 27 3 1 (fun pre => pre.length) (fun pre => icells pre) (fun pre _ => ∀ j : Nat, j < pre.length → (j : Int) ≠ stop)) _) (ownFrom_below (by simp) (by simp)))
    (fun c => OwnFrom.and (Own.from (holdsRow_own (w.heap.size + 1) (w.heap.size + 1) 27 3 1 (fun pre => pre.dropLast.length) (fun pre => icells pre.dropLast) (fun pre _ => c = .exit 0 ∧ pre ≠ [] ∧ (pre.dropLast.length : Int) = stop)) _) (ownFrom_below (by simp) (by simp)))
    ⟨⟨_, bO.alloc _, World.ownsRow_nil _ _ _ _, by simp⟩, hB0⟩
    (fun x => { tmps := #[.int .u64 m, .int .i64 stop, undef, .pointer (some ⟨w.heap.size, 0, none⟩), .slice none 0 0, .pointer (some ⟨w.heap.size + 1, 0, none⟩), .func (.func 31) #[] #[.pointer (some ⟨w.heap.size + 1 + 1, 0, none⟩)], .int .i64 x, .int .u64 m, .func (.func 31) #[] #[.pointer (some ⟨w.heap.size + 1 + 1, 0, none⟩)], .func (.func 31) #[] #[.pointer (some ⟨w.heap.size + 1 + 1, 0, none⟩)], .bool false, .func (.func 31) #[] #[.pointer (some ⟨w.heap.size + 1 + 1, 0, none⟩)], .int .i64 x, undef, undef, undef, undef, undef, undef, undef, undef, undef], defers := [] }) ?assign ?body ?done ?stop
  case assign =>
    intro l x W K hK
    gi_wp2
    exact hK
  case body =>
    rintro l pre x W ⟨⟨v, hv, hrow, hne⟩, hB⟩ hlt
    have hc := hv.cell
    have hcs : W.cell? ⟨w.heap.size, 0, none⟩ = some (.int .i64 stop) := (hB.cell (p := ⟨w.heap.size, 0, none⟩) (Nat.lt_succ_self _)).trans bS.cell
    have hl2 : pre.length < 64 := by omega
    have hsz : w.heap.size + 1 ≤ W.heap.size := by have := hB.size; simpa using this
    obtain ⟨ga, gc, hgv⟩ : ∃ a cap, v = .slice a pre.length cap := by
      obtain ⟨a, cap, h⟩ := (row_of_owns (cs := icells pre) (by rw [icells_length]; exact hrow)).slice
      rw [icells_length] at h
      exact ⟨a, cap, h⟩
    subst hgv
    have HN : Hid _ := hne
    clear hne
    by_cases hst : (pre.length : Int) = stop
    · gi_wp2
      refine ⟨KeepsFrom.refl _ _, ⟨_, hv, by rw [List.dropLast_concat]; exact hrow, rfl, by simp, by rw [List.dropLast_concat]; exact hst⟩, hB⟩
    · gi_wp2_with (gi_at_builtin; refine wpListIn_append_own _ rfl _ _ 27 rfl (w.heap.size + 1) 3 i0 (.int .i64 0) 1 8 Tryd.underlying27 hi hz0 hz1 hz2 rfl (by decide) _ _ _ rfl (hrow.alloc _) ⟨W.heap.size, 0, none⟩ 1 1 [.int .i64 x] rfl rfl (cell_one_new _ _ _) (by simp [Value.oneCell']) (by unfold maxLen; omega) (by omega) (by simp; omega) ?_; intro v' w1 hown' hgrow _; obtain ⟨g', cap', rfl⟩ := ownsRow_succ hown'; obtain ⟨hv1, hv2, hr2, hk2, hb2⟩ := hv.appended (by decide) hrow hsz (Nat.le_refl _) hown' hgrow; have hc1 := hv1.cell; have hf1 := hv1.frozen)
      refine ⟨hk2.from _, hb2, ⟨_, hv2, by rw [icells_append, List.length_append]; exact hr2, ?_⟩, hB.trans hb2⟩
      intro j hj
      simp at hj
      by_cases hjp : j = pre.length
      · subst hjp; exact hst
      · exact HN.out j (by omega)
  case done =>
    rintro D ys W hD rfl ⟨⟨v, hv, hrow, hne⟩, hB⟩ hK
    have hc := hv.cell
    have HP : Hid _ := pick_done hne
    clear hne
    gi_wp2
    refine ⟨by simp, .inl ⟨_, _, rfl, run_takeDeferred hK, ?_⟩⟩
    refine ⟨_, results_tmp rfl _ _ _, v, rfl, ?_, hB1.trans ((hB.mono (by omega)).trans (belowK_b (w := w) (Nat.le_refl _) W D _ _ (by simp at hD; omega) hK rfl rfl))⟩
    rw [HP.out]
    refine row_of_owns (base := w.heap.size + 1) (e := 3) ?_
    rw [icells_length]
    exact ownsRow_putObj hrow _ hK rfl
  case stop =>
    rintro D c pre W hD hpre ⟨⟨v, hv, hrow, rfl, hp, hst⟩, hB⟩ hK
    have hc := hv.cell
    have HP : Hid _ := pick_left hpre hp hst
    clear hst
    gi_wp2
    refine ⟨by simp, .inl ⟨_, _, rfl, run_takeDeferred hK, ?_⟩⟩
    refine ⟨_, results_tmp rfl _ _ _, v, rfl, ?_, hB1.trans ((hB.mono (by omega)).trans (belowK_b (w := w) (Nat.le_refl _) W D _ _ (by simp at hD; omega) hK rfl rfl))⟩
    rw [HP.out]
    refine row_of_owns (base := w.heap.size + 1) (e := 3) ?_
    rw [icells_length]
    exact ownsRow_putObj hrow _ hK rfl
end Go.Proofs.YtalphedaiehlbaaDoor
