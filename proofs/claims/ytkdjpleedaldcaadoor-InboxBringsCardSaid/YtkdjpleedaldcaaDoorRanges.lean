/-
  THE WALKS of mask's Size and Run and of the law's list: loops over All.
-/
import Derived.Test.YtkdjpleedaldcaaDoorTz
namespace Go.Proofs.YtkdjpleedaldcaaDoor
open Go.RowKit Go.Shelf

attribute [local go_sem] Oper.semAt_some


/-- The list of 0 .. j - 1. -/
def upTo (j : Nat) : List Int := (List.range j).map fun i : Nat => (i : Int)

theorem upTo_length (j : Nat) : (upTo j).length = j := by simp [upTo]

theorem upTo_succ (j : Nat) : upTo (j + 1) = upTo j ++ [(j : Int)] := by simp [upTo, List.range_succ]

theorem listS_map {m : Nat} {l : List Nat} {t : List Int} (h : listS m = l.map (fun i : Nat => (i : Int)) ++ t) : ∃ r : List Nat, listN m = l ++ r ∧ t = r.map (fun i : Nat => (i : Int)) := by
  unfold listS at h
  obtain ⟨l1, l2, e, h1, h2⟩ := List.map_eq_append_iff.1 h
  have : l1 = l := (List.map_inj_right (fun x y hxy => by omega)).1 h1
  subst this
  exact ⟨l2, e, h2.symm⟩

theorem run_done {m j : Nat} (hm : IsSet m) (h : listS m = upTo j) : runS m = j := by
  obtain ⟨r, e, hr⟩ := listS_map (l := List.range j) (t := []) (by rw [h]; simp [upTo])
  have : r = [] := by simpa using hr.symm
  subst this
  exact runS_list hm e (fun x r h => by cases h)

theorem run_left {m j : Nat} {x : Int} (hm : IsSet m) (h : upTo j ++ [x] <+: listS m) (hx : x ≠ j) : runS m = j := by
  obtain ⟨t, ht⟩ := h
  obtain ⟨r, e, hr⟩ := listS_map (l := List.range j) (t := x :: t) (by rw [← ht]; simp [upTo])
  refine runS_list hm e (fun y s hs => ?_)
  subst hs
  simp at hr
  intro hy
  apply hx
  rw [hr.1, hy]


set_option maxRecDepth 100000 in
set_option maxHeartbeats 2000000 in
theorem run_in (m : Nat) (w : World) (hm : IsSet m) (hT : Tab w) :
    CallsIn Fence.wide 3 Tryd.prog 33 #[.int .u64 m] w fun e W' => e = .returned (.int .i64 (runS m)) ∧ Below w.heap.size w W' := by
  have hlen : (listS m).length ≤ 64 := by rw [listS_length]; exact listN_length m
  have hpos := hT.pos
  refine callsIn_of_wp_marks Tryd.func33 rfl trivial ?_ rfl
  simp only [Tryd.ntmps33, List.size_toArray, List.length_cons, List.length_nil, Nat.reduceAdd, Nat.reduceSub, Array.replicate_succ, Array.replicate_zero, List.push_toArray, List.append_toArray, List.nil_append, List.cons_append]
  gi_wp2_with (refine ⟨trivial, ?_⟩; gi_at_call 36; refine (callsIn_wide.2 (all_any m _)).mono ?_; rintro e w' ⟨rfl, rfl⟩)
  have hs := cell_new w (.int .i64 0) 3
  have hb := cell_new (w.alloc (.cells #[.int .i64 0] 3)) (.int .u64 m) 35
  rw [World.size_alloc] at hb
  have hB0 : Below w.heap.size w ((w.alloc (.cells #[.int .i64 0] 3)).alloc (.cells #[.int .u64 m] 35)) := ((Below.refl _ w).alloc (Nat.le_refl _) _).alloc (by simp) _
  refine wpIn_rangeFunc_ownF rfl (by decide) (gf := 37) (lb := #[.pointer (some ⟨w.heap.size + 1, 0, none⟩)]) rfl trivial (enters_of Tryd.func37 (by kernel_rfl) rfl)
    (all_stops _ (by decide) (w.heap.size + 1) w.heap.size m hm hpos _ (by simp) (by simp; omega) hb.1 (hT.below hB0 hpos)) belowK_t (belowK_b (by simp; omega)) (Below.refl _ _) (fun _ => rfl)
    (fun pre W => (pre = upTo pre.length ∧ W.cell? ⟨w.heap.size, 0, none⟩ = some (.int .i64 pre.length) ∧ W.frozen? ⟨w.heap.size, 0, none⟩ = false) ∧ Below w.heap.size w W)
    (fun c pre W => (c = .exit 0 ∧ ∃ (j : Nat) (x : Int), pre = upTo j ++ [x] ∧ x ≠ j ∧ W.cell? ⟨w.heap.size, 0, none⟩ = some (.int .i64 j)) ∧ Below w.heap.size w W)
    (OwnFrom.and (Own.from (fun s A B row hs hg hr => ⟨hs.1, cell_kept hs.2.1 hg hr, (frozen_kept hs.2.1 hg hr).trans hs.2.2⟩) _) (ownFrom_below (Nat.le_refl _) (by simp; omega)))
    (fun c => OwnFrom.and (Own.from (fun s A B row hs hg hr => ⟨hs.1, hs.2.elim fun j hj => hj.elim fun x hx => ⟨j, x, hx.1, hx.2.1, cell_kept hx.2.2 hg hr⟩⟩) _) (ownFrom_below (Nat.le_refl _) (by simp; omega)))
    ⟨⟨rfl, cell_alloc _ hs.1, frozen_alloc _ hs.1 hs.2⟩, hB0⟩
    (fun x => { tmps := #[.int .u64 m, undef, .int .i64 0, .pointer (some ⟨w.heap.size, 0, none⟩), .int .i64 x, .int .u64 m, .func (.func 37) #[] #[.pointer (some ⟨w.heap.size + 1, 0, none⟩)], .int .i64 x, undef, undef, undef, undef, undef, undef], defers := [] }) ?assign ?body ?done ?stop
  case assign =>
    intro l x W K hK
    gi_wp2
    exact hK
  case body =>
    rintro l pre x W ⟨⟨hp, hc, hf⟩, hB⟩ hlt
    have hl2 : pre.length < 64 := by omega
    have HP : Hid _ := hp
    clear hp
    by_cases hx : x = pre.length
    · gi_wp2
      refine ⟨KeepsOthers.setCell _ _ _, (Below.refl w.heap.size W).setCell (p := ⟨w.heap.size, 0, none⟩) (Nat.le_refl _) _, ⟨?_, ?_, by rw [World.frozen?_setCell]; exact hf⟩, hB.setCell (p := ⟨w.heap.size, 0, none⟩) (Nat.le_refl _) _⟩
      · rw [List.length_append, List.length_singleton, upTo_succ, ← HP.out, hx]
      · rw [World.cell?_setCell_same' _ _ _ (by rw [hc]; rfl)]
        simp
    · gi_wp2
      exact ⟨KeepsOthers.refl _, ⟨rfl, pre.length, x, by rw [← HP.out], hx, hc⟩, hB⟩
  case done =>
    rintro D ys W hD rfl ⟨⟨hp, hc, _⟩, hB⟩ hK
    have hr := run_done hm hp
    clear hp
    have HR : Hid _ := hr
    clear hr
    gi_wp2
    refine ⟨by simp, .inl ⟨_, _, rfl, run_takeDeferred hK, ?_⟩⟩
    exact ⟨_, results_tmp rfl _ _ _, by rw [HR.out]; rfl, hB.trans (belowK_b (w := w) (Nat.le_refl _) W D _ _ (by simp at hD; omega) hK rfl rfl)⟩
  case stop =>
    rintro D c pre W hD hpre ⟨⟨rfl, j, x, rfl, hx, hc⟩, hB⟩ hK
    have hr := run_left hm hpre hx
    have HR : Hid _ := hr
    clear hr
    gi_wp2
    refine ⟨by simp, .inl ⟨_, _, rfl, run_takeDeferred hK, ?_⟩⟩
    exact ⟨_, results_tmp rfl _ _ _, by rw [HR.out]; rfl, hB.trans (belowK_b (w := w) (Nat.le_refl _) W D _ _ (by simp at hD; omega) hK rfl rfl)⟩

end Go.Proofs.YtkdjpleedaldcaaDoor
