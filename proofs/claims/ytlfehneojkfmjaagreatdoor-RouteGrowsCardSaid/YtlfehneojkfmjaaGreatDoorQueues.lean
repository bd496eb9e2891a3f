/-
  slices.Compact at texts; the closures of Queues and Who, by their contracts.
-/
import Derived.Test.YtlfehneojkfmjaaGreatDoorFitting
import Derived.Test.YtlfehneojkfmjaaGreatDoorShelfR
import Derived.Test.YtlfehneojkfmjaaGreatDoorFind
import Derived.Lib.RowBridge
import Derived.Deep.RegionHeld3
import Derived.BigQuiet
namespace Go.Proofs.YtlfehneojkfmjaaGreatDoor
open Go.RowKit Go.Sort Go.Shelf

theorem below_setCells {base g : Nat} (hg : base ≤ g) : ∀ (vs : List Value) (o : Nat) (w : World), Below base w (w.setCells g o vs)
  | [], _, w => Below.refl _ w
  | v :: vs, o, w => by
    have h1 : Below base w (w.setCell ⟨g, o, none⟩ v) := ⟨rfl, rfl, rfl, by simp, fun k hk => heap_setCell_other _ _ _ _ (show k ≠ g by omega)⟩
    exact h1.trans (below_setCells hg vs (o + 1) _)

set_option maxRecDepth 20000 in
set_option maxHeartbeats 1000000 in
/-- slices.Compact of names that rise. -/
theorem compact_any (v : Value) (l : List ByteArray) (base : Nat) (w : World) (h : Own1 w base 9 v (scells l)) (hl : l.length ≤ 1000000) (hr : l.Pairwise fun a b => cmpS a b ≤ 0) :
    Calls Tryz.prog 55 #[v] w fun e w' => ∃ v', e = .returned v' ∧ Row w' v' (scells (mkS l)) ∧ Below base w w' := by
  by_cases h0 : l.length = 0
  · have : l = [] := List.eq_nil_of_length_eq_zero h0
    subst this
    have hrow := h.row
    obtain ⟨a, cap, rfl⟩ := hrow.sliceStrs
    refine (Any.slices_Compact_string_empty Tryz.lays194 a cap w).mono ?_
    rintro e w' ⟨rfl, rfl⟩
    exact ⟨_, rfl, hrow, Below.refl _ _⟩
  · rcases h.2 with ⟨rfl, hn⟩ | ⟨g, cap, cur, rfl, hg, hblk, hnc, hcm, _, _⟩
    · rw [scells_length] at hn; exact absurd hn h0
    · rw [scells_length] at hnc
      have hcells : ∀ j, j < l.length → w.cell? ⟨g, 0 + j, none⟩ = some (.string (l.getD j ByteArray.empty)) := fun j hj => by
        rw [Nat.zero_add]
        have := World.ownsRow.cells h (g := g) rfl j (.string (l.getD j ByteArray.empty)) (by simp [scells, List.getD, hj])
        rw [Go.WideShapes.add_plain, Nat.zero_add] at this
        exact this
      have hfz : ∀ j, j < l.length → w.frozen? ⟨g, 0 + j, none⟩ = false := fun j _ => frozen_of_list hblk _
      have hH := Lib.holds_of_strings (w := w) (b := g) (off := 0) (n := l.length) (ss := l) (Nat.le_refl _) hcells hfz
      rw [List.take_length] at hH
      have hC := Any.slices_Compact_string Tryz.lays194 g 0 cap (l.map (·.data.toList)) w hH (by rw [List.length_map]; omega) (by rw [List.length_map]; omega)
      rw [List.length_map, compact_rise hr] at hC
      rw [scells_length]
      refine hC.mono ?_
      rintro e w' ⟨rfl, q, rfl⟩
      have hle := mkS_length l
      rw [Lib.putRow_eq_setCells encStr w g 0 _ _ q hH (by simp; omega)]
      refine ⟨_, rfl, .inr ⟨⟨g, 0, none⟩, cap, by rw [scells_length, List.length_map], by rw [scells_length]; omega, hcm, fun j u hj => ?_⟩, ?_⟩
      · have hj' : j < (mkS l).length := by
          have := (List.getElem?_eq_some_iff.1 hj).1
          rwa [scells_length] at this
        have hin := World.cell?_setCells_in g (((mkS l).map (fun x : ByteArray => x.data.toList) ++ List.replicate (l.length - ((mkS l).map (fun x : ByteArray => x.data.toList)).length) []).map encStr) 0 (w.drewN q) (fun i hi => by
          have hi' : i < l.length := by simp at hi; omega
          rw [World.cell?_drewN, hcells i hi']; rfl) j (by simp; omega)
        rw [Nat.zero_add] at hin
        rw [show (⟨g, 0, none⟩ : Addr).add j = ⟨g, j, none⟩ by rw [Go.WideShapes.add_plain, Nat.zero_add], hin]
        simp only [scells, List.getElem?_map] at hj
        rw [List.getElem?_eq_getElem hj'] at hj
        simp only [Option.map_some, Option.some.injEq] at hj
        rw [← hj]
        rw [List.getElem_map, List.getElem_append_left (by simpa using hj')]
        simp [encStr]
      · exact (show Below base w (w.drewN q) from ⟨rfl, rfl, rfl, Nat.le_refl _, fun _ _ => rfl⟩).trans (below_setCells hg _ 0 (w.drewN q))

set_option maxRecDepth 20000 in
set_option maxHeartbeats 1000000 in
/-- The closure of Who. -/
theorem who1_any (x : Bd) (n : Nat) (s : ByteArray) (W : World) (hn : W.cell? ⟨n, 0, none⟩ = some (.string s)) :
    Calls Tryz.prog 31 (#[bv x] ++ #[.pointer (some ⟨n, 0, none⟩)]) W fun e w' => e = .returned (.tuple #[.string x.ex, .bool (x.que.toList == s.toList)]) ∧ Below W.heap.size W w' := by
  have k3 := fun o => cell_allocK o hn
  go_enter Tryz.func31, Tryz.ntmps31
  go_wp2
  go_region
  all_goals go_wp2
  all_goals go_ret2
  all_goals exact ⟨rfl, ((Below.refl _ _).alloc (Nat.le_refl _) _).drew⟩

set_option maxRecDepth 20000 in
set_option maxHeartbeats 4000000 in
/-- The closure of Queues. -/
theorem queues1_any (x : Bd) (n m : Nat) (e key : ByteArray) (y : Ex) (v : Value) (W : World) (hx : x.Fit) (hk : key.size ≤ maxLen) (hn : W.cell? ⟨n, 0, none⟩ = some (.string e)) (hm : W.cell? ⟨m, 0, none⟩ = some v) (hv : FitV W v y key) :
    Calls Tryz.prog 27 (#[bv x] ++ #[.pointer (some ⟨n, 0, none⟩), .pointer (some ⟨m, 0, none⟩)]) W fun r w' => r = .returned (.tuple #[.string x.que, .bool (qsel y e key x)]) ∧ Below W.heap.size W w' := by
  obtain ⟨X, fold⟩ : ∃ X, W.alloc (.cells #[.string x.ex, .string x.que, .string x.pat] 39) = X := ⟨_, rfl⟩
  have bX : Below W.heap.size W X := by rw [← fold]; exact (Below.refl _ _).alloc (Nat.le_refl _) _
  have a0 : X.cell? ⟨W.heap.size, 0, none⟩ = some (.string x.ex) := by rw [← fold]; exact cell_of_list (C := bcells x) (heap_alloc_new W _) 0
  have a1 : X.cell? ⟨W.heap.size, 1, none⟩ = some (.string x.que) := by rw [← fold]; exact cell_of_list (C := bcells x) (heap_alloc_new W _) 1
  have a2 : X.cell? ⟨W.heap.size, 2, none⟩ = some (.string x.pat) := by rw [← fold]; exact cell_of_list (C := bcells x) (heap_alloc_new W _) 2
  have n0 : X.cell? ⟨n, 0, none⟩ = some (.string e) := by rw [← fold]; exact cell_allocK _ hn
  have m0 : X.cell? ⟨m, 0, none⟩ = some v := by rw [← fold]; exact cell_allocK _ hm
  have hvX := hv.below bX (Nat.le_refl _)
  have hq : qsel y e key x = ((x.ex.toList == e.toList) && fitsX y x.pat key) := by
    unfold qsel
    congr 1
    rw [Bool.eq_iff_iff]
    simp only [decide_eq_true_eq, beq_iff_eq, ByteArray.toList_eq]
    exact ⟨fun h => by rw [h], arr_inj⟩
  rw [hq]
  clear hq hv hn hm
  cases hd : (x.ex.toList == e.toList)
  · rw [Bool.false_and]
    rcases hvX with ⟨rfl, h1⟩ | ⟨b, rfl, h1, h2, h3⟩ | ⟨rfl, h1, h2, h3⟩ | ⟨b, rfl, h1, h2, h2', h3⟩
    all_goals go_enter Tryz.func27, Tryz.ntmps27
    all_goals go_wp2
    all_goals go_quiet (fail)
    all_goals go_wp2
    all_goals go_ret2
    all_goals exact ⟨rfl, bX.trans (by first | exact ((Below.refl _ _).drew).mono bX.size | exact ⟨rfl, rfl, rfl, Nat.le_refl _, fun _ _ => rfl⟩)⟩
  · rw [Bool.true_and]
    have CL : ∃ f caps, v = .func (.func f) #[] caps ∧ (∀ args w, (callFunc f args).run Tryz.prog w = .ok (.enter f args) w) ∧ Calls Tryz.prog f (#[.string x.pat] ++ caps) X.drew fun r w' => r = .returned (.bool (fitsX y x.pat key)) ∧ Below X.heap.size X w' := by
      rcases hvX with ⟨rfl, h1⟩ | ⟨b, rfl, h1, h2, h3⟩ | ⟨rfl, h1, h2, h3⟩ | ⟨b, rfl, h1, h2, h2', h3⟩
      · refine ⟨_, _, rfl, enters_of Tryz.func50 (by kernel_rfl) rfl, (fit1_any x.pat X.drew).mono ?_⟩
        rintro r w' ⟨rfl, b⟩
        exact ⟨retK_bool (by unfold fitsX; rw [h1]; rfl), (show Below X.heap.size X X.drew from (Below.refl _ _).drew).trans b⟩
      · refine ⟨_, _, rfl, enters_of Tryz.func51 (by kernel_rfl) rfl, (fit2_any x.pat key b X.drew h3).mono ?_⟩
        rintro r w' ⟨rfl, b⟩
        exact ⟨retK_bool (by unfold fitsX; rw [h1, if_pos h2]; rfl), (show Below X.heap.size X X.drew from (Below.refl _ _).drew).trans b⟩
      · refine ⟨_, _, rfl, enters_of Tryz.func52 (by kernel_rfl) rfl, (fit3_any x.pat X.drew).mono ?_⟩
        rintro r w' ⟨rfl, b⟩
        exact ⟨retK_bool (by unfold fitsX; rw [h1, if_neg h2, if_pos h3]; rfl), (show Below X.heap.size X X.drew from (Below.refl _ _).drew).trans b⟩
      · refine ⟨_, _, rfl, enters_of Tryz.func53 (by kernel_rfl) rfl, (fit4_any x.pat key b X.drew h3 hx.2.2 hk).mono ?_⟩
        rintro r w' ⟨rfl, b⟩
        exact ⟨retK_bool (by unfold fitsX; rw [h1, if_neg h2, if_neg h2']; rfl), (show Below X.heap.size X X.drew from (Below.refl _ _).drew).trans b⟩
    obtain ⟨f, caps, rfl, ef, hc⟩ := CL
    generalize fitsX y x.pat key = rr at hc ⊢
    clear hvX
    go_enter Tryz.func27, Tryz.ntmps27
    go_wp2
    go_region_held3 (fun w' => w'.cell? ⟨W.heap.size, 0, none⟩ = some (.string x.ex) ∧ w'.cell? ⟨W.heap.size, 1, none⟩ = some (.string x.que) ∧ w'.cell? ⟨W.heap.size, 2, none⟩ = some (.string x.pat) ∧ w'.cell? ⟨n, 0, none⟩ = some (.string e) ∧ w'.cell? ⟨m, 0, none⟩ = some (.func (.func f) #[] caps)) (go_keep) (first
      | (go_at_fn f; refine hc.mono ?_; rintro r w' ⟨rfl, bw⟩; have q0 := (bw.cell (p := ⟨W.heap.size, 0, none⟩) (World.block_lt_of_cell? _ _ a0)).trans a0; have q1 := (bw.cell (p := ⟨W.heap.size, 1, none⟩) (World.block_lt_of_cell? _ _ a1)).trans a1; have q2 := (bw.cell (p := ⟨W.heap.size, 2, none⟩) (World.block_lt_of_cell? _ _ a2)).trans a2; have q3 := (bw.cell (p := ⟨n, 0, none⟩) (World.block_lt_of_cell? _ _ n0)).trans n0; have q4 := (bw.cell (p := ⟨m, 0, none⟩) (World.block_lt_of_cell? _ _ m0)).trans m0))
    all_goals go_wp2
    all_goals go_ret2
    all_goals exact ⟨rfl, bX.trans (bw.mono bX.size)⟩
end Go.Proofs.YtlfehneojkfmjaaGreatDoor
