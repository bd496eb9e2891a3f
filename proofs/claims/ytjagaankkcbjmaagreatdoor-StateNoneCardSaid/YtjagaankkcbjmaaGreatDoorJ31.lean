/-
  admitOwn, by its contract.
-/
import Derived.Test.YtjagaankkcbjmaaGreatDoorJ30
import Derived.Test.YtjagaankkcbjmaaGreatDoorJ23
import Derived.Deep.CutRange
namespace Go.Proofs.YtjagaankkcbjmaaGreatDoor
open Go.RowKit

def AdmPost (w : World) (l : List Int) (er : Int) (e : Ending) (w' : World) : Prop := ∃ v', e = .returned (.tuple #[v', .int .i64 er]) ∧ O.RowI w' w.heap.size v' l ∧ Below w.heap.size w w'
theorem adm_none {w w' : World} (b : Below w.heap.size w w') (er : Int) : AdmPost w [] er (.returned (.tuple #[.slice none 0 0, .int .i64 er])) w' := ⟨_, rfl, .inl ⟨rfl, rfl⟩, b⟩
/-- A message that is published here: where it goes on, or why it may not come in. -/
def ownM (s : Sm) (m : Ms) : List Int × Int :=
  if s.seq = 18446744073709551615 then ([], 11) else if m.seq ≠ (s.seq : Int) + 1 then ([], 10) else if m.hop ≠ 0 then ([], 2) else match B.findX s.tb.xs m.ex with
    | none => ([], 3)
    | some x => if x.fed then (O.onwardT s.S s.E s.H m.origin s.site, 0) else ([], 0)
set_option maxRecDepth 20000 in
set_option maxHeartbeats 2000000 in
theorem admitOwn_any (p : Nat) (G : Nat → Prop) (s : Sm) (m : Ms) (w : World) (h : SS w p G s) (ok : s.tb.Ok) (hsq : s.seq < 18446744073709551616) (hx : m.ex.size ≤ maxLen) :
    Calls Tryz.prog 245 #[.pointer (some ⟨p, 0, none⟩), mv m] w (AdmPost w (ownM s m).1 (ownM s m).2) := by
  obtain ⟨W, fold⟩ : ∃ W, w.alloc (.cells #[.int .i64 m.origin, .int .u64 m.seq, .int .i64 m.hop, .string m.ex, .string m.key, .string m.body] 40) = W := ⟨_, rfl⟩
  have hB : BoxM w W m := by rw [← fold]; exact boxM_new w m
  have HB : Hid (SS W p G s ∧ BoxM w W m) := ⟨h.kept hB.bel, hB⟩
  obtain ⟨ft, d, hs', hF⟩ := HB.out.1
  have hFd : Hid (∀ V, Below W.heap.size W V → Calls Tryz.prog 192 #[.pointer (some ⟨d.tp, 0, none⟩), .string m.ex] V fun e w' => e = .returned (.tuple #[B.xv ((B.findX s.tb.xs m.ex).getD B.zeroEx), .bool (B.findX s.tb.xs m.ex).isSome]) ∧ Below V.heap.size V w') := fun V b => B.find_any d.tp (ft .table) s.tb m.ex V (hs'.table.kept b) ok hx
  have HK : Hid (∀ V, Below W.heap.size W V → V.cell? ⟨p, 6, none⟩ = some (.pointer (some ⟨d.tp, 0, none⟩)) ∧ V.cell? ⟨w.heap.size, 3, none⟩ = some (.string m.ex)) := fun V b => ⟨cell_on b (cells10 hs'.blk).2.2.2.2.2.2.1, cell_on b (cellsM hB.box).2.2.2.1⟩
  obtain ⟨z0, z1⟩ := HK.out W (Below.refl _ _)
  obtain ⟨xx, hxx⟩ : ∃ z, (B.findX s.tb.xs m.ex).getD B.zeroEx = z := ⟨_, rfl⟩
  obtain ⟨is, his⟩ : ∃ z, (B.findX s.tb.xs m.ex).isSome = z := ⟨_, rfl⟩
  rw [hxx, his] at hFd
  have HX : Hid ((B.findX s.tb.xs m.ex).getD B.zeroEx = xx ∧ (B.findX s.tb.xs m.ex).isSome = is ∧ s.seq < 18446744073709551616) := ⟨hxx, his, hsq⟩
  clear hB hs' hF h hxx his ok
  have bD : Hid (Below W.heap.size W W.drew) := drew_below W
  have a0 := fun o => cell_allocN o (show W.drew.cell? ⟨p, 6, none⟩ = _ from z0)
  have a1 := fun o => cell_allocN o (show W.drew.cell? ⟨w.heap.size, 3, none⟩ = _ from z1)
  obtain ⟨⟨l, er⟩, hr⟩ : ∃ r, ownM s m = r := ⟨_, rfl⟩
  rw [hr]
  have HR : Hid (ownM s m = (l, er)) := hr
  clear hr
  show Calls _ _ _ _ (AdmPost w l er)
  go_enter Tryz.func245, Tryz.ntmps245
  go_wp2
  try rw [fold]
  go_cut [6, 7] from 8 to 47 (fun s6 s7 wx => ∃ g : Nat, s6 = .pointer (some ⟨g, 0, none⟩) ∧ s7 = .bool is ∧ Hid (Below W.heap.size W wx ∧ wx.cell? ⟨g, 2, none⟩ = some (.bool xx.fed)))
  case first =>
    refine wp_region_noPanic ?_
    refine wp_region_held_drew (S := fun w' => w'.cell? ⟨p, 6, none⟩ = some (.pointer (some ⟨d.tp, 0, none⟩)) ∧ w'.cell? ⟨w.heap.size, 3, none⟩ = some (.string m.ex)) (by kernel_rfl) ⟨z0, z1⟩ (fun hHeld => ?_)
    refine wpAnyH_take (i := 0) (v := .pointer (some ⟨p, 0, none⟩)) (by simp only [List.getElem?_toArray, List.getElem?_cons_zero]; rfl) (by kernel_rfl) (by kernel_rfl) (by kernel_rfl) (fun _ _ _ h => h) (Or.inl ⟨by rfl, ?_⟩) (by assumption) ?_
    · (intro wq hSq; clear hSq; go_simp; try with_reducible rfl)
    try simp only [Act.put, List.setIfInBounds_toArray, List.set_cons_zero, List.set_cons_succ]
    refine wpAnyH_take (i := 1) (v := .pointer (some ⟨p, 0, none⟩)) (by simp only [List.getElem?_toArray, List.getElem?_cons_succ, List.getElem?_cons_zero]; rfl) (by kernel_rfl) (by kernel_rfl) (by kernel_rfl) (fun _ _ _ h => h) (Or.inl ⟨by rfl, ?_⟩) (by assumption) ?_
    · (intro wq hSq; clear hSq; go_simp; try with_reducible rfl)
    try simp only [Act.put, List.setIfInBounds_toArray, List.set_cons_zero, List.set_cons_succ]
    refine wpAnyH_take (i := 2) (v := .pointer (some ⟨p, 6, none⟩)) (by simp only [List.getElem?_toArray, List.getElem?_cons_succ, List.getElem?_cons_zero]; rfl) (by kernel_rfl) (by kernel_rfl) (by kernel_rfl) (fun _ _ _ h => h) (Or.inl ⟨by rfl, ?_⟩) (by assumption) ?_
    · (intro wq hSq; clear hSq; go_simp; try with_reducible rfl)
    try simp only [Act.put, List.setIfInBounds_toArray, List.set_cons_zero, List.set_cons_succ]
    refine wpAnyH_take (i := 3) (v := .pointer (some ⟨d.tp, 0, none⟩)) (by simp only [List.getElem?_toArray, List.getElem?_cons_succ, List.getElem?_cons_zero]; rfl) (by kernel_rfl) (by kernel_rfl) (by kernel_rfl) (fun _ _ _ h => h) (Or.inl ⟨by rfl, ?_⟩) (by assumption) ?_
    · (intro wq hSq; obtain ⟨q0, q1⟩ := hSq; go_simp; try with_reducible rfl)
    try simp only [Act.put, List.setIfInBounds_toArray, List.set_cons_zero, List.set_cons_succ]
    refine wpAnyH_take (i := 4) (v := .pointer (some ⟨w.heap.size, 3, none⟩)) (by simp only [List.getElem?_toArray, List.getElem?_cons_succ, List.getElem?_cons_zero]; rfl) (by kernel_rfl) (by kernel_rfl) (by kernel_rfl) (fun _ _ _ h => h) (Or.inl ⟨by rfl, ?_⟩) (by assumption) ?_
    · (intro wq hSq; clear hSq; go_simp; try with_reducible rfl)
    try simp only [Act.put, List.setIfInBounds_toArray, List.set_cons_zero, List.set_cons_succ]
    refine wpAnyH_take (i := 5) (v := .string m.ex) (by simp only [List.getElem?_toArray, List.getElem?_cons_succ, List.getElem?_cons_zero]; rfl) (by kernel_rfl) (by kernel_rfl) (by kernel_rfl) (fun _ _ _ h => h) (Or.inl ⟨by rfl, ?_⟩) (by assumption) ?_
    · (intro wq hSq; obtain ⟨q0, q1⟩ := hSq; go_simp; try with_reducible rfl)
    try simp only [Act.put, List.setIfInBounds_toArray, List.set_cons_zero, List.set_cons_succ]
    obtain ⟨V0, fV0⟩ : ∃ X, W.drew = X := ⟨_, rfl⟩
    have B0 : Below W.heap.size W V0 := by rw [← fV0]; exact drew_below W
    rw [fV0] at hHeld ⊢
    clear fV0
    refine wpAnyH_ready (rs := [6, 10]) (by kernel_rfl) (by simp) ?_
    refine AllReadyH.cons rfl (fun K hK => ?_) ?_
    · skip
      go_simp
      go_at_call 192
      refine (hFd.out V0 B0).mono ?_
      rintro e V1 ⟨rfl, b_V1⟩
      dsimp only
      refine hK.out _ _ (HK.out V1 (keptW B0 b_V1)) (fun hHeld => ?_)
      clear hK K
      try simp only [Act.put, List.setIfInBounds_toArray, List.set_cons_zero, List.set_cons_succ]
      refine wpAnyH_take (i := 7) (v := .tuple #[B.xv xx, .bool is]) (by simp only [List.getElem?_toArray, List.getElem?_cons_succ, List.getElem?_cons_zero]; rfl) (by kernel_rfl) (by kernel_rfl) (by kernel_rfl) (fun _ _ _ h => h) (Or.inl ⟨by rfl, ?_⟩) (by assumption) ?_
      · (intro wq hSq; clear hSq; go_simp; try with_reducible rfl)
      try simp only [Act.put, List.setIfInBounds_toArray, List.set_cons_zero, List.set_cons_succ]
      refine wpAnyH_take (i := 8) (v := B.xv xx) (by simp only [List.getElem?_toArray, List.getElem?_cons_succ, List.getElem?_cons_zero]; rfl) (by kernel_rfl) (by kernel_rfl) (by kernel_rfl) (fun _ _ _ h => h) (Or.inl ⟨by rfl, ?_⟩) (by assumption) ?_
      · (intro wq hSq; clear hSq; go_simp; try with_reducible rfl)
      try simp only [Act.put, List.setIfInBounds_toArray, List.set_cons_zero, List.set_cons_succ]
      refine wpAnyH_take (i := 9) (v := .bool is) (by simp only [List.getElem?_toArray, List.getElem?_cons_succ, List.getElem?_cons_zero]; rfl) (by kernel_rfl) (by kernel_rfl) (by kernel_rfl) (fun _ _ _ h => h) (Or.inl ⟨by rfl, ?_⟩) (by assumption) ?_
      · (intro wq hSq; clear hSq; go_simp; try with_reducible rfl)
      try simp only [Act.put, List.setIfInBounds_toArray, List.set_cons_zero, List.set_cons_succ]
      refine wpAnyH_ready (rs := [10]) (by kernel_rfl) (by simp) ?_
      refine AllReadyH.cons rfl (fun K hK => ?_) AllReadyH.nil
      go_simp
      obtain ⟨V2, f_V2⟩ : ∃ X, V1.alloc (.cells #[.string ⟨#[]⟩, .int .i64 0, .bool false] 34) = X := ⟨_, rfl⟩
      have b_V2 : Below V1.heap.size V1 V2 := by rw [← f_V2]; exact box_below V1 _
      have k_V2 : V2.heap[V1.heap.size]? = some (.cells #[.string ⟨#[]⟩, .int .i64 0, .bool false] 34 (0, 0)) := by rw [← f_V2]; exact heap_alloc_new V1 _
      try rw [f_V2]
      refine hK.out _ _ (HK.out V2 (keptW (keptW B0 b_V1) b_V2)) (fun hHeld => ?_)
      clear hK K
      try simp only [Act.put, List.setIfInBounds_toArray, List.set_cons_zero, List.set_cons_succ]
      have hgw : W.heap.size ≤ V1.heap.size := (keptW B0 b_V1).size
      have kk : V2.heap[V1.heap.size]? = some (.cells #[.string ⟨#[]⟩, .int .i64 0, .bool false] 34 (0, 0)) := k_V2
      obtain ⟨y0, y1, y2⟩ := cells3 kk
      have fr := fun j => frozen_of_row V2 V1.heap.size j _ _ kk
      obtain ⟨Y, hY⟩ : ∃ Y, ((V2.setCell ⟨V1.heap.size, 0, none⟩ (.string xx.name)).setCell ⟨V1.heap.size, 1, none⟩ (.int .i64 xx.kind)).setCell ⟨V1.heap.size, 2, none⟩ (.bool xx.fed) = Y := ⟨_, rfl⟩
      have eY : Y.heap[V1.heap.size]? = some (.cells (B.xcells xx).toArray 34 (0, 0)) := by rw [← hY]; exact set_list (set_list (set_list (C := [.string ⟨#[]⟩, .int .i64 0, .bool false]) kk _) _) _
      have bXw : Below W.heap.size W V2 := (keptW (keptW B0 b_V1) b_V2)
      have bY : Below W.heap.size W Y := by rw [← hY]; exact ((bXw.setCell (p := ⟨V1.heap.size, 0, none⟩) hgw _).setCell (p := ⟨V1.heap.size, 1, none⟩) hgw _).setCell (p := ⟨V1.heap.size, 2, none⟩) hgw _
      refine wpAnyH_ready (rs := [11]) (by kernel_rfl) (by simp) ?_
      refine AllReadyH.cons rfl (fun K hK => ?_) AllReadyH.nil
      go_simp
      try rw [hY]
      refine hK.out _ _ (HK.out Y bY) (fun hHeld => ?_)
      clear hK K
      try simp only [Act.put, List.setIfInBounds_toArray, List.set_cons_zero, List.set_cons_succ]
      refine wpAnyH_take (i := 12) (v := .bool is) (by simp only [List.getElem?_toArray, List.getElem?_cons_succ, List.getElem?_cons_zero]; rfl) (by kernel_rfl) (by kernel_rfl) (by kernel_rfl) (fun _ _ _ h => h) (Or.inl ⟨by rfl, ?_⟩) (by assumption) ?_
      · (intro wq hSq; clear hSq; go_simp; try with_reducible rfl)
      try simp only [Act.put, List.setIfInBounds_toArray, List.set_cons_zero, List.set_cons_succ]
      refine wpAnyH_done (by kernel_rfl) ?_ _
      refine NoPanic.normal ?_
      clear hHeld
      have HE : Hid (Below W.heap.size W Y ∧ Y.cell? ⟨V1.heap.size, 2, none⟩ = some (.bool xx.fed)) := ⟨bY, box_at eY rfl⟩
      clear kk y0 y1 y2 fr hY eY bXw bY
      go_wp2
      go_meet
      exact ⟨_, rfl, rfl, HE.out⟩
    refine AllReadyH.cons rfl (fun K hK => ?_) AllReadyH.nil
    go_simp
    obtain ⟨V1, f_V1⟩ : ∃ X, V0.alloc (.cells #[.string ⟨#[]⟩, .int .i64 0, .bool false] 34) = X := ⟨_, rfl⟩
    have b_V1 : Below V0.heap.size V0 V1 := by rw [← f_V1]; exact box_below V0 _
    have k_V1 : V1.heap[V0.heap.size]? = some (.cells #[.string ⟨#[]⟩, .int .i64 0, .bool false] 34 (0, 0)) := by rw [← f_V1]; exact heap_alloc_new V0 _
    try rw [f_V1]
    refine hK.out _ _ (HK.out V1 (keptW B0 b_V1)) (fun hHeld => ?_)
    clear hK K
    try simp only [Act.put, List.setIfInBounds_toArray, List.set_cons_zero, List.set_cons_succ]
    refine wpAnyH_ready (rs := [6]) (by kernel_rfl) (by simp) ?_
    refine AllReadyH.cons rfl (fun K hK => ?_) AllReadyH.nil
    go_simp
    go_at_call 192
    refine (hFd.out V1 (keptW B0 b_V1)).mono ?_
    rintro e V2 ⟨rfl, b_V2⟩
    dsimp only
    refine hK.out _ _ (HK.out V2 (keptW (keptW B0 b_V1) b_V2)) (fun hHeld => ?_)
    clear hK K
    try simp only [Act.put, List.setIfInBounds_toArray, List.set_cons_zero, List.set_cons_succ]
    refine wpAnyH_take (i := 7) (v := .tuple #[B.xv xx, .bool is]) (by simp only [List.getElem?_toArray, List.getElem?_cons_succ, List.getElem?_cons_zero]; rfl) (by kernel_rfl) (by kernel_rfl) (by kernel_rfl) (fun _ _ _ h => h) (Or.inl ⟨by rfl, ?_⟩) (by assumption) ?_
    · (intro wq hSq; clear hSq; go_simp; try with_reducible rfl)
    try simp only [Act.put, List.setIfInBounds_toArray, List.set_cons_zero, List.set_cons_succ]
    refine wpAnyH_take (i := 8) (v := B.xv xx) (by simp only [List.getElem?_toArray, List.getElem?_cons_succ, List.getElem?_cons_zero]; rfl) (by kernel_rfl) (by kernel_rfl) (by kernel_rfl) (fun _ _ _ h => h) (Or.inl ⟨by rfl, ?_⟩) (by assumption) ?_
    · (intro wq hSq; clear hSq; go_simp; try with_reducible rfl)
    try simp only [Act.put, List.setIfInBounds_toArray, List.set_cons_zero, List.set_cons_succ]
    refine wpAnyH_take (i := 9) (v := .bool is) (by simp only [List.getElem?_toArray, List.getElem?_cons_succ, List.getElem?_cons_zero]; rfl) (by kernel_rfl) (by kernel_rfl) (by kernel_rfl) (fun _ _ _ h => h) (Or.inl ⟨by rfl, ?_⟩) (by assumption) ?_
    · (intro wq hSq; clear hSq; go_simp; try with_reducible rfl)
    try simp only [Act.put, List.setIfInBounds_toArray, List.set_cons_zero, List.set_cons_succ]
    have hgw : W.heap.size ≤ V0.heap.size := B0.size
    have kk : V2.heap[V0.heap.size]? = some (.cells #[.string ⟨#[]⟩, .int .i64 0, .bool false] 34 (0, 0)) := (b_V2.block _ (Array.getElem?_eq_some_iff.1 k_V1).1).trans k_V1
    obtain ⟨y0, y1, y2⟩ := cells3 kk
    have fr := fun j => frozen_of_row V2 V0.heap.size j _ _ kk
    obtain ⟨Y, hY⟩ : ∃ Y, ((V2.setCell ⟨V0.heap.size, 0, none⟩ (.string xx.name)).setCell ⟨V0.heap.size, 1, none⟩ (.int .i64 xx.kind)).setCell ⟨V0.heap.size, 2, none⟩ (.bool xx.fed) = Y := ⟨_, rfl⟩
    have eY : Y.heap[V0.heap.size]? = some (.cells (B.xcells xx).toArray 34 (0, 0)) := by rw [← hY]; exact set_list (set_list (set_list (C := [.string ⟨#[]⟩, .int .i64 0, .bool false]) kk _) _) _
    have bXw : Below W.heap.size W V2 := (keptW (keptW B0 b_V1) b_V2)
    have bY : Below W.heap.size W Y := by rw [← hY]; exact ((bXw.setCell (p := ⟨V0.heap.size, 0, none⟩) hgw _).setCell (p := ⟨V0.heap.size, 1, none⟩) hgw _).setCell (p := ⟨V0.heap.size, 2, none⟩) hgw _
    refine wpAnyH_ready (rs := [11]) (by kernel_rfl) (by simp) ?_
    refine AllReadyH.cons rfl (fun K hK => ?_) AllReadyH.nil
    go_simp
    try rw [hY]
    refine hK.out _ _ (HK.out Y bY) (fun hHeld => ?_)
    clear hK K
    try simp only [Act.put, List.setIfInBounds_toArray, List.set_cons_zero, List.set_cons_succ]
    refine wpAnyH_take (i := 12) (v := .bool is) (by simp only [List.getElem?_toArray, List.getElem?_cons_succ, List.getElem?_cons_zero]; rfl) (by kernel_rfl) (by kernel_rfl) (by kernel_rfl) (fun _ _ _ h => h) (Or.inl ⟨by rfl, ?_⟩) (by assumption) ?_
    · (intro wq hSq; clear hSq; go_simp; try with_reducible rfl)
    try simp only [Act.put, List.setIfInBounds_toArray, List.set_cons_zero, List.set_cons_succ]
    refine wpAnyH_done (by kernel_rfl) ?_ _
    refine NoPanic.normal ?_
    clear hHeld
    have HE : Hid (Below W.heap.size W Y ∧ Y.cell? ⟨V0.heap.size, 2, none⟩ = some (.bool xx.fed)) := ⟨bY, box_at eY rfl⟩
    clear kk y0 y1 y2 fr hY eY bXw bY
    go_wp2
    go_meet
    exact ⟨_, rfl, rfl, HE.out⟩
  case rest =>
    obtain ⟨g, rfl, rfl, HC⟩ := hcut
    have hS2 := HB.out.1.kept HC.out.1
    have bw := keptW HB.out.2.bel HC.out.1
    have hO : Hid (∀ k, Calls Tryz.prog 246 #[.pointer (some ⟨p, 0, none⟩), mv m] (wc.drewN k) fun e w' => ∃ v', e = .returned v' ∧ O.RowI w' wc.heap.size v' (O.onwardT s.S s.E s.H m.origin s.site) ∧ Below wc.heap.size wc w') := fun k => (onward14_any p G s m (wc.drewN k) (hS2.kept (drewN_below wc k))).mono fun e w' h => by
      obtain ⟨v', h1, h2, h3⟩ := h
      exact ⟨v', h1, h2, keptW (drewN_below wc k) h3⟩
    obtain ⟨ft2, d2, hs2, _⟩ := hS2
    obtain ⟨c0, c1, c2, c3, c4, c5, c6, c7, c8, c9⟩ := cells10 hs2.blk
    obtain ⟨x0, x1, x2, x3, x4, x5⟩ := cellsM ((HC.out.1.block _ (Array.getElem?_eq_some_iff.1 HB.out.2.box).1).trans HB.out.2.box)
    have xf := HC.out.2
    have HW : Hid (Below w.heap.size w wc) := bw
    clear hs2 bw c0 c1 c2 c3 c5 c6 c7 c8 c9 z0 z1 a0 a1 hFd HK bD HC HB
    by_cases hmax : s.seq = 18446744073709551615
    · obtain ⟨rfl, rfl⟩ : [] = l ∧ 11 = er := by have := HR.out; unfold ownM at this; rw [if_pos hmax] at this; exact Prod.mk.inj this
      rw [hmax] at c4
      replace c4 : wc.cell? ⟨p, 4, none⟩ = some (.int .u64 18446744073709551615) := c4
      go_wp2
      go_ret2
      exact adm_none HW.out 11
    have H1 : Hid ((if m.seq ≠ (s.seq : Int) + 1 then (([] : List Int), (10 : Int)) else if m.hop ≠ 0 then ([], 2) else match B.findX s.tb.xs m.ex with
      | none => ([], 3)
      | some x => if x.fed then (O.onwardT s.S s.E s.H m.origin s.site, 0) else ([], 0)) = (l, er)) := by have := HR.out; unfold ownM at this; rw [if_neg hmax] at this; exact this
    clear HR
    have hmax' : ¬ (s.seq : Int) = 18446744073709551615 := by omega
    have hw : IntKind.u64.wrap ((s.seq : Int) + 1) = (s.seq : Int) + 1 := by have := HX.out.2.2; rw [IntKind.wrap_u64]; omega
    obtain ⟨sq, hq⟩ : ∃ z : Int, (s.seq : Int) = z := ⟨_, rfl⟩
    rw [hq] at c4 hmax' hw H1
    clear hq hmax
    by_cases hseq : m.seq = sq + 1
    · have H2 : Hid ((if m.hop ≠ 0 then (([] : List Int), (2 : Int)) else match B.findX s.tb.xs m.ex with
        | none => ([], 3)
        | some x => if x.fed then (O.onwardT s.S s.E s.H m.origin s.site, 0) else ([], 0)) = (l, er)) := by have := H1.out; rw [if_neg (by simpa using hseq)] at this; exact this
      clear H1
      rw [hseq] at x1
      have HQ : Hid (m.seq = sq + 1) := hseq
      clear hseq
      by_cases hhop : m.hop = 0
      · have H3 : Hid ((match B.findX s.tb.xs m.ex with
          | none => (([] : List Int), (3 : Int))
          | some x => if x.fed then (O.onwardT s.S s.E s.H m.origin s.site, 0) else ([], 0)) = (l, er)) := by have := H2.out; rw [if_neg (by simpa using hhop)] at this; exact this
        clear H2
        have HM : Hid (m.hop = 0) := hhop
        rw [hhop] at x2
        clear hhop
        cases his : is with
        | false =>
          obtain ⟨rfl, rfl⟩ : [] = l ∧ 3 = er := by
            have h1 := HX.out.2.1
            have h3 := H3.out
            rw [his] at h1
            cases hf : B.findX s.tb.xs m.ex with
            | none => rw [hf] at h3; exact Prod.mk.inj h3
            | some x => rw [hf] at h1; cases h1
          subst his
          clear hO H3
          go_wp2
          go_quiet (fail)
          go_wp2
          go_ret2
          exact adm_none (keptW HW.out (drewN_below wc _)) 3
        | true =>
          have H4 : Hid ((if xx.fed then (O.onwardT s.S s.E s.H m.origin s.site, 0) else ([], 0)) = (l, er)) := by
            have h1 := HX.out.2.1
            have h2 := HX.out.1
            have h3 := H3.out
            rw [his] at h1
            cases hf : B.findX s.tb.xs m.ex with
            | none => rw [hf] at h1; cases h1
            | some x => rw [hf] at h2 h3; rw [← h2]; exact h3
          subst his
          clear H3
          obtain ⟨fd, hfd⟩ : ∃ z, xx.fed = z := ⟨_, rfl⟩
          rw [hfd] at xf H4
          clear hfd
          cases fd
          · obtain ⟨rfl, rfl⟩ : [] = l ∧ 0 = er := Prod.mk.inj H4.out
            clear hO H4
            go_wp2
            go_quiet (fail)
            go_wp2
            go_ret2
            exact adm_none (keptW HW.out (drewN_below wc _)) 0
          · obtain ⟨hl, rfl⟩ : O.onwardT s.S s.E s.H m.origin s.site = l ∧ 0 = er := Prod.mk.inj H4.out
            rw [hl] at hO
            clear H4 hl
            have hO2 : Hid (∀ k, Calls Tryz.prog 246 #[.pointer (some ⟨p, 0, none⟩), .agg #[.int .i64 m.origin, .int .u64 (sq + 1), .int .i64 0, .string m.ex, .string m.key, .string m.body]] (wc.drewN k) fun e w' => ∃ v', e = .returned v' ∧ O.RowI w' wc.heap.size v' l ∧ Below wc.heap.size wc w') := fun k => by
              have h := hO.out k
              have e : mv m = .agg #[.int .i64 m.origin, .int .u64 (sq + 1), .int .i64 0, .string m.ex, .string m.key, .string m.body] := by show Value.agg #[.int .i64 m.origin, .int .u64 m.seq, .int .i64 m.hop, .string m.ex, .string m.key, .string m.body] = _; rw [HQ.out, HM.out]
              rw [e] at h
              exact h
            clear hO HQ HM
            go_wp2
            go_quiet (fail)
            go_wp2_with fail
            refine (hO2.out _).mono ?_
            rintro e w3 ⟨v3, rfl, r3, b3⟩
            obtain ⟨va, vc, rfl⟩ := r3.slice
            have HE : Hid (O.RowI w3 w.heap.size (.slice va l.length vc) l ∧ Below w.heap.size w w3) := ⟨r3.mono HW.out.size, keptW HW.out b3⟩
            clear r3 b3 hO2
            go_wp2
            go_ret2
            exact ⟨_, rfl, HE.out⟩
      · obtain ⟨rfl, rfl⟩ : [] = l ∧ 2 = er := by have := H2.out; rw [if_pos (by simpa using hhop)] at this; exact Prod.mk.inj this
        clear hO H2
        go_wp2
        go_quiet (fail)
        go_wp2
        go_ret2
        exact adm_none (keptW HW.out (drewN_below wc _)) 2
    · obtain ⟨rfl, rfl⟩ : [] = l ∧ 10 = er := by have := H1.out; rw [if_pos (by simpa using hseq)] at this; exact Prod.mk.inj this
      have hd : decide (m.seq = sq + 1) = false := decide_eq_false hseq
      have hb : (m.seq == sq + 1) = false := by simpa using hseq
      clear hO H1
      go_wp2
      go_quiet (fail)
      go_wp2
      go_ret2
      exact adm_none (keptW HW.out (drewN_below wc _)) 10
end Go.Proofs.YtjagaankkcbjmaaGreatDoor

/-
  admit, by its contract.
-/
namespace Go.Proofs.YtjagaankkcbjmaaGreatDoor
open Go.RowKit

/-- Was an id seen? -/
def hasM (s : Sm) (o n : Int) : Bool := S.memB (S.ofF s.bk o) n.toNat
/-- Where a message goes on, or why it may not come in. -/
def admitM (s : Sm) (m : Ms) : List Int × Int :=
  if m.origin = s.site then ownM s m else if hasM s m.origin m.seq then ([], 4) else if m.hop ≠ O.farT s.S s.E s.H m.origin s.site then ([], 2) else if s.H < O.farT s.S s.E s.H m.origin s.site then ([], 2) else (O.onwardT s.S s.E s.H m.origin s.site, 0)
structure Sm.Bk (s : Sm) : Prop where
  fine : S.FineF s.bk
  len : S.LenF 100000 s.bk
theorem Sm.Bk.at {s : Sm} (h : s.Bk) (o : Int) : S.Apart 1 (S.ofF s.bk o) ∧ (S.ofF s.bk o).length ≤ 1000000 := by
  unfold S.ofF
  split
  · rename_i ho
    have hi : (o - 1).toNat < 8 := by omega
    exact ⟨(h.fine _ hi).1, Nat.le_trans (h.len _ hi) (by decide)⟩
  · exact ⟨trivial, Nat.zero_le _⟩
set_option maxRecDepth 20000 in
set_option maxHeartbeats 2000000 in
theorem admit_any (p : Nat) (G : Nat → Prop) (s : Sm) (m : Ms) (w : World) (h : SS w p G s) (ok : s.tb.Ok) (bk : s.Bk) (hsq : s.seq < 18446744073709551616) (hx : m.ex.size ≤ maxLen) (hm : 0 ≤ m.seq ∧ m.seq < 18446744073709551616) :
    Calls Tryz.prog 179 #[.pointer (some ⟨p, 0, none⟩), mv m] w (AdmPost w (admitM s m).1 (admitM s m).2) := by
  obtain ⟨W, fold⟩ : ∃ W, w.alloc (.cells #[.int .i64 m.origin, .int .u64 m.seq, .int .i64 m.hop, .string m.ex, .string m.key, .string m.body] 40) = W := ⟨_, rfl⟩
  have hB : BoxM w W m := by rw [← fold]; exact boxM_new w m
  have hW := h.kept hB.bel
  have HS : Hid (SS W p G s ∧ BoxM w W m) := ⟨hW, hB⟩
  obtain ⟨ft, d, hs', hF⟩ := hW
  obtain ⟨c0, c1, c2, c3, c4, c5, c6, c7, c8, c9⟩ := cells10 hs'.blk
  obtain ⟨x0, x1, x2, x3, x4, x5⟩ := cellsM hB.box
  obtain ⟨ea, ec, hev⟩ := hs'.edges.rng.slice
  obtain ⟨n, hn⟩ : ∃ z, s.E.length = z := ⟨_, rfl⟩
  rw [hn] at hev
  rw [hev] at c2
  obtain ⟨⟨l, er⟩, hr⟩ : ∃ r, admitM s m = r := ⟨_, rfl⟩
  rw [hr]
  have HR : Hid (admitM s m = (l, er)) := hr
  show Calls _ _ _ _ (AdmPost w l er)
  by_cases ho : m.origin = s.site
  · have hO : Hid (∀ k, Calls Tryz.prog 245 #[.pointer (some ⟨p, 0, none⟩), mv m] (W.drewN k) (AdmPost (W.drewN k) l er)) := fun k => by
      have e : ownM s m = (l, er) := by rw [← hr]; unfold admitM; rw [if_pos ho]
      have := admitOwn_any p G s m (W.drewN k) (HS.out.1.kept (drewN_below W k)) ok hsq hx
      rw [e] at this
      exact this
    have hob : (m.origin == s.site) = true := by simpa using ho
    have hod : decide (m.origin = s.site) = true := decide_eq_true ho
    clear ho hs' hF hB h hr hn hev HR c1 c2 c3 c4 c5 c6 c7 c8 c9
    go_enter Tryz.func179, Tryz.ntmps179
    go_wp2
    try rw [fold]
    go_quiet (fail)
    go_wp2_with fail
    refine (hO.out _).mono ?_
    rintro e w2 ⟨v2, rfl, r2, b2⟩
    obtain ⟨va, vc, rfl⟩ := r2.slice
    have HE : Hid (O.RowI w2 w.heap.size (.slice va l.length vc) l ∧ Below w.heap.size w w2) := ⟨r2.mono HS.out.2.bel.size, keptW (keptW HS.out.2.bel (drewN_below W _)) b2⟩
    clear r2 b2 hO
    go_wp2
    go_ret2
    exact ⟨_, rfl, HE.out⟩
  · have hob : (m.origin == s.site) = false := by simpa using ho
    have hod : decide (m.origin = s.site) = false := decide_eq_false ho
    obtain ⟨far, hfar⟩ : ∃ z, O.farT s.S s.E s.H m.origin s.site = z := ⟨_, rfl⟩
    obtain ⟨has, hhas⟩ : ∃ z, hasM s m.origin m.seq = z := ⟨_, rfl⟩
    have HM : Hid ((if has then (([] : List Int), (4 : Int)) else if m.hop ≠ far then ([], 2) else if s.H < far then ([], 2) else (O.onwardT s.S s.E s.H m.origin s.site, 0)) = (l, er)) := by
      have := HR.out
      unfold admitM at this
      rw [if_neg ho, hfar, hhas] at this
      exact this
    have HF : Hid (∀ V, Below W.heap.size W V → Calls Tryz.prog 76 #[O.tv s.S (.slice ea n ec) s.H, .int .i64 m.origin, .int .i64 s.site] V fun e w' => e = .returned (.int .i64 far) ∧ Below V.heap.size V w') := fun V b => by
      have := O.far_any s.S s.H m.origin s.site (.slice ea n ec) s.E V (by rw [← hev]; exact hs'.edges.rng.below b (Nat.le_refl _))
      rw [hfar] at this
      exact this
    have HH : Hid (∀ V, Below W.heap.size W V → Calls Tryz.prog 63 #[.pointer (some ⟨d.bp, 0, none⟩), .agg #[.int .i64 m.origin, .int .u64 m.seq]] V fun e w' => e = .returned (.bool has) ∧ Below V.heap.size V w') := fun V b => by
      have := S.bhas_any (S.ptrS d.bp) s.bk m.origin m.seq.toNat V (hs'.book.kept b).told (bk.at m.origin).1 (bk.at m.origin).2
      rw [show ((m.seq.toNat : Nat) : Int) = m.seq by omega] at this
      unfold hasM at hhas
      rw [hhas] at this
      exact this
    have HO : Hid (∀ V, Below W.heap.size W V → Calls Tryz.prog 246 #[.pointer (some ⟨p, 0, none⟩), mv m] V fun e w' => ∃ v', e = .returned v' ∧ O.RowI w' V.heap.size v' (O.onwardT s.S s.E s.H m.origin s.site) ∧ Below V.heap.size V w') := fun V b => onward14_any p G s m V (HS.out.1.kept b)
    have HK : Hid (∀ V, Below W.heap.size W V → (V.cell? ⟨p, 0, none⟩ = some (.int .i64 s.site) ∧ V.cell? ⟨p, 1, none⟩ = some (.int .i64 s.S) ∧ V.cell? ⟨p, 2, none⟩ = some (.slice ea n ec) ∧ V.cell? ⟨p, 3, none⟩ = some (.int .i64 s.H) ∧ V.cell? ⟨p, 8, none⟩ = some (.pointer (some ⟨d.bp, 0, none⟩))) ∧ V.cell? ⟨w.heap.size, 0, none⟩ = some (.int .i64 m.origin) ∧ V.cell? ⟨w.heap.size, 1, none⟩ = some (.int .u64 m.seq) ∧ V.cell? ⟨w.heap.size, 2, none⟩ = some (.int .i64 m.hop) ∧ V.cell? ⟨w.heap.size, 3, none⟩ = some (.string m.ex) ∧ V.cell? ⟨w.heap.size, 4, none⟩ = some (.string m.key) ∧ V.cell? ⟨w.heap.size, 5, none⟩ = some (.string m.body)) := fun V b => ⟨⟨cell_on b c0, cell_on b c1, cell_on b c2, cell_on b c3, cell_on b c8⟩, cell_on b x0, cell_on b x1, cell_on b x2, cell_on b x3, cell_on b x4, cell_on b x5⟩
    clear hs' hF hB h hr hn hev HR c1 c2 c3 c4 c5 c6 c7 c8 c9 hfar hhas ho ok bk hm hx hsq
    go_enter Tryz.func179, Tryz.ntmps179
    go_wp2
    try rw [fold]
    go_quiet (fail)
    clear c0 x0 x1 x2 x3 x4 x5
    obtain ⟨W1, f1⟩ : ∃ X, W.drewN nq = X := ⟨_, rfl⟩
    have B1 : Hid (Below W.heap.size W W1) := by show Below _ _ _; rw [← f1]; exact drewN_below W nq
    rw [f1]
    clear f1
    have BD : Hid (Below W.heap.size W W1.drew) := keptW B1.out (drew_below W1)
    obtain ⟨⟨c0, c1, c2, c3, c8⟩, x0, x1, x2, x3, x4, x5⟩ := HK.out W1 B1.out
    go_wp2
    (go_region_held3 (fun w' => w'.cell? ⟨p, 0, none⟩ = some (.int .i64 s.site) ∧ w'.cell? ⟨p, 1, none⟩ = some (.int .i64 s.S) ∧ w'.cell? ⟨p, 2, none⟩ = some (.slice ea n ec) ∧ w'.cell? ⟨p, 3, none⟩ = some (.int .i64 s.H) ∧ w'.cell? ⟨w.heap.size, 0, none⟩ = some (.int .i64 m.origin)) (first | exact ⟨c0, c1, c2, c3, x0⟩ | go_keep) (first
      | (go_at_call 76; refine (HF.out W1.drew BD.out).mono ?_; rintro e W2 ⟨rfl, b2⟩; have B2 : Hid (Below W.heap.size W W2) := keptW BD.out b2; obtain ⟨⟨d0, d1, d2, d3, d8⟩, y0, y1, y2, y3, y4, y5⟩ := HK.out W2 B2.out; clear b2)))
    have BD2 : Hid (Below W.heap.size W W2.drew) := keptW B2.out (drew_below W2)
    clear c0 c1 c2 c3 c8 x0 x1 x2 x3 x4 x5 HF
    go_wp2
    (go_region_held3 (fun w' => w'.cell? ⟨p, 8, none⟩ = some (.pointer (some ⟨d.bp, 0, none⟩)) ∧ w'.cell? ⟨w.heap.size, 0, none⟩ = some (.int .i64 m.origin) ∧ w'.cell? ⟨w.heap.size, 1, none⟩ = some (.int .u64 m.seq)) (first | exact ⟨d8, y0, y1⟩ | go_keep) (first
      | (go_at_call 63; refine (HH.out W2.drew BD2.out).mono ?_; rintro e W3 ⟨rfl, b3⟩; have B3 : Hid (Below W.heap.size W W3) := keptW BD2.out b3; obtain ⟨⟨e0, e1, e2, e3, e8⟩, z0, z1, z2, z3, z4, z5⟩ := HK.out W3 B3.out; clear b3)))
    clear d0 d1 d2 d3 d8 y0 y1 y2 y3 y4 y5 HH
    cases has
    rotate_left
    · obtain ⟨rfl, rfl⟩ : [] = l ∧ 4 = er := Prod.mk.inj HM.out
      go_wp2
      go_ret2
      exact adm_none (keptW HS.out.2.bel B3.out) 4
    by_cases hhop : m.hop = far
    · by_cases hH : s.H < far
      · obtain ⟨rfl, rfl⟩ : [] = l ∧ 2 = er := by have := HM.out; rw [if_neg (by simp), if_neg (by simpa using hhop), if_pos hH] at this; exact Prod.mk.inj this
        rw [hhop] at z2
        clear hhop
        go_wp2
        go_ret2
        exact adm_none (keptW HS.out.2.bel B3.out) 2
      · obtain ⟨hl, rfl⟩ : O.onwardT s.S s.E s.H m.origin s.site = l ∧ 0 = er := by have := HM.out; rw [if_neg (by simp), if_neg (by simpa using hhop), if_neg hH] at this; exact Prod.mk.inj this
        have hO := HO.out W3 B3.out
        rw [hl] at hO
        clear HO hl HM
        subst hhop
        go_wp2_with fail
        refine hO.mono ?_
        rintro e w3 ⟨v3, rfl, r3, b3⟩
        obtain ⟨va, vc, rfl⟩ := r3.slice
        have HE : Hid (O.RowI w3 w.heap.size (.slice va l.length vc) l ∧ Below w.heap.size w w3) := ⟨r3.mono (keptW HS.out.2.bel B3.out).size, keptW (keptW HS.out.2.bel B3.out) b3⟩
        clear r3 b3 hO
        go_wp2
        go_ret2
        exact ⟨_, rfl, HE.out⟩
    · obtain ⟨rfl, rfl⟩ : [] = l ∧ 2 = er := by have := HM.out; rw [if_neg (by simp), if_pos (by simpa using hhop)] at this; exact Prod.mk.inj this
      go_wp2
      go_ret2
      exact adm_none (keptW HS.out.2.bel B3.out) 2
end Go.Proofs.YtjagaankkcbjmaaGreatDoor
