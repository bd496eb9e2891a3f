/-
  PacketApart's law.
-/
import Derived.Test.YtopacoghnofliaaDoorJLives19
import Derived.Deep.RegionHeld3
namespace Go.Proofs.YtopacoghnofliaaDoor
open Go.RowKit

/-- The tables, and two packets in boxes. -/
structure Lv2 (w U : World) (p q : Pk) : Prop where
  tab : Tab U
  kinds : PKinds U
  hA : U.heap[w.heap.size]? = some (.cells (pcells p).toArray 29 (0, 0))
  hB : U.heap[w.heap.size + 1]? = some (.cells (pcells q).toArray 29 (0, 0))
  bel : Below w.heap.size w U
theorem Lv2.go {w U V : World} {p q : Pk} (h : Lv2 w U p q) (b : Below U.heap.size U V) : Lv2 w V p q :=
  ⟨h.tab.below b h.tab.pos, h.kinds.below b, (b.block _ (Array.getElem?_eq_some_iff.1 h.hA).1).trans h.hA, (b.block _ (Array.getElem?_eq_some_iff.1 h.hB).1).trans h.hB, keptW h.bel b⟩
theorem lv2_new (w : World) (p q : Pk) (ht : Tab w) (hK : PKinds w) : Lv2 w ((w.alloc (.cells (pcells p).toArray 29)).alloc (.cells (pcells q).toArray 29)) p q := by
  have b := keptW (box_below w (.cells (pcells p).toArray 29)) (box_below _ (.cells (pcells q).toArray 29))
  exact ⟨ht.below b ht.pos, hK.below b, heap_alloc2_old w _ _, heap_alloc2_new w _ _, b⟩
theorem same_bytes {p q : Pk} (hp : goodP p = true) (hq : goodP q = true) (fp : p.Fits) (fq : q.Fits) : (bytesP p == bytesP q) = decide (p = q) := by
  by_cases h : p = q
  · subst h; simp
  · rw [decide_eq_false h, beq_eq_false_iff_ne]
    exact fun e => h (bytesP_inj hp hq fp fq e)
theorem name_not {p : Pk} (h : goodP p = true) : ((nameP p.kind).toList == []) = false := by
  have h1 := (kindB_tells (goodP_tells h).2.2.2).1
  have h2 := nameP_some h1
  rw [beq_eq_false_iff_ne]
  intro e
  apply h2
  rw [ByteArray.toList_eq] at e
  have : (nameP p.kind).data.toList.length = 0 := by rw [e]; rfl
  simpa using this
set_option maxRecDepth 20000 in
set_option maxHeartbeats 8000000 in
theorem apart_law (p q : Pk) (w : World) (ht : Tab w) (hK : PKinds w) (hp : p.Fits) (hq : q.Fits) (hs : p.m.Sum) (hsq : q.m.Sum) :
    Calls Tryd.prog 6 #[pv p, pv q] w fun e w' => e = .returned (.bool true) ∧ Below w.heap.size w w' := by
  have mixed : Tryd.prog.follows .mixedOrders = true := by kernel_rfl
  have hN := lv2_new w p q ht hK
  obtain ⟨W, fold⟩ : ∃ W, (w.alloc (.cells #[.int .i64 p.kind, .int .i64 p.fr, .int .i64 p.dest, .int .u64 p.ep, .int .u16 p.num, .int .u64 p.mask, .int .i64 p.m.origin, .int .u64 p.m.seq, .int .i64 p.m.hop, .string p.m.ex, .string p.m.key, .string p.m.body] 29)).alloc (.cells #[.int .i64 q.kind, .int .i64 q.fr, .int .i64 q.dest, .int .u64 q.ep, .int .u16 q.num, .int .u64 q.mask, .int .i64 q.m.origin, .int .u64 q.m.seq, .int .i64 q.m.hop, .string q.m.ex, .string q.m.key, .string q.m.body] 29) = W := ⟨_, rfl⟩
  have hN : Lv2 w W p q := by rw [← fold]; exact hN
  have H0 : Hid (Lv2 w W p q) := hN
  have HF : Hid (p.Fits ∧ q.Fits ∧ q.m.Sum) := ⟨hp, hq, hsq⟩
  have hG := greatP_any p W hs
  clear ht hK hp hq hs hsq hN
  go_enter Tryd.func6, Tryd.ntmps6
  go_wp2_with (refine wpList_load_row rfl 29 _ rfl w.heap.size rfl 29 (pcells p).toArray (0, 0) _ H0.out.hA Tryd.underlying29 rfl info12 ?_)
  try rw [fold]
  refine hG.mono ?_
  rintro e V ⟨rfl, bV⟩
  clear hG
  have HV : Hid (Lv2 w V p q) := H0.out.go bV
  clear bV
  cases hg : greatP p
  rotate_left
  · have hL := livesP_any V HV.out.tab HV.out.kinds
    go_wp2_with fail
    refine hL.mono ?_
    rintro e V2 ⟨rfl, b2⟩
    go_wp2
    go_ret
    exact ⟨rfl, keptW HV.out.bel b2⟩
  clear hg
  have hG := greatP_any q V HF.out.2.2
  go_wp2_with (refine wpList_load_rowG (by first | rfl | (simp [Region.wanted]; done)) 29 _ rfl (w.heap.size + 1) rfl 29 (pcells q).toArray (0, 0) _ HV.out.hB Tryd.underlying29 rfl info12 ?_)
  refine hG.mono ?_
  rintro e V1 ⟨rfl, bV⟩
  clear hG
  have H1 : Hid (Lv2 w V1 p q) := HV.out.go bV
  clear bV
  cases hg : greatP q
  rotate_left
  · have hL := livesP_any V1 H1.out.tab H1.out.kinds
    go_wp2_with fail
    refine hL.mono ?_
    rintro e V2 ⟨rfl, b2⟩
    go_wp2
    go_ret
    exact ⟨rfl, keptW H1.out.bel b2⟩
  clear hg
  cases hgp : goodP p
  · have HP : Hid (goodP p = false) := hgp
    clear hgp
    go_wp2
    refine wp_region_noPanic ?_
    refine wp_region_held_drew (S := fun U => Lv2 w U p q) (by kernel_rfl) (H1.out.go (drew_below V1)) (fun hHeld => ?_)
    refine wpAnyH_take (i := 0) (v := pv p) (by simp only [List.getElem?_toArray, List.getElem?_cons_zero]; rfl) (by kernel_rfl) (by kernel_rfl) (by kernel_rfl) (fun _ _ _ h => h) (Or.inl ⟨by rfl, fun wz h => exec_load_row 29 _ rfl (w.heap.size) rfl 29 #[.int .i64 p.kind, .int .i64 p.fr, .int .i64 p.dest, .int .u64 p.ep, .int .u16 p.num, .int .u64 p.mask, .int .i64 p.m.origin, .int .u64 p.m.seq, .int .i64 p.m.hop, .string p.m.ex, .string p.m.key, .string p.m.body] (0, 0) _ h.hA Tryd.underlying29 rfl info12⟩) (by assumption) ?_
    try simp only [Act.put, List.setIfInBounds_toArray, List.set_cons_zero, List.set_cons_succ]
    refine wpAnyH_ready (rs := [1]) (by kernel_rfl) (by simp) ?_
    refine AllReadyH.cons rfl (fun K hK => ?_) AllReadyH.nil
    have HS1 : Hid _ := hHeld
    clear hHeld
    go_simp
    have h1 := goodP_any p _ HS1.out.kinds HF.out.1.m
    rw [HP.out] at h1
    refine h1.mono ?_
    rintro e U1 ⟨rfl, b1⟩
    have N1 : Lv2 w U1 p q := HS1.out.go b1
    clear b1
    try dsimp only
    refine hK.out _ _ (N1) (fun hHeld => ?_)
    clear hK K
    try simp only [Act.put, List.setIfInBounds_toArray, List.set_cons_zero, List.set_cons_succ]
    refine wpAnyH_take (i := 2) (v := .bool false) (by simp only [List.getElem?_toArray, List.getElem?_cons_succ, List.getElem?_cons_zero]; rfl) (by kernel_rfl) (by kernel_rfl) (by kernel_rfl) (fun _ _ _ h => h) (Or.inl ⟨by rfl, ?_⟩) (by assumption) ?_
    · (intro wq hSq; clear hSq; go_simp; try with_reducible rfl)
    try simp only [Act.put, List.setIfInBounds_toArray, List.set_cons_zero, List.set_cons_succ]
    refine wpAnyH_take (i := 3) (v := undef) (by simp only [List.getElem?_toArray, List.getElem?_cons_succ, List.getElem?_cons_zero]; rfl) (by kernel_rfl) (by kernel_rfl) (by kernel_rfl) (fun _ _ _ h => h) (Or.inr ⟨by rfl, rfl⟩) (by assumption) ?_
    try simp only [Act.put, List.setIfInBounds_toArray, List.set_cons_zero, List.set_cons_succ]
    refine wpAnyH_take (i := 4) (v := undef) (by simp only [List.getElem?_toArray, List.getElem?_cons_succ, List.getElem?_cons_zero]; rfl) (by kernel_rfl) (by kernel_rfl) (by kernel_rfl) (fun _ _ _ h => h) (Or.inr ⟨by rfl, rfl⟩) (by assumption) ?_
    try simp only [Act.put, List.setIfInBounds_toArray, List.set_cons_zero, List.set_cons_succ]
    refine wpAnyH_take (i := 5) (v := .bool false) (by simp only [List.getElem?_toArray, List.getElem?_cons_succ, List.getElem?_cons_zero]; rfl) (by kernel_rfl) (by kernel_rfl) (by kernel_rfl) (fun _ _ _ h => h) (Or.inl ⟨by rfl, ?_⟩) (by assumption) ?_
    · (intro wq hSq; clear hSq; go_simp; try with_reducible rfl)
    try simp only [Act.put, List.setIfInBounds_toArray, List.set_cons_zero, List.set_cons_succ]
    refine wpAnyH_take (i := 6) (v := .bool false) (by simp only [List.getElem?_toArray, List.getElem?_cons_succ, List.getElem?_cons_zero]; rfl) (by kernel_rfl) (by kernel_rfl) (by kernel_rfl) (fun _ _ _ h => h) (Or.inl ⟨by rfl, ?_⟩) (by assumption) ?_
    · (intro wq hSq; clear hSq; go_simp; try with_reducible rfl)
    try simp only [Act.put, List.setIfInBounds_toArray, List.set_cons_zero, List.set_cons_succ]
    refine wpAnyH_take (i := 7) (v := undef) (by simp only [List.getElem?_toArray, List.getElem?_cons_succ, List.getElem?_cons_zero]; rfl) (by kernel_rfl) (by kernel_rfl) (by kernel_rfl) (fun _ _ _ h => h) (Or.inr ⟨by rfl, rfl⟩) (by assumption) ?_
    try simp only [Act.put, List.setIfInBounds_toArray, List.set_cons_zero, List.set_cons_succ]
    refine wpAnyH_take (i := 8) (v := undef) (by simp only [List.getElem?_toArray, List.getElem?_cons_succ, List.getElem?_cons_zero]; rfl) (by kernel_rfl) (by kernel_rfl) (by kernel_rfl) (fun _ _ _ h => h) (Or.inr ⟨by rfl, rfl⟩) (by assumption) ?_
    try simp only [Act.put, List.setIfInBounds_toArray, List.set_cons_zero, List.set_cons_succ]
    refine wpAnyH_take (i := 9) (v := undef) (by simp only [List.getElem?_toArray, List.getElem?_cons_succ, List.getElem?_cons_zero]; rfl) (by kernel_rfl) (by kernel_rfl) (by kernel_rfl) (fun _ _ _ h => h) (Or.inr ⟨by rfl, rfl⟩) (by assumption) ?_
    try simp only [Act.put, List.setIfInBounds_toArray, List.set_cons_zero, List.set_cons_succ]
    refine wpAnyH_take (i := 10) (v := undef) (by simp only [List.getElem?_toArray, List.getElem?_cons_succ, List.getElem?_cons_zero]; rfl) (by kernel_rfl) (by kernel_rfl) (by kernel_rfl) (fun _ _ _ h => h) (Or.inr ⟨by rfl, rfl⟩) (by assumption) ?_
    try simp only [Act.put, List.setIfInBounds_toArray, List.set_cons_zero, List.set_cons_succ]
    refine wpAnyH_take (i := 11) (v := undef) (by simp only [List.getElem?_toArray, List.getElem?_cons_succ, List.getElem?_cons_zero]; rfl) (by kernel_rfl) (by kernel_rfl) (by kernel_rfl) (fun _ _ _ h => h) (Or.inr ⟨by rfl, rfl⟩) (by assumption) ?_
    try simp only [Act.put, List.setIfInBounds_toArray, List.set_cons_zero, List.set_cons_succ]
    refine wpAnyH_take (i := 12) (v := undef) (by simp only [List.getElem?_toArray, List.getElem?_cons_succ, List.getElem?_cons_zero]; rfl) (by kernel_rfl) (by kernel_rfl) (by kernel_rfl) (fun _ _ _ h => h) (Or.inr ⟨by rfl, rfl⟩) (by assumption) ?_
    try simp only [Act.put, List.setIfInBounds_toArray, List.set_cons_zero, List.set_cons_succ]
    refine wpAnyH_take (i := 13) (v := undef) (by simp only [List.getElem?_toArray, List.getElem?_cons_succ, List.getElem?_cons_zero]; rfl) (by kernel_rfl) (by kernel_rfl) (by kernel_rfl) (fun _ _ _ h => h) (Or.inr ⟨by rfl, rfl⟩) (by assumption) ?_
    try simp only [Act.put, List.setIfInBounds_toArray, List.set_cons_zero, List.set_cons_succ]
    refine wpAnyH_take (i := 14) (v := undef) (by simp only [List.getElem?_toArray, List.getElem?_cons_succ, List.getElem?_cons_zero]; rfl) (by kernel_rfl) (by kernel_rfl) (by kernel_rfl) (fun _ _ _ h => h) (Or.inr ⟨by rfl, rfl⟩) (by assumption) ?_
    try simp only [Act.put, List.setIfInBounds_toArray, List.set_cons_zero, List.set_cons_succ]
    refine wpAnyH_take (i := 15) (v := undef) (by simp only [List.getElem?_toArray, List.getElem?_cons_succ, List.getElem?_cons_zero]; rfl) (by kernel_rfl) (by kernel_rfl) (by kernel_rfl) (fun _ _ _ h => h) (Or.inr ⟨by rfl, rfl⟩) (by assumption) ?_
    try simp only [Act.put, List.setIfInBounds_toArray, List.set_cons_zero, List.set_cons_succ]
    refine wpAnyH_take (i := 16) (v := .bool false) (by simp only [List.getElem?_toArray, List.getElem?_cons_succ, List.getElem?_cons_zero]; rfl) (by kernel_rfl) (by kernel_rfl) (by kernel_rfl) (fun _ _ _ h => h) (Or.inl ⟨by rfl, ?_⟩) (by assumption) ?_
    · (intro wq hSq; clear hSq; go_simp; try with_reducible rfl)
    try simp only [Act.put, List.setIfInBounds_toArray, List.set_cons_zero, List.set_cons_succ]
    refine wpAnyH_done (by kernel_rfl) ?_ _
    refine NoPanic.normal ?_
    obtain ⟨V2, hV2⟩ : ∃ X : World, Lv2 w X p q := ⟨_, hHeld⟩
    have HE : Hid _ := hHeld
    clear hHeld hV2 V2
    have h5 := goodP_any p _ HE.out.kinds HF.out.1.m
    rw [HP.out] at h5
    go_wp2_with (refine wpList_load_row rfl 29 _ rfl w.heap.size rfl 29 (pcells p).toArray (0, 0) _ HE.out.hA Tryd.underlying29 rfl info12 ?_)
    refine h5.mono ?_
    rintro e Y ⟨rfl, bY⟩
    clear h5
    have HY : Hid (Lv2 w Y p q) := HE.out.go bY
    clear bY
    have hL := livesP_any _ HY.out.tab HY.out.kinds
    go_wp2_with fail
    refine hL.mono ?_
    rintro e Y3 ⟨rfl, b3⟩
    go_wp2
    go_ret
    exact ⟨rfl, keptW HY.out.bel b3⟩
  cases hgq : goodP q
  · have HP : Hid (goodP p = true) := hgp
    have HQ : Hid (goodP q = false) := hgq
    clear hgp hgq
    go_wp2
    refine wp_region_noPanic ?_
    refine wp_region_held_drew (S := fun U => Lv2 w U p q) (by kernel_rfl) (H1.out.go (drew_below V1)) (fun hHeld => ?_)
    refine wpAnyH_take (i := 0) (v := pv p) (by simp only [List.getElem?_toArray, List.getElem?_cons_zero]; rfl) (by kernel_rfl) (by kernel_rfl) (by kernel_rfl) (fun _ _ _ h => h) (Or.inl ⟨by rfl, fun wz h => exec_load_row 29 _ rfl (w.heap.size) rfl 29 #[.int .i64 p.kind, .int .i64 p.fr, .int .i64 p.dest, .int .u64 p.ep, .int .u16 p.num, .int .u64 p.mask, .int .i64 p.m.origin, .int .u64 p.m.seq, .int .i64 p.m.hop, .string p.m.ex, .string p.m.key, .string p.m.body] (0, 0) _ h.hA Tryd.underlying29 rfl info12⟩) (by assumption) ?_
    try simp only [Act.put, List.setIfInBounds_toArray, List.set_cons_zero, List.set_cons_succ]
    refine wpAnyH_ready (rs := [1]) (by kernel_rfl) (by simp) ?_
    refine AllReadyH.cons rfl (fun K hK => ?_) AllReadyH.nil
    have HS1 : Hid _ := hHeld
    clear hHeld
    go_simp
    have h1 := goodP_any p _ HS1.out.kinds HF.out.1.m
    rw [HP.out] at h1
    refine h1.mono ?_
    rintro e U1 ⟨rfl, b1⟩
    have N1 : Lv2 w U1 p q := HS1.out.go b1
    clear b1
    try dsimp only
    refine hK.out _ _ (N1) (fun hHeld => ?_)
    clear hK K
    try simp only [Act.put, List.setIfInBounds_toArray, List.set_cons_zero, List.set_cons_succ]
    refine wpAnyH_take (i := 2) (v := .bool true) (by simp only [List.getElem?_toArray, List.getElem?_cons_succ, List.getElem?_cons_zero]; rfl) (by kernel_rfl) (by kernel_rfl) (by kernel_rfl) (fun _ _ _ h => h) (Or.inl ⟨by rfl, ?_⟩) (by assumption) ?_
    · (intro wq hSq; clear hSq; go_simp; try with_reducible rfl)
    try simp only [Act.put, List.setIfInBounds_toArray, List.set_cons_zero, List.set_cons_succ]
    refine wpAnyH_take (i := 3) (v := pv q) (by simp only [List.getElem?_toArray, List.getElem?_cons_succ, List.getElem?_cons_zero]; rfl) (by kernel_rfl) (by kernel_rfl) (by kernel_rfl) (fun _ _ _ h => h) (Or.inl ⟨by rfl, fun wz h => exec_load_row 29 _ rfl (w.heap.size + 1) rfl 29 #[.int .i64 q.kind, .int .i64 q.fr, .int .i64 q.dest, .int .u64 q.ep, .int .u16 q.num, .int .u64 q.mask, .int .i64 q.m.origin, .int .u64 q.m.seq, .int .i64 q.m.hop, .string q.m.ex, .string q.m.key, .string q.m.body] (0, 0) _ h.hB Tryd.underlying29 rfl info12⟩) (by assumption) ?_
    try simp only [Act.put, List.setIfInBounds_toArray, List.set_cons_zero, List.set_cons_succ]
    refine wpAnyH_ready (rs := [4]) (by kernel_rfl) (by simp) ?_
    refine AllReadyH.cons rfl (fun K hK => ?_) AllReadyH.nil
    have HS4 : Hid _ := hHeld
    clear hHeld
    go_simp
    have h4 := goodP_any q _ HS4.out.kinds HF.out.2.1.m
    rw [HQ.out] at h4
    refine h4.mono ?_
    rintro e U4 ⟨rfl, b4⟩
    have N4 : Lv2 w U4 p q := HS4.out.go b4
    clear b4
    try dsimp only
    refine hK.out _ _ (N4) (fun hHeld => ?_)
    clear hK K
    try simp only [Act.put, List.setIfInBounds_toArray, List.set_cons_zero, List.set_cons_succ]
    refine wpAnyH_take (i := 5) (v := .bool false) (by simp only [List.getElem?_toArray, List.getElem?_cons_succ, List.getElem?_cons_zero]; rfl) (by kernel_rfl) (by kernel_rfl) (by kernel_rfl) (fun _ _ _ h => h) (Or.inl ⟨by rfl, ?_⟩) (by assumption) ?_
    · (intro wq hSq; clear hSq; go_simp; try with_reducible rfl)
    try simp only [Act.put, List.setIfInBounds_toArray, List.set_cons_zero, List.set_cons_succ]
    refine wpAnyH_take (i := 6) (v := .bool false) (by simp only [List.getElem?_toArray, List.getElem?_cons_succ, List.getElem?_cons_zero]; rfl) (by kernel_rfl) (by kernel_rfl) (by kernel_rfl) (fun _ _ _ h => h) (Or.inl ⟨by rfl, ?_⟩) (by assumption) ?_
    · (intro wq hSq; clear hSq; go_simp; try with_reducible rfl)
    try simp only [Act.put, List.setIfInBounds_toArray, List.set_cons_zero, List.set_cons_succ]
    refine wpAnyH_take (i := 7) (v := undef) (by simp only [List.getElem?_toArray, List.getElem?_cons_succ, List.getElem?_cons_zero]; rfl) (by kernel_rfl) (by kernel_rfl) (by kernel_rfl) (fun _ _ _ h => h) (Or.inr ⟨by rfl, rfl⟩) (by assumption) ?_
    try simp only [Act.put, List.setIfInBounds_toArray, List.set_cons_zero, List.set_cons_succ]
    refine wpAnyH_take (i := 8) (v := undef) (by simp only [List.getElem?_toArray, List.getElem?_cons_succ, List.getElem?_cons_zero]; rfl) (by kernel_rfl) (by kernel_rfl) (by kernel_rfl) (fun _ _ _ h => h) (Or.inr ⟨by rfl, rfl⟩) (by assumption) ?_
    try simp only [Act.put, List.setIfInBounds_toArray, List.set_cons_zero, List.set_cons_succ]
    refine wpAnyH_take (i := 9) (v := undef) (by simp only [List.getElem?_toArray, List.getElem?_cons_succ, List.getElem?_cons_zero]; rfl) (by kernel_rfl) (by kernel_rfl) (by kernel_rfl) (fun _ _ _ h => h) (Or.inr ⟨by rfl, rfl⟩) (by assumption) ?_
    try simp only [Act.put, List.setIfInBounds_toArray, List.set_cons_zero, List.set_cons_succ]
    refine wpAnyH_take (i := 10) (v := undef) (by simp only [List.getElem?_toArray, List.getElem?_cons_succ, List.getElem?_cons_zero]; rfl) (by kernel_rfl) (by kernel_rfl) (by kernel_rfl) (fun _ _ _ h => h) (Or.inr ⟨by rfl, rfl⟩) (by assumption) ?_
    try simp only [Act.put, List.setIfInBounds_toArray, List.set_cons_zero, List.set_cons_succ]
    refine wpAnyH_take (i := 11) (v := undef) (by simp only [List.getElem?_toArray, List.getElem?_cons_succ, List.getElem?_cons_zero]; rfl) (by kernel_rfl) (by kernel_rfl) (by kernel_rfl) (fun _ _ _ h => h) (Or.inr ⟨by rfl, rfl⟩) (by assumption) ?_
    try simp only [Act.put, List.setIfInBounds_toArray, List.set_cons_zero, List.set_cons_succ]
    refine wpAnyH_take (i := 12) (v := undef) (by simp only [List.getElem?_toArray, List.getElem?_cons_succ, List.getElem?_cons_zero]; rfl) (by kernel_rfl) (by kernel_rfl) (by kernel_rfl) (fun _ _ _ h => h) (Or.inr ⟨by rfl, rfl⟩) (by assumption) ?_
    try simp only [Act.put, List.setIfInBounds_toArray, List.set_cons_zero, List.set_cons_succ]
    refine wpAnyH_take (i := 13) (v := undef) (by simp only [List.getElem?_toArray, List.getElem?_cons_succ, List.getElem?_cons_zero]; rfl) (by kernel_rfl) (by kernel_rfl) (by kernel_rfl) (fun _ _ _ h => h) (Or.inr ⟨by rfl, rfl⟩) (by assumption) ?_
    try simp only [Act.put, List.setIfInBounds_toArray, List.set_cons_zero, List.set_cons_succ]
    refine wpAnyH_take (i := 14) (v := undef) (by simp only [List.getElem?_toArray, List.getElem?_cons_succ, List.getElem?_cons_zero]; rfl) (by kernel_rfl) (by kernel_rfl) (by kernel_rfl) (fun _ _ _ h => h) (Or.inr ⟨by rfl, rfl⟩) (by assumption) ?_
    try simp only [Act.put, List.setIfInBounds_toArray, List.set_cons_zero, List.set_cons_succ]
    refine wpAnyH_take (i := 15) (v := undef) (by simp only [List.getElem?_toArray, List.getElem?_cons_succ, List.getElem?_cons_zero]; rfl) (by kernel_rfl) (by kernel_rfl) (by kernel_rfl) (fun _ _ _ h => h) (Or.inr ⟨by rfl, rfl⟩) (by assumption) ?_
    try simp only [Act.put, List.setIfInBounds_toArray, List.set_cons_zero, List.set_cons_succ]
    refine wpAnyH_take (i := 16) (v := .bool false) (by simp only [List.getElem?_toArray, List.getElem?_cons_succ, List.getElem?_cons_zero]; rfl) (by kernel_rfl) (by kernel_rfl) (by kernel_rfl) (fun _ _ _ h => h) (Or.inl ⟨by rfl, ?_⟩) (by assumption) ?_
    · (intro wq hSq; clear hSq; go_simp; try with_reducible rfl)
    try simp only [Act.put, List.setIfInBounds_toArray, List.set_cons_zero, List.set_cons_succ]
    refine wpAnyH_done (by kernel_rfl) ?_ _
    refine NoPanic.normal ?_
    obtain ⟨V2, hV2⟩ : ∃ X : World, Lv2 w X p q := ⟨_, hHeld⟩
    have HE : Hid _ := hHeld
    clear hHeld hV2 V2
    have h5 := goodP_any p _ HE.out.kinds HF.out.1.m
    rw [HP.out] at h5
    go_wp2_with (refine wpList_load_row rfl 29 _ rfl w.heap.size rfl 29 (pcells p).toArray (0, 0) _ HE.out.hA Tryd.underlying29 rfl info12 ?_)
    refine h5.mono ?_
    rintro e Y ⟨rfl, bY⟩
    clear h5
    have HY : Hid (Lv2 w Y p q) := HE.out.go bY
    clear bY
    have h6 := kindN_any p Y HY.out.kinds
    go_wp2_with (refine wpList_load_rowG (by first | rfl | (simp [Region.wanted]; done)) 29 _ rfl w.heap.size rfl 29 (pcells p).toArray (0, 0) _ HY.out.hA Tryd.underlying29 rfl info12 ?_)
    refine h6.mono ?_
    rintro e Y2 ⟨rfl, bY⟩
    clear h6
    have HY2 : Hid (Lv2 w Y2 p q) := HY.out.go bY
    clear bY
    have hnm := name_not HP.out
    have hL := livesP_any _ HY2.out.tab HY2.out.kinds
    go_wp2_with fail
    refine hL.mono ?_
    rintro e Y3 ⟨rfl, b3⟩
    go_wp2
    go_ret
    exact ⟨rfl, keptW HY2.out.bel b3⟩
  · have HP : Hid (goodP p = true) := hgp
    have HQ : Hid (goodP q = true) := hgq
    have heqA : ∀ X, (binOp .eql 29 (pv p) (pv q)).run Tryd.prog X = .ok (.bool (decide (p = q))) X := fun X => run_eqP p q X
    have hgA := eqGuardP
    obtain ⟨bq, hbq⟩ : ∃ b, decide (p = q) = b := ⟨_, rfl⟩
    have HBQ : Hid (decide (p = q) = bq) := hbq
    rw [hbq] at heqA
    clear hgp hgq hbq
    go_wp2
    refine wp_region_noPanic ?_
    refine wp_region_held_drew (S := fun U => Lv2 w U p q) (by kernel_rfl) (H1.out.go (drew_below V1)) (fun hHeld => ?_)
    refine wpAnyH_take (i := 0) (v := pv p) (by simp only [List.getElem?_toArray, List.getElem?_cons_zero]; rfl) (by kernel_rfl) (by kernel_rfl) (by kernel_rfl) (fun _ _ _ h => h) (Or.inl ⟨by rfl, fun wz h => exec_load_row 29 _ rfl (w.heap.size) rfl 29 #[.int .i64 p.kind, .int .i64 p.fr, .int .i64 p.dest, .int .u64 p.ep, .int .u16 p.num, .int .u64 p.mask, .int .i64 p.m.origin, .int .u64 p.m.seq, .int .i64 p.m.hop, .string p.m.ex, .string p.m.key, .string p.m.body] (0, 0) _ h.hA Tryd.underlying29 rfl info12⟩) (by assumption) ?_
    try simp only [Act.put, List.setIfInBounds_toArray, List.set_cons_zero, List.set_cons_succ]
    refine wpAnyH_ready (rs := [1]) (by kernel_rfl) (by simp) ?_
    refine AllReadyH.cons rfl (fun K hK => ?_) AllReadyH.nil
    have HS1 : Hid _ := hHeld
    clear hHeld
    go_simp
    have h1 := goodP_any p _ HS1.out.kinds HF.out.1.m
    rw [HP.out] at h1
    refine h1.mono ?_
    rintro e U1 ⟨rfl, b1⟩
    have N1 : Lv2 w U1 p q := HS1.out.go b1
    clear b1
    try dsimp only
    refine hK.out _ _ (N1) (fun hHeld => ?_)
    clear hK K
    try simp only [Act.put, List.setIfInBounds_toArray, List.set_cons_zero, List.set_cons_succ]
    refine wpAnyH_take (i := 2) (v := .bool true) (by simp only [List.getElem?_toArray, List.getElem?_cons_succ, List.getElem?_cons_zero]; rfl) (by kernel_rfl) (by kernel_rfl) (by kernel_rfl) (fun _ _ _ h => h) (Or.inl ⟨by rfl, ?_⟩) (by assumption) ?_
    · (intro wq hSq; clear hSq; go_simp; try with_reducible rfl)
    try simp only [Act.put, List.setIfInBounds_toArray, List.set_cons_zero, List.set_cons_succ]
    refine wpAnyH_take (i := 3) (v := pv q) (by simp only [List.getElem?_toArray, List.getElem?_cons_succ, List.getElem?_cons_zero]; rfl) (by kernel_rfl) (by kernel_rfl) (by kernel_rfl) (fun _ _ _ h => h) (Or.inl ⟨by rfl, fun wz h => exec_load_row 29 _ rfl (w.heap.size + 1) rfl 29 #[.int .i64 q.kind, .int .i64 q.fr, .int .i64 q.dest, .int .u64 q.ep, .int .u16 q.num, .int .u64 q.mask, .int .i64 q.m.origin, .int .u64 q.m.seq, .int .i64 q.m.hop, .string q.m.ex, .string q.m.key, .string q.m.body] (0, 0) _ h.hB Tryd.underlying29 rfl info12⟩) (by assumption) ?_
    try simp only [Act.put, List.setIfInBounds_toArray, List.set_cons_zero, List.set_cons_succ]
    refine wpAnyH_ready (rs := [4]) (by kernel_rfl) (by simp) ?_
    refine AllReadyH.cons rfl (fun K hK => ?_) AllReadyH.nil
    have HS4 : Hid _ := hHeld
    clear hHeld
    go_simp
    have h4 := goodP_any q _ HS4.out.kinds HF.out.2.1.m
    rw [HQ.out] at h4
    refine h4.mono ?_
    rintro e U4 ⟨rfl, b4⟩
    have N4 : Lv2 w U4 p q := HS4.out.go b4
    clear b4
    try dsimp only
    refine hK.out _ _ (N4) (fun hHeld => ?_)
    clear hK K
    try simp only [Act.put, List.setIfInBounds_toArray, List.set_cons_zero, List.set_cons_succ]
    refine wpAnyH_take (i := 5) (v := .bool true) (by simp only [List.getElem?_toArray, List.getElem?_cons_succ, List.getElem?_cons_zero]; rfl) (by kernel_rfl) (by kernel_rfl) (by kernel_rfl) (fun _ _ _ h => h) (Or.inl ⟨by rfl, ?_⟩) (by assumption) ?_
    · (intro wq hSq; clear hSq; go_simp; try with_reducible rfl)
    try simp only [Act.put, List.setIfInBounds_toArray, List.set_cons_zero, List.set_cons_succ]
    refine wpAnyH_take (i := 6) (v := .bool true) (by simp only [List.getElem?_toArray, List.getElem?_cons_succ, List.getElem?_cons_zero]; rfl) (by kernel_rfl) (by kernel_rfl) (by kernel_rfl) (fun _ _ _ h => h) (Or.inl ⟨by rfl, ?_⟩) (by assumption) ?_
    · (intro wq hSq; clear hSq; go_simp; try with_reducible rfl)
    try simp only [Act.put, List.setIfInBounds_toArray, List.set_cons_zero, List.set_cons_succ]
    refine wpAnyH_take (i := 7) (v := pv p) (by simp only [List.getElem?_toArray, List.getElem?_cons_succ, List.getElem?_cons_zero]; rfl) (by kernel_rfl) (by kernel_rfl) (by kernel_rfl) (fun _ _ _ h => h) (Or.inl ⟨by rfl, fun wz h => exec_load_row 29 _ rfl (w.heap.size) rfl 29 #[.int .i64 p.kind, .int .i64 p.fr, .int .i64 p.dest, .int .u64 p.ep, .int .u16 p.num, .int .u64 p.mask, .int .i64 p.m.origin, .int .u64 p.m.seq, .int .i64 p.m.hop, .string p.m.ex, .string p.m.key, .string p.m.body] (0, 0) _ h.hA Tryd.underlying29 rfl info12⟩) (by assumption) ?_
    try simp only [Act.put, List.setIfInBounds_toArray, List.set_cons_zero, List.set_cons_succ]
    refine wpAnyH_take (i := 9) (v := pv q) (by simp only [List.getElem?_toArray, List.getElem?_cons_succ, List.getElem?_cons_zero]; rfl) (by kernel_rfl) (by kernel_rfl) (by kernel_rfl) (fun _ _ _ h => h) (Or.inl ⟨by rfl, fun wz h => exec_load_row 29 _ rfl (w.heap.size + 1) rfl 29 #[.int .i64 q.kind, .int .i64 q.fr, .int .i64 q.dest, .int .u64 q.ep, .int .u16 q.num, .int .u64 q.mask, .int .i64 q.m.origin, .int .u64 q.m.seq, .int .i64 q.m.hop, .string q.m.ex, .string q.m.key, .string q.m.body] (0, 0) _ h.hB Tryd.underlying29 rfl info12⟩) (by assumption) ?_
    try simp only [Act.put, List.setIfInBounds_toArray, List.set_cons_zero, List.set_cons_succ]
    refine wpAnyH_take (i := 12) (v := pv p) (by simp only [List.getElem?_toArray, List.getElem?_cons_succ, List.getElem?_cons_zero]; rfl) (by kernel_rfl) (by kernel_rfl) (by kernel_rfl) (fun _ _ _ h => h) (Or.inl ⟨by rfl, fun wz h => exec_load_row 29 _ rfl (w.heap.size) rfl 29 #[.int .i64 p.kind, .int .i64 p.fr, .int .i64 p.dest, .int .u64 p.ep, .int .u16 p.num, .int .u64 p.mask, .int .i64 p.m.origin, .int .u64 p.m.seq, .int .i64 p.m.hop, .string p.m.ex, .string p.m.key, .string p.m.body] (0, 0) _ h.hA Tryd.underlying29 rfl info12⟩) (by assumption) ?_
    try simp only [Act.put, List.setIfInBounds_toArray, List.set_cons_zero, List.set_cons_succ]
    refine wpAnyH_take (i := 13) (v := pv q) (by simp only [List.getElem?_toArray, List.getElem?_cons_succ, List.getElem?_cons_zero]; rfl) (by kernel_rfl) (by kernel_rfl) (by kernel_rfl) (fun _ _ _ h => h) (Or.inl ⟨by rfl, fun wz h => exec_load_row 29 _ rfl (w.heap.size + 1) rfl 29 #[.int .i64 q.kind, .int .i64 q.fr, .int .i64 q.dest, .int .u64 q.ep, .int .u16 q.num, .int .u64 q.mask, .int .i64 q.m.origin, .int .u64 q.m.seq, .int .i64 q.m.hop, .string q.m.ex, .string q.m.key, .string q.m.body] (0, 0) _ h.hB Tryd.underlying29 rfl info12⟩) (by assumption) ?_
    try simp only [Act.put, List.setIfInBounds_toArray, List.set_cons_zero, List.set_cons_succ]
    refine wpAnyH_take (i := 14) (v := .bool bq) (by simp only [List.getElem?_toArray, List.getElem?_cons_succ, List.getElem?_cons_zero]; rfl) (by kernel_rfl) (by kernel_rfl) (by kernel_rfl) (fun _ _ _ h => h) (Or.inl ⟨by rfl, (by intro wq hSq; clear hSq hHeld; go_simp)⟩) (by assumption) ?_
    try simp only [Act.put, List.setIfInBounds_toArray, List.set_cons_zero, List.set_cons_succ]
    refine wpAnyH_ready (rs := [8]) (by kernel_rfl) (by simp) ?_
    refine AllReadyH.cons rfl (fun K hK => ?_) AllReadyH.nil
    have HS8 : Hid _ := hHeld
    clear hHeld
    go_simp
    refine (bytesP_any p _ HS8.out.tab HS8.out.kinds HF.out.1).mono ?_
    rintro e U8 ⟨v8, rfl, o8, b8⟩
    have N8 : Lv2 w U8 p q := HS8.out.go b8
    have O8 : Hid (Holds U8 v8 (bytesP p)) := o8.holds
    clear o8
    clear b8
    try dsimp only
    refine hK.out _ _ (N8) (fun hHeld => ?_)
    clear hK K
    try simp only [Act.put, List.setIfInBounds_toArray, List.set_cons_zero, List.set_cons_succ]
    refine wpAnyH_ready (rs := [10]) (by kernel_rfl) (by simp) ?_
    refine AllReadyH.cons rfl (fun K hK => ?_) AllReadyH.nil
    have HS10 : Hid _ := hHeld
    clear hHeld
    go_simp
    refine (bytesP_any q _ HS10.out.tab HS10.out.kinds HF.out.2.1).mono ?_
    rintro e U10 ⟨v10, rfl, o10, b10⟩
    have N10 : Lv2 w U10 p q := HS10.out.go b10
    have O10 : Hid (Holds U10 v10 (bytesP q) ∧ Holds U10 v8 (bytesP p)) := ⟨o10.holds, O8.out.below b10 (Nat.le_refl _)⟩
    clear o10
    clear b10
    try dsimp only
    refine hK.out _ _ (N10) (fun hHeld => ?_)
    clear hK K
    try simp only [Act.put, List.setIfInBounds_toArray, List.set_cons_zero, List.set_cons_succ]
    refine wpAnyH_ready (rs := [11]) (by kernel_rfl) (by simp) ?_
    refine AllReadyH.cons rfl (fun K hK => ?_) AllReadyH.nil
    have HS11 : Hid _ := hHeld
    clear hHeld
    go_simp
    have hS11 := same_any v8 v10 _ _ U10 O10.out.2 O10.out.1
    rw [same_bytes HP.out HQ.out HF.out.1 HF.out.2.1, HBQ.out] at hS11
    refine hS11.mono ?_
    rintro e U11 ⟨rfl, hU11⟩
    subst hU11
    clear hS11
    try dsimp only
    refine hK.out _ _ (HS11.out) (fun hHeld => ?_)
    clear hK K
    try simp only [Act.put, List.setIfInBounds_toArray, List.set_cons_zero, List.set_cons_succ]
    refine wpAnyH_take (i := 15) (v := .bool false) (by simp only [List.getElem?_toArray, List.getElem?_cons_succ, List.getElem?_cons_zero]; rfl) (by kernel_rfl) (by kernel_rfl) (by kernel_rfl) (fun _ _ _ h => h) (Or.inl ⟨by rfl, (by intro wq hSq; clear hSq hHeld; go_simp)⟩) (by assumption) ?_
    try simp only [Act.put, List.setIfInBounds_toArray, List.set_cons_zero, List.set_cons_succ]
    refine wpAnyH_take (i := 16) (v := .bool false) (by simp only [List.getElem?_toArray, List.getElem?_cons_succ, List.getElem?_cons_zero]; rfl) (by kernel_rfl) (by kernel_rfl) (by kernel_rfl) (fun _ _ _ h => h) (Or.inl ⟨by rfl, ?_⟩) (by assumption) ?_
    · (intro wq hSq; clear hSq; go_simp; try with_reducible rfl)
    try simp only [Act.put, List.setIfInBounds_toArray, List.set_cons_zero, List.set_cons_succ]
    refine wpAnyH_done (by kernel_rfl) ?_ _
    refine NoPanic.normal ?_
    obtain ⟨V2, hV2⟩ : ∃ X : World, Lv2 w X p q := ⟨_, hHeld⟩
    have HE : Hid _ := hHeld
    clear hHeld hV2 V2
    have h5 := goodP_any p _ HE.out.kinds HF.out.1.m
    rw [HP.out] at h5
    go_wp2_with (refine wpList_load_row rfl 29 _ rfl w.heap.size rfl 29 (pcells p).toArray (0, 0) _ HE.out.hA Tryd.underlying29 rfl info12 ?_)
    refine h5.mono ?_
    rintro e Y ⟨rfl, bY⟩
    clear h5
    have HY : Hid (Lv2 w Y p q) := HE.out.go bY
    clear bY
    have h6 := kindN_any p Y HY.out.kinds
    go_wp2_with (refine wpList_load_rowG (by first | rfl | (simp [Region.wanted]; done)) 29 _ rfl w.heap.size rfl 29 (pcells p).toArray (0, 0) _ HY.out.hA Tryd.underlying29 rfl info12 ?_)
    refine h6.mono ?_
    rintro e Y2 ⟨rfl, bY⟩
    clear h6
    have HY2 : Hid (Lv2 w Y2 p q) := HY.out.go bY
    clear bY
    have hnm := name_not HP.out
    have hL := livesP_any _ HY2.out.tab HY2.out.kinds
    go_wp2_with fail
    refine hL.mono ?_
    rintro e Y3 ⟨rfl, b3⟩
    go_wp2
    go_ret
    exact ⟨rfl, keptW HY2.out.bel b3⟩
end Go.Proofs.YtopacoghnofliaaDoor
