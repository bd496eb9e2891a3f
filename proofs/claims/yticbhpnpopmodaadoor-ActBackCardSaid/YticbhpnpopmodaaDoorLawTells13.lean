/-
  ActTells' law.
-/
import Derived.Test.YticbhpnpopmodaaDoorLives13
import Derived.Test.YticbhpnpopmodaaDoorRBytes
import Derived.Deep.RegionHeld3
namespace Go.Proofs.YticbhpnpopmodaaDoor
open Go.RowKit

theorem exec_load_row {P : Program} {o : Oper} {a : Act} {w : World} (ty : TypeId) (x : Operand) (ho : o.op = .load ty x)
    (g : Nat) (hx : a.eval x = .pointer (some ⟨g, 0, none⟩)) (t : TypeId) (cs : Array Value) (fr : Nat × Nat) (d : TypeDesc) (hg : w.heap[g]? = some (.cells cs t fr))
    (hu : P.underlying ty = some d) (hd : (match d with | .struct _ | .array _ _ => true | _ => false) = true) (hi : (P.info? ty).map (·.size) = some cs.size) :
    (execOp a.eval o).run P w = .ok (.value (.agg cs)) w := by
  unfold execOp
  simp only [ho, hx, Instr.loadAt, Instr.sureAddr, Sem.run_bind, Sem.run_pure, Result.andThen_ok, run_loadVar_row w g t ty cs fr d hg hu hd hi]
/-- An act and a message in boxes, and the tables. -/
structure BoxT (w U : World) (a : Ax) (m : Ms) : Prop where
  hA : U.heap[w.heap.size]? = some (.cells (xcells a).toArray 32 (0, 0))
  hB : U.heap[w.heap.size + 1]? = some (.cells (mcells m).toArray 30 (0, 0))
  tab : Tab U
  kinds : Kinds U
  bel : Below w.heap.size w U
theorem BoxT.go {w U V : World} {a : Ax} {m : Ms} (h : BoxT w U a m) (b : Below U.heap.size U V) : BoxT w V a m :=
  ⟨(b.block _ (Array.getElem?_eq_some_iff.1 h.hA).1).trans h.hA, (b.block _ (Array.getElem?_eq_some_iff.1 h.hB).1).trans h.hB, h.tab.below b h.tab.pos, h.kinds.below b, keptW h.bel b⟩
theorem BoxT.drew {w U : World} {a : Ax} {m : Ms} (h : BoxT w U a m) : BoxT w U.drew a m := h.go (drew_below U)
theorem boxT_new (w : World) (a : Ax) (m : Ms) (ht : Tab w) (hK : Kinds w) : BoxT w ((w.alloc (.cells (xcells a).toArray 32)).alloc (.cells (mcells m).toArray 30)) a m := by
  have b := keptW (box_below w (.cells (xcells a).toArray 32)) (box_below _ (.cells (mcells m).toArray 30))
  exact ⟨heap_alloc2_old w _ _, heap_alloc2_new w _ _, ht.below b ht.pos, hK.below b, b⟩
def Ms.Sum (m : Ms) : Prop := m.ex.size + m.key.size + m.body.size ≤ 9223372036854775807
set_option maxRecDepth 20000 in
set_option maxHeartbeats 8000000 in
theorem tells_law (a : Ax) (m : Ms) (w0 : World) (ht : Tab w0) (hK : Kinds w0) (ha : a.Fits) (hm : m.Fits) (has : a.Sum) (hms : m.Sum) :
    Calls Tryd.prog 3 #[av a, mv m] w0 fun e w' => e = .returned (.bool true) ∧ Below w0.heap.size w0 w' := by
  have mixed : Tryd.prog.follows .mixedOrders = true := by kernel_rfl
  have hN := boxT_new w0 a m ht hK
  obtain ⟨W, fold⟩ : ∃ W, (w0.alloc (.cells #[.int .i64 a.kind, .string a.name, .int .i64 a.n, .int .u64 a.tag, .int .i64 a.to, .string a.xn, .int .i64 a.xk, .bool a.xf, .string a.be, .string a.bq, .string a.bp, .int .i64 a.m.origin, .int .u64 a.m.seq, .int .i64 a.m.hop, .string a.m.ex, .string a.m.key, .string a.m.body] 32)).alloc (.cells #[.int .i64 m.origin, .int .u64 m.seq, .int .i64 m.hop, .string m.ex, .string m.key, .string m.body] 30) = W := ⟨_, rfl⟩
  have hN : BoxT w0 W a m := by rw [← fold]; exact hN
  have HB0 : Hid (BoxT w0 W a m) := hN
  have hG := great_any a W has
  have HA : Hid (a.Fits ∧ m.Fits) := ⟨ha, hm⟩
  have HM : Hid m.Sum := hms
  clear ht hK ha hm has hms hN
  go_enter Tryd.func3, Tryd.ntmps3
  go_wp2_with (first | refine wpList_load_row rfl 32 _ rfl w0.heap.size rfl 32 (xcells a).toArray (0, 0) _ HB0.out.hA Tryd.underlying32 rfl info17 ?_ | refine wpList_load_row rfl 32 _ rfl w0.heap.size rfl 32 (xcells a).toArray (0, 0) _ (show ((w0.alloc (.cells #[.int .i64 a.kind, .string a.name, .int .i64 a.n, .int .u64 a.tag, .int .i64 a.to, .string a.xn, .int .i64 a.xk, .bool a.xf, .string a.be, .string a.bq, .string a.bp, .int .i64 a.m.origin, .int .u64 a.m.seq, .int .i64 a.m.hop, .string a.m.ex, .string a.m.key, .string a.m.body] 32)).alloc (.cells #[.int .i64 m.origin, .int .u64 m.seq, .int .i64 m.hop, .string m.ex, .string m.key, .string m.body] 30)).heap[w0.heap.size]? = _ from by rw [fold]; exact HB0.out.hA) Tryd.underlying32 rfl info17 ?_)
  try rw [fold]
  refine hG.mono ?_
  rintro e V ⟨rfl, b1⟩
  clear hG
  have HB : Hid (BoxT w0 V a m) := HB0.out.go b1
  have hL := lives_any V HB.out.tab HB.out.kinds
  clear b1 HB0
  cases hg : greatB a
  rotate_left
  · clear hg
    go_wp2_with fail
    refine hL.mono ?_
    rintro e V2 ⟨rfl, b2⟩
    have HE : Hid (Below w0.heap.size w0 V2) := keptW HB.out.bel b2
    clear hL b2
    go_wp2
    go_ret
    exact ⟨rfl, HE.out⟩
  obtain ⟨c0, c1, c2, c3, c4, c5⟩ := cells6 HB.out.hB
  have HG : Hid (greatB a = false) := hg
  clear hg
  have w1 : IntKind.i64.wrap ((m.ex.size : Int) + m.key.size) = (m.ex.size : Int) + m.key.size := by have h := HM.out; unfold Ms.Sum at h; rw [IntKind.wrap_i64]; omega
  have w2 : IntKind.i64.wrap ((m.ex.size : Int) + m.key.size + m.body.size) = (m.ex.size : Int) + m.key.size + m.body.size := by have h := HM.out; unfold Ms.Sum at h; rw [IntKind.wrap_i64]; omega
  by_cases hbig : (3000 : Int) < (m.ex.size : Int) + m.key.size + m.body.size
  · go_wp2_with fail
    refine hL.mono ?_
    rintro e V2 ⟨rfl, b2⟩
    have HE : Hid (Below w0.heap.size w0 V2) := keptW HB.out.bel b2
    clear hL b2
    go_wp2
    go_ret
    exact ⟨rfl, HE.out⟩
  · have HH : Hid (a.Fits ∧ m.Fits ∧ m.Short) := ⟨HA.out.1, HA.out.2, by unfold Ms.Short; omega⟩
    clear hL
    go_wp2
    clear c0 c1 c2 c3 c4 c5 w1 w2 hbig
    refine wp_region_noPanic ?_
    refine wp_region_held_drew (S := fun U => BoxT w0 U a m) (by kernel_rfl) (HB.out.drew) (fun hHeld => ?_)
    refine wpAnyH_take (i := 0) (v := av a) (by simp only [List.getElem?_toArray, List.getElem?_cons_zero]; rfl) (by kernel_rfl) (by kernel_rfl) (by kernel_rfl) (fun _ _ _ h => h) (Or.inl ⟨by rfl, fun w h => exec_load_row 32 _ rfl w0.heap.size rfl 32 #[.int .i64 a.kind, .string a.name, .int .i64 a.n, .int .u64 a.tag, .int .i64 a.to, .string a.xn, .int .i64 a.xk, .bool a.xf, .string a.be, .string a.bq, .string a.bp, .int .i64 a.m.origin, .int .u64 a.m.seq, .int .i64 a.m.hop, .string a.m.ex, .string a.m.key, .string a.m.body] (0, 0) _ h.hA Tryd.underlying32 rfl info17⟩) (by assumption) ?_
    try simp only [Act.put, List.setIfInBounds_toArray, List.set_cons_zero, List.set_cons_succ]
    refine wpAnyH_take (i := 2) (v := av a) (by simp only [List.getElem?_toArray, List.getElem?_cons_succ, List.getElem?_cons_zero]; rfl) (by kernel_rfl) (by kernel_rfl) (by kernel_rfl) (fun _ _ _ h => h) (Or.inl ⟨by rfl, fun w h => exec_load_row 32 _ rfl w0.heap.size rfl 32 #[.int .i64 a.kind, .string a.name, .int .i64 a.n, .int .u64 a.tag, .int .i64 a.to, .string a.xn, .int .i64 a.xk, .bool a.xf, .string a.be, .string a.bq, .string a.bp, .int .i64 a.m.origin, .int .u64 a.m.seq, .int .i64 a.m.hop, .string a.m.ex, .string a.m.key, .string a.m.body] (0, 0) _ h.hA Tryd.underlying32 rfl info17⟩) (by assumption) ?_
    try simp only [Act.put, List.setIfInBounds_toArray, List.set_cons_zero, List.set_cons_succ]
    refine wpAnyH_ready (rs := [1]) (by kernel_rfl) (by simp) ?_
    refine AllReadyH.cons rfl (fun K hK => ?_) AllReadyH.nil
    have HS1 : Hid _ := hHeld
    clear hHeld
    go_simp
    refine (goodA_any a _ HS1.out.kinds HH.out.1).mono ?_
    rintro e U1 ⟨rfl, b1⟩
    have N1 : BoxT w0 U1 a m := HS1.out.go b1
    clear b1
    dsimp only
    refine hK.out _ _ (N1) (fun hHeld => ?_)
    clear hK K
    try simp only [Act.put, List.setIfInBounds_toArray, List.set_cons_zero, List.set_cons_succ]
    refine wpAnyH_ready (rs := [3]) (by kernel_rfl) (by simp) ?_
    refine AllReadyH.cons rfl (fun K hK => ?_) AllReadyH.nil
    have HS3 : Hid _ := hHeld
    clear hHeld
    go_simp
    refine (rgoodA_any a _ HH.out.1).mono ?_
    rintro e U3 ⟨rfl, b3⟩
    have N3 : BoxT w0 U3 a m := HS3.out.go b3
    clear b3
    dsimp only
    refine hK.out _ _ (N3) (fun hHeld => ?_)
    clear hK K
    try simp only [Act.put, List.setIfInBounds_toArray, List.set_cons_zero, List.set_cons_succ]
    refine wpAnyH_take (i := 4) (v := .bool true) (by simp only [List.getElem?_toArray, List.getElem?_cons_succ, List.getElem?_cons_zero]; rfl) (by kernel_rfl) (by kernel_rfl) (by kernel_rfl) (fun _ _ _ h => h) (Or.inl ⟨by rfl, ?_⟩) (by assumption) ?_
    · (intro wq hSq; clear hSq; go_simp; try with_reducible rfl)
    try simp only [Act.put, List.setIfInBounds_toArray, List.set_cons_zero, List.set_cons_succ]
    refine wpAnyH_take (i := 5) (v := ?_) (by simp only [List.getElem?_toArray, List.getElem?_cons_succ, List.getElem?_cons_zero]; rfl) (by kernel_rfl) (by kernel_rfl) (by kernel_rfl) (fun _ _ _ h => h) (Or.inl ⟨by rfl, ?_⟩) (by assumption) ?_
    rotate_left
    · (intro wq hSq; clear hSq; go_simp; try with_reducible rfl)
    try simp only [Act.put, List.setIfInBounds_toArray, List.set_cons_zero, List.set_cons_succ]
    refine wpAnyH_take (i := 6) (v := mv m) (by simp only [List.getElem?_toArray, List.getElem?_cons_succ, List.getElem?_cons_zero]; rfl) (by kernel_rfl) (by kernel_rfl) (by kernel_rfl) (fun _ _ _ h => h) (Or.inl ⟨by rfl, fun w h => exec_load_row 30 _ rfl (w0.heap.size + 1) rfl 30 #[.int .i64 m.origin, .int .u64 m.seq, .int .i64 m.hop, .string m.ex, .string m.key, .string m.body] (0, 0) _ h.hB Tryd.underlying30 rfl info6⟩) (by assumption) ?_
    try simp only [Act.put, List.setIfInBounds_toArray, List.set_cons_zero, List.set_cons_succ]
    refine wpAnyH_take (i := 8) (v := mv m) (by simp only [List.getElem?_toArray, List.getElem?_cons_succ, List.getElem?_cons_zero]; rfl) (by kernel_rfl) (by kernel_rfl) (by kernel_rfl) (fun _ _ _ h => h) (Or.inl ⟨by rfl, fun w h => exec_load_row 30 _ rfl (w0.heap.size + 1) rfl 30 #[.int .i64 m.origin, .int .u64 m.seq, .int .i64 m.hop, .string m.ex, .string m.key, .string m.body] (0, 0) _ h.hB Tryd.underlying30 rfl info6⟩) (by assumption) ?_
    try simp only [Act.put, List.setIfInBounds_toArray, List.set_cons_zero, List.set_cons_succ]
    refine wpAnyH_ready (rs := [7]) (by kernel_rfl) (by simp) ?_
    refine AllReadyH.cons rfl (fun K hK => ?_) AllReadyH.nil
    have HS7 : Hid _ := hHeld
    clear hHeld
    go_simp
    refine (goodM_any m _ HH.out.2.1).mono ?_
    rintro e U7 ⟨rfl, b7⟩
    have N7 : BoxT w0 U7 a m := HS7.out.go b7
    clear b7
    dsimp only
    refine hK.out _ _ (N7) (fun hHeld => ?_)
    clear hK K
    try simp only [Act.put, List.setIfInBounds_toArray, List.set_cons_zero, List.set_cons_succ]
    refine wpAnyH_ready (rs := [9]) (by kernel_rfl) (by simp) ?_
    refine AllReadyH.cons rfl (fun K hK => ?_) AllReadyH.nil
    have HS9 : Hid _ := hHeld
    clear hHeld
    go_simp
    refine (rgoodM_any m _ HH.out.2.1).mono ?_
    rintro e U9 ⟨rfl, b9⟩
    have N9 : BoxT w0 U9 a m := HS9.out.go b9
    clear b9
    dsimp only
    refine hK.out _ _ (N9) (fun hHeld => ?_)
    clear hK K
    try simp only [Act.put, List.setIfInBounds_toArray, List.set_cons_zero, List.set_cons_succ]
    refine wpAnyH_take (i := 10) (v := .bool true) (by simp only [List.getElem?_toArray, List.getElem?_cons_succ, List.getElem?_cons_zero]; rfl) (by kernel_rfl) (by kernel_rfl) (by kernel_rfl) (fun _ _ _ h => h) (Or.inl ⟨by rfl, ?_⟩) (by assumption) ?_
    · (intro wq hSq; clear hSq; go_simp; try with_reducible rfl)
    try simp only [Act.put, List.setIfInBounds_toArray, List.set_cons_zero, List.set_cons_succ]
    refine wpAnyH_take (i := 11) (v := ?_) (by simp only [List.getElem?_toArray, List.getElem?_cons_succ, List.getElem?_cons_zero]; rfl) (by kernel_rfl) (by kernel_rfl) (by kernel_rfl) (fun _ _ _ h => h) (Or.inl ⟨by rfl, ?_⟩) (by assumption) ?_
    rotate_left
    · (intro wq hSq; clear hSq; go_simp; try with_reducible rfl)
    try simp only [Act.put, List.setIfInBounds_toArray, List.set_cons_zero, List.set_cons_succ]
    refine wpAnyH_take (i := 12) (v := ?_) (by simp only [List.getElem?_toArray, List.getElem?_cons_succ, List.getElem?_cons_zero]; rfl) (by kernel_rfl) (by kernel_rfl) (by kernel_rfl) (fun _ _ _ h => h) (Or.inl ⟨by rfl, ?_⟩) (by assumption) ?_
    rotate_left
    · (intro wq hSq; clear hSq; go_simp; try with_reducible rfl)
    try simp only [Act.put, List.setIfInBounds_toArray, List.set_cons_zero, List.set_cons_succ]
    refine wpAnyH_take (i := 13) (v := av a) (by simp only [List.getElem?_toArray, List.getElem?_cons_succ, List.getElem?_cons_zero]; rfl) (by kernel_rfl) (by kernel_rfl) (by kernel_rfl) (fun _ _ _ h => h) (Or.inl ⟨by rfl, fun w h => exec_load_row 32 _ rfl w0.heap.size rfl 32 #[.int .i64 a.kind, .string a.name, .int .i64 a.n, .int .u64 a.tag, .int .i64 a.to, .string a.xn, .int .i64 a.xk, .bool a.xf, .string a.be, .string a.bq, .string a.bp, .int .i64 a.m.origin, .int .u64 a.m.seq, .int .i64 a.m.hop, .string a.m.ex, .string a.m.key, .string a.m.body] (0, 0) _ h.hA Tryd.underlying32 rfl info17⟩) (by assumption) ?_
    try simp only [Act.put, List.setIfInBounds_toArray, List.set_cons_zero, List.set_cons_succ]
    refine wpAnyH_take (i := 15) (v := av a) (by simp only [List.getElem?_toArray, List.getElem?_cons_succ, List.getElem?_cons_zero]; rfl) (by kernel_rfl) (by kernel_rfl) (by kernel_rfl) (fun _ _ _ h => h) (Or.inl ⟨by rfl, fun w h => exec_load_row 32 _ rfl w0.heap.size rfl 32 #[.int .i64 a.kind, .string a.name, .int .i64 a.n, .int .u64 a.tag, .int .i64 a.to, .string a.xn, .int .i64 a.xk, .bool a.xf, .string a.be, .string a.bq, .string a.bp, .int .i64 a.m.origin, .int .u64 a.m.seq, .int .i64 a.m.hop, .string a.m.ex, .string a.m.key, .string a.m.body] (0, 0) _ h.hA Tryd.underlying32 rfl info17⟩) (by assumption) ?_
    try simp only [Act.put, List.setIfInBounds_toArray, List.set_cons_zero, List.set_cons_succ]
    refine wpAnyH_ready (rs := [14]) (by kernel_rfl) (by simp) ?_
    refine AllReadyH.cons rfl (fun K hK => ?_) AllReadyH.nil
    have HS14 : Hid _ := hHeld
    clear hHeld
    go_simp
    refine (bytesA_any a _ HS14.out.tab HS14.out.kinds HH.out.1).mono ?_
    rintro e U14 ⟨v14, rfl, o14, g14, z14⟩
    have N14 : BoxT w0 U14 a m := HS14.out.go (below_of_grown g14)
    have O14 : Hid (Holds U14 v14 (bytesA a)) := o14.holds
    clear o14 g14 z14
    dsimp only
    refine hK.out _ _ (N14) (fun hHeld => ?_)
    clear hK K
    try simp only [Act.put, List.setIfInBounds_toArray, List.set_cons_zero, List.set_cons_succ]
    refine wpAnyH_ready (rs := [16]) (by kernel_rfl) (by simp) ?_
    refine AllReadyH.cons rfl (fun K hK => ?_) AllReadyH.nil
    have HS16 : Hid _ := hHeld
    clear hHeld
    go_simp
    refine (rbytesA_any a _ HH.out.1).mono ?_
    rintro e U16 ⟨v16, rfl, o16, g16, z16⟩
    have N16 : BoxT w0 U16 a m := HS16.out.go (below_of_grown g16)
    have O16 : Hid (Holds U16 v16 (bytesA a) ∧ Holds U16 v14 (bytesA a)) := ⟨o16.holds, O14.out.below (below_of_grown g16) (Nat.le_refl _)⟩
    clear o16 g16 z16
    dsimp only
    refine hK.out _ _ (N16) (fun hHeld => ?_)
    clear hK K
    try simp only [Act.put, List.setIfInBounds_toArray, List.set_cons_zero, List.set_cons_succ]
    refine wpAnyH_ready (rs := [17]) (by kernel_rfl) (by simp) ?_
    refine AllReadyH.cons rfl (fun K hK => ?_) AllReadyH.nil
    have HS17 : Hid _ := hHeld
    clear hHeld
    go_simp
    have hS17 := same_any v14 v16 _ _ U16 O16.out.2 O16.out.1
    rw [beq_self_eq_true] at hS17
    refine hS17.mono ?_
    rintro e U17 ⟨rfl, hU17⟩
    subst hU17
    clear hS17
    dsimp only
    refine hK.out _ _ (HS17.out) (fun hHeld => ?_)
    clear hK K
    try simp only [Act.put, List.setIfInBounds_toArray, List.set_cons_zero, List.set_cons_succ]
    refine wpAnyH_take (i := 18) (v := ?_) (by simp only [List.getElem?_toArray, List.getElem?_cons_succ, List.getElem?_cons_zero]; rfl) (by kernel_rfl) (by kernel_rfl) (by kernel_rfl) (fun _ _ _ h => h) (Or.inl ⟨by rfl, ?_⟩) (by assumption) ?_
    rotate_left
    · (intro wq hSq; clear hSq; go_simp; try with_reducible rfl)
    try simp only [Act.put, List.setIfInBounds_toArray, List.set_cons_zero, List.set_cons_succ]
    refine wpAnyH_take (i := 19) (v := ?_) (by simp only [List.getElem?_toArray, List.getElem?_cons_succ, List.getElem?_cons_zero]; rfl) (by kernel_rfl) (by kernel_rfl) (by kernel_rfl) (fun _ _ _ h => h) (Or.inl ⟨by rfl, ?_⟩) (by assumption) ?_
    rotate_left
    · (intro wq hSq; clear hSq; go_simp; try with_reducible rfl)
    try simp only [Act.put, List.setIfInBounds_toArray, List.set_cons_zero, List.set_cons_succ]
    refine wpAnyH_take (i := 20) (v := mv m) (by simp only [List.getElem?_toArray, List.getElem?_cons_succ, List.getElem?_cons_zero]; rfl) (by kernel_rfl) (by kernel_rfl) (by kernel_rfl) (fun _ _ _ h => h) (Or.inl ⟨by rfl, fun w h => exec_load_row 30 _ rfl (w0.heap.size + 1) rfl 30 #[.int .i64 m.origin, .int .u64 m.seq, .int .i64 m.hop, .string m.ex, .string m.key, .string m.body] (0, 0) _ h.hB Tryd.underlying30 rfl info6⟩) (by assumption) ?_
    try simp only [Act.put, List.setIfInBounds_toArray, List.set_cons_zero, List.set_cons_succ]
    refine wpAnyH_take (i := 22) (v := mv m) (by simp only [List.getElem?_toArray, List.getElem?_cons_succ, List.getElem?_cons_zero]; rfl) (by kernel_rfl) (by kernel_rfl) (by kernel_rfl) (fun _ _ _ h => h) (Or.inl ⟨by rfl, fun w h => exec_load_row 30 _ rfl (w0.heap.size + 1) rfl 30 #[.int .i64 m.origin, .int .u64 m.seq, .int .i64 m.hop, .string m.ex, .string m.key, .string m.body] (0, 0) _ h.hB Tryd.underlying30 rfl info6⟩) (by assumption) ?_
    try simp only [Act.put, List.setIfInBounds_toArray, List.set_cons_zero, List.set_cons_succ]
    refine wpAnyH_ready (rs := [21]) (by kernel_rfl) (by simp) ?_
    refine AllReadyH.cons rfl (fun K hK => ?_) AllReadyH.nil
    have HS21 : Hid _ := hHeld
    clear hHeld
    go_simp
    refine (msgBytes_any m _ HS21.out.tab HH.out.2.1 HH.out.2.2).mono ?_
    rintro e U21 ⟨v21, rfl, o21, b21⟩
    have N21 : BoxT w0 U21 a m := HS21.out.go b21
    have O21 : Hid (Holds U21 v21 (bytesM m)) := o21.holds
    clear o21 b21
    dsimp only
    refine hK.out _ _ (N21) (fun hHeld => ?_)
    clear hK K
    try simp only [Act.put, List.setIfInBounds_toArray, List.set_cons_zero, List.set_cons_succ]
    refine wpAnyH_ready (rs := [23]) (by kernel_rfl) (by simp) ?_
    refine AllReadyH.cons rfl (fun K hK => ?_) AllReadyH.nil
    have HS23 : Hid _ := hHeld
    clear hHeld
    go_simp
    refine (rmsg_any (.slice none 0 0) [] m _ (.inl ⟨rfl, rfl⟩) (by simp) HH.out.2.1 HH.out.2.2).mono ?_
    rintro e U23 ⟨v23, rfl, o23, b23⟩
    have N23 : BoxT w0 U23 a m := HS23.out.go b23
    have O23 : Hid (Holds U23 v23 (bytesM m) ∧ Holds U23 v21 (bytesM m)) := ⟨by have h := o23.holds; rw [List.nil_append] at h; exact h, O21.out.below b23 (Nat.le_refl _)⟩
    clear o23 b23
    dsimp only
    refine hK.out _ _ (N23) (fun hHeld => ?_)
    clear hK K
    try simp only [Act.put, List.setIfInBounds_toArray, List.set_cons_zero, List.set_cons_succ]
    refine wpAnyH_ready (rs := [24]) (by kernel_rfl) (by simp) ?_
    refine AllReadyH.cons rfl (fun K hK => ?_) AllReadyH.nil
    have HS24 : Hid _ := hHeld
    clear hHeld
    go_simp
    have hS24 := same_any v21 v23 _ _ U23 O23.out.2 O23.out.1
    rw [beq_self_eq_true] at hS24
    refine hS24.mono ?_
    rintro e U24 ⟨rfl, hU24⟩
    subst hU24
    clear hS24
    dsimp only
    refine hK.out _ _ (HS24.out) (fun hHeld => ?_)
    clear hK K
    try simp only [Act.put, List.setIfInBounds_toArray, List.set_cons_zero, List.set_cons_succ]
    refine wpAnyH_take (i := 25) (v := ?_) (by simp only [List.getElem?_toArray, List.getElem?_cons_succ, List.getElem?_cons_zero]; rfl) (by kernel_rfl) (by kernel_rfl) (by kernel_rfl) (fun _ _ _ h => h) (Or.inl ⟨by rfl, ?_⟩) (by assumption) ?_
    rotate_left
    · (intro wq hSq; clear hSq; go_simp; try with_reducible rfl)
    try simp only [Act.put, List.setIfInBounds_toArray, List.set_cons_zero, List.set_cons_succ]
    refine wpAnyH_take (i := 26) (v := ?_) (by simp only [List.getElem?_toArray, List.getElem?_cons_succ, List.getElem?_cons_zero]; rfl) (by kernel_rfl) (by kernel_rfl) (by kernel_rfl) (fun _ _ _ h => h) (Or.inl ⟨by rfl, ?_⟩) (by assumption) ?_
    rotate_left
    · (intro wq hSq; clear hSq; go_simp; try with_reducible rfl)
    try simp only [Act.put, List.setIfInBounds_toArray, List.set_cons_zero, List.set_cons_succ]
    refine wpAnyH_ready (rs := [27]) (by kernel_rfl) (by simp) ?_
    refine AllReadyH.cons rfl (fun K hK => ?_) AllReadyH.nil
    have HS27 : Hid _ := hHeld
    clear hHeld
    go_simp
    refine (lives_any _ HS27.out.tab HS27.out.kinds).mono ?_
    rintro e U27 ⟨rfl, b27⟩
    have N27 : BoxT w0 U27 a m := HS27.out.go b27
    clear b27
    dsimp only
    refine hK.out _ _ (N27) (fun hHeld => ?_)
    clear hK K
    try simp only [Act.put, List.setIfInBounds_toArray, List.set_cons_zero, List.set_cons_succ]
    refine wpAnyH_take (i := 28) (v := ?_) (by simp only [List.getElem?_toArray, List.getElem?_cons_succ, List.getElem?_cons_zero]; rfl) (by kernel_rfl) (by kernel_rfl) (by kernel_rfl) (fun _ _ _ h => h) (Or.inl ⟨by rfl, ?_⟩) (by assumption) ?_
    rotate_left
    · (intro wq hSq; clear hSq; go_simp; try with_reducible rfl)
    try simp only [Act.put, List.setIfInBounds_toArray, List.set_cons_zero, List.set_cons_succ]
    refine wpAnyH_take (i := 29) (v := ?_) (by simp only [List.getElem?_toArray, List.getElem?_cons_succ, List.getElem?_cons_zero]; rfl) (by kernel_rfl) (by kernel_rfl) (by kernel_rfl) (fun _ _ _ h => h) (Or.inl ⟨by rfl, ?_⟩) (by assumption) ?_
    rotate_left
    · (intro wq hSq; clear hSq; go_simp; try with_reducible rfl)
    try simp only [Act.put, List.setIfInBounds_toArray, List.set_cons_zero, List.set_cons_succ]
    refine wpAnyH_done (by kernel_rfl) ?_ _
    refine NoPanic.normal ?_
    go_wp2
    go_ret
    exact ⟨rfl, N27.bel⟩
end Go.Proofs.YticbhpnpopmodaaDoor
