/-
  ActApart's law.
-/
import Derived.Test.YticbhpnpopmodaaDoorLawTells13
import Derived.Deep.CutRange
namespace Go.Proofs.YticbhpnpopmodaaDoor
open Go.RowKit

theorem exec_load_at {P : Program} {o : Oper} {a : Act} {w : World} (ty : TypeId) (x : Operand) (ho : o.op = .load ty x)
    (g off : Nat) (hx : a.eval x = .pointer (some ⟨g, off, none⟩)) (cs : List Value) (d : TypeDesc) (hc : ∀ j u, cs[j]? = some u → w.cell? ⟨g, off + j, none⟩ = some u)
    (hu : P.underlying ty = some d) (hd : (match d with | .struct _ | .array _ _ => true | _ => false) = true) (hi : (P.info? ty).map (·.size) = some cs.length) :
    (execOp a.eval o).run P w = .ok (.value (.agg cs.toArray)) w := by
  have hl : (loadCells ⟨g, off, none⟩ cs.length).run P w = .ok cs.toArray w :=
    run_loadCells_list (P := P) w ⟨g, off, none⟩ cs (fun j v hv => by
      have hadd : (⟨g, off, none⟩ : Addr).add j = ⟨g, off + j, none⟩ := by unfold Addr.add; split <;> simp_all
      rw [hadd]
      exact hc j v hv)
  have hlv : (loadVar ty ⟨g, off, none⟩).run P w = .ok (.agg cs.toArray) w := by
    cases hq : P.info? ty with
    | none => simp [hq] at hi
    | some i =>
      have hs : i.size = cs.length := by simpa [hq] using hi
      have hagg : (isAgg ty).run P w = .ok true w := by
        unfold isAgg
        rw [Sem.run_bind, run_underlying hu w]
        cases d <;> simp_all
      simp [loadVar, Sem.run_bind, hagg, sizeOf, typeInfo, hq, hs, hl]
  unfold execOp
  simp only [ho, hx, Instr.loadAt, Instr.sureAddr, Sem.run_bind, Sem.run_pure, Result.andThen_ok, hlv]
/-- Two acts and two messages in boxes, and the tables. -/
structure BoxP (w U : World) (a b : Ax) (m n : Ms) : Prop where
  hA : U.heap[w.heap.size]? = some (.cells (xcells a).toArray 32 (0, 0))
  hB : U.heap[w.heap.size + 1]? = some (.cells (xcells b).toArray 32 (0, 0))
  hC : U.heap[w.heap.size + 2]? = some (.cells (mcells m ++ mcells n).toArray 60 (0, 0))
  tab : Tab U
  kinds : Kinds U
  bel : Below w.heap.size w U
theorem BoxP.go {w U V : World} {a b : Ax} {m n : Ms} (h : BoxP w U a b m n) (q : Below U.heap.size U V) : BoxP w V a b m n :=
  ⟨(q.block _ (Array.getElem?_eq_some_iff.1 h.hA).1).trans h.hA, (q.block _ (Array.getElem?_eq_some_iff.1 h.hB).1).trans h.hB, (q.block _ (Array.getElem?_eq_some_iff.1 h.hC).1).trans h.hC, h.tab.below q h.tab.pos, h.kinds.below q, keptW h.bel q⟩
theorem BoxP.drew {w U : World} {a b : Ax} {m n : Ms} (h : BoxP w U a b m n) : BoxP w U.drew a b m n := h.go (drew_below U)
theorem BoxP.atM {w U : World} {a b : Ax} {m n : Ms} (h : BoxP w U a b m n) (j : Nat) (u : Value) (hj : (mcells m)[j]? = some u) : U.cell? ⟨w.heap.size + 2, 0 + j, none⟩ = some u := by
  refine box_at h.hC ?_
  rw [Nat.zero_add, List.getElem?_append_left (List.getElem?_eq_some_iff.1 hj).1]
  exact hj
theorem BoxP.atN {w U : World} {a b : Ax} {m n : Ms} (h : BoxP w U a b m n) (j : Nat) (u : Value) (hj : (mcells n)[j]? = some u) : U.cell? ⟨w.heap.size + 2, 6 + j, none⟩ = some u := by
  refine box_at h.hC ?_
  rw [List.getElem?_append_right (by show 6 ≤ 6 + j; omega)]
  rw [show 6 + j - (mcells m).length = j by show 6 + j - 6 = j; omega]
  exact hj
theorem boxP_new (w : World) (a b : Ax) (m n : Ms) (ht : Tab w) (hK : Kinds w) : BoxP w (((w.alloc (.cells (xcells a).toArray 32)).alloc (.cells (xcells b).toArray 32)).alloc (.cells (mcells m ++ mcells n).toArray 60)) a b m n := by
  have b1 := box_below w (.cells (xcells a).toArray 32)
  have b2 := keptW b1 (box_below _ (.cells (xcells b).toArray 32))
  have b3 := box_below ((w.alloc (.cells (xcells a).toArray 32)).alloc (.cells (xcells b).toArray 32)) (.cells (mcells m ++ mcells n).toArray 60)
  have h1 := heap_alloc2_old w (.cells (xcells a).toArray 32) (.cells (xcells b).toArray 32)
  have h2 := heap_alloc2_new w (.cells (xcells a).toArray 32) (.cells (xcells b).toArray 32)
  have h3 := heap_alloc_new ((w.alloc (.cells (xcells a).toArray 32)).alloc (.cells (xcells b).toArray 32)) (.cells (mcells m ++ mcells n).toArray 60)
  have hs : ((w.alloc (.cells (xcells a).toArray 32)).alloc (.cells (xcells b).toArray 32)).heap.size = w.heap.size + 2 := by rw [World.size_alloc, World.size_alloc]
  rw [hs] at h3
  have bb := keptW b2 b3
  exact ⟨(b3.block _ (by omega)).trans h1, (b3.block _ (by omega)).trans h2, h3, ht.below bb ht.pos, hK.below bb, bb⟩
set_option maxRecDepth 20000 in
set_option maxHeartbeats 8000000 in
theorem apart_law (a b : Ax) (m n : Ms) (w0 : World) (ht : Tab w0) (hK : Kinds w0) (ha : a.Fits) (hb : b.Fits) (hm : m.Fits) (hn : n.Fits) (has : a.Sum) (hbs : b.Sum) (hms : m.Sum) (hns : n.Sum) :
    Calls Tryd.prog 7 #[av a, av b, .agg #[.int .i64 m.origin, .int .u64 m.seq, .int .i64 m.hop, .string m.ex, .string m.key, .string m.body, .int .i64 n.origin, .int .u64 n.seq, .int .i64 n.hop, .string n.ex, .string n.key, .string n.body]] w0 fun e w' => e = .returned (.bool true) ∧ Below w0.heap.size w0 w' := by
  have hN := boxP_new w0 a b m n ht hK
  obtain ⟨W, fold⟩ : ∃ W, ((w0.alloc (.cells #[.int .i64 a.kind, .string a.name, .int .i64 a.n, .int .u64 a.tag, .int .i64 a.to, .string a.xn, .int .i64 a.xk, .bool a.xf, .string a.be, .string a.bq, .string a.bp, .int .i64 a.m.origin, .int .u64 a.m.seq, .int .i64 a.m.hop, .string a.m.ex, .string a.m.key, .string a.m.body] 32)).alloc (.cells #[.int .i64 b.kind, .string b.name, .int .i64 b.n, .int .u64 b.tag, .int .i64 b.to, .string b.xn, .int .i64 b.xk, .bool b.xf, .string b.be, .string b.bq, .string b.bp, .int .i64 b.m.origin, .int .u64 b.m.seq, .int .i64 b.m.hop, .string b.m.ex, .string b.m.key, .string b.m.body] 32)).alloc (.cells #[.int .i64 m.origin, .int .u64 m.seq, .int .i64 m.hop, .string m.ex, .string m.key, .string m.body, .int .i64 n.origin, .int .u64 n.seq, .int .i64 n.hop, .string n.ex, .string n.key, .string n.body] 60) = W := ⟨_, rfl⟩
  have hN : BoxP w0 W a b m n := by rw [← fold]; exact hN
  have HB0 : Hid (BoxP w0 W a b m n) := hN
  have HA : Hid ((a.Fits ∧ b.Fits ∧ m.Fits ∧ n.Fits) ∧ (a.Sum ∧ b.Sum ∧ m.Sum ∧ n.Sum)) := ⟨⟨ha, hb, hm, hn⟩, has, hbs, hms, hns⟩
  have hG := great_any a W has
  clear ht hK ha hb hm hn has hbs hms hns hN
  go_enter Tryd.func7, Tryd.ntmps7
  go_wp2_with (refine wpList_load_row rfl 32 _ rfl w0.heap.size rfl 32 (xcells a).toArray (0, 0) _ HB0.out.hA Tryd.underlying32 rfl info17 ?_)
  try rw [fold]
  refine hG.mono ?_
  rintro e V ⟨rfl, b1⟩
  clear hG
  have HB1 : Hid (BoxP w0 V a b m n) := HB0.out.go b1
  have hL := lives_any V HB1.out.tab HB1.out.kinds
  clear b1 HB0
  cases hg : greatB a
  rotate_left
  · clear hg
    go_wp2_with fail
    refine hL.mono ?_
    rintro e V2 ⟨rfl, b2⟩
    have HE : Hid (Below w0.heap.size w0 V2) := keptW HB1.out.bel b2
    clear hL b2
    go_wp2
    go_ret
    exact ⟨rfl, HE.out⟩
  clear hg hL
  have hG := great_any b V HA.out.2.2.1
  go_wp2_with (refine wpList_load_rowG (by rfl) 32 _ rfl (w0.heap.size + 1) rfl 32 (xcells b).toArray (0, 0) _ HB1.out.hB Tryd.underlying32 rfl info17 ?_)
  refine hG.mono ?_
  rintro e V3 ⟨rfl, b1⟩
  clear hG
  have HB2 : Hid (BoxP w0 V3 a b m n) := HB1.out.go b1
  have hL := lives_any V3 HB2.out.tab HB2.out.kinds
  clear b1 HB1
  cases hg : greatB b
  rotate_left
  · clear hg
    go_wp2_with fail
    refine hL.mono ?_
    rintro e V2 ⟨rfl, b2⟩
    have HE : Hid (Below w0.heap.size w0 V2) := keptW HB2.out.bel b2
    clear hL b2
    go_wp2
    go_ret
    exact ⟨rfl, HE.out⟩
  clear hg hL
  have c0 : V3.cell? ⟨w0.heap.size + 2, 0, none⟩ = some (.int .i64 m.origin) := HB2.out.atM 0 _ rfl
  have c1 : V3.cell? ⟨w0.heap.size + 2, 1, none⟩ = some (.int .u64 m.seq) := HB2.out.atM 1 _ rfl
  have c2 : V3.cell? ⟨w0.heap.size + 2, 2, none⟩ = some (.int .i64 m.hop) := HB2.out.atM 2 _ rfl
  have c3 : V3.cell? ⟨w0.heap.size + 2, 3, none⟩ = some (.string m.ex) := HB2.out.atM 3 _ rfl
  have c4 : V3.cell? ⟨w0.heap.size + 2, 4, none⟩ = some (.string m.key) := HB2.out.atM 4 _ rfl
  have c5 : V3.cell? ⟨w0.heap.size + 2, 5, none⟩ = some (.string m.body) := HB2.out.atM 5 _ rfl
  have hG := great_any { zA 0 with m := m } V3 (by have h := HA.out.2.2.2.1; unfold Ms.Sum at h; show 0 + 0 + 0 + 0 + 0 + m.ex.size + m.key.size + m.body.size ≤ _; omega)
  go_wp2_with fail
  refine hG.mono ?_
  rintro e V4 ⟨rfl, b1⟩
  clear hG c0 c1 c2 c3 c4 c5
  have HB3 : Hid (BoxP w0 V4 a b m n) := HB2.out.go b1
  have hL := lives_any V4 HB3.out.tab HB3.out.kinds
  clear b1 HB2
  cases hg : greatB { zA 0 with m := m }
  rotate_left
  · clear hg
    go_wp2_with fail
    refine hL.mono ?_
    rintro e V2 ⟨rfl, b2⟩
    have HE : Hid (Below w0.heap.size w0 V2) := keptW HB3.out.bel b2
    clear hL b2
    go_wp2
    go_ret
    exact ⟨rfl, HE.out⟩
  have SM : Hid m.Short := by
    have h := hg
    unfold greatB bulk at h
    rw [decide_eq_false_iff_not] at h
    have h2 : ¬ 3000 < 0 + 0 + 0 + 0 + 0 + m.ex.size + m.key.size + m.body.size := h
    show m.ex.size ≤ 65535 ∧ m.key.size ≤ 65535 ∧ m.body.size ≤ 65535
    omega
  clear hg hL
  have c0 : V4.cell? ⟨w0.heap.size + 2, 6, none⟩ = some (.int .i64 n.origin) := HB3.out.atN 0 _ rfl
  have c1 : V4.cell? ⟨w0.heap.size + 2, 7, none⟩ = some (.int .u64 n.seq) := HB3.out.atN 1 _ rfl
  have c2 : V4.cell? ⟨w0.heap.size + 2, 8, none⟩ = some (.int .i64 n.hop) := HB3.out.atN 2 _ rfl
  have c3 : V4.cell? ⟨w0.heap.size + 2, 9, none⟩ = some (.string n.ex) := HB3.out.atN 3 _ rfl
  have c4 : V4.cell? ⟨w0.heap.size + 2, 10, none⟩ = some (.string n.key) := HB3.out.atN 4 _ rfl
  have c5 : V4.cell? ⟨w0.heap.size + 2, 11, none⟩ = some (.string n.body) := HB3.out.atN 5 _ rfl
  have hG := great_any { zA 0 with m := n } V4 (by have h := HA.out.2.2.2.2; unfold Ms.Sum at h; show 0 + 0 + 0 + 0 + 0 + n.ex.size + n.key.size + n.body.size ≤ _; omega)
  go_wp2_with fail
  refine hG.mono ?_
  rintro e V5 ⟨rfl, b1⟩
  clear hG c0 c1 c2 c3 c4 c5
  have HB4 : Hid (BoxP w0 V5 a b m n) := HB3.out.go b1
  have hL := lives_any V5 HB4.out.tab HB4.out.kinds
  clear b1 HB3
  cases hg : greatB { zA 0 with m := n }
  rotate_left
  · clear hg
    go_wp2_with fail
    refine hL.mono ?_
    rintro e V2 ⟨rfl, b2⟩
    have HE : Hid (Below w0.heap.size w0 V2) := keptW HB4.out.bel b2
    clear hL b2
    go_wp2
    go_ret
    exact ⟨rfl, HE.out⟩
  have SN : Hid n.Short := by
    have h := hg
    unfold greatB bulk at h
    rw [decide_eq_false_iff_not] at h
    have h2 : ¬ 3000 < 0 + 0 + 0 + 0 + 0 + n.ex.size + n.key.size + n.body.size := h
    show n.ex.size ≤ 65535 ∧ n.key.size ≤ 65535 ∧ n.body.size ≤ 65535
    omega
  clear hg hL
  have HH : Hid (a.Fits ∧ b.Fits ∧ m.Fits ∧ n.Fits ∧ m.Short ∧ n.Short) := ⟨HA.out.1.1, HA.out.1.2.1, HA.out.1.2.2.1, HA.out.1.2.2.2, SM.out, SN.out⟩
  go_wp2
  go_cut [42] from 26 to 42 (fun u42 wx => u42 = .bool false ∧ BoxP w0 wx a b m n)
  case first =>
    have hGa := fun U (hk : Kinds U) => goodA_any a U hk HH.out.1
    have hGb := fun U (hk : Kinds U) => goodA_any b U hk HH.out.2.1
    cases ga : goodA a
    · rw [ga] at hGa
      clear ga hGb
      refine wp_region_noPanic ?_
      refine wp_region_held_drew (S := fun U => BoxP w0 U a b m n) (by kernel_rfl) (HB4.out.drew) (fun hHeld => ?_)
      refine wpAnyH_take (i := 0) (v := av a) (by simp only [List.getElem?_toArray, List.getElem?_cons_zero]; rfl) (by kernel_rfl) (by kernel_rfl) (by kernel_rfl) (fun _ _ _ h => h) (Or.inl ⟨by rfl, fun w h => exec_load_row 32 _ rfl w0.heap.size rfl 32 #[.int .i64 a.kind, .string a.name, .int .i64 a.n, .int .u64 a.tag, .int .i64 a.to, .string a.xn, .int .i64 a.xk, .bool a.xf, .string a.be, .string a.bq, .string a.bp, .int .i64 a.m.origin, .int .u64 a.m.seq, .int .i64 a.m.hop, .string a.m.ex, .string a.m.key, .string a.m.body] (0, 0) _ h.hA Tryd.underlying32 rfl info17⟩) (by assumption) ?_
      try simp only [Act.put, List.setIfInBounds_toArray, List.set_cons_zero, List.set_cons_succ]
      refine wpAnyH_ready (rs := [1]) (by kernel_rfl) (by simp) ?_
      refine AllReadyH.cons rfl (fun K hK => ?_) AllReadyH.nil
      have HS1 : Hid _ := hHeld
      clear hHeld
      go_simp
      refine (hGa _ HS1.out.kinds).mono ?_
      rintro e U1 ⟨rfl, b1⟩
      have N1 : BoxP w0 U1 a b m n := HS1.out.go b1
      clear b1
      dsimp only
      refine hK.out _ _ (N1) (fun hHeld => ?_)
      clear hK K
      try simp only [Act.put, List.setIfInBounds_toArray, List.set_cons_zero, List.set_cons_succ]
      refine wpAnyH_take (i := 2) (v := ?_) (by simp only [List.getElem?_toArray, List.getElem?_cons_succ, List.getElem?_cons_zero]; rfl) (by kernel_rfl) (by kernel_rfl) (by kernel_rfl) (fun _ _ _ h => h) (Or.inl ⟨by rfl, ?_⟩) (by assumption) ?_
      rotate_left
      · (intro wq hSq; clear hSq; go_simp; try with_reducible rfl)
      try simp only [Act.put, List.setIfInBounds_toArray, List.set_cons_zero, List.set_cons_succ]
      refine wpAnyH_take (i := 3) (v := undef) (by simp only [List.getElem?_toArray, List.getElem?_cons_succ, List.getElem?_cons_zero]; rfl) (by kernel_rfl) (by kernel_rfl) (by kernel_rfl) (fun _ _ _ h => h) (Or.inr ⟨by rfl, rfl⟩) (by assumption) ?_
      try simp only [Act.put, List.setIfInBounds_toArray, List.set_cons_zero, List.set_cons_succ]
      refine wpAnyH_take (i := 4) (v := undef) (by simp only [List.getElem?_toArray, List.getElem?_cons_succ, List.getElem?_cons_zero]; rfl) (by kernel_rfl) (by kernel_rfl) (by kernel_rfl) (fun _ _ _ h => h) (Or.inr ⟨by rfl, rfl⟩) (by assumption) ?_
      try simp only [Act.put, List.setIfInBounds_toArray, List.set_cons_zero, List.set_cons_succ]
      refine wpAnyH_take (i := 5) (v := .bool false) (by simp only [List.getElem?_toArray, List.getElem?_cons_succ, List.getElem?_cons_zero]; rfl) (by kernel_rfl) (by kernel_rfl) (by kernel_rfl) (fun _ _ _ h => h) (Or.inl ⟨by rfl, (by intro wq hSq; clear hSq; go_simp)⟩) (by assumption) ?_
      try simp only [Act.put, List.setIfInBounds_toArray, List.set_cons_zero, List.set_cons_succ]
      refine wpAnyH_take (i := 6) (v := ?_) (by simp only [List.getElem?_toArray, List.getElem?_cons_succ, List.getElem?_cons_zero]; rfl) (by kernel_rfl) (by kernel_rfl) (by kernel_rfl) (fun _ _ _ h => h) (Or.inl ⟨by rfl, ?_⟩) (by assumption) ?_
      rotate_left
      · (intro wq hSq; clear hSq; go_simp; try with_reducible rfl)
      try simp only [Act.put, List.setIfInBounds_toArray, List.set_cons_zero, List.set_cons_succ]
      refine wpAnyH_take (i := 7) (v := undef) (by simp only [List.getElem?_toArray, List.getElem?_cons_succ, List.getElem?_cons_zero]; rfl) (by kernel_rfl) (by kernel_rfl) (by kernel_rfl) (fun _ _ _ h => h) (Or.inr ⟨by rfl, rfl⟩) (by assumption) ?_
      try simp only [Act.put, List.setIfInBounds_toArray, List.set_cons_zero, List.set_cons_succ]
      refine wpAnyH_take (i := 8) (v := undef) (by simp only [List.getElem?_toArray, List.getElem?_cons_succ, List.getElem?_cons_zero]; rfl) (by kernel_rfl) (by kernel_rfl) (by kernel_rfl) (fun _ _ _ h => h) (Or.inr ⟨by rfl, rfl⟩) (by assumption) ?_
      try simp only [Act.put, List.setIfInBounds_toArray, List.set_cons_zero, List.set_cons_succ]
      refine wpAnyH_take (i := 9) (v := undef) (by simp only [List.getElem?_toArray, List.getElem?_cons_succ, List.getElem?_cons_zero]; rfl) (by kernel_rfl) (by kernel_rfl) (by kernel_rfl) (fun _ _ _ h => h) (Or.inr ⟨by rfl, rfl⟩) (by assumption) ?_
      try simp only [Act.put, List.setIfInBounds_toArray, List.set_cons_zero, List.set_cons_succ]
      refine wpAnyH_take (i := 10) (v := undef) (by simp only [List.getElem?_toArray, List.getElem?_cons_succ, List.getElem?_cons_zero]; rfl) (by kernel_rfl) (by kernel_rfl) (by kernel_rfl) (fun _ _ _ h => h) (Or.inr ⟨by rfl, rfl⟩) (by assumption) ?_
      try simp only [Act.put, List.setIfInBounds_toArray, List.set_cons_zero, List.set_cons_succ]
      refine wpAnyH_take (i := 11) (v := undef) (by simp only [List.getElem?_toArray, List.getElem?_cons_succ, List.getElem?_cons_zero]; rfl) (by kernel_rfl) (by kernel_rfl) (by kernel_rfl) (fun _ _ _ h => h) (Or.inr ⟨by rfl, rfl⟩) (by assumption) ?_
      try simp only [Act.put, List.setIfInBounds_toArray, List.set_cons_zero, List.set_cons_succ]
      refine wpAnyH_take (i := 12) (v := undef) (by simp only [List.getElem?_toArray, List.getElem?_cons_succ, List.getElem?_cons_zero]; rfl) (by kernel_rfl) (by kernel_rfl) (by kernel_rfl) (fun _ _ _ h => h) (Or.inr ⟨by rfl, rfl⟩) (by assumption) ?_
      try simp only [Act.put, List.setIfInBounds_toArray, List.set_cons_zero, List.set_cons_succ]
      refine wpAnyH_take (i := 13) (v := undef) (by simp only [List.getElem?_toArray, List.getElem?_cons_succ, List.getElem?_cons_zero]; rfl) (by kernel_rfl) (by kernel_rfl) (by kernel_rfl) (fun _ _ _ h => h) (Or.inr ⟨by rfl, rfl⟩) (by assumption) ?_
      try simp only [Act.put, List.setIfInBounds_toArray, List.set_cons_zero, List.set_cons_succ]
      refine wpAnyH_take (i := 14) (v := undef) (by simp only [List.getElem?_toArray, List.getElem?_cons_succ, List.getElem?_cons_zero]; rfl) (by kernel_rfl) (by kernel_rfl) (by kernel_rfl) (fun _ _ _ h => h) (Or.inr ⟨by rfl, rfl⟩) (by assumption) ?_
      try simp only [Act.put, List.setIfInBounds_toArray, List.set_cons_zero, List.set_cons_succ]
      refine wpAnyH_take (i := 15) (v := undef) (by simp only [List.getElem?_toArray, List.getElem?_cons_succ, List.getElem?_cons_zero]; rfl) (by kernel_rfl) (by kernel_rfl) (by kernel_rfl) (fun _ _ _ h => h) (Or.inr ⟨by rfl, rfl⟩) (by assumption) ?_
      try simp only [Act.put, List.setIfInBounds_toArray, List.set_cons_zero, List.set_cons_succ]
      refine wpAnyH_take (i := 16) (v := .bool false) (by simp only [List.getElem?_toArray, List.getElem?_cons_succ, List.getElem?_cons_zero]; rfl) (by kernel_rfl) (by kernel_rfl) (by kernel_rfl) (fun _ _ _ h => h) (Or.inl ⟨by rfl, (by intro wq hSq; clear hSq; go_simp)⟩) (by assumption) ?_
      try simp only [Act.put, List.setIfInBounds_toArray, List.set_cons_zero, List.set_cons_succ]
      refine wpAnyH_done (by kernel_rfl) ?_ _
      refine NoPanic.normal ?_
      go_wp2
      go_meet
      exact ⟨rfl, N1⟩
    cases gb : goodA b
    · rw [ga] at hGa
      rw [gb] at hGb
      clear ga gb
      refine wp_region_noPanic ?_
      refine wp_region_held_drew (S := fun U => BoxP w0 U a b m n) (by kernel_rfl) (HB4.out.drew) (fun hHeld => ?_)
      refine wpAnyH_take (i := 0) (v := av a) (by simp only [List.getElem?_toArray, List.getElem?_cons_zero]; rfl) (by kernel_rfl) (by kernel_rfl) (by kernel_rfl) (fun _ _ _ h => h) (Or.inl ⟨by rfl, fun w h => exec_load_row 32 _ rfl w0.heap.size rfl 32 #[.int .i64 a.kind, .string a.name, .int .i64 a.n, .int .u64 a.tag, .int .i64 a.to, .string a.xn, .int .i64 a.xk, .bool a.xf, .string a.be, .string a.bq, .string a.bp, .int .i64 a.m.origin, .int .u64 a.m.seq, .int .i64 a.m.hop, .string a.m.ex, .string a.m.key, .string a.m.body] (0, 0) _ h.hA Tryd.underlying32 rfl info17⟩) (by assumption) ?_
      try simp only [Act.put, List.setIfInBounds_toArray, List.set_cons_zero, List.set_cons_succ]
      refine wpAnyH_ready (rs := [1]) (by kernel_rfl) (by simp) ?_
      refine AllReadyH.cons rfl (fun K hK => ?_) AllReadyH.nil
      have HS1 : Hid _ := hHeld
      clear hHeld
      go_simp
      refine (hGa _ HS1.out.kinds).mono ?_
      rintro e U1 ⟨rfl, b1⟩
      have N1 : BoxP w0 U1 a b m n := HS1.out.go b1
      clear b1
      dsimp only
      refine hK.out _ _ (N1) (fun hHeld => ?_)
      clear hK K
      try simp only [Act.put, List.setIfInBounds_toArray, List.set_cons_zero, List.set_cons_succ]
      refine wpAnyH_take (i := 2) (v := ?_) (by simp only [List.getElem?_toArray, List.getElem?_cons_succ, List.getElem?_cons_zero]; rfl) (by kernel_rfl) (by kernel_rfl) (by kernel_rfl) (fun _ _ _ h => h) (Or.inl ⟨by rfl, ?_⟩) (by assumption) ?_
      rotate_left
      · (intro wq hSq; clear hSq; go_simp; try with_reducible rfl)
      try simp only [Act.put, List.setIfInBounds_toArray, List.set_cons_zero, List.set_cons_succ]
      refine wpAnyH_take (i := 3) (v := av b) (by simp only [List.getElem?_toArray, List.getElem?_cons_succ, List.getElem?_cons_zero]; rfl) (by kernel_rfl) (by kernel_rfl) (by kernel_rfl) (fun _ _ _ h => h) (Or.inl ⟨by rfl, fun w h => exec_load_row 32 _ rfl (w0.heap.size + 1) rfl 32 #[.int .i64 b.kind, .string b.name, .int .i64 b.n, .int .u64 b.tag, .int .i64 b.to, .string b.xn, .int .i64 b.xk, .bool b.xf, .string b.be, .string b.bq, .string b.bp, .int .i64 b.m.origin, .int .u64 b.m.seq, .int .i64 b.m.hop, .string b.m.ex, .string b.m.key, .string b.m.body] (0, 0) _ h.hB Tryd.underlying32 rfl info17⟩) (by assumption) ?_
      try simp only [Act.put, List.setIfInBounds_toArray, List.set_cons_zero, List.set_cons_succ]
      refine wpAnyH_ready (rs := [4]) (by kernel_rfl) (by simp) ?_
      refine AllReadyH.cons rfl (fun K hK => ?_) AllReadyH.nil
      have HS4 : Hid _ := hHeld
      clear hHeld
      go_simp
      refine (hGb _ HS4.out.kinds).mono ?_
      rintro e U4 ⟨rfl, b4⟩
      have N4 : BoxP w0 U4 a b m n := HS4.out.go b4
      clear b4
      dsimp only
      refine hK.out _ _ (N4) (fun hHeld => ?_)
      clear hK K
      try simp only [Act.put, List.setIfInBounds_toArray, List.set_cons_zero, List.set_cons_succ]
      refine wpAnyH_take (i := 5) (v := .bool false) (by simp only [List.getElem?_toArray, List.getElem?_cons_succ, List.getElem?_cons_zero]; rfl) (by kernel_rfl) (by kernel_rfl) (by kernel_rfl) (fun _ _ _ h => h) (Or.inl ⟨by rfl, (by intro wq hSq; clear hSq; go_simp)⟩) (by assumption) ?_
      try simp only [Act.put, List.setIfInBounds_toArray, List.set_cons_zero, List.set_cons_succ]
      refine wpAnyH_take (i := 6) (v := ?_) (by simp only [List.getElem?_toArray, List.getElem?_cons_succ, List.getElem?_cons_zero]; rfl) (by kernel_rfl) (by kernel_rfl) (by kernel_rfl) (fun _ _ _ h => h) (Or.inl ⟨by rfl, ?_⟩) (by assumption) ?_
      rotate_left
      · (intro wq hSq; clear hSq; go_simp; try with_reducible rfl)
      try simp only [Act.put, List.setIfInBounds_toArray, List.set_cons_zero, List.set_cons_succ]
      refine wpAnyH_take (i := 7) (v := undef) (by simp only [List.getElem?_toArray, List.getElem?_cons_succ, List.getElem?_cons_zero]; rfl) (by kernel_rfl) (by kernel_rfl) (by kernel_rfl) (fun _ _ _ h => h) (Or.inr ⟨by rfl, rfl⟩) (by assumption) ?_
      try simp only [Act.put, List.setIfInBounds_toArray, List.set_cons_zero, List.set_cons_succ]
      refine wpAnyH_take (i := 8) (v := undef) (by simp only [List.getElem?_toArray, List.getElem?_cons_succ, List.getElem?_cons_zero]; rfl) (by kernel_rfl) (by kernel_rfl) (by kernel_rfl) (fun _ _ _ h => h) (Or.inr ⟨by rfl, rfl⟩) (by assumption) ?_
      try simp only [Act.put, List.setIfInBounds_toArray, List.set_cons_zero, List.set_cons_succ]
      refine wpAnyH_take (i := 9) (v := undef) (by simp only [List.getElem?_toArray, List.getElem?_cons_succ, List.getElem?_cons_zero]; rfl) (by kernel_rfl) (by kernel_rfl) (by kernel_rfl) (fun _ _ _ h => h) (Or.inr ⟨by rfl, rfl⟩) (by assumption) ?_
      try simp only [Act.put, List.setIfInBounds_toArray, List.set_cons_zero, List.set_cons_succ]
      refine wpAnyH_take (i := 10) (v := undef) (by simp only [List.getElem?_toArray, List.getElem?_cons_succ, List.getElem?_cons_zero]; rfl) (by kernel_rfl) (by kernel_rfl) (by kernel_rfl) (fun _ _ _ h => h) (Or.inr ⟨by rfl, rfl⟩) (by assumption) ?_
      try simp only [Act.put, List.setIfInBounds_toArray, List.set_cons_zero, List.set_cons_succ]
      refine wpAnyH_take (i := 11) (v := undef) (by simp only [List.getElem?_toArray, List.getElem?_cons_succ, List.getElem?_cons_zero]; rfl) (by kernel_rfl) (by kernel_rfl) (by kernel_rfl) (fun _ _ _ h => h) (Or.inr ⟨by rfl, rfl⟩) (by assumption) ?_
      try simp only [Act.put, List.setIfInBounds_toArray, List.set_cons_zero, List.set_cons_succ]
      refine wpAnyH_take (i := 12) (v := undef) (by simp only [List.getElem?_toArray, List.getElem?_cons_succ, List.getElem?_cons_zero]; rfl) (by kernel_rfl) (by kernel_rfl) (by kernel_rfl) (fun _ _ _ h => h) (Or.inr ⟨by rfl, rfl⟩) (by assumption) ?_
      try simp only [Act.put, List.setIfInBounds_toArray, List.set_cons_zero, List.set_cons_succ]
      refine wpAnyH_take (i := 13) (v := undef) (by simp only [List.getElem?_toArray, List.getElem?_cons_succ, List.getElem?_cons_zero]; rfl) (by kernel_rfl) (by kernel_rfl) (by kernel_rfl) (fun _ _ _ h => h) (Or.inr ⟨by rfl, rfl⟩) (by assumption) ?_
      try simp only [Act.put, List.setIfInBounds_toArray, List.set_cons_zero, List.set_cons_succ]
      refine wpAnyH_take (i := 14) (v := undef) (by simp only [List.getElem?_toArray, List.getElem?_cons_succ, List.getElem?_cons_zero]; rfl) (by kernel_rfl) (by kernel_rfl) (by kernel_rfl) (fun _ _ _ h => h) (Or.inr ⟨by rfl, rfl⟩) (by assumption) ?_
      try simp only [Act.put, List.setIfInBounds_toArray, List.set_cons_zero, List.set_cons_succ]
      refine wpAnyH_take (i := 15) (v := undef) (by simp only [List.getElem?_toArray, List.getElem?_cons_succ, List.getElem?_cons_zero]; rfl) (by kernel_rfl) (by kernel_rfl) (by kernel_rfl) (fun _ _ _ h => h) (Or.inr ⟨by rfl, rfl⟩) (by assumption) ?_
      try simp only [Act.put, List.setIfInBounds_toArray, List.set_cons_zero, List.set_cons_succ]
      refine wpAnyH_take (i := 16) (v := .bool false) (by simp only [List.getElem?_toArray, List.getElem?_cons_succ, List.getElem?_cons_zero]; rfl) (by kernel_rfl) (by kernel_rfl) (by kernel_rfl) (fun _ _ _ h => h) (Or.inl ⟨by rfl, (by intro wq hSq; clear hSq; go_simp)⟩) (by assumption) ?_
      try simp only [Act.put, List.setIfInBounds_toArray, List.set_cons_zero, List.set_cons_succ]
      refine wpAnyH_done (by kernel_rfl) ?_ _
      refine NoPanic.normal ?_
      go_wp2
      go_meet
      exact ⟨rfl, N4⟩
    · have HQ : Hid ((bytesA a == bytesA b) = decide (a = b)) := by
        show (bytesA a == bytesA b) = decide (a = b)
        by_cases h : a = b
        · subst h; simp
        · rw [decide_eq_false h, beq_eq_false_iff_ne]
          exact fun e => h (bytesA_inj ga gb HH.out.1.t HH.out.1.m.s.2 HH.out.2.1.t HH.out.2.1.m.s.2 e)
      rw [ga] at hGa
      rw [gb] at hGb
      clear ga gb
      have heqA := fun X => run_eqA a b X
      have hgA := eqGuardA
      refine wp_region_noPanic ?_
      refine wp_region_held_drew (S := fun U => BoxP w0 U a b m n) (by kernel_rfl) (HB4.out.drew) (fun hHeld => ?_)
      refine wpAnyH_take (i := 0) (v := av a) (by simp only [List.getElem?_toArray, List.getElem?_cons_zero]; rfl) (by kernel_rfl) (by kernel_rfl) (by kernel_rfl) (fun _ _ _ h => h) (Or.inl ⟨by rfl, fun w h => exec_load_row 32 _ rfl w0.heap.size rfl 32 #[.int .i64 a.kind, .string a.name, .int .i64 a.n, .int .u64 a.tag, .int .i64 a.to, .string a.xn, .int .i64 a.xk, .bool a.xf, .string a.be, .string a.bq, .string a.bp, .int .i64 a.m.origin, .int .u64 a.m.seq, .int .i64 a.m.hop, .string a.m.ex, .string a.m.key, .string a.m.body] (0, 0) _ h.hA Tryd.underlying32 rfl info17⟩) (by assumption) ?_
      try simp only [Act.put, List.setIfInBounds_toArray, List.set_cons_zero, List.set_cons_succ]
      refine wpAnyH_ready (rs := [1]) (by kernel_rfl) (by simp) ?_
      refine AllReadyH.cons rfl (fun K hK => ?_) AllReadyH.nil
      have HS1 : Hid _ := hHeld
      clear hHeld
      go_simp
      refine (hGa _ HS1.out.kinds).mono ?_
      rintro e U1 ⟨rfl, b1⟩
      have N1 : BoxP w0 U1 a b m n := HS1.out.go b1
      clear b1
      dsimp only
      refine hK.out _ _ (N1) (fun hHeld => ?_)
      clear hK K
      try simp only [Act.put, List.setIfInBounds_toArray, List.set_cons_zero, List.set_cons_succ]
      refine wpAnyH_take (i := 2) (v := ?_) (by simp only [List.getElem?_toArray, List.getElem?_cons_succ, List.getElem?_cons_zero]; rfl) (by kernel_rfl) (by kernel_rfl) (by kernel_rfl) (fun _ _ _ h => h) (Or.inl ⟨by rfl, ?_⟩) (by assumption) ?_
      rotate_left
      · (intro wq hSq; clear hSq; go_simp; try with_reducible rfl)
      try simp only [Act.put, List.setIfInBounds_toArray, List.set_cons_zero, List.set_cons_succ]
      refine wpAnyH_take (i := 3) (v := av b) (by simp only [List.getElem?_toArray, List.getElem?_cons_succ, List.getElem?_cons_zero]; rfl) (by kernel_rfl) (by kernel_rfl) (by kernel_rfl) (fun _ _ _ h => h) (Or.inl ⟨by rfl, fun w h => exec_load_row 32 _ rfl (w0.heap.size + 1) rfl 32 #[.int .i64 b.kind, .string b.name, .int .i64 b.n, .int .u64 b.tag, .int .i64 b.to, .string b.xn, .int .i64 b.xk, .bool b.xf, .string b.be, .string b.bq, .string b.bp, .int .i64 b.m.origin, .int .u64 b.m.seq, .int .i64 b.m.hop, .string b.m.ex, .string b.m.key, .string b.m.body] (0, 0) _ h.hB Tryd.underlying32 rfl info17⟩) (by assumption) ?_
      try simp only [Act.put, List.setIfInBounds_toArray, List.set_cons_zero, List.set_cons_succ]
      refine wpAnyH_ready (rs := [4]) (by kernel_rfl) (by simp) ?_
      refine AllReadyH.cons rfl (fun K hK => ?_) AllReadyH.nil
      have HS4 : Hid _ := hHeld
      clear hHeld
      go_simp
      refine (hGb _ HS4.out.kinds).mono ?_
      rintro e U4 ⟨rfl, b4⟩
      have N4 : BoxP w0 U4 a b m n := HS4.out.go b4
      clear b4
      dsimp only
      refine hK.out _ _ (N4) (fun hHeld => ?_)
      clear hK K
      try simp only [Act.put, List.setIfInBounds_toArray, List.set_cons_zero, List.set_cons_succ]
      refine wpAnyH_take (i := 5) (v := ?_) (by simp only [List.getElem?_toArray, List.getElem?_cons_succ, List.getElem?_cons_zero]; rfl) (by kernel_rfl) (by kernel_rfl) (by kernel_rfl) (fun _ _ _ h => h) (Or.inl ⟨by rfl, ?_⟩) (by assumption) ?_
      rotate_left
      · (intro wq hSq; clear hSq; go_simp; try with_reducible rfl)
      try simp only [Act.put, List.setIfInBounds_toArray, List.set_cons_zero, List.set_cons_succ]
      refine wpAnyH_take (i := 6) (v := ?_) (by simp only [List.getElem?_toArray, List.getElem?_cons_succ, List.getElem?_cons_zero]; rfl) (by kernel_rfl) (by kernel_rfl) (by kernel_rfl) (fun _ _ _ h => h) (Or.inl ⟨by rfl, ?_⟩) (by assumption) ?_
      rotate_left
      · (intro wq hSq; clear hSq; go_simp; try with_reducible rfl)
      try simp only [Act.put, List.setIfInBounds_toArray, List.set_cons_zero, List.set_cons_succ]
      refine wpAnyH_take (i := 7) (v := av a) (by simp only [List.getElem?_toArray, List.getElem?_cons_succ, List.getElem?_cons_zero]; rfl) (by kernel_rfl) (by kernel_rfl) (by kernel_rfl) (fun _ _ _ h => h) (Or.inl ⟨by rfl, fun w h => exec_load_row 32 _ rfl w0.heap.size rfl 32 #[.int .i64 a.kind, .string a.name, .int .i64 a.n, .int .u64 a.tag, .int .i64 a.to, .string a.xn, .int .i64 a.xk, .bool a.xf, .string a.be, .string a.bq, .string a.bp, .int .i64 a.m.origin, .int .u64 a.m.seq, .int .i64 a.m.hop, .string a.m.ex, .string a.m.key, .string a.m.body] (0, 0) _ h.hA Tryd.underlying32 rfl info17⟩) (by assumption) ?_
      try simp only [Act.put, List.setIfInBounds_toArray, List.set_cons_zero, List.set_cons_succ]
      refine wpAnyH_take (i := 9) (v := av b) (by simp only [List.getElem?_toArray, List.getElem?_cons_succ, List.getElem?_cons_zero]; rfl) (by kernel_rfl) (by kernel_rfl) (by kernel_rfl) (fun _ _ _ h => h) (Or.inl ⟨by rfl, fun w h => exec_load_row 32 _ rfl (w0.heap.size + 1) rfl 32 #[.int .i64 b.kind, .string b.name, .int .i64 b.n, .int .u64 b.tag, .int .i64 b.to, .string b.xn, .int .i64 b.xk, .bool b.xf, .string b.be, .string b.bq, .string b.bp, .int .i64 b.m.origin, .int .u64 b.m.seq, .int .i64 b.m.hop, .string b.m.ex, .string b.m.key, .string b.m.body] (0, 0) _ h.hB Tryd.underlying32 rfl info17⟩) (by assumption) ?_
      try simp only [Act.put, List.setIfInBounds_toArray, List.set_cons_zero, List.set_cons_succ]
      refine wpAnyH_take (i := 12) (v := av a) (by simp only [List.getElem?_toArray, List.getElem?_cons_succ, List.getElem?_cons_zero]; rfl) (by kernel_rfl) (by kernel_rfl) (by kernel_rfl) (fun _ _ _ h => h) (Or.inl ⟨by rfl, fun w h => exec_load_row 32 _ rfl w0.heap.size rfl 32 #[.int .i64 a.kind, .string a.name, .int .i64 a.n, .int .u64 a.tag, .int .i64 a.to, .string a.xn, .int .i64 a.xk, .bool a.xf, .string a.be, .string a.bq, .string a.bp, .int .i64 a.m.origin, .int .u64 a.m.seq, .int .i64 a.m.hop, .string a.m.ex, .string a.m.key, .string a.m.body] (0, 0) _ h.hA Tryd.underlying32 rfl info17⟩) (by assumption) ?_
      try simp only [Act.put, List.setIfInBounds_toArray, List.set_cons_zero, List.set_cons_succ]
      refine wpAnyH_take (i := 13) (v := av b) (by simp only [List.getElem?_toArray, List.getElem?_cons_succ, List.getElem?_cons_zero]; rfl) (by kernel_rfl) (by kernel_rfl) (by kernel_rfl) (fun _ _ _ h => h) (Or.inl ⟨by rfl, fun w h => exec_load_row 32 _ rfl (w0.heap.size + 1) rfl 32 #[.int .i64 b.kind, .string b.name, .int .i64 b.n, .int .u64 b.tag, .int .i64 b.to, .string b.xn, .int .i64 b.xk, .bool b.xf, .string b.be, .string b.bq, .string b.bp, .int .i64 b.m.origin, .int .u64 b.m.seq, .int .i64 b.m.hop, .string b.m.ex, .string b.m.key, .string b.m.body] (0, 0) _ h.hB Tryd.underlying32 rfl info17⟩) (by assumption) ?_
      try simp only [Act.put, List.setIfInBounds_toArray, List.set_cons_zero, List.set_cons_succ]
      refine wpAnyH_take (i := 14) (v := .bool (decide (a = b))) (by simp only [List.getElem?_toArray, List.getElem?_cons_succ, List.getElem?_cons_zero]; rfl) (by kernel_rfl) (by kernel_rfl) (by kernel_rfl) (fun _ _ _ h => h) (Or.inl ⟨by rfl, (by intro wq hSq; clear hSq hHeld; go_simp)⟩) (by assumption) ?_
      try simp only [Act.put, List.setIfInBounds_toArray, List.set_cons_zero, List.set_cons_succ]
      refine wpAnyH_ready (rs := [8]) (by kernel_rfl) (by simp) ?_
      refine AllReadyH.cons rfl (fun K hK => ?_) AllReadyH.nil
      have HS8 : Hid _ := hHeld
      clear hHeld
      go_simp
      refine (bytesA_any a _ HS8.out.tab HS8.out.kinds HH.out.1).mono ?_
      rintro e U8 ⟨v8, rfl, o8, g8, z8⟩
      have N8 : BoxP w0 U8 a b m n := HS8.out.go (below_of_grown g8)
      have O8 : Hid (Holds U8 v8 (bytesA a)) := o8.holds
      clear o8 g8 z8
      dsimp only
      refine hK.out _ _ (N8) (fun hHeld => ?_)
      clear hK K
      try simp only [Act.put, List.setIfInBounds_toArray, List.set_cons_zero, List.set_cons_succ]
      refine wpAnyH_ready (rs := [10]) (by kernel_rfl) (by simp) ?_
      refine AllReadyH.cons rfl (fun K hK => ?_) AllReadyH.nil
      have HS10 : Hid _ := hHeld
      clear hHeld
      go_simp
      refine (bytesA_any b _ HS10.out.tab HS10.out.kinds HH.out.2.1).mono ?_
      rintro e U10 ⟨v10, rfl, o10, g10, z10⟩
      have N10 : BoxP w0 U10 a b m n := HS10.out.go (below_of_grown g10)
      have O10 : Hid (Holds U10 v10 (bytesA b) ∧ Holds U10 v8 (bytesA a)) := ⟨o10.holds, O8.out.below (below_of_grown g10) (Nat.le_refl _)⟩
      clear o10 g10 z10
      dsimp only
      refine hK.out _ _ (N10) (fun hHeld => ?_)
      clear hK K
      try simp only [Act.put, List.setIfInBounds_toArray, List.set_cons_zero, List.set_cons_succ]
      refine wpAnyH_ready (rs := [11]) (by kernel_rfl) (by simp) ?_
      refine AllReadyH.cons rfl (fun K hK => ?_) AllReadyH.nil
      have HS11 : Hid _ := hHeld
      clear hHeld
      go_simp
      have hS11 := same_any v8 v10 _ _ U10 O10.out.2 O10.out.1
      rw [HQ.out] at hS11
      refine hS11.mono ?_
      rintro e U11 ⟨rfl, hU11⟩
      subst hU11
      clear hS11
      dsimp only
      refine hK.out _ _ (HS11.out) (fun hHeld => ?_)
      clear hK K
      try simp only [Act.put, List.setIfInBounds_toArray, List.set_cons_zero, List.set_cons_succ]
      refine wpAnyH_take (i := 15) (v := .bool false) (by simp only [List.getElem?_toArray, List.getElem?_cons_succ, List.getElem?_cons_zero]; rfl) (by kernel_rfl) (by kernel_rfl) (by kernel_rfl) (fun _ _ _ h => h) (Or.inl ⟨by rfl, (by intro wq hSq; clear hSq hHeld heqA hgA; go_simp)⟩) (by assumption) ?_
      try simp only [Act.put, List.setIfInBounds_toArray, List.set_cons_zero, List.set_cons_succ]
      refine wpAnyH_take (i := 16) (v := .bool false) (by simp only [List.getElem?_toArray, List.getElem?_cons_succ, List.getElem?_cons_zero]; rfl) (by kernel_rfl) (by kernel_rfl) (by kernel_rfl) (fun _ _ _ h => h) (Or.inl ⟨by rfl, (by intro wq hSq; clear hSq hHeld heqA hgA; go_simp)⟩) (by assumption) ?_
      try simp only [Act.put, List.setIfInBounds_toArray, List.set_cons_zero, List.set_cons_succ]
      refine wpAnyH_done (by kernel_rfl) ?_ _
      refine NoPanic.normal ?_
      go_wp2
      go_meet
      exact ⟨rfl, N10⟩
  case rest =>
    obtain ⟨rfl, hbx⟩ := hcut
    have HB5 : Hid (BoxP w0 wc a b m n) := hbx
    clear hbx
    go_wp2
    go_cut [65] from 43 to 65 (fun u65 wx => u65 = .bool false ∧ BoxP w0 wx a b m n)
    case first =>
      have hGm := fun U => goodM_any m U HH.out.2.2.1
      have hGn := fun U => goodM_any n U HH.out.2.2.2.1
      cases ga : goodM m
      · rw [ga] at hGm
        clear ga hGn
        refine wp_region_noPanic ?_
        refine wp_region_held_drew (S := fun U => BoxP w0 U a b m n) (by kernel_rfl) (HB5.out.drew) (fun hHeld => ?_)
        refine wpAnyH_take (i := 0) (v := .pointer (some ⟨(w0.heap.size + 2), 0, none⟩)) (by simp only [List.getElem?_toArray, List.getElem?_cons_zero]; rfl) (by kernel_rfl) (by kernel_rfl) (by kernel_rfl) (fun _ _ _ h => h) (Or.inl ⟨by rfl, (by intro wq hSq; clear hSq; go_simp)⟩) (by assumption) ?_
        try simp only [Act.put, List.setIfInBounds_toArray, List.set_cons_zero, List.set_cons_succ]
        refine wpAnyH_take (i := 1) (v := mv m) (by simp only [List.getElem?_toArray, List.getElem?_cons_succ, List.getElem?_cons_zero]; rfl) (by kernel_rfl) (by kernel_rfl) (by kernel_rfl) (fun _ _ _ h => h) (Or.inl ⟨by rfl, fun w h => exec_load_at 30 _ rfl (w0.heap.size + 2) 0 rfl [.int .i64 m.origin, .int .u64 m.seq, .int .i64 m.hop, .string m.ex, .string m.key, .string m.body] _ (fun j u hj => h.atM j u hj) Tryd.underlying30 rfl info6⟩) (by assumption) ?_
        try simp only [Act.put, List.setIfInBounds_toArray, List.set_cons_zero, List.set_cons_succ]
        refine wpAnyH_ready (rs := [2]) (by kernel_rfl) (by simp) ?_
        refine AllReadyH.cons rfl (fun K hK => ?_) AllReadyH.nil
        have HS2 : Hid _ := hHeld
        clear hHeld
        go_simp
        refine (hGm _).mono ?_
        rintro e U2 ⟨rfl, b2⟩
        have N2 : BoxP w0 U2 a b m n := HS2.out.go b2
        clear b2
        dsimp only
        refine hK.out _ _ (N2) (fun hHeld => ?_)
        clear hK K
        try simp only [Act.put, List.setIfInBounds_toArray, List.set_cons_zero, List.set_cons_succ]
        refine wpAnyH_take (i := 3) (v := ?_) (by simp only [List.getElem?_toArray, List.getElem?_cons_succ, List.getElem?_cons_zero]; rfl) (by kernel_rfl) (by kernel_rfl) (by kernel_rfl) (fun _ _ _ h => h) (Or.inl ⟨by rfl, ?_⟩) (by assumption) ?_
        rotate_left
        · (intro wq hSq; clear hSq; go_simp; try with_reducible rfl)
        try simp only [Act.put, List.setIfInBounds_toArray, List.set_cons_zero, List.set_cons_succ]
        refine wpAnyH_take (i := 4) (v := undef) (by simp only [List.getElem?_toArray, List.getElem?_cons_succ, List.getElem?_cons_zero]; rfl) (by kernel_rfl) (by kernel_rfl) (by kernel_rfl) (fun _ _ _ h => h) (Or.inr ⟨by rfl, rfl⟩) (by assumption) ?_
        try simp only [Act.put, List.setIfInBounds_toArray, List.set_cons_zero, List.set_cons_succ]
        refine wpAnyH_take (i := 5) (v := undef) (by simp only [List.getElem?_toArray, List.getElem?_cons_succ, List.getElem?_cons_zero]; rfl) (by kernel_rfl) (by kernel_rfl) (by kernel_rfl) (fun _ _ _ h => h) (Or.inr ⟨by rfl, rfl⟩) (by assumption) ?_
        try simp only [Act.put, List.setIfInBounds_toArray, List.set_cons_zero, List.set_cons_succ]
        refine wpAnyH_take (i := 6) (v := undef) (by simp only [List.getElem?_toArray, List.getElem?_cons_succ, List.getElem?_cons_zero]; rfl) (by kernel_rfl) (by kernel_rfl) (by kernel_rfl) (fun _ _ _ h => h) (Or.inr ⟨by rfl, rfl⟩) (by assumption) ?_
        try simp only [Act.put, List.setIfInBounds_toArray, List.set_cons_zero, List.set_cons_succ]
        refine wpAnyH_take (i := 7) (v := .bool false) (by simp only [List.getElem?_toArray, List.getElem?_cons_succ, List.getElem?_cons_zero]; rfl) (by kernel_rfl) (by kernel_rfl) (by kernel_rfl) (fun _ _ _ h => h) (Or.inl ⟨by rfl, (by intro wq hSq; clear hSq; go_simp)⟩) (by assumption) ?_
        try simp only [Act.put, List.setIfInBounds_toArray, List.set_cons_zero, List.set_cons_succ]
        refine wpAnyH_take (i := 8) (v := ?_) (by simp only [List.getElem?_toArray, List.getElem?_cons_succ, List.getElem?_cons_zero]; rfl) (by kernel_rfl) (by kernel_rfl) (by kernel_rfl) (fun _ _ _ h => h) (Or.inl ⟨by rfl, ?_⟩) (by assumption) ?_
        rotate_left
        · (intro wq hSq; clear hSq; go_simp; try with_reducible rfl)
        try simp only [Act.put, List.setIfInBounds_toArray, List.set_cons_zero, List.set_cons_succ]
        refine wpAnyH_take (i := 9) (v := undef) (by simp only [List.getElem?_toArray, List.getElem?_cons_succ, List.getElem?_cons_zero]; rfl) (by kernel_rfl) (by kernel_rfl) (by kernel_rfl) (fun _ _ _ h => h) (Or.inr ⟨by rfl, rfl⟩) (by assumption) ?_
        try simp only [Act.put, List.setIfInBounds_toArray, List.set_cons_zero, List.set_cons_succ]
        refine wpAnyH_take (i := 10) (v := undef) (by simp only [List.getElem?_toArray, List.getElem?_cons_succ, List.getElem?_cons_zero]; rfl) (by kernel_rfl) (by kernel_rfl) (by kernel_rfl) (fun _ _ _ h => h) (Or.inr ⟨by rfl, rfl⟩) (by assumption) ?_
        try simp only [Act.put, List.setIfInBounds_toArray, List.set_cons_zero, List.set_cons_succ]
        refine wpAnyH_take (i := 11) (v := undef) (by simp only [List.getElem?_toArray, List.getElem?_cons_succ, List.getElem?_cons_zero]; rfl) (by kernel_rfl) (by kernel_rfl) (by kernel_rfl) (fun _ _ _ h => h) (Or.inr ⟨by rfl, rfl⟩) (by assumption) ?_
        try simp only [Act.put, List.setIfInBounds_toArray, List.set_cons_zero, List.set_cons_succ]
        refine wpAnyH_take (i := 12) (v := undef) (by simp only [List.getElem?_toArray, List.getElem?_cons_succ, List.getElem?_cons_zero]; rfl) (by kernel_rfl) (by kernel_rfl) (by kernel_rfl) (fun _ _ _ h => h) (Or.inr ⟨by rfl, rfl⟩) (by assumption) ?_
        try simp only [Act.put, List.setIfInBounds_toArray, List.set_cons_zero, List.set_cons_succ]
        refine wpAnyH_take (i := 13) (v := undef) (by simp only [List.getElem?_toArray, List.getElem?_cons_succ, List.getElem?_cons_zero]; rfl) (by kernel_rfl) (by kernel_rfl) (by kernel_rfl) (fun _ _ _ h => h) (Or.inr ⟨by rfl, rfl⟩) (by assumption) ?_
        try simp only [Act.put, List.setIfInBounds_toArray, List.set_cons_zero, List.set_cons_succ]
        refine wpAnyH_take (i := 14) (v := undef) (by simp only [List.getElem?_toArray, List.getElem?_cons_succ, List.getElem?_cons_zero]; rfl) (by kernel_rfl) (by kernel_rfl) (by kernel_rfl) (fun _ _ _ h => h) (Or.inr ⟨by rfl, rfl⟩) (by assumption) ?_
        try simp only [Act.put, List.setIfInBounds_toArray, List.set_cons_zero, List.set_cons_succ]
        refine wpAnyH_take (i := 15) (v := undef) (by simp only [List.getElem?_toArray, List.getElem?_cons_succ, List.getElem?_cons_zero]; rfl) (by kernel_rfl) (by kernel_rfl) (by kernel_rfl) (fun _ _ _ h => h) (Or.inr ⟨by rfl, rfl⟩) (by assumption) ?_
        try simp only [Act.put, List.setIfInBounds_toArray, List.set_cons_zero, List.set_cons_succ]
        refine wpAnyH_take (i := 16) (v := undef) (by simp only [List.getElem?_toArray, List.getElem?_cons_succ, List.getElem?_cons_zero]; rfl) (by kernel_rfl) (by kernel_rfl) (by kernel_rfl) (fun _ _ _ h => h) (Or.inr ⟨by rfl, rfl⟩) (by assumption) ?_
        try simp only [Act.put, List.setIfInBounds_toArray, List.set_cons_zero, List.set_cons_succ]
        refine wpAnyH_take (i := 17) (v := undef) (by simp only [List.getElem?_toArray, List.getElem?_cons_succ, List.getElem?_cons_zero]; rfl) (by kernel_rfl) (by kernel_rfl) (by kernel_rfl) (fun _ _ _ h => h) (Or.inr ⟨by rfl, rfl⟩) (by assumption) ?_
        try simp only [Act.put, List.setIfInBounds_toArray, List.set_cons_zero, List.set_cons_succ]
        refine wpAnyH_take (i := 18) (v := undef) (by simp only [List.getElem?_toArray, List.getElem?_cons_succ, List.getElem?_cons_zero]; rfl) (by kernel_rfl) (by kernel_rfl) (by kernel_rfl) (fun _ _ _ h => h) (Or.inr ⟨by rfl, rfl⟩) (by assumption) ?_
        try simp only [Act.put, List.setIfInBounds_toArray, List.set_cons_zero, List.set_cons_succ]
        refine wpAnyH_take (i := 19) (v := undef) (by simp only [List.getElem?_toArray, List.getElem?_cons_succ, List.getElem?_cons_zero]; rfl) (by kernel_rfl) (by kernel_rfl) (by kernel_rfl) (fun _ _ _ h => h) (Or.inr ⟨by rfl, rfl⟩) (by assumption) ?_
        try simp only [Act.put, List.setIfInBounds_toArray, List.set_cons_zero, List.set_cons_succ]
        refine wpAnyH_take (i := 20) (v := undef) (by simp only [List.getElem?_toArray, List.getElem?_cons_succ, List.getElem?_cons_zero]; rfl) (by kernel_rfl) (by kernel_rfl) (by kernel_rfl) (fun _ _ _ h => h) (Or.inr ⟨by rfl, rfl⟩) (by assumption) ?_
        try simp only [Act.put, List.setIfInBounds_toArray, List.set_cons_zero, List.set_cons_succ]
        refine wpAnyH_take (i := 21) (v := undef) (by simp only [List.getElem?_toArray, List.getElem?_cons_succ, List.getElem?_cons_zero]; rfl) (by kernel_rfl) (by kernel_rfl) (by kernel_rfl) (fun _ _ _ h => h) (Or.inr ⟨by rfl, rfl⟩) (by assumption) ?_
        try simp only [Act.put, List.setIfInBounds_toArray, List.set_cons_zero, List.set_cons_succ]
        refine wpAnyH_take (i := 22) (v := .bool false) (by simp only [List.getElem?_toArray, List.getElem?_cons_succ, List.getElem?_cons_zero]; rfl) (by kernel_rfl) (by kernel_rfl) (by kernel_rfl) (fun _ _ _ h => h) (Or.inl ⟨by rfl, (by intro wq hSq; clear hSq; go_simp)⟩) (by assumption) ?_
        try simp only [Act.put, List.setIfInBounds_toArray, List.set_cons_zero, List.set_cons_succ]
        refine wpAnyH_done (by kernel_rfl) ?_ _
        refine NoPanic.normal ?_
        go_wp2
        go_meet
        exact ⟨rfl, N2⟩
      cases gb : goodM n
      · rw [ga] at hGm
        rw [gb] at hGn
        clear ga gb
        refine wp_region_noPanic ?_
        refine wp_region_held_drew (S := fun U => BoxP w0 U a b m n) (by kernel_rfl) (HB5.out.drew) (fun hHeld => ?_)
        refine wpAnyH_take (i := 0) (v := .pointer (some ⟨(w0.heap.size + 2), 0, none⟩)) (by simp only [List.getElem?_toArray, List.getElem?_cons_zero]; rfl) (by kernel_rfl) (by kernel_rfl) (by kernel_rfl) (fun _ _ _ h => h) (Or.inl ⟨by rfl, (by intro wq hSq; clear hSq; go_simp)⟩) (by assumption) ?_
        try simp only [Act.put, List.setIfInBounds_toArray, List.set_cons_zero, List.set_cons_succ]
        refine wpAnyH_take (i := 1) (v := mv m) (by simp only [List.getElem?_toArray, List.getElem?_cons_succ, List.getElem?_cons_zero]; rfl) (by kernel_rfl) (by kernel_rfl) (by kernel_rfl) (fun _ _ _ h => h) (Or.inl ⟨by rfl, fun w h => exec_load_at 30 _ rfl (w0.heap.size + 2) 0 rfl [.int .i64 m.origin, .int .u64 m.seq, .int .i64 m.hop, .string m.ex, .string m.key, .string m.body] _ (fun j u hj => h.atM j u hj) Tryd.underlying30 rfl info6⟩) (by assumption) ?_
        try simp only [Act.put, List.setIfInBounds_toArray, List.set_cons_zero, List.set_cons_succ]
        refine wpAnyH_ready (rs := [2]) (by kernel_rfl) (by simp) ?_
        refine AllReadyH.cons rfl (fun K hK => ?_) AllReadyH.nil
        have HS2 : Hid _ := hHeld
        clear hHeld
        go_simp
        refine (hGm _).mono ?_
        rintro e U2 ⟨rfl, b2⟩
        have N2 : BoxP w0 U2 a b m n := HS2.out.go b2
        clear b2
        dsimp only
        refine hK.out _ _ (N2) (fun hHeld => ?_)
        clear hK K
        try simp only [Act.put, List.setIfInBounds_toArray, List.set_cons_zero, List.set_cons_succ]
        refine wpAnyH_take (i := 3) (v := ?_) (by simp only [List.getElem?_toArray, List.getElem?_cons_succ, List.getElem?_cons_zero]; rfl) (by kernel_rfl) (by kernel_rfl) (by kernel_rfl) (fun _ _ _ h => h) (Or.inl ⟨by rfl, ?_⟩) (by assumption) ?_
        rotate_left
        · (intro wq hSq; clear hSq; go_simp; try with_reducible rfl)
        try simp only [Act.put, List.setIfInBounds_toArray, List.set_cons_zero, List.set_cons_succ]
        refine wpAnyH_take (i := 4) (v := .pointer (some ⟨(w0.heap.size + 2), 6, none⟩)) (by simp only [List.getElem?_toArray, List.getElem?_cons_succ, List.getElem?_cons_zero]; rfl) (by kernel_rfl) (by kernel_rfl) (by kernel_rfl) (fun _ _ _ h => h) (Or.inl ⟨by rfl, (by intro wq hSq; clear hSq; go_simp)⟩) (by assumption) ?_
        try simp only [Act.put, List.setIfInBounds_toArray, List.set_cons_zero, List.set_cons_succ]
        refine wpAnyH_take (i := 5) (v := mv n) (by simp only [List.getElem?_toArray, List.getElem?_cons_succ, List.getElem?_cons_zero]; rfl) (by kernel_rfl) (by kernel_rfl) (by kernel_rfl) (fun _ _ _ h => h) (Or.inl ⟨by rfl, fun w h => exec_load_at 30 _ rfl (w0.heap.size + 2) 6 rfl [.int .i64 n.origin, .int .u64 n.seq, .int .i64 n.hop, .string n.ex, .string n.key, .string n.body] _ (fun j u hj => h.atN j u hj) Tryd.underlying30 rfl info6⟩) (by assumption) ?_
        try simp only [Act.put, List.setIfInBounds_toArray, List.set_cons_zero, List.set_cons_succ]
        refine wpAnyH_ready (rs := [6]) (by kernel_rfl) (by simp) ?_
        refine AllReadyH.cons rfl (fun K hK => ?_) AllReadyH.nil
        have HS6 : Hid _ := hHeld
        clear hHeld
        go_simp
        refine (hGn _).mono ?_
        rintro e U6 ⟨rfl, b6⟩
        have N6 : BoxP w0 U6 a b m n := HS6.out.go b6
        clear b6
        dsimp only
        refine hK.out _ _ (N6) (fun hHeld => ?_)
        clear hK K
        try simp only [Act.put, List.setIfInBounds_toArray, List.set_cons_zero, List.set_cons_succ]
        refine wpAnyH_take (i := 7) (v := .bool false) (by simp only [List.getElem?_toArray, List.getElem?_cons_succ, List.getElem?_cons_zero]; rfl) (by kernel_rfl) (by kernel_rfl) (by kernel_rfl) (fun _ _ _ h => h) (Or.inl ⟨by rfl, (by intro wq hSq; clear hSq; go_simp)⟩) (by assumption) ?_
        try simp only [Act.put, List.setIfInBounds_toArray, List.set_cons_zero, List.set_cons_succ]
        refine wpAnyH_take (i := 8) (v := ?_) (by simp only [List.getElem?_toArray, List.getElem?_cons_succ, List.getElem?_cons_zero]; rfl) (by kernel_rfl) (by kernel_rfl) (by kernel_rfl) (fun _ _ _ h => h) (Or.inl ⟨by rfl, ?_⟩) (by assumption) ?_
        rotate_left
        · (intro wq hSq; clear hSq; go_simp; try with_reducible rfl)
        try simp only [Act.put, List.setIfInBounds_toArray, List.set_cons_zero, List.set_cons_succ]
        refine wpAnyH_take (i := 9) (v := undef) (by simp only [List.getElem?_toArray, List.getElem?_cons_succ, List.getElem?_cons_zero]; rfl) (by kernel_rfl) (by kernel_rfl) (by kernel_rfl) (fun _ _ _ h => h) (Or.inr ⟨by rfl, rfl⟩) (by assumption) ?_
        try simp only [Act.put, List.setIfInBounds_toArray, List.set_cons_zero, List.set_cons_succ]
        refine wpAnyH_take (i := 10) (v := undef) (by simp only [List.getElem?_toArray, List.getElem?_cons_succ, List.getElem?_cons_zero]; rfl) (by kernel_rfl) (by kernel_rfl) (by kernel_rfl) (fun _ _ _ h => h) (Or.inr ⟨by rfl, rfl⟩) (by assumption) ?_
        try simp only [Act.put, List.setIfInBounds_toArray, List.set_cons_zero, List.set_cons_succ]
        refine wpAnyH_take (i := 11) (v := undef) (by simp only [List.getElem?_toArray, List.getElem?_cons_succ, List.getElem?_cons_zero]; rfl) (by kernel_rfl) (by kernel_rfl) (by kernel_rfl) (fun _ _ _ h => h) (Or.inr ⟨by rfl, rfl⟩) (by assumption) ?_
        try simp only [Act.put, List.setIfInBounds_toArray, List.set_cons_zero, List.set_cons_succ]
        refine wpAnyH_take (i := 12) (v := undef) (by simp only [List.getElem?_toArray, List.getElem?_cons_succ, List.getElem?_cons_zero]; rfl) (by kernel_rfl) (by kernel_rfl) (by kernel_rfl) (fun _ _ _ h => h) (Or.inr ⟨by rfl, rfl⟩) (by assumption) ?_
        try simp only [Act.put, List.setIfInBounds_toArray, List.set_cons_zero, List.set_cons_succ]
        refine wpAnyH_take (i := 13) (v := undef) (by simp only [List.getElem?_toArray, List.getElem?_cons_succ, List.getElem?_cons_zero]; rfl) (by kernel_rfl) (by kernel_rfl) (by kernel_rfl) (fun _ _ _ h => h) (Or.inr ⟨by rfl, rfl⟩) (by assumption) ?_
        try simp only [Act.put, List.setIfInBounds_toArray, List.set_cons_zero, List.set_cons_succ]
        refine wpAnyH_take (i := 14) (v := undef) (by simp only [List.getElem?_toArray, List.getElem?_cons_succ, List.getElem?_cons_zero]; rfl) (by kernel_rfl) (by kernel_rfl) (by kernel_rfl) (fun _ _ _ h => h) (Or.inr ⟨by rfl, rfl⟩) (by assumption) ?_
        try simp only [Act.put, List.setIfInBounds_toArray, List.set_cons_zero, List.set_cons_succ]
        refine wpAnyH_take (i := 15) (v := undef) (by simp only [List.getElem?_toArray, List.getElem?_cons_succ, List.getElem?_cons_zero]; rfl) (by kernel_rfl) (by kernel_rfl) (by kernel_rfl) (fun _ _ _ h => h) (Or.inr ⟨by rfl, rfl⟩) (by assumption) ?_
        try simp only [Act.put, List.setIfInBounds_toArray, List.set_cons_zero, List.set_cons_succ]
        refine wpAnyH_take (i := 16) (v := undef) (by simp only [List.getElem?_toArray, List.getElem?_cons_succ, List.getElem?_cons_zero]; rfl) (by kernel_rfl) (by kernel_rfl) (by kernel_rfl) (fun _ _ _ h => h) (Or.inr ⟨by rfl, rfl⟩) (by assumption) ?_
        try simp only [Act.put, List.setIfInBounds_toArray, List.set_cons_zero, List.set_cons_succ]
        refine wpAnyH_take (i := 17) (v := undef) (by simp only [List.getElem?_toArray, List.getElem?_cons_succ, List.getElem?_cons_zero]; rfl) (by kernel_rfl) (by kernel_rfl) (by kernel_rfl) (fun _ _ _ h => h) (Or.inr ⟨by rfl, rfl⟩) (by assumption) ?_
        try simp only [Act.put, List.setIfInBounds_toArray, List.set_cons_zero, List.set_cons_succ]
        refine wpAnyH_take (i := 18) (v := undef) (by simp only [List.getElem?_toArray, List.getElem?_cons_succ, List.getElem?_cons_zero]; rfl) (by kernel_rfl) (by kernel_rfl) (by kernel_rfl) (fun _ _ _ h => h) (Or.inr ⟨by rfl, rfl⟩) (by assumption) ?_
        try simp only [Act.put, List.setIfInBounds_toArray, List.set_cons_zero, List.set_cons_succ]
        refine wpAnyH_take (i := 19) (v := undef) (by simp only [List.getElem?_toArray, List.getElem?_cons_succ, List.getElem?_cons_zero]; rfl) (by kernel_rfl) (by kernel_rfl) (by kernel_rfl) (fun _ _ _ h => h) (Or.inr ⟨by rfl, rfl⟩) (by assumption) ?_
        try simp only [Act.put, List.setIfInBounds_toArray, List.set_cons_zero, List.set_cons_succ]
        refine wpAnyH_take (i := 20) (v := undef) (by simp only [List.getElem?_toArray, List.getElem?_cons_succ, List.getElem?_cons_zero]; rfl) (by kernel_rfl) (by kernel_rfl) (by kernel_rfl) (fun _ _ _ h => h) (Or.inr ⟨by rfl, rfl⟩) (by assumption) ?_
        try simp only [Act.put, List.setIfInBounds_toArray, List.set_cons_zero, List.set_cons_succ]
        refine wpAnyH_take (i := 21) (v := undef) (by simp only [List.getElem?_toArray, List.getElem?_cons_succ, List.getElem?_cons_zero]; rfl) (by kernel_rfl) (by kernel_rfl) (by kernel_rfl) (fun _ _ _ h => h) (Or.inr ⟨by rfl, rfl⟩) (by assumption) ?_
        try simp only [Act.put, List.setIfInBounds_toArray, List.set_cons_zero, List.set_cons_succ]
        refine wpAnyH_take (i := 22) (v := .bool false) (by simp only [List.getElem?_toArray, List.getElem?_cons_succ, List.getElem?_cons_zero]; rfl) (by kernel_rfl) (by kernel_rfl) (by kernel_rfl) (fun _ _ _ h => h) (Or.inl ⟨by rfl, (by intro wq hSq; clear hSq; go_simp)⟩) (by assumption) ?_
        try simp only [Act.put, List.setIfInBounds_toArray, List.set_cons_zero, List.set_cons_succ]
        refine wpAnyH_done (by kernel_rfl) ?_ _
        refine NoPanic.normal ?_
        go_wp2
        go_meet
        exact ⟨rfl, N6⟩
      · have HQ : Hid ((bytesM m == bytesM n) = decide (m = n)) := by
          show (bytesM m == bytesM n) = decide (m = n)
          by_cases h : m = n
          · subst h; simp
          · rw [decide_eq_false h, beq_eq_false_iff_ne]
            exact fun e => h (bytesM_inj ga gb HH.out.2.2.1.s.2 HH.out.2.2.2.1.s.2 e)
        rw [ga] at hGm
        rw [gb] at hGn
        clear ga gb
        have heqA := fun X => run_eqM m n X
        have hgA := eqGuardM
        refine wp_region_noPanic ?_
        refine wp_region_held_drew (S := fun U => BoxP w0 U a b m n) (by kernel_rfl) (HB5.out.drew) (fun hHeld => ?_)
        refine wpAnyH_take (i := 0) (v := .pointer (some ⟨(w0.heap.size + 2), 0, none⟩)) (by simp only [List.getElem?_toArray, List.getElem?_cons_zero]; rfl) (by kernel_rfl) (by kernel_rfl) (by kernel_rfl) (fun _ _ _ h => h) (Or.inl ⟨by rfl, (by intro wq hSq; clear hSq; go_simp)⟩) (by assumption) ?_
        try simp only [Act.put, List.setIfInBounds_toArray, List.set_cons_zero, List.set_cons_succ]
        refine wpAnyH_take (i := 1) (v := mv m) (by simp only [List.getElem?_toArray, List.getElem?_cons_succ, List.getElem?_cons_zero]; rfl) (by kernel_rfl) (by kernel_rfl) (by kernel_rfl) (fun _ _ _ h => h) (Or.inl ⟨by rfl, fun w h => exec_load_at 30 _ rfl (w0.heap.size + 2) 0 rfl [.int .i64 m.origin, .int .u64 m.seq, .int .i64 m.hop, .string m.ex, .string m.key, .string m.body] _ (fun j u hj => h.atM j u hj) Tryd.underlying30 rfl info6⟩) (by assumption) ?_
        try simp only [Act.put, List.setIfInBounds_toArray, List.set_cons_zero, List.set_cons_succ]
        refine wpAnyH_ready (rs := [2]) (by kernel_rfl) (by simp) ?_
        refine AllReadyH.cons rfl (fun K hK => ?_) AllReadyH.nil
        have HS2 : Hid _ := hHeld
        clear hHeld
        go_simp
        refine (hGm _).mono ?_
        rintro e U2 ⟨rfl, b2⟩
        have N2 : BoxP w0 U2 a b m n := HS2.out.go b2
        clear b2
        dsimp only
        refine hK.out _ _ (N2) (fun hHeld => ?_)
        clear hK K
        try simp only [Act.put, List.setIfInBounds_toArray, List.set_cons_zero, List.set_cons_succ]
        refine wpAnyH_take (i := 3) (v := ?_) (by simp only [List.getElem?_toArray, List.getElem?_cons_succ, List.getElem?_cons_zero]; rfl) (by kernel_rfl) (by kernel_rfl) (by kernel_rfl) (fun _ _ _ h => h) (Or.inl ⟨by rfl, ?_⟩) (by assumption) ?_
        rotate_left
        · (intro wq hSq; clear hSq; go_simp; try with_reducible rfl)
        try simp only [Act.put, List.setIfInBounds_toArray, List.set_cons_zero, List.set_cons_succ]
        refine wpAnyH_take (i := 4) (v := .pointer (some ⟨(w0.heap.size + 2), 6, none⟩)) (by simp only [List.getElem?_toArray, List.getElem?_cons_succ, List.getElem?_cons_zero]; rfl) (by kernel_rfl) (by kernel_rfl) (by kernel_rfl) (fun _ _ _ h => h) (Or.inl ⟨by rfl, (by intro wq hSq; clear hSq; go_simp)⟩) (by assumption) ?_
        try simp only [Act.put, List.setIfInBounds_toArray, List.set_cons_zero, List.set_cons_succ]
        refine wpAnyH_take (i := 5) (v := mv n) (by simp only [List.getElem?_toArray, List.getElem?_cons_succ, List.getElem?_cons_zero]; rfl) (by kernel_rfl) (by kernel_rfl) (by kernel_rfl) (fun _ _ _ h => h) (Or.inl ⟨by rfl, fun w h => exec_load_at 30 _ rfl (w0.heap.size + 2) 6 rfl [.int .i64 n.origin, .int .u64 n.seq, .int .i64 n.hop, .string n.ex, .string n.key, .string n.body] _ (fun j u hj => h.atN j u hj) Tryd.underlying30 rfl info6⟩) (by assumption) ?_
        try simp only [Act.put, List.setIfInBounds_toArray, List.set_cons_zero, List.set_cons_succ]
        refine wpAnyH_ready (rs := [6]) (by kernel_rfl) (by simp) ?_
        refine AllReadyH.cons rfl (fun K hK => ?_) AllReadyH.nil
        have HS6 : Hid _ := hHeld
        clear hHeld
        go_simp
        refine (hGn _).mono ?_
        rintro e U6 ⟨rfl, b6⟩
        have N6 : BoxP w0 U6 a b m n := HS6.out.go b6
        clear b6
        dsimp only
        refine hK.out _ _ (N6) (fun hHeld => ?_)
        clear hK K
        try simp only [Act.put, List.setIfInBounds_toArray, List.set_cons_zero, List.set_cons_succ]
        refine wpAnyH_take (i := 7) (v := ?_) (by simp only [List.getElem?_toArray, List.getElem?_cons_succ, List.getElem?_cons_zero]; rfl) (by kernel_rfl) (by kernel_rfl) (by kernel_rfl) (fun _ _ _ h => h) (Or.inl ⟨by rfl, ?_⟩) (by assumption) ?_
        rotate_left
        · (intro wq hSq; clear hSq; go_simp; try with_reducible rfl)
        try simp only [Act.put, List.setIfInBounds_toArray, List.set_cons_zero, List.set_cons_succ]
        refine wpAnyH_take (i := 8) (v := ?_) (by simp only [List.getElem?_toArray, List.getElem?_cons_succ, List.getElem?_cons_zero]; rfl) (by kernel_rfl) (by kernel_rfl) (by kernel_rfl) (fun _ _ _ h => h) (Or.inl ⟨by rfl, ?_⟩) (by assumption) ?_
        rotate_left
        · (intro wq hSq; clear hSq; go_simp; try with_reducible rfl)
        try simp only [Act.put, List.setIfInBounds_toArray, List.set_cons_zero, List.set_cons_succ]
        refine wpAnyH_take (i := 9) (v := .pointer (some ⟨(w0.heap.size + 2), 0, none⟩)) (by simp only [List.getElem?_toArray, List.getElem?_cons_succ, List.getElem?_cons_zero]; rfl) (by kernel_rfl) (by kernel_rfl) (by kernel_rfl) (fun _ _ _ h => h) (Or.inl ⟨by rfl, (by intro wq hSq; clear hSq; go_simp)⟩) (by assumption) ?_
        try simp only [Act.put, List.setIfInBounds_toArray, List.set_cons_zero, List.set_cons_succ]
        refine wpAnyH_take (i := 10) (v := mv m) (by simp only [List.getElem?_toArray, List.getElem?_cons_succ, List.getElem?_cons_zero]; rfl) (by kernel_rfl) (by kernel_rfl) (by kernel_rfl) (fun _ _ _ h => h) (Or.inl ⟨by rfl, fun w h => exec_load_at 30 _ rfl (w0.heap.size + 2) 0 rfl [.int .i64 m.origin, .int .u64 m.seq, .int .i64 m.hop, .string m.ex, .string m.key, .string m.body] _ (fun j u hj => h.atM j u hj) Tryd.underlying30 rfl info6⟩) (by assumption) ?_
        try simp only [Act.put, List.setIfInBounds_toArray, List.set_cons_zero, List.set_cons_succ]
        refine wpAnyH_take (i := 12) (v := .pointer (some ⟨(w0.heap.size + 2), 6, none⟩)) (by simp only [List.getElem?_toArray, List.getElem?_cons_succ, List.getElem?_cons_zero]; rfl) (by kernel_rfl) (by kernel_rfl) (by kernel_rfl) (fun _ _ _ h => h) (Or.inl ⟨by rfl, (by intro wq hSq; clear hSq; go_simp)⟩) (by assumption) ?_
        try simp only [Act.put, List.setIfInBounds_toArray, List.set_cons_zero, List.set_cons_succ]
        refine wpAnyH_take (i := 13) (v := mv n) (by simp only [List.getElem?_toArray, List.getElem?_cons_succ, List.getElem?_cons_zero]; rfl) (by kernel_rfl) (by kernel_rfl) (by kernel_rfl) (fun _ _ _ h => h) (Or.inl ⟨by rfl, fun w h => exec_load_at 30 _ rfl (w0.heap.size + 2) 6 rfl [.int .i64 n.origin, .int .u64 n.seq, .int .i64 n.hop, .string n.ex, .string n.key, .string n.body] _ (fun j u hj => h.atN j u hj) Tryd.underlying30 rfl info6⟩) (by assumption) ?_
        try simp only [Act.put, List.setIfInBounds_toArray, List.set_cons_zero, List.set_cons_succ]
        refine wpAnyH_take (i := 16) (v := .pointer (some ⟨(w0.heap.size + 2), 0, none⟩)) (by simp only [List.getElem?_toArray, List.getElem?_cons_succ, List.getElem?_cons_zero]; rfl) (by kernel_rfl) (by kernel_rfl) (by kernel_rfl) (fun _ _ _ h => h) (Or.inl ⟨by rfl, (by intro wq hSq; clear hSq; go_simp)⟩) (by assumption) ?_
        try simp only [Act.put, List.setIfInBounds_toArray, List.set_cons_zero, List.set_cons_succ]
        refine wpAnyH_take (i := 17) (v := mv m) (by simp only [List.getElem?_toArray, List.getElem?_cons_succ, List.getElem?_cons_zero]; rfl) (by kernel_rfl) (by kernel_rfl) (by kernel_rfl) (fun _ _ _ h => h) (Or.inl ⟨by rfl, fun w h => exec_load_at 30 _ rfl (w0.heap.size + 2) 0 rfl [.int .i64 m.origin, .int .u64 m.seq, .int .i64 m.hop, .string m.ex, .string m.key, .string m.body] _ (fun j u hj => h.atM j u hj) Tryd.underlying30 rfl info6⟩) (by assumption) ?_
        try simp only [Act.put, List.setIfInBounds_toArray, List.set_cons_zero, List.set_cons_succ]
        refine wpAnyH_take (i := 18) (v := .pointer (some ⟨(w0.heap.size + 2), 6, none⟩)) (by simp only [List.getElem?_toArray, List.getElem?_cons_succ, List.getElem?_cons_zero]; rfl) (by kernel_rfl) (by kernel_rfl) (by kernel_rfl) (fun _ _ _ h => h) (Or.inl ⟨by rfl, (by intro wq hSq; clear hSq; go_simp)⟩) (by assumption) ?_
        try simp only [Act.put, List.setIfInBounds_toArray, List.set_cons_zero, List.set_cons_succ]
        refine wpAnyH_take (i := 19) (v := mv n) (by simp only [List.getElem?_toArray, List.getElem?_cons_succ, List.getElem?_cons_zero]; rfl) (by kernel_rfl) (by kernel_rfl) (by kernel_rfl) (fun _ _ _ h => h) (Or.inl ⟨by rfl, fun w h => exec_load_at 30 _ rfl (w0.heap.size + 2) 6 rfl [.int .i64 n.origin, .int .u64 n.seq, .int .i64 n.hop, .string n.ex, .string n.key, .string n.body] _ (fun j u hj => h.atN j u hj) Tryd.underlying30 rfl info6⟩) (by assumption) ?_
        try simp only [Act.put, List.setIfInBounds_toArray, List.set_cons_zero, List.set_cons_succ]
        refine wpAnyH_take (i := 20) (v := .bool (decide (m = n))) (by simp only [List.getElem?_toArray, List.getElem?_cons_succ, List.getElem?_cons_zero]; rfl) (by kernel_rfl) (by kernel_rfl) (by kernel_rfl) (fun _ _ _ h => h) (Or.inl ⟨by rfl, (by intro wq hSq; clear hSq hHeld; go_simp)⟩) (by assumption) ?_
        try simp only [Act.put, List.setIfInBounds_toArray, List.set_cons_zero, List.set_cons_succ]
        refine wpAnyH_ready (rs := [11]) (by kernel_rfl) (by simp) ?_
        refine AllReadyH.cons rfl (fun K hK => ?_) AllReadyH.nil
        have HS11 : Hid _ := hHeld
        clear hHeld
        go_simp
        refine (msgBytes_any m _ HS11.out.tab HH.out.2.2.1 HH.out.2.2.2.2.1).mono ?_
        rintro e U11 ⟨v11, rfl, o11, b11⟩
        have N11 : BoxP w0 U11 a b m n := HS11.out.go b11
        have O11 : Hid (Holds U11 v11 (bytesM m)) := o11.holds
        clear o11 b11
        dsimp only
        refine hK.out _ _ (N11) (fun hHeld => ?_)
        clear hK K
        try simp only [Act.put, List.setIfInBounds_toArray, List.set_cons_zero, List.set_cons_succ]
        refine wpAnyH_ready (rs := [14]) (by kernel_rfl) (by simp) ?_
        refine AllReadyH.cons rfl (fun K hK => ?_) AllReadyH.nil
        have HS14 : Hid _ := hHeld
        clear hHeld
        go_simp
        refine (msgBytes_any n _ HS14.out.tab HH.out.2.2.2.1 HH.out.2.2.2.2.2).mono ?_
        rintro e U14 ⟨v14, rfl, o14, b14⟩
        have N14 : BoxP w0 U14 a b m n := HS14.out.go b14
        have O14 : Hid (Holds U14 v14 (bytesM n) ∧ Holds U14 v11 (bytesM m)) := ⟨o14.holds, O11.out.below b14 (Nat.le_refl _)⟩
        clear o14 b14
        dsimp only
        refine hK.out _ _ (N14) (fun hHeld => ?_)
        clear hK K
        try simp only [Act.put, List.setIfInBounds_toArray, List.set_cons_zero, List.set_cons_succ]
        refine wpAnyH_ready (rs := [15]) (by kernel_rfl) (by simp) ?_
        refine AllReadyH.cons rfl (fun K hK => ?_) AllReadyH.nil
        have HS15 : Hid _ := hHeld
        clear hHeld
        go_simp
        have hS15 := same_any v11 v14 _ _ U14 O14.out.2 O14.out.1
        rw [HQ.out] at hS15
        refine hS15.mono ?_
        rintro e U15 ⟨rfl, hU15⟩
        subst hU15
        clear hS15
        dsimp only
        refine hK.out _ _ (HS15.out) (fun hHeld => ?_)
        clear hK K
        try simp only [Act.put, List.setIfInBounds_toArray, List.set_cons_zero, List.set_cons_succ]
        refine wpAnyH_take (i := 21) (v := .bool false) (by simp only [List.getElem?_toArray, List.getElem?_cons_succ, List.getElem?_cons_zero]; rfl) (by kernel_rfl) (by kernel_rfl) (by kernel_rfl) (fun _ _ _ h => h) (Or.inl ⟨by rfl, (by intro wq hSq; clear hSq hHeld heqA hgA; go_simp)⟩) (by assumption) ?_
        try simp only [Act.put, List.setIfInBounds_toArray, List.set_cons_zero, List.set_cons_succ]
        refine wpAnyH_take (i := 22) (v := .bool false) (by simp only [List.getElem?_toArray, List.getElem?_cons_succ, List.getElem?_cons_zero]; rfl) (by kernel_rfl) (by kernel_rfl) (by kernel_rfl) (fun _ _ _ h => h) (Or.inl ⟨by rfl, (by intro wq hSq; clear hSq hHeld heqA hgA; go_simp)⟩) (by assumption) ?_
        try simp only [Act.put, List.setIfInBounds_toArray, List.set_cons_zero, List.set_cons_succ]
        refine wpAnyH_done (by kernel_rfl) ?_ _
        refine NoPanic.normal ?_
        go_wp2
        go_meet
        exact ⟨rfl, N14⟩
    case rest =>
      obtain ⟨rfl, hbx⟩ := hcut
      have hL := lives_any wc hbx.tab hbx.kinds
      have HB6 : Hid (BoxP w0 wc a b m n) := hbx
      clear hbx
      go_wp2_with fail
      refine hL.mono ?_
      rintro e V2 ⟨rfl, b2⟩
      have HE : Hid (Below w0.heap.size w0 V2) := keptW HB6.out.bel b2
      clear hL b2
      go_wp2
      go_ret
      exact ⟨rfl, HE.out⟩
end Go.Proofs.YticbhpnpopmodaaDoor
