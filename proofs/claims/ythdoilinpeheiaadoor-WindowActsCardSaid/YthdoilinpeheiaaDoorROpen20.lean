/-
  THE DOCUMENT's Open and Reset, by their contracts.
-/
import Derived.Test.YthdoilinpeheiaaDoorRSend20
namespace Go.Proofs.YthdoilinpeheiaaDoor
open Go.RowKit
set_option maxRecDepth 100000

/-- How many of the first k are open. -/
def cntO (m : Wn) (k : Nat) : Nat := (List.range k).countP fun i => m.sent.testBit i && !m.there.testBit i
theorem cntO_succ (m : Wn) (k : Nat) : cntO m (k + 1) = cntO m k + (if m.sent.testBit k && !m.there.testBit k then 1 else 0) := by
  unfold cntO
  rw [List.range_succ, List.countP_append]
  congr 1
  simp [List.countP_cons]
theorem cntO_le (m : Wn) (k : Nat) : cntO m k ≤ k := by
  have := List.countP_le_length (l := List.range k) (p := fun i => m.sent.testBit i && !m.there.testBit i)
  simpa [cntO] using this
theorem cntO_open {m : Wn} (h : m.Ok) : cntO m m.s = openN m := by
  have h2 := h.s2
  unfold openN
  rw [listN_count, show (64 : Nat) = m.s + (64 - m.s) by omega, range_cut, List.countP_append]
  have e1 : (List.range m.s).countP (fun i => (openS m).testBit i) = cntO m m.s := by
    unfold cntO
    refine List.countP_congr fun i hi => ?_
    have hi' : i < m.s := by simpa using hi
    rw [openS_test h.setT, decide_eq_true (show i < 64 by omega), Bool.true_and]
  have e2 : (List.range' m.s (64 - m.s)).countP (fun i => (openS m).testBit i) = 0 := by
    rw [List.countP_eq_zero]
    intro i hi
    simp only [List.mem_range'_1] at hi
    rw [openS_test h.setT]
    cases hb : m.sent.testBit i with
    | false => simp
    | true => have := h.near i hb; omega
  rw [e1, e2]
  rfl

theorem ropen_at {w : World} {q : Nat} {v : Value} {m : Wn} {g : Nat → Nat} (h : RAt w q v m g) (ok : m.Ok) : Calls Tryd.prog 21 #[.pointer (some ⟨q, 0, none⟩)] w fun e w' =>
    e = .returned (.int .i64 (openN m)) ∧ Below w.heap.size w w' := by
  have hs1 := ok.s1
  have hs2 := ok.s2
  obtain ⟨_, _, _, c3⟩ := h.cells
  obtain ⟨va, vc, hvv⟩ := h.row.slice
  rw [PL_len] at hvv
  subst hvv
  have HP : Hid (∀ i, i < m.s → ∃ b o, va = some ⟨b, o, none⟩ ∧ w.cell? ⟨b, o + i * 3, none⟩ = some (.bool (m.sent.testBit i)) ∧ w.cell? ⟨b, o + i * 3 + 1, none⟩ = some (.int .i64 (g i)) ∧ w.cell? ⟨b, o + i * 3 + 2, none⟩ = some (.bool (m.there.testBit i))) := fun i hi => by
    obtain ⟨b, o, e, p0, p1, p2⟩ := (pls_at h.row).2 i (by rw [PL_len]; exact hi)
    rw [PL_get] at p0 p1 p2
    exact ⟨b, o, e, p0, p1, p2⟩
  have HO : Hid (cntO m m.s = openN m) := cntO_open ok
  have h63 : (m.s : Int) ≤ 32 := by omega
  clear h ok
  go_enter Tryd.func21, Tryd.ntmps21
  go_wp2
  go_loopg [3, 11] m.s (fun g' u3 u11 wr => ∃ k : Nat, u11 = .int .i64 k ∧ k ≤ m.s ∧ g' = m.s - k ∧ u3 = .int .i64 (cntO m k) ∧ Hid (Below w.heap.size w wr))
  case atStart => exact ⟨0, rfl, Nat.zero_le _, rfl, rfl, Below.refl _ _⟩
  case round =>
    obtain ⟨k, rfl, hk, rfl, rfl, hB⟩ := hrel
    have hcl := cntO_le m k
    have hcs : Hid _ := cntO_succ m k
    by_cases hlt2 : k < m.s
    · have hlt : (k : Int) < (m.s : Int) := by omega
      obtain ⟨b, o, rfl, p0, p1, p2⟩ := HP.out k hlt2
      replace p0 := cell_on hB.out p0
      replace p1 := cell_on hB.out p1
      replace p2 := cell_on hB.out p2
      have hB2 : Hid (∀ O, Below w.heap.size w (wr.alloc O)) := fun O => hB.out.alloc hB.out.size O
      generalize cntO m k = c at *
      cases hs : m.sent.testBit k with
      | false =>
        rw [hs] at p0
        go_wp2
        go_roundg (m.s - (k + 1))
        case measure => omega
        case rel => exact ⟨k + 1, by go_num, by omega, rfl, by rw [hcs.out, hs]; rfl, hB2.out _⟩
      | true =>
        rw [hs] at p0
        cases ht : m.there.testBit k with
        | true =>
          rw [ht] at p2
          go_wp2
          go_roundg (m.s - (k + 1))
          case measure => omega
          case rel => exact ⟨k + 1, by go_num, by omega, rfl, by rw [hcs.out, hs, ht]; rfl, hB2.out _⟩
        | false =>
          rw [ht] at p2
          go_wp2
          go_roundg (m.s - (k + 1))
          case measure => omega
          case rel => exact ⟨k + 1, by go_num, by omega, rfl, by rw [hcs.out, hs, ht]; rfl, hB2.out _⟩
    · obtain rfl : k = m.s := by omega
      go_wp2
      go_ret
      exact ⟨ret_int (by rw [HO.out]), hB.out⟩

theorem qcells20 {w : World} {q : Nat} {a b c d : Value} (h : w.heap[q]? = some (.cells #[a, b, c, d] 38 (0, 0))) : w.cell? ⟨q, 0, none⟩ = some a ∧ w.cell? ⟨q, 2, none⟩ = some c ∧ w.cell? ⟨q, 3, none⟩ = some d ∧ ∀ i, w.frozen? ⟨q, i, none⟩ = false := by
  refine ⟨?_, ?_, ?_, fun i => by simp [World.frozen?, h]⟩ <;> rw [cell_of_row w q _ _ 38 (0, 0) h] <;> rfl
theorem drew_below20r (w : World) : Below w.heap.size w w.drew := (Below.refl _ w).drew
/-- How the document's Reset ends. -/
def RResetP (w : World) (q : Nat) (m : Wn) (w' : World) : Prop := ∃ v' g', RAt w' q v' (newW m.s m.t) g' ∧ Only q w w' ∧ ∃ k, v'.ownBlock = some k ∧ w.heap.size ≤ k
theorem rreset_at {w : World} {q : Nat} {v : Value} {m : Wn} {g : Nat → Nat} (h : RAt w q v m g) (ok : m.Ok) : Calls Tryd.prog 18 #[.pointer (some ⟨q, 0, none⟩)] w fun e w' =>
    e = .returned (.tuple #[]) ∧ RResetP w q m w' := by
  have hs1 := ok.s1
  have hs2 := ok.s2
  have hlt := h.lt
  have c0 := h.cells.1
  obtain ⟨O, hO⟩ : ∃ O, O = Obj.cells (K.cellsOf pcells (List.replicate m.s zeroP)).toArray 62 := ⟨_, rfl⟩
  obtain ⟨n0, hn0⟩ : ∃ n0, n0 = w.heap.size := ⟨_, rfl⟩
  obtain ⟨V0, hV0⟩ : ∃ X, w.drew = X := ⟨_, rfl⟩
  have sV0 : V0.heap.size = n0 := by rw [← hV0, hn0]; rfl
  obtain ⟨X1, hX1⟩ : ∃ X, V0.alloc O = X := ⟨_, rfl⟩
  obtain ⟨X2, hX2⟩ : ∃ X, X1.setCell ⟨q, 2, none⟩ (.int .u16 0) = X := ⟨_, rfl⟩
  obtain ⟨X3, hX3⟩ : ∃ X, X2.setCell ⟨q, 3, none⟩ (.slice (some ⟨n0, 0, none⟩) m.s m.s) = X := ⟨_, rfl⟩
  obtain ⟨Y1, hY1⟩ : ∃ X, V0.setCell ⟨q, 2, none⟩ (.int .u16 0) = X := ⟨_, rfl⟩
  obtain ⟨Y2, hY2⟩ : ∃ X, Y1.alloc O = X := ⟨_, rfl⟩
  obtain ⟨Y3, hY3⟩ : ∃ X, Y2.setCell ⟨q, 3, none⟩ (.slice (some ⟨n0, 0, none⟩) m.s m.s) = X := ⟨_, rfl⟩
  have sY1 : Y1.heap.size = n0 := by rw [← hY1, World.size_setCell, sV0]
  have mk1 : (Instr.makeSlice 36 (.int .i64 m.s) (.int .i64 m.s)).run Tryd.prog V0 = .ok (.slice (some ⟨n0, 0, none⟩) m.s m.s) X1 := by
    have := run_make_places V0 m.s (by omega)
    rw [← hO, sV0, hX1] at this
    exact this
  have mk2 : (Instr.makeSlice 36 (.int .i64 m.s) (.int .i64 m.s)).run Tryd.prog Y1 = .ok (.slice (some ⟨n0, 0, none⟩) m.s m.s) Y2 := by
    have := run_make_places Y1 m.s (by omega)
    rw [← hO, sY1, hY2] at this
    exact this
  have hq0 : q ≠ n0 := by omega
  have bW : Hid (V0.heap[q]? = some (.cells #[.int .i64 m.s, .int .i64 m.t, .int .u16 m.b, v] 38 (0, 0))) := by rw [← hV0]; exact h.blk
  have bX1 : Hid (X1.heap[q]? = some (.cells #[.int .i64 m.s, .int .i64 m.t, .int .u16 m.b, v] 38 (0, 0))) := by rw [← hX1]; exact (Below.heap_alloc V0 O q (by omega)).trans bW.out
  have bX2 : Hid (X2.heap[q]? = some (.cells #[.int .i64 m.s, .int .i64 m.t, .int .u16 0, v] 38 (0, 0))) := by rw [← hX2]; exact heap_setCell_same _ q 2 _ _ _ bX1.out
  have bX3 : Hid (X3.heap[q]? = some (.cells #[.int .i64 m.s, .int .i64 m.t, .int .u16 0, .slice (some ⟨n0, 0, none⟩) m.s m.s] 38 (0, 0))) := by rw [← hX3]; exact heap_setCell_same _ q 3 _ _ _ bX2.out
  have bXn : Hid (X3.heap[n0]? = some O) := by
    rw [← hX3, ← hX2]
    refine (Below.heap_setCell _ ⟨q, 3, none⟩ _ n0 (fun e => hq0 e.symm)).trans ((Below.heap_setCell _ ⟨q, 2, none⟩ _ n0 (fun e => hq0 e.symm)).trans ?_)
    rw [← hX1, ← sV0]; exact heap_alloc_new V0 O
  have o0 : Only q w V0 := by rw [← hV0]; exact Only.of_below (drew_below20r w)
  have bXo : Hid (Only q w X3) := by
    have o1 : Only q V0 X1 := by rw [← hX1]; exact Only.of_below ((Below.refl _ V0).alloc (Nat.le_refl _) O)
    have o2 : Only q X1 X2 := by rw [← hX2]; exact Only.set _ q 2 _
    have o3 : Only q X2 X3 := by rw [← hX3]; exact Only.set _ q 3 _
    exact o0.trans (o1.trans (o2.trans o3))
  have bY1 : Hid (Y1.heap[q]? = some (.cells #[.int .i64 m.s, .int .i64 m.t, .int .u16 0, v] 38 (0, 0))) := by rw [← hY1]; exact heap_setCell_same _ q 2 _ _ _ bW.out
  have bY2 : Hid (Y2.heap[q]? = some (.cells #[.int .i64 m.s, .int .i64 m.t, .int .u16 0, v] 38 (0, 0))) := by rw [← hY2]; exact (Below.heap_alloc Y1 O q (by omega)).trans bY1.out
  have bY3 : Hid (Y3.heap[q]? = some (.cells #[.int .i64 m.s, .int .i64 m.t, .int .u16 0, .slice (some ⟨n0, 0, none⟩) m.s m.s] 38 (0, 0))) := by rw [← hY3]; exact heap_setCell_same _ q 3 _ _ _ bY2.out
  have bYn : Hid (Y3.heap[n0]? = some O) := by
    rw [← hY3]
    refine (Below.heap_setCell _ ⟨q, 3, none⟩ _ n0 (fun e => hq0 e.symm)).trans ?_
    rw [← hY2, ← sY1]; exact heap_alloc_new Y1 O
  have bYo : Hid (Only q w Y3) := by
    have o1 : Only q V0 Y1 := by rw [← hY1]; exact Only.set _ q 2 _
    have o2 : Only q Y1 Y2 := by rw [← hY2]; exact Only.of_below ((Below.refl _ Y1).alloc (Nat.le_refl _) O)
    have o3 : Only q Y2 Y3 := by rw [← hY3]; exact Only.set _ q 3 _
    exact o0.trans (o1.trans (o2.trans o3))
  have hfin : Hid (∀ X : World, X.heap[q]? = some (.cells #[.int .i64 m.s, .int .i64 m.t, .int .u16 0, .slice (some ⟨n0, 0, none⟩) m.s m.s] 38 (0, 0)) → X.heap[n0]? = some O → Only q w X → RResetP w q m X) := fun X h1 h2 h3 => by
    refine ⟨.slice (some ⟨n0, 0, none⟩) m.s m.s, fun _ => 0, ⟨h1, ?_, fun i hi => by simp [newW] at hi, by show (some n0 : Option Nat) ≠ some q; intro he; injection he with he; exact hq0 he.symm⟩, h3, n0, rfl, by omega⟩
    rw [show newW m.s m.t = ⟨m.s, m.t, 0, 0, 0, fun _ => 0⟩ from rfl, ← PL_new]
    refine .inr ⟨⟨n0, 0, none⟩, m.s, by rw [List.length_replicate], by rw [List.length_replicate]; exact Nat.le_refl _, by unfold maxLen; omega, fun j u hj => ?_⟩
    rw [hO] at h2
    rw [Go.WideShapes.add_plain, cell_of_row _ n0 (0 + j) _ 62 (0, 0) h2, Nat.zero_add]
    simpa using hj
  clear h ok hO hn0 o0 sV0 sY1
  go_enter Tryd.func18, Tryd.ntmps18
  go_wp2
  -- RESET
  refine wp_region_noPanic ?_
  refine wp_region_held_drew (S := fun w' => w'.cell? ⟨q, 0, none⟩ = some (.int .i64 m.s)) (by kernel_rfl) c0 (fun hHeld => ?_)
  refine wpAnyH_take (i := 0) (v := .pointer (some ⟨q, 0, none⟩)) (by simp only [List.getElem?_toArray, List.getElem?_cons_zero]; rfl) (by kernel_rfl) (by kernel_rfl) (by kernel_rfl) (fun _ _ _ h => h) (Or.inl ⟨by rfl, ?_⟩) (by assumption) ?_
  · (intro wq hSq; clear hSq; go_simp; try with_reducible rfl)
  try simp only [Act.put, List.setIfInBounds_toArray, List.set_cons_zero, List.set_cons_succ]
  refine wpAnyH_take (i := 1) (v := .pointer (some ⟨q, 0, none⟩)) (by simp only [List.getElem?_toArray, List.getElem?_cons_succ, List.getElem?_cons_zero]; rfl) (by kernel_rfl) (by kernel_rfl) (by kernel_rfl) (fun _ _ _ h => h) (Or.inl ⟨by rfl, ?_⟩) (by assumption) ?_
  · (intro wq hSq; clear hSq; go_simp; try with_reducible rfl)
  try simp only [Act.put, List.setIfInBounds_toArray, List.set_cons_zero, List.set_cons_succ]
  refine wpAnyH_take (i := 2) (v := .pointer (some ⟨q, 0, none⟩)) (by simp only [List.getElem?_toArray, List.getElem?_cons_succ, List.getElem?_cons_zero]; rfl) (by kernel_rfl) (by kernel_rfl) (by kernel_rfl) (fun _ _ _ h => h) (Or.inl ⟨by rfl, ?_⟩) (by assumption) ?_
  · (intro wq hSq; clear hSq; go_simp; try with_reducible rfl)
  try simp only [Act.put, List.setIfInBounds_toArray, List.set_cons_zero, List.set_cons_succ]
  refine wpAnyH_take (i := 3) (v := .pointer (some ⟨q, 0, none⟩)) (by simp only [List.getElem?_toArray, List.getElem?_cons_succ, List.getElem?_cons_zero]; rfl) (by kernel_rfl) (by kernel_rfl) (by kernel_rfl) (fun _ _ _ h => h) (Or.inl ⟨by rfl, ?_⟩) (by assumption) ?_
  · (intro wq hSq; clear hSq; go_simp; try with_reducible rfl)
  try simp only [Act.put, List.setIfInBounds_toArray, List.set_cons_zero, List.set_cons_succ]
  refine wpAnyH_take (i := 4) (v := .pointer (some ⟨q, 0, none⟩)) (by simp only [List.getElem?_toArray, List.getElem?_cons_succ, List.getElem?_cons_zero]; rfl) (by kernel_rfl) (by kernel_rfl) (by kernel_rfl) (fun _ _ _ h => h) (Or.inl ⟨by rfl, ?_⟩) (by assumption) ?_
  · (intro wq hSq; clear hSq; go_simp; try with_reducible rfl)
  try simp only [Act.put, List.setIfInBounds_toArray, List.set_cons_zero, List.set_cons_succ]
  refine wpAnyH_take (i := 5) (v := .int .i64 m.s) (by simp only [List.getElem?_toArray, List.getElem?_cons_succ, List.getElem?_cons_zero]; rfl) (by kernel_rfl) (by kernel_rfl) (by kernel_rfl) (fun _ _ _ h => h) (Or.inl ⟨by rfl, ?_⟩) (by assumption) ?_
  · (intro wq hSq; go_simp; try with_reducible rfl)
  try simp only [Act.put, List.setIfInBounds_toArray, List.set_cons_zero, List.set_cons_succ]
  refine wpAnyH_take (i := 7) (v := .pointer (some ⟨q, 0, none⟩)) (by simp only [List.getElem?_toArray, List.getElem?_cons_succ, List.getElem?_cons_zero]; rfl) (by kernel_rfl) (by kernel_rfl) (by kernel_rfl) (fun _ _ _ h => h) (Or.inl ⟨by rfl, ?_⟩) (by assumption) ?_
  · (intro wq hSq; clear hSq; go_simp; try with_reducible rfl)
  try simp only [Act.put, List.setIfInBounds_toArray, List.set_cons_zero, List.set_cons_succ]
  refine wpAnyH_take (i := 8) (v := .pointer (some ⟨q, 2, none⟩)) (by simp only [List.getElem?_toArray, List.getElem?_cons_succ, List.getElem?_cons_zero]; rfl) (by kernel_rfl) (by kernel_rfl) (by kernel_rfl) (fun _ _ _ h => h) (Or.inl ⟨by rfl, ?_⟩) (by assumption) ?_
  · (intro wq hSq; clear hSq; go_simp; try with_reducible rfl)
  try simp only [Act.put, List.setIfInBounds_toArray, List.set_cons_zero, List.set_cons_succ]
  rw [hV0] at hHeld ⊢
  clear hV0
  refine wpAnyH_ready (rs := [6, 9]) (by kernel_rfl) (by simp) ?_
  refine AllReadyH.cons rfl (fun KK hK => ?_) ?_
  · skip
    go_simp
    refine hK.out _ _ (qcells20 bX1.out).1 (fun hHeld => ?_)
    clear hK KK
    try simp only [Act.put, List.setIfInBounds_toArray, List.set_cons_zero, List.set_cons_succ]
    obtain ⟨x0, x2, x3, xf⟩ := qcells20 bX1.out
    have xf2 := xf 2
    have xf3 := xf 3
    refine wpAnyH_ready (rs := [9]) (by kernel_rfl) (by simp) ?_
    refine AllReadyH.cons rfl (fun KK hK => ?_) AllReadyH.nil
    go_simp
    refine hK.out _ _ (qcells20 bX2.out).1 (fun hHeld => ?_)
    clear hK KK
    try simp only [Act.put, List.setIfInBounds_toArray]
    clear x0 x2 x3 xf xf2 xf3
    obtain ⟨y0, y2, y3, yf⟩ := qcells20 bX2.out
    have yf2 := yf 2
    have yf3 := yf 3
    refine wpAnyH_take (i := 10) (v := .pointer (some ⟨q, 0, none⟩)) (by simp only [List.getElem?_toArray, List.getElem?_cons_succ, List.getElem?_cons_zero]; rfl) (by kernel_rfl) (by kernel_rfl) (by kernel_rfl) (fun _ _ _ h => h) (Or.inl ⟨by rfl, ?_⟩) (by assumption) ?_
    · (intro wq hSq; clear hSq; go_simp; try with_reducible rfl)
    try simp only [Act.put, List.setIfInBounds_toArray, List.set_cons_zero, List.set_cons_succ]
    refine wpAnyH_take (i := 11) (v := .pointer (some ⟨q, 3, none⟩)) (by simp only [List.getElem?_toArray, List.getElem?_cons_succ, List.getElem?_cons_zero]; rfl) (by kernel_rfl) (by kernel_rfl) (by kernel_rfl) (fun _ _ _ h => h) (Or.inl ⟨by rfl, ?_⟩) (by assumption) ?_
    · (intro wq hSq; clear hSq; go_simp; try with_reducible rfl)
    try simp only [Act.put, List.setIfInBounds_toArray, List.set_cons_zero, List.set_cons_succ]
    refine wpAnyH_ready (rs := [12]) (by kernel_rfl) (by simp) ?_
    refine AllReadyH.cons rfl (fun KK hK => ?_) AllReadyH.nil
    go_simp
    refine hK.out _ _ (qcells20 bX3.out).1 (fun hHeld => ?_)
    clear hK KK
    try simp only [Act.put, List.setIfInBounds_toArray]
    refine wpAnyH_done (by kernel_rfl) ?_ _
    refine NoPanic.normal ?_
    clear hHeld
    go_wp2
    go_end0
    exact ⟨rfl, hfin.out _ bX3.out bXn.out bXo.out⟩
  refine AllReadyH.cons rfl (fun KK hK => ?_) AllReadyH.nil
  obtain ⟨x0, x2, x3, xf⟩ := qcells20 bW.out
  have xf2 := xf 2
  have xf3 := xf 3
  go_simp
  refine hK.out _ _ (qcells20 bY1.out).1 (fun hHeld => ?_)
  clear hK KK
  try simp only [Act.put, List.setIfInBounds_toArray]
  clear x0 x2 x3 xf xf2 xf3
  refine wpAnyH_ready (rs := [6]) (by kernel_rfl) (by simp) ?_
  refine AllReadyH.cons rfl (fun KK hK => ?_) AllReadyH.nil
  go_simp
  refine hK.out _ _ (qcells20 bY2.out).1 (fun hHeld => ?_)
  clear hK KK
  try simp only [Act.put, List.setIfInBounds_toArray, List.set_cons_zero, List.set_cons_succ]
  obtain ⟨y0, y2, y3, yf⟩ := qcells20 bY2.out
  have yf2 := yf 2
  have yf3 := yf 3
  refine wpAnyH_take (i := 10) (v := .pointer (some ⟨q, 0, none⟩)) (by simp only [List.getElem?_toArray, List.getElem?_cons_succ, List.getElem?_cons_zero]; rfl) (by kernel_rfl) (by kernel_rfl) (by kernel_rfl) (fun _ _ _ h => h) (Or.inl ⟨by rfl, ?_⟩) (by assumption) ?_
  · (intro wq hSq; clear hSq; go_simp; try with_reducible rfl)
  try simp only [Act.put, List.setIfInBounds_toArray, List.set_cons_zero, List.set_cons_succ]
  refine wpAnyH_take (i := 11) (v := .pointer (some ⟨q, 3, none⟩)) (by simp only [List.getElem?_toArray, List.getElem?_cons_succ, List.getElem?_cons_zero]; rfl) (by kernel_rfl) (by kernel_rfl) (by kernel_rfl) (fun _ _ _ h => h) (Or.inl ⟨by rfl, ?_⟩) (by assumption) ?_
  · (intro wq hSq; clear hSq; go_simp; try with_reducible rfl)
  try simp only [Act.put, List.setIfInBounds_toArray, List.set_cons_zero, List.set_cons_succ]
  refine wpAnyH_ready (rs := [12]) (by kernel_rfl) (by simp) ?_
  refine AllReadyH.cons rfl (fun KK hK => ?_) AllReadyH.nil
  go_simp
  refine hK.out _ _ (qcells20 bY3.out).1 (fun hHeld => ?_)
  clear hK KK
  try simp only [Act.put, List.setIfInBounds_toArray]
  refine wpAnyH_done (by kernel_rfl) ?_ _
  refine NoPanic.normal ?_
  clear hHeld
  go_wp2
  go_end0
  exact ⟨rfl, hfin.out _ bY3.out bYn.out bYo.out⟩
  -- ISRESET
end Go.Proofs.YthdoilinpeheiaaDoor
