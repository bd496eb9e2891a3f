/-
  'lives', 'great' and 'hello', by their contracts.
-/
import Derived.Test.YtopacoghnofliaaDoorJBytes19
import Derived.Test.YtopacoghnofliaaDoorJRGood19
import Derived.Deep.RegionHeld3
namespace Go.Proofs.YtopacoghnofliaaDoor
open Go.RowKit

theorem exec_load_row {P : Program} {o : Oper} {a : Act} {w : World} (ty : TypeId) (x : Operand) (ho : o.op = .load ty x)
    (g : Nat) (hx : a.eval x = .pointer (some ⟨g, 0, none⟩)) (t : TypeId) (cs : Array Value) (fr : Nat × Nat) (d : TypeDesc) (hg : w.heap[g]? = some (.cells cs t fr))
    (hu : P.underlying ty = some d) (hd : (match d with | .struct _ | .array _ _ => true | _ => false) = true) (hi : (P.info? ty).map (·.size) = some cs.size) :
    (execOp a.eval o).run P w = .ok (.value (.agg cs)) w := by
  unfold execOp
  simp only [ho, hx, Instr.loadAt, Instr.sureAddr, Sem.run_bind, Sem.run_pure, Result.andThen_ok, run_loadVar_row w g t ty cs fr d hg hu hd hi]
def Ms.Sum (m : Ms) : Prop := m.ex.size + m.key.size + m.body.size ≤ 9223372036854775807
def greatP (p : Pk) : Bool := decide (3000 < p.m.ex.size + p.m.key.size + p.m.body.size)
theorem greatP_any (p : Pk) (w : World) (hs : p.m.Sum) : Calls Tryd.prog 7 #[pv p] w fun e w' => e = .returned (.bool (greatP p)) ∧ Below w.heap.size w w' := by
  obtain ⟨W, fold⟩ : ∃ W, w.alloc (.cells #[.int .i64 p.kind, .int .i64 p.fr, .int .i64 p.dest, .int .u64 p.ep, .int .u16 p.num, .int .u64 p.mask, .int .i64 p.m.origin, .int .u64 p.m.seq, .int .i64 p.m.hop, .string p.m.ex, .string p.m.key, .string p.m.body] 29) = W := ⟨_, rfl⟩
  have b0 : Below w.heap.size w W := by rw [← fold]; exact box_below w _
  have x0 : W.heap[w.heap.size]? = some (.cells (pcells p).toArray 29 (0, 0)) := by rw [← fold]; exact heap_alloc_new w _
  obtain ⟨y0, y1, y2, y3, y4, y5, y6, y7, y8, y9, y10, y11⟩ := cells12 x0
  unfold Ms.Sum at hs
  have HG : Hid (greatP p = decide ((3000 : Int) < (p.m.ex.size : Int) + p.m.key.size + p.m.body.size)) := by
    show _ = _
    unfold greatP
    rw [decide_eq_decide]
    omega
  have HB : Hid (Below w.heap.size w W) := b0
  have w1 : IntKind.i64.wrap ((p.m.ex.size : Int) + p.m.key.size) = (p.m.ex.size : Int) + p.m.key.size := by rw [IntKind.wrap_i64]; omega
  have w2 : IntKind.i64.wrap ((p.m.ex.size : Int) + p.m.key.size + p.m.body.size) = (p.m.ex.size : Int) + p.m.key.size + p.m.body.size := by rw [IntKind.wrap_i64]; omega
  clear hs b0 x0
  go_enter Tryd.func7, Tryd.ntmps7
  go_wp2
  go_ret
  exact ⟨by rw [HG.out]; rfl, HB.out⟩
/-- The packet of the document's example. -/
def helP : Pk := ⟨1, 1, 2, 5, 0, 0, zM⟩
theorem helP_good : goodP helP = true := by decide
theorem helP_fits : helP.Fits := ⟨⟨by decide, by decide⟩, ⟨by decide, by decide⟩, ⟨by decide, by decide⟩, ⟨by decide, by decide⟩, ⟨by decide, by decide⟩, ⟨by decide, by decide⟩, zM_fits19⟩
theorem helP_len : (bytesP helP).length = 19 := by
  rw [bytesP_length helP_good]
  rfl
theorem results_pk {fn : Func} {q : Tmp} (h : fn.results = #[.cell q 29]) (tmps : Array Value) (w : World) (g : Nat) (p : Pk) (hp : tmps.getD q undef = .pointer (some ⟨g, 0, none⟩)) (hg : w.heap[g]? = some (.cells (pcells p).toArray 29 (0, 0))) :
    (results fn tmps).run Tryd.prog w = .ok (pv p) w := results_cell_row h tmps w g 29 (pcells p).toArray (0, 0) _ hp hg Tryd.underlying29 rfl info12
theorem hello_any (w : World) : Calls Tryd.prog 18 #[] w fun e w' => e = .returned (pv helP) ∧ Below w.heap.size w w' := by
  obtain ⟨W, fold⟩ : ∃ W, w.alloc (.cells #[.int .i64 0, .int .i64 0, .int .i64 0, .int .u64 0, .int .u16 0, .int .u64 0, .int .i64 0, .int .u64 0, .int .i64 0, .string ⟨#[]⟩, .string ⟨#[]⟩, .string ⟨#[]⟩] 29) = W := ⟨_, rfl⟩
  have b0 : Below w.heap.size w W := by rw [← fold]; exact box_below w _
  have x0 : W.heap[w.heap.size]? = some (.cells (pcells nilP).toArray 29 (0, 0)) := by rw [← fold]; exact heap_alloc_new w _
  have H0 : Hid (Below w.heap.size w W ∧ W.heap[w.heap.size]? = some (.cells (pcells nilP).toArray 29 (0, 0))) := ⟨b0, x0⟩
  clear b0 x0
  go_enter Tryd.func18, Tryd.ntmps18
  go_wp2_with (refine wpList_store_row rfl 29 _ _ rfl w.heap.size (pcells helP).toArray rfl rfl 29 (pcells nilP).toArray H0.out.2 info12 rfl (one12 helP) ?_)
  refine bodyPost_ret (results_pk rfl _ _ w.heap.size helP rfl (setRow_heap _ _ _ _ _ _ H0.out.2)) rfl ⟨rfl, below_setRow H0.out.1 (Nat.le_refl _) _⟩
/-- What lives and the laws keep: the tables, and a packet in a box. -/
structure Lv (w U : World) (g : Nat) (p : Pk) : Prop where
  tab : Tab U
  kinds : PKinds U
  hg : U.heap[g]? = some (.cells (pcells p).toArray 29 (0, 0))
  bel : Below w.heap.size w U
theorem Lv.go {w U V : World} {g : Nat} {p : Pk} (h : Lv w U g p) (b : Below U.heap.size U V) : Lv w V g p :=
  ⟨h.tab.below b h.tab.pos, h.kinds.below b, (b.block _ (Array.getElem?_eq_some_iff.1 h.hg).1).trans h.hg, keptW h.bel b⟩
set_option maxRecDepth 20000 in
set_option maxHeartbeats 4000000 in
theorem livesP_any (w : World) (ht : Tab w) (hK : PKinds w) : Calls Tryd.prog 8 #[] w fun e w' => e = .returned (.bool true) ∧ Below w.heap.size w w' := by
  have hH := hello_any w
  have H0 : Hid (Tab w ∧ PKinds w) := ⟨ht, hK⟩
  have mixed : Tryd.prog.follows .mixedOrders = true := by kernel_rfl
  clear ht hK
  go_enter Tryd.func8, Tryd.ntmps8
  go_wp2_with fail
  refine hH.mono ?_
  rintro e w1 ⟨rfl, b1⟩
  have H1 : Hid (Tab w1 ∧ PKinds w1 ∧ Below w.heap.size w w1) := ⟨H0.out.1.below b1 H0.out.1.pos, H0.out.2.below b1, b1⟩
  have hB := bytesP_any helP w1 H1.out.1 H1.out.2.1 helP_fits
  clear hH b1
  go_wp2_with fail
  refine hB.mono ?_
  rintro e w2 ⟨v2, rfl, o2, b2⟩
  obtain ⟨a2, c2, hv2⟩ := o2.holds.slice
  rw [helP_len] at hv2
  subst hv2
  have H2 : Hid (Tab w2 ∧ PKinds w2 ∧ Below w.heap.size w w2) := ⟨H1.out.1.below b2 H1.out.1.pos, H1.out.2.1.below b2, keptW H1.out.2.2 b2⟩
  have hR : Calls Tryd.prog 16 #[.slice a2 19 c2] w2 fun e w' => e = .returned (.tuple #[pv helP, .int .i64 0]) ∧ Below w2.heap.size w2 w' := by
    have h := readP_any (.slice a2 19 c2) (bytesP helP) w2 H2.out.1 H2.out.2.1 o2.holds (by rw [helP_len]; omega)
    unfold RdPost at h
    rw [readP_back helP helP_good helP_fits] at h
    exact h
  clear hB b2 o2
  go_wp2_with fail
  refine hR.mono ?_
  rintro e w3 ⟨rfl, b3⟩
  clear hR
  have H3 : Hid (Tab w3 ∧ PKinds w3 ∧ Below w.heap.size w w3) := ⟨H2.out.1.below b3 H2.out.1.pos, H2.out.2.1.below b3, keptW H2.out.2.2 b3⟩
  clear b3
  obtain ⟨V, fV⟩ : ∃ X, w3.alloc (.cells #[.int .i64 0, .int .i64 0, .int .i64 0, .int .u64 0, .int .u16 0, .int .u64 0, .int .i64 0, .int .u64 0, .int .i64 0, .string ⟨#[]⟩, .string ⟨#[]⟩, .string ⟨#[]⟩] 29) = X := ⟨_, rfl⟩
  have bV : Below w3.heap.size w3 V := by rw [← fV]; exact box_below w3 _
  have xV : V.heap[w3.heap.size]? = some (.cells (pcells nilP).toArray 29 (0, 0)) := by rw [← fV]; exact heap_alloc_new w3 _
  obtain ⟨w4, f4⟩ : ∃ X, V.setRow w3.heap.size (pcells helP).toArray = X := ⟨_, rfl⟩
  have b4 : Below w3.heap.size w3 w4 := by rw [← f4]; exact below_setRow bV (Nat.le_refl _) _
  have x4 : w4.heap[w3.heap.size]? = some (.cells (pcells helP).toArray 29 (0, 0)) := by rw [← f4]; exact setRow_heap _ _ _ _ _ _ xV
  have HV : Hid (V.heap[w3.heap.size]? = some (.cells (pcells nilP).toArray 29 (0, 0))) := xV
  have HL : Hid (Lv w w4 w3.heap.size helP) := ⟨H3.out.1.below b4 H3.out.1.pos, H3.out.2.1.below b4, x4, keptW H3.out.2.2 b4⟩
  clear bV xV b4 x4
  go_wp2_with (refine wpList_store_row rfl 29 _ _ rfl w3.heap.size (pcells helP).toArray rfl rfl 29 (pcells nilP).toArray HV.out info12 rfl (one12 helP) ?_)
  try rw [f4]
  refine wp_region_noPanic ?_
  refine wp_region_held_drew (S := fun U => Lv w U w3.heap.size helP) (by kernel_rfl) (HL.out.go (drew_below w4)) (fun hHeld => ?_)
  refine wpAnyH_take (i := 0) (v := ?_) (by simp only [List.getElem?_toArray, List.getElem?_cons_zero]; rfl) (by kernel_rfl) (by kernel_rfl) (by kernel_rfl) (fun _ _ _ h => h) (Or.inl ⟨by rfl, ?_⟩) (by assumption) ?_
  rotate_left
  · (intro wq hSq; clear hSq; go_simp; try with_reducible rfl)
  try simp only [Act.put, List.setIfInBounds_toArray, List.set_cons_zero, List.set_cons_succ]
  refine wpAnyH_take (i := 1) (v := ?_) (by simp only [List.getElem?_toArray, List.getElem?_cons_succ, List.getElem?_cons_zero]; rfl) (by kernel_rfl) (by kernel_rfl) (by kernel_rfl) (fun _ _ _ h => h) (Or.inl ⟨by rfl, ?_⟩) (by assumption) ?_
  rotate_left
  · (intro wq hSq; clear hSq; go_simp; try with_reducible rfl)
  try simp only [Act.put, List.setIfInBounds_toArray, List.set_cons_zero, List.set_cons_succ]
  refine wpAnyH_take (i := 2) (v := .bool true) (by simp only [List.getElem?_toArray, List.getElem?_cons_succ, List.getElem?_cons_zero]; rfl) (by kernel_rfl) (by kernel_rfl) (by kernel_rfl) (fun _ _ _ h => h) (Or.inl ⟨by rfl, ?_⟩) (by assumption) ?_
  · (intro wq hSq; clear hSq; go_simp; try with_reducible rfl)
  try simp only [Act.put, List.setIfInBounds_toArray, List.set_cons_zero, List.set_cons_succ]
  refine wpAnyH_take (i := 3) (v := .bool true) (by simp only [List.getElem?_toArray, List.getElem?_cons_succ, List.getElem?_cons_zero]; rfl) (by kernel_rfl) (by kernel_rfl) (by kernel_rfl) (fun _ _ _ h => h) (Or.inl ⟨by rfl, ?_⟩) (by assumption) ?_
  · (intro wq hSq; clear hSq; go_simp; try with_reducible rfl)
  try simp only [Act.put, List.setIfInBounds_toArray, List.set_cons_zero, List.set_cons_succ]
  refine wpAnyH_take (i := 4) (v := ?_) (by simp only [List.getElem?_toArray, List.getElem?_cons_succ, List.getElem?_cons_zero]; rfl) (by kernel_rfl) (by kernel_rfl) (by kernel_rfl) (fun _ _ _ h => h) (Or.inl ⟨by rfl, ?_⟩) (by assumption) ?_
  rotate_left
  · (intro wq hSq; clear hSq; go_simp; try with_reducible rfl)
  try simp only [Act.put, List.setIfInBounds_toArray, List.set_cons_zero, List.set_cons_succ]
  refine wpAnyH_take (i := 5) (v := .bool true) (by simp only [List.getElem?_toArray, List.getElem?_cons_succ, List.getElem?_cons_zero]; rfl) (by kernel_rfl) (by kernel_rfl) (by kernel_rfl) (fun _ _ _ h => h) (Or.inl ⟨by rfl, ?_⟩) (by assumption) ?_
  · (intro wq hSq; clear hSq; go_simp; try with_reducible rfl)
  try simp only [Act.put, List.setIfInBounds_toArray, List.set_cons_zero, List.set_cons_succ]
  refine wpAnyH_take (i := 6) (v := .bool true) (by simp only [List.getElem?_toArray, List.getElem?_cons_succ, List.getElem?_cons_zero]; rfl) (by kernel_rfl) (by kernel_rfl) (by kernel_rfl) (fun _ _ _ h => h) (Or.inl ⟨by rfl, ?_⟩) (by assumption) ?_
  · (intro wq hSq; clear hSq; go_simp; try with_reducible rfl)
  try simp only [Act.put, List.setIfInBounds_toArray, List.set_cons_zero, List.set_cons_succ]
  refine wpAnyH_take (i := 7) (v := .bool true) (by simp only [List.getElem?_toArray, List.getElem?_cons_succ, List.getElem?_cons_zero]; rfl) (by kernel_rfl) (by kernel_rfl) (by kernel_rfl) (fun _ _ _ h => h) (Or.inl ⟨by rfl, ?_⟩) (by assumption) ?_
  · (intro wq hSq; clear hSq; go_simp; try with_reducible rfl)
  try simp only [Act.put, List.setIfInBounds_toArray, List.set_cons_zero, List.set_cons_succ]
  refine wpAnyH_take (i := 8) (v := pv helP) (by simp only [List.getElem?_toArray, List.getElem?_cons_succ, List.getElem?_cons_zero]; rfl) (by kernel_rfl) (by kernel_rfl) (by kernel_rfl) (fun _ _ _ h => h) (Or.inl ⟨by rfl, fun w h => exec_load_row 29 _ rfl w3.heap.size rfl 29 #[.int .i64 helP.kind, .int .i64 helP.fr, .int .i64 helP.dest, .int .u64 helP.ep, .int .u16 helP.num, .int .u64 helP.mask, .int .i64 helP.m.origin, .int .u64 helP.m.seq, .int .i64 helP.m.hop, .string helP.m.ex, .string helP.m.key, .string helP.m.body] (0, 0) _ h.hg Tryd.underlying29 rfl info12⟩) (by assumption) ?_
  try simp only [Act.put, List.setIfInBounds_toArray, List.set_cons_zero, List.set_cons_succ]
  refine wpAnyH_ready (rs := [9]) (by kernel_rfl) (by simp) ?_
  refine AllReadyH.cons rfl (fun K hK => ?_) AllReadyH.nil
  have HS9 : Hid _ := hHeld
  clear hHeld
  go_simp
  refine (hello_any _).mono ?_
  rintro e u1 ⟨rfl, b1⟩
  have N1 : Lv w u1 w3.heap.size helP := HS9.out.go b1
  clear b1
  try dsimp only
  refine hK.out _ _ (N1) (fun hHeld => ?_)
  clear hK K
  try simp only [Act.put, List.setIfInBounds_toArray, List.set_cons_zero, List.set_cons_succ]
  refine wpAnyH_take (i := 10) (v := .bool true) (by simp only [List.getElem?_toArray, List.getElem?_cons_succ, List.getElem?_cons_zero]; rfl) (by kernel_rfl) (by kernel_rfl) (by kernel_rfl) (fun _ _ _ h => h) (Or.inl ⟨by rfl, (by intro wq hSq; have he := run_eqP helP helP wq; rw [decide_eq_true rfl] at he; have hgA := eqGuardP; clear hSq hHeld; go_simp)⟩) (by assumption) ?_
  try simp only [Act.put, List.setIfInBounds_toArray, List.set_cons_zero, List.set_cons_succ]
  refine wpAnyH_take (i := 11) (v := .bool true) (by simp only [List.getElem?_toArray, List.getElem?_cons_succ, List.getElem?_cons_zero]; rfl) (by kernel_rfl) (by kernel_rfl) (by kernel_rfl) (fun _ _ _ h => h) (Or.inl ⟨by rfl, ?_⟩) (by assumption) ?_
  · (intro wq hSq; clear hSq; go_simp; try with_reducible rfl)
  try simp only [Act.put, List.setIfInBounds_toArray, List.set_cons_zero, List.set_cons_succ]
  refine wpAnyH_take (i := 12) (v := .bool true) (by simp only [List.getElem?_toArray, List.getElem?_cons_succ, List.getElem?_cons_zero]; rfl) (by kernel_rfl) (by kernel_rfl) (by kernel_rfl) (fun _ _ _ h => h) (Or.inl ⟨by rfl, ?_⟩) (by assumption) ?_
  · (intro wq hSq; clear hSq; go_simp; try with_reducible rfl)
  try simp only [Act.put, List.setIfInBounds_toArray, List.set_cons_zero, List.set_cons_succ]
  refine wpAnyH_take (i := 13) (v := pv helP) (by simp only [List.getElem?_toArray, List.getElem?_cons_succ, List.getElem?_cons_zero]; rfl) (by kernel_rfl) (by kernel_rfl) (by kernel_rfl) (fun _ _ _ h => h) (Or.inl ⟨by rfl, fun w h => exec_load_row 29 _ rfl w3.heap.size rfl 29 #[.int .i64 helP.kind, .int .i64 helP.fr, .int .i64 helP.dest, .int .u64 helP.ep, .int .u16 helP.num, .int .u64 helP.mask, .int .i64 helP.m.origin, .int .u64 helP.m.seq, .int .i64 helP.m.hop, .string helP.m.ex, .string helP.m.key, .string helP.m.body] (0, 0) _ h.hg Tryd.underlying29 rfl info12⟩) (by assumption) ?_
  try simp only [Act.put, List.setIfInBounds_toArray, List.set_cons_zero, List.set_cons_succ]
  refine wpAnyH_ready (rs := [14]) (by kernel_rfl) (by simp) ?_
  refine AllReadyH.cons rfl (fun K hK => ?_) AllReadyH.nil
  have HS14 : Hid _ := hHeld
  clear hHeld
  go_simp
  refine (show Calls Tryd.prog 11 #[pv helP] _ (fun e w' => e = .returned (.string ⟨#[104, 101, 108, 108, 111]⟩) ∧ Below _ _ w') from kindN_any helP _ HS14.out.kinds).mono ?_
  rintro e u2 ⟨rfl, b2⟩
  have N2 : Lv w u2 w3.heap.size helP := HS14.out.go b2
  clear b2
  try dsimp only
  refine hK.out _ _ (N2) (fun hHeld => ?_)
  clear hK K
  try simp only [Act.put, List.setIfInBounds_toArray, List.set_cons_zero, List.set_cons_succ]
  refine wpAnyH_take (i := 15) (v := .bool true) (by simp only [List.getElem?_toArray, List.getElem?_cons_succ, List.getElem?_cons_zero]; rfl) (by kernel_rfl) (by kernel_rfl) (by kernel_rfl) (fun _ _ _ h => h) (Or.inl ⟨by rfl, (by intro wq hSq; clear hSq hHeld; go_simp)⟩) (by assumption) ?_
  try simp only [Act.put, List.setIfInBounds_toArray, List.set_cons_zero, List.set_cons_succ]
  refine wpAnyH_take (i := 16) (v := .bool true) (by simp only [List.getElem?_toArray, List.getElem?_cons_succ, List.getElem?_cons_zero]; rfl) (by kernel_rfl) (by kernel_rfl) (by kernel_rfl) (fun _ _ _ h => h) (Or.inl ⟨by rfl, ?_⟩) (by assumption) ?_
  · (intro wq hSq; clear hSq; go_simp; try with_reducible rfl)
  try simp only [Act.put, List.setIfInBounds_toArray, List.set_cons_zero, List.set_cons_succ]
  refine wpAnyH_take (i := 17) (v := ?_) (by simp only [List.getElem?_toArray, List.getElem?_cons_succ, List.getElem?_cons_zero]; rfl) (by kernel_rfl) (by kernel_rfl) (by kernel_rfl) (fun _ _ _ h => h) (Or.inl ⟨by rfl, ?_⟩) (by assumption) ?_
  rotate_left
  · (intro wq hSq; clear hSq; go_simp; try with_reducible rfl)
  try simp only [Act.put, List.setIfInBounds_toArray, List.set_cons_zero]
  refine wpAnyH_done (by kernel_rfl) ?_ _
  refine NoPanic.normal ?_
  have HE : Hid _ := hHeld
  clear hHeld
  go_wp2
  go_ret
  exact ⟨rfl, HE.out.bel⟩
end Go.Proofs.YtopacoghnofliaaDoor
