/-
  The document's Good of an act, by its contract.
-/
import Derived.Test.YtjagaankkcbjmaaGreatDoorJ22
import Derived.Test.YtjagaankkcbjmaaGreatDoorJ44
import Derived.Deep.CutRange
import Derived.Deep.CutBlock
import Derived.BigRegion
namespace Go.Proofs.YtjagaankkcbjmaaGreatDoor
open Go.RowKit

theorem wpList_load_rowG {P : Program} {ops : Array Oper} {rest : List Oper} {o : Oper} {a : Act} {w : World} {Q : Exit → Act → World → Prop} (hw : Region.wanted o (yielded ops a.tmps) = true) (ty : TypeId) (x : Operand) (ho : o.op = .load ty x)
    (g : Nat) (hx : a.eval x = .pointer (some ⟨g, 0, none⟩)) (t : TypeId) (cs : Array Value) (fr : Nat × Nat) (d : TypeDesc) (hg : w.heap[g]? = some (.cells cs t fr))
    (hu : P.underlying ty = some d) (hd : (match d with | .struct _ | .array _ _ => true | _ => false) = true) (hi : (P.info? ty).map (·.size) = some cs.size)
    (h : wpList P ops Q rest (a.put o.dst (.agg cs)) w) : wpList P ops Q (o :: rest) a w := by
  unfold wpList
  rw [if_pos hw]
  exact .inl (wp_load_row ty x ho g hx t cs fr d hg hu hd hi h)
/-- An act in a box, and what is made of it in another one. -/
structure GIn (w U : World) (A B : Nat) (a z : Ax) : Prop where
  hA : U.heap[A]? = some (.cells (xcells a).toArray 42 (0, 0))
  hB : U.heap[B]? = some (.cells (xcells z).toArray 42 (0, 0))
  bel : Below w.heap.size w U
  ne : A ≠ B
  wB : w.heap.size ≤ B
theorem GIn.set {w U : World} {A B : Nat} {a z : Ax} (h : GIn w U A B a z) (j : Nat) (v : Value) (z' : Ax) (hz : (xcells z).set j v = xcells z') : GIn w (U.setCell ⟨B, j, none⟩ v) A B a z' :=
  ⟨(Below.heap_setCell _ _ _ _ h.ne).trans h.hA, by rw [← hz]; exact set_list h.hB v, h.bel.setCell (p := ⟨B, j, none⟩) h.wB v, h.ne, h.wB⟩
theorem GIn.drew {w U : World} {A B : Nat} {a z : Ax} (h : GIn w U A B a z) : GIn w U.drew A B a z := ⟨h.hA, h.hB, h.bel.drew, h.ne, h.wB⟩
theorem GIn.kept {w U V : World} {A B : Nat} {a z : Ax} (h : GIn w U A B a z) (hb : Below U.heap.size U V) : GIn w V A B a z :=
  ⟨(hb.block _ (Array.getElem?_eq_some_iff.1 h.hA).1).trans h.hA, (hb.block _ (Array.getElem?_eq_some_iff.1 h.hB).1).trans h.hB, keptW h.bel hb, h.ne, h.wB⟩
/-- What the document's switch leaves. -/
def GPost (w wx : World) (A B : Nat) (a : Ax) (r : Bool) : Prop := ∃ z, GIn w wx A B a z ∧ goodA a = (r && decide (a = z))
theorem goodA_of {a : Ax} {l : List UInt8} (h : lettersL a.kind = some l) : goodA a = (l.all (fitsA a) && decide (a = onlyL a l)) := by unfold goodA; rw [h]
theorem goodA_no {a : Ax} (h : lettersL a.kind = none) : goodA a = false := by unfold goodA; rw [h]
theorem gk1 (a : Ax) : ([110, 100].all (fitsA a) && decide (a = onlyL a [110, 100])) = (nameB (txt a.name) && (decide (1 ≤ a.n) && decide (a.n ≤ 1000)) && decide (a = { zA a.kind with name := a.name, n := a.n })) := by
  have h : [110, 100].all (fitsA a) = (nameB (txt a.name) && (decide (1 ≤ a.n) && decide (a.n ≤ 1000)) ) := by
    rw [show [110, 100].all (fitsA a) = (nameB (txt a.name) && ((decide (1 ≤ a.n) && decide (a.n ≤ 1000)) && true)) from rfl, Bool.and_true]
  rw [h]
  rfl
theorem gk2 (a : Ax) : ([110].all (fitsA a) && decide (a = onlyL a [110])) = (nameB (txt a.name) && decide (a = { zA a.kind with name := a.name })) := by
  have h : [110].all (fitsA a) = nameB (txt a.name) := by rw [show [110].all (fitsA a) = (nameB (txt a.name) && true) from rfl, Bool.and_true]
  rw [h]
  rfl
theorem gk3 (a : Ax) : ([120].all (fitsA a) && decide (a = onlyL a [120])) = (goodX a.xn a.xk && decide (a = { zA a.kind with xn := a.xn, xk := a.xk, xf := a.xf })) := by
  have h : [120].all (fitsA a) = goodX a.xn a.xk := by rw [show [120].all (fitsA a) = (goodX a.xn a.xk && true) from rfl, Bool.and_true]
  rw [h]
  rfl
theorem gk5 (a : Ax) : ([98].all (fitsA a) && decide (a = onlyL a [98])) = (nameB (txt a.be) && nameB (txt a.bq) && decide ((a.bp.size : Int) ≤ 60) && decide (a = { zA a.kind with be := a.be, bq := a.bq, bp := a.bp })) := by
  have h : [98].all (fitsA a) = (nameB (txt a.be) && nameB (txt a.bq) && decide ((a.bp.size : Int) ≤ 60)) := by rw [show [98].all (fitsA a) = ((nameB (txt a.be) && nameB (txt a.bq) && decide ((a.bp.size : Int) ≤ 60)) && true) from rfl, Bool.and_true]
  rw [h]
  rfl
theorem gk7 (a : Ax) : ([109].all (fitsA a) && decide (a = onlyL a [109])) = (goodM a.m && decide (a = { zA a.kind with m := a.m })) := by
  have h : [109].all (fitsA a) = goodM a.m := by rw [show [109].all (fitsA a) = (goodM a.m && true) from rfl, Bool.and_true]
  rw [h]
  rfl
theorem gk9 (a : Ax) : ([110, 116].all (fitsA a) && decide (a = onlyL a [110, 116])) = (nameB (txt a.name) && decide (1 ≤ a.tag) && decide (a = { zA a.kind with name := a.name, tag := a.tag })) := by
  have h : [110, 116].all (fitsA a) = (nameB (txt a.name) && decide (1 ≤ a.tag)) := by
    rw [show [110, 116].all (fitsA a) = (nameB (txt a.name) && (decide (1 ≤ a.tag) && true)) from rfl, Bool.and_true]
  rw [h]
  rfl
theorem gk11 (a : Ax) : ([115, 99].all (fitsA a) && decide (a = onlyL a [115, 99])) = (decide (1 ≤ a.to) && decide (a.to ≤ 8) && (decide (1 ≤ a.n) && decide (a.n ≤ 200)) && decide (a = { zA a.kind with «to» := a.to, n := a.n })) := by
  have h : [115, 99].all (fitsA a) = (decide (1 ≤ a.to) && decide (a.to ≤ 8) && (decide (1 ≤ a.n) && decide (a.n ≤ 200))) := by
    rw [show [115, 99].all (fitsA a) = ((decide (1 ≤ a.to) && decide (a.to ≤ 8)) && ((decide (1 ≤ a.n) && decide (a.n ≤ 200)) && true)) from rfl, Bool.and_true]
  rw [h]
  rfl
theorem gk12 (a : Ax) : ([].all (fitsA a) && decide (a = onlyL a [])) = (true && decide (a = zA a.kind)) := rfl
set_option maxRecDepth 20000 in
set_option maxHeartbeats 8000000 in
theorem rgoodA_any (a : Ax) (w : World) (ha : a.Fits) : Calls Tryz.prog 29 #[av a] w fun e w' => e = .returned (.bool (goodA a)) ∧ Below w.heap.size w w' := by
  obtain ⟨W, fold⟩ : ∃ W, w.alloc (.cells #[.int .i64 a.kind, .string a.name, .int .i64 a.n, .int .u64 a.tag, .int .i64 a.to, .string a.xn, .int .i64 a.xk, .bool a.xf, .string a.be, .string a.bq, .string a.bp, .int .i64 a.m.origin, .int .u64 a.m.seq, .int .i64 a.m.hop, .string a.m.ex, .string a.m.key, .string a.m.body] 42) = W := ⟨_, rfl⟩
  have b0 : Below w.heap.size w W := by rw [← fold]; exact box_below w _
  have x0 : W.heap[w.heap.size]? = some (.cells (xcells a).toArray 42 (0, 0)) := by rw [← fold]; exact heap_alloc_new w _
  have y0 : W.cell? ⟨w.heap.size, 0, none⟩ = some (.int .i64 a.kind) := box_at x0 rfl
  obtain ⟨V0, fold0⟩ : ∃ X, W.alloc (.cells #[.int .i64 0, .string ⟨#[]⟩, .int .i64 0, .int .u64 0, .int .i64 0, .string ⟨#[]⟩, .int .i64 0, .bool false, .string ⟨#[]⟩, .string ⟨#[]⟩, .string ⟨#[]⟩, .int .i64 0, .int .u64 0, .int .i64 0, .string ⟨#[]⟩, .string ⟨#[]⟩, .string ⟨#[]⟩] 42) = X := ⟨_, rfl⟩
  have hz0 : V0.heap[W.heap.size]? = some (.cells (xcells (zA 0)).toArray 42 (0, 0)) := by rw [← fold0]; exact heap_alloc_new W _
  have bV0 : Below W.heap.size W V0 := by rw [← fold0]; exact box_below W _
  obtain ⟨X, foldX⟩ : ∃ X, V0.setRow W.heap.size (xcells (zA a.kind)).toArray = X := ⟨_, rfl⟩
  have bX : Below W.heap.size W X := by rw [← foldX]; exact below_setRow bV0 (Nat.le_refl _) _
  have HG : Hid (GIn w X w.heap.size W.heap.size a (zA a.kind)) := ⟨(bX.block _ (Array.getElem?_eq_some_iff.1 x0).1).trans x0, by rw [← foldX]; exact setRow_heap _ _ _ _ _ _ hz0, keptW b0 bX, by have := (Array.getElem?_eq_some_iff.1 x0).1; omega, b0.size⟩
  have HZ : Hid (V0.heap[W.heap.size]? = some (.cells (xcells (zA 0)).toArray 42 (0, 0))) := hz0
  obtain ⟨A, hA⟩ : ∃ z, w.heap.size = z := ⟨_, rfl⟩
  have HA : Hid (a.Fits ∧ w.heap.size = A) := ⟨ha, hA⟩
  have k0 : X.cell? ⟨w.heap.size, 0, none⟩ = some (.int .i64 a.kind) := box_at HG.out.hA rfl
  clear b0 x0 hz0 bV0 bX ha hA
  go_enter Tryz.func29, Tryz.ntmps29
  go_upto_block 0 with (refine wpList_store_row rfl 42 _ _ rfl W.heap.size (xcells (zA a.kind)).toArray rfl rfl 42 (xcells (zA 0)).toArray HZ.out info17 rfl (one17 _) ?_)
  clear y0 k0
  go_cut [4] from 10 to 124 (fun u4 wx => ∃ r, u4 = .bool r ∧ GPost w wx w.heap.size W.heap.size a r)
  case first =>
    have ne1 : w.heap.size ≠ W.heap.size := HG.out.ne
    have ne2 : ¬ W.heap.size = w.heap.size := fun e => HG.out.ne e.symm
    obtain ⟨y0, y1, y2, y3, y4, y5, y6, y7, y8, y9, y10, y11, y12, y13, y14, y15, y16⟩ := cells17 HG.out.hA
    obtain ⟨d0, d1, d2, d3, d4, d5, d6, d7, d8, d9, d10, d11, d12, d13, d14, d15, d16⟩ := cells17 HG.out.hB
    have fB := fun j => box_free HG.out.hB j
    by_cases h1 : a.kind = 1
    · have hl : lettersL a.kind = some [110, 100] := by rw [h1]; rfl
      have HE : Hid _ := (goodA_of hl).trans (gk1 a)
      have e1 : (a.kind == 1) = true := by rw [h1]; rfl
      have HK : Hid (a.kind = 1) := h1
      clear hl h1
      cases q0 : nameB (txt a.name)
      · go_wp2
        go_region
        all_goals go_wp2_with fail
        all_goals refine (rname_any a.name _ HA.out.1.nm).mono ?_
        all_goals rintro e Vx ⟨rfl, rfl⟩
        all_goals (try rw [q0])
        all_goals go_wp2
        all_goals go_meet
        all_goals exact ⟨false, rfl, _, by first | exact ((HG.out.set 1 _ ({ zA a.kind with name := a.name } : Ax) rfl).set 2 _ ({ zA a.kind with name := a.name, n := a.n } : Ax) rfl).drew | exact ((HG.out.set 1 _ ({ zA a.kind with name := a.name } : Ax) rfl).set 2 _ ({ zA a.kind with name := a.name, n := a.n } : Ax) rfl) | exact ((HG.out.set 2 _ ({ zA a.kind with n := a.n } : Ax) rfl).set 1 _ ({ zA a.kind with n := a.n, name := a.name } : Ax) rfl).drew | exact ((HG.out.set 2 _ ({ zA a.kind with n := a.n } : Ax) rfl).set 1 _ ({ zA a.kind with n := a.n, name := a.name } : Ax) rfl), by rw [HE.out, q0]; rfl⟩
      cases q1 : decide (1 ≤ a.n)
      · go_wp2
        go_region
        all_goals go_wp2_with fail
        all_goals refine (rname_any a.name _ HA.out.1.nm).mono ?_
        all_goals rintro e Vx ⟨rfl, rfl⟩
        all_goals (try rw [q0])
        all_goals go_wp2
        all_goals go_meet
        all_goals exact ⟨false, rfl, _, by first | exact ((HG.out.set 1 _ ({ zA a.kind with name := a.name } : Ax) rfl).set 2 _ ({ zA a.kind with name := a.name, n := a.n } : Ax) rfl).drew | exact ((HG.out.set 1 _ ({ zA a.kind with name := a.name } : Ax) rfl).set 2 _ ({ zA a.kind with name := a.name, n := a.n } : Ax) rfl) | exact ((HG.out.set 2 _ ({ zA a.kind with n := a.n } : Ax) rfl).set 1 _ ({ zA a.kind with n := a.n, name := a.name } : Ax) rfl).drew | exact ((HG.out.set 2 _ ({ zA a.kind with n := a.n } : Ax) rfl).set 1 _ ({ zA a.kind with n := a.n, name := a.name } : Ax) rfl), by rw [HE.out, q0, q1]; rfl⟩
      cases q2 : decide (a.n ≤ 1000)
      · go_wp2
        go_region
        all_goals go_wp2_with fail
        all_goals refine (rname_any a.name _ HA.out.1.nm).mono ?_
        all_goals rintro e Vx ⟨rfl, rfl⟩
        all_goals (try rw [q0])
        all_goals go_wp2
        all_goals go_meet
        all_goals exact ⟨false, rfl, _, by first | exact ((HG.out.set 1 _ ({ zA a.kind with name := a.name } : Ax) rfl).set 2 _ ({ zA a.kind with name := a.name, n := a.n } : Ax) rfl).drew | exact ((HG.out.set 1 _ ({ zA a.kind with name := a.name } : Ax) rfl).set 2 _ ({ zA a.kind with name := a.name, n := a.n } : Ax) rfl) | exact ((HG.out.set 2 _ ({ zA a.kind with n := a.n } : Ax) rfl).set 1 _ ({ zA a.kind with n := a.n, name := a.name } : Ax) rfl).drew | exact ((HG.out.set 2 _ ({ zA a.kind with n := a.n } : Ax) rfl).set 1 _ ({ zA a.kind with n := a.n, name := a.name } : Ax) rfl), by rw [HE.out, q0, q1, q2]; rfl⟩
      · go_wp2
        go_region
        all_goals go_wp2_with fail
        all_goals refine (rname_any a.name _ HA.out.1.nm).mono ?_
        all_goals rintro e Vx ⟨rfl, rfl⟩
        all_goals (try rw [q0])
        all_goals go_wp2
        all_goals go_meet
        all_goals exact ⟨true, rfl, _, by first | exact ((HG.out.set 1 _ ({ zA a.kind with name := a.name } : Ax) rfl).set 2 _ ({ zA a.kind with name := a.name, n := a.n } : Ax) rfl).drew | exact ((HG.out.set 1 _ ({ zA a.kind with name := a.name } : Ax) rfl).set 2 _ ({ zA a.kind with name := a.name, n := a.n } : Ax) rfl) | exact ((HG.out.set 2 _ ({ zA a.kind with n := a.n } : Ax) rfl).set 1 _ ({ zA a.kind with n := a.n, name := a.name } : Ax) rfl).drew | exact ((HG.out.set 2 _ ({ zA a.kind with n := a.n } : Ax) rfl).set 1 _ ({ zA a.kind with n := a.n, name := a.name } : Ax) rfl), by rw [HE.out, q0, q1, q2]; rfl⟩
    have e1 : (a.kind == 1) = false := by simpa using h1
    by_cases h2 : a.kind = 2
    · have hl : lettersL a.kind = some [110] := by rw [h2]; rfl
      have HE : Hid _ := (goodA_of hl).trans (gk2 a)
      have e2 : (a.kind == 2) = true := by rw [h2]; rfl
      have HK : Hid (a.kind = 2) := h2
      clear hl h2
      go_wp2_with fail
      refine (rname_any a.name _ HA.out.1.nm).mono ?_
      rintro e Vx ⟨rfl, rfl⟩
      go_wp2
      go_meet
      exact ⟨nameB (txt a.name), rfl, _, by first | exact (HG.out.set 1 _ ({ zA a.kind with name := a.name } : Ax) rfl), by exact HE.out⟩
    have e2 : (a.kind == 2) = false := by simpa using h2
    by_cases h4 : a.kind = 4
    · have hl : lettersL a.kind = some [110] := by rw [h4]; rfl
      have HE : Hid _ := (goodA_of hl).trans (gk2 a)
      have e4 : (a.kind == 4) = true := by rw [h4]; rfl
      have HK : Hid (a.kind = 4) := h4
      clear hl h4
      go_wp2_with fail
      refine (rname_any a.name _ HA.out.1.nm).mono ?_
      rintro e Vx ⟨rfl, rfl⟩
      go_wp2
      go_meet
      exact ⟨nameB (txt a.name), rfl, _, by first | exact (HG.out.set 1 _ ({ zA a.kind with name := a.name } : Ax) rfl), by exact HE.out⟩
    have e4 : (a.kind == 4) = false := by simpa using h4
    by_cases h8 : a.kind = 8
    · have hl : lettersL a.kind = some [110] := by rw [h8]; rfl
      have HE : Hid _ := (goodA_of hl).trans (gk2 a)
      have e8 : (a.kind == 8) = true := by rw [h8]; rfl
      have HK : Hid (a.kind = 8) := h8
      clear hl h8
      go_wp2_with fail
      refine (rname_any a.name _ HA.out.1.nm).mono ?_
      rintro e Vx ⟨rfl, rfl⟩
      go_wp2
      go_meet
      exact ⟨nameB (txt a.name), rfl, _, by first | exact (HG.out.set 1 _ ({ zA a.kind with name := a.name } : Ax) rfl), by exact HE.out⟩
    have e8 : (a.kind == 8) = false := by simpa using h8
    by_cases h3 : a.kind = 3
    · have hl : lettersL a.kind = some [120] := by rw [h3]; rfl
      have HE : Hid _ := (goodA_of hl).trans (gk3 a)
      have e3 : (a.kind == 3) = true := by rw [h3]; rfl
      have HK : Hid (a.kind = 3) := h3
      clear hl h3
      go_wp2_with fail
      refine (rgoodX_any a.xn a.xk a.xf _ HA.out.1.xn).mono ?_
      rintro e Vx ⟨rfl, bx⟩
      go_wp2
      go_meet
      exact ⟨goodX a.xn a.xk, rfl, _, by first | exact ((((HG.out.set 5 _ ({ zA a.kind with xn := a.xn } : Ax) rfl).set 6 _ ({ zA a.kind with xn := a.xn, xk := a.xk } : Ax) rfl).set 7 _ ({ zA a.kind with xn := a.xn, xk := a.xk, xf := a.xf } : Ax) rfl).kept bx), by exact HE.out⟩
    have e3 : (a.kind == 3) = false := by simpa using h3
    by_cases h5 : a.kind = 5
    · have hl : lettersL a.kind = some [98] := by rw [h5]; rfl
      have HE : Hid _ := (goodA_of hl).trans (gk5 a)
      have e5 : (a.kind == 5) = true := by rw [h5]; rfl
      have HK : Hid (a.kind = 5) := h5
      clear hl h5
      cases q0 : nameB (txt a.be)
      · go_wp2_with fail
        refine (rname_any a.be _ HA.out.1.be).mono ?_
        rintro e Vx ⟨rfl, rfl⟩
        (try rw [q0])
        go_wp2
        go_meet
        exact ⟨false, rfl, _, by first | exact (((HG.out.set 8 _ ({ zA a.kind with be := a.be } : Ax) rfl).set 9 _ ({ zA a.kind with be := a.be, bq := a.bq } : Ax) rfl).set 10 _ ({ zA a.kind with be := a.be, bq := a.bq, bp := a.bp } : Ax) rfl), by rw [HE.out, q0]; rfl⟩
      cases q1 : nameB (txt a.bq)
      · go_wp2_with fail
        refine (rname_any a.be _ HA.out.1.be).mono ?_
        rintro e Vx ⟨rfl, rfl⟩
        (try rw [q0])
        go_wp2_with fail
        refine (rname_any a.bq _ HA.out.1.bq).mono ?_
        rintro e Vx ⟨rfl, rfl⟩
        (try rw [q1])
        go_wp2
        go_meet
        exact ⟨false, rfl, _, by first | exact (((HG.out.set 8 _ ({ zA a.kind with be := a.be } : Ax) rfl).set 9 _ ({ zA a.kind with be := a.be, bq := a.bq } : Ax) rfl).set 10 _ ({ zA a.kind with be := a.be, bq := a.bq, bp := a.bp } : Ax) rfl), by rw [HE.out, q0, q1]; rfl⟩
      cases q2 : decide ((a.bp.size : Int) ≤ 60)
      · go_wp2_with fail
        refine (rname_any a.be _ HA.out.1.be).mono ?_
        rintro e Vx ⟨rfl, rfl⟩
        (try rw [q0])
        go_wp2_with fail
        refine (rname_any a.bq _ HA.out.1.bq).mono ?_
        rintro e Vx ⟨rfl, rfl⟩
        (try rw [q1])
        go_wp2
        go_meet
        exact ⟨false, rfl, _, by first | exact (((HG.out.set 8 _ ({ zA a.kind with be := a.be } : Ax) rfl).set 9 _ ({ zA a.kind with be := a.be, bq := a.bq } : Ax) rfl).set 10 _ ({ zA a.kind with be := a.be, bq := a.bq, bp := a.bp } : Ax) rfl), by rw [HE.out, q0, q1, q2]; rfl⟩
      · go_wp2_with fail
        refine (rname_any a.be _ HA.out.1.be).mono ?_
        rintro e Vx ⟨rfl, rfl⟩
        (try rw [q0])
        go_wp2_with fail
        refine (rname_any a.bq _ HA.out.1.bq).mono ?_
        rintro e Vx ⟨rfl, rfl⟩
        (try rw [q1])
        go_wp2
        go_meet
        exact ⟨true, rfl, _, by first | exact (((HG.out.set 8 _ ({ zA a.kind with be := a.be } : Ax) rfl).set 9 _ ({ zA a.kind with be := a.be, bq := a.bq } : Ax) rfl).set 10 _ ({ zA a.kind with be := a.be, bq := a.bq, bp := a.bp } : Ax) rfl), by rw [HE.out, q0, q1, q2]; rfl⟩
    have e5 : (a.kind == 5) = false := by simpa using h5
    by_cases h6 : a.kind = 6
    · have hl : lettersL a.kind = some [98] := by rw [h6]; rfl
      have HE : Hid _ := (goodA_of hl).trans (gk5 a)
      have e6 : (a.kind == 6) = true := by rw [h6]; rfl
      have HK : Hid (a.kind = 6) := h6
      clear hl h6
      cases q0 : nameB (txt a.be)
      · go_wp2_with fail
        refine (rname_any a.be _ HA.out.1.be).mono ?_
        rintro e Vx ⟨rfl, rfl⟩
        (try rw [q0])
        go_wp2
        go_meet
        exact ⟨false, rfl, _, by first | exact (((HG.out.set 8 _ ({ zA a.kind with be := a.be } : Ax) rfl).set 9 _ ({ zA a.kind with be := a.be, bq := a.bq } : Ax) rfl).set 10 _ ({ zA a.kind with be := a.be, bq := a.bq, bp := a.bp } : Ax) rfl), by rw [HE.out, q0]; rfl⟩
      cases q1 : nameB (txt a.bq)
      · go_wp2_with fail
        refine (rname_any a.be _ HA.out.1.be).mono ?_
        rintro e Vx ⟨rfl, rfl⟩
        (try rw [q0])
        go_wp2_with fail
        refine (rname_any a.bq _ HA.out.1.bq).mono ?_
        rintro e Vx ⟨rfl, rfl⟩
        (try rw [q1])
        go_wp2
        go_meet
        exact ⟨false, rfl, _, by first | exact (((HG.out.set 8 _ ({ zA a.kind with be := a.be } : Ax) rfl).set 9 _ ({ zA a.kind with be := a.be, bq := a.bq } : Ax) rfl).set 10 _ ({ zA a.kind with be := a.be, bq := a.bq, bp := a.bp } : Ax) rfl), by rw [HE.out, q0, q1]; rfl⟩
      cases q2 : decide ((a.bp.size : Int) ≤ 60)
      · go_wp2_with fail
        refine (rname_any a.be _ HA.out.1.be).mono ?_
        rintro e Vx ⟨rfl, rfl⟩
        (try rw [q0])
        go_wp2_with fail
        refine (rname_any a.bq _ HA.out.1.bq).mono ?_
        rintro e Vx ⟨rfl, rfl⟩
        (try rw [q1])
        go_wp2
        go_meet
        exact ⟨false, rfl, _, by first | exact (((HG.out.set 8 _ ({ zA a.kind with be := a.be } : Ax) rfl).set 9 _ ({ zA a.kind with be := a.be, bq := a.bq } : Ax) rfl).set 10 _ ({ zA a.kind with be := a.be, bq := a.bq, bp := a.bp } : Ax) rfl), by rw [HE.out, q0, q1, q2]; rfl⟩
      · go_wp2_with fail
        refine (rname_any a.be _ HA.out.1.be).mono ?_
        rintro e Vx ⟨rfl, rfl⟩
        (try rw [q0])
        go_wp2_with fail
        refine (rname_any a.bq _ HA.out.1.bq).mono ?_
        rintro e Vx ⟨rfl, rfl⟩
        (try rw [q1])
        go_wp2
        go_meet
        exact ⟨true, rfl, _, by first | exact (((HG.out.set 8 _ ({ zA a.kind with be := a.be } : Ax) rfl).set 9 _ ({ zA a.kind with be := a.be, bq := a.bq } : Ax) rfl).set 10 _ ({ zA a.kind with be := a.be, bq := a.bq, bp := a.bp } : Ax) rfl), by rw [HE.out, q0, q1, q2]; rfl⟩
    have e6 : (a.kind == 6) = false := by simpa using h6
    by_cases h7 : a.kind = 7
    · have hl : lettersL a.kind = some [109] := by rw [h7]; rfl
      have HE : Hid _ := (goodA_of hl).trans (gk7 a)
      have e7 : (a.kind == 7) = true := by rw [h7]; rfl
      have HK : Hid (a.kind = 7) := h7
      clear hl h7
      go_wp2_with fail
      refine (rgoodM_any a.m _ HA.out.1.m).mono ?_
      rintro e Vx ⟨rfl, bx⟩
      go_wp2
      go_meet
      exact ⟨goodM a.m, rfl, _, by first | exact (((((((HG.out.set 11 _ ({ zA a.kind with m := { zM with origin := a.m.origin } } : Ax) rfl).set 12 _ ({ zA a.kind with m := { zM with origin := a.m.origin, seq := a.m.seq } } : Ax) rfl).set 13 _ ({ zA a.kind with m := { zM with origin := a.m.origin, seq := a.m.seq, hop := a.m.hop } } : Ax) rfl).set 14 _ ({ zA a.kind with m := { zM with origin := a.m.origin, seq := a.m.seq, hop := a.m.hop, ex := a.m.ex } } : Ax) rfl).set 15 _ ({ zA a.kind with m := { zM with origin := a.m.origin, seq := a.m.seq, hop := a.m.hop, ex := a.m.ex, key := a.m.key } } : Ax) rfl).set 16 _ ({ zA a.kind with m := { zM with origin := a.m.origin, seq := a.m.seq, hop := a.m.hop, ex := a.m.ex, key := a.m.key, body := a.m.body } } : Ax) rfl).kept bx), by exact HE.out⟩
    have e7 : (a.kind == 7) = false := by simpa using h7
    by_cases h9 : a.kind = 9
    · have hl : lettersL a.kind = some [110, 116] := by rw [h9]; rfl
      have HE : Hid _ := (goodA_of hl).trans (gk9 a)
      have e9 : (a.kind == 9) = true := by rw [h9]; rfl
      have HK : Hid (a.kind = 9) := h9
      clear hl h9
      cases q0 : nameB (txt a.name)
      · go_wp2
        go_region
        all_goals go_wp2_with fail
        all_goals refine (rname_any a.name _ HA.out.1.nm).mono ?_
        all_goals rintro e Vx ⟨rfl, rfl⟩
        all_goals (try rw [q0])
        all_goals go_wp2
        all_goals go_meet
        all_goals exact ⟨false, rfl, _, by first | exact ((HG.out.set 1 _ ({ zA a.kind with name := a.name } : Ax) rfl).set 3 _ ({ zA a.kind with name := a.name, tag := a.tag } : Ax) rfl).drew | exact ((HG.out.set 1 _ ({ zA a.kind with name := a.name } : Ax) rfl).set 3 _ ({ zA a.kind with name := a.name, tag := a.tag } : Ax) rfl) | exact ((HG.out.set 3 _ ({ zA a.kind with tag := a.tag } : Ax) rfl).set 1 _ ({ zA a.kind with tag := a.tag, name := a.name } : Ax) rfl).drew | exact ((HG.out.set 3 _ ({ zA a.kind with tag := a.tag } : Ax) rfl).set 1 _ ({ zA a.kind with tag := a.tag, name := a.name } : Ax) rfl), by rw [HE.out, q0]; rfl⟩
      cases q1 : decide (1 ≤ a.tag)
      · go_wp2
        go_region
        all_goals go_wp2_with fail
        all_goals refine (rname_any a.name _ HA.out.1.nm).mono ?_
        all_goals rintro e Vx ⟨rfl, rfl⟩
        all_goals (try rw [q0])
        all_goals go_wp2
        all_goals go_meet
        all_goals exact ⟨false, rfl, _, by first | exact ((HG.out.set 1 _ ({ zA a.kind with name := a.name } : Ax) rfl).set 3 _ ({ zA a.kind with name := a.name, tag := a.tag } : Ax) rfl).drew | exact ((HG.out.set 1 _ ({ zA a.kind with name := a.name } : Ax) rfl).set 3 _ ({ zA a.kind with name := a.name, tag := a.tag } : Ax) rfl) | exact ((HG.out.set 3 _ ({ zA a.kind with tag := a.tag } : Ax) rfl).set 1 _ ({ zA a.kind with tag := a.tag, name := a.name } : Ax) rfl).drew | exact ((HG.out.set 3 _ ({ zA a.kind with tag := a.tag } : Ax) rfl).set 1 _ ({ zA a.kind with tag := a.tag, name := a.name } : Ax) rfl), by rw [HE.out, q0, q1]; rfl⟩
      · go_wp2
        go_region
        all_goals go_wp2_with fail
        all_goals refine (rname_any a.name _ HA.out.1.nm).mono ?_
        all_goals rintro e Vx ⟨rfl, rfl⟩
        all_goals (try rw [q0])
        all_goals go_wp2
        all_goals go_meet
        all_goals exact ⟨true, rfl, _, by first | exact ((HG.out.set 1 _ ({ zA a.kind with name := a.name } : Ax) rfl).set 3 _ ({ zA a.kind with name := a.name, tag := a.tag } : Ax) rfl).drew | exact ((HG.out.set 1 _ ({ zA a.kind with name := a.name } : Ax) rfl).set 3 _ ({ zA a.kind with name := a.name, tag := a.tag } : Ax) rfl) | exact ((HG.out.set 3 _ ({ zA a.kind with tag := a.tag } : Ax) rfl).set 1 _ ({ zA a.kind with tag := a.tag, name := a.name } : Ax) rfl).drew | exact ((HG.out.set 3 _ ({ zA a.kind with tag := a.tag } : Ax) rfl).set 1 _ ({ zA a.kind with tag := a.tag, name := a.name } : Ax) rfl), by rw [HE.out, q0, q1]; rfl⟩
    have e9 : (a.kind == 9) = false := by simpa using h9
    by_cases h10 : a.kind = 10
    · have hl : lettersL a.kind = some [110, 116] := by rw [h10]; rfl
      have HE : Hid _ := (goodA_of hl).trans (gk9 a)
      have e10 : (a.kind == 10) = true := by rw [h10]; rfl
      have HK : Hid (a.kind = 10) := h10
      clear hl h10
      cases q0 : nameB (txt a.name)
      · go_wp2
        go_region
        all_goals go_wp2_with fail
        all_goals refine (rname_any a.name _ HA.out.1.nm).mono ?_
        all_goals rintro e Vx ⟨rfl, rfl⟩
        all_goals (try rw [q0])
        all_goals go_wp2
        all_goals go_meet
        all_goals exact ⟨false, rfl, _, by first | exact ((HG.out.set 1 _ ({ zA a.kind with name := a.name } : Ax) rfl).set 3 _ ({ zA a.kind with name := a.name, tag := a.tag } : Ax) rfl).drew | exact ((HG.out.set 1 _ ({ zA a.kind with name := a.name } : Ax) rfl).set 3 _ ({ zA a.kind with name := a.name, tag := a.tag } : Ax) rfl) | exact ((HG.out.set 3 _ ({ zA a.kind with tag := a.tag } : Ax) rfl).set 1 _ ({ zA a.kind with tag := a.tag, name := a.name } : Ax) rfl).drew | exact ((HG.out.set 3 _ ({ zA a.kind with tag := a.tag } : Ax) rfl).set 1 _ ({ zA a.kind with tag := a.tag, name := a.name } : Ax) rfl), by rw [HE.out, q0]; rfl⟩
      cases q1 : decide (1 ≤ a.tag)
      · go_wp2
        go_region
        all_goals go_wp2_with fail
        all_goals refine (rname_any a.name _ HA.out.1.nm).mono ?_
        all_goals rintro e Vx ⟨rfl, rfl⟩
        all_goals (try rw [q0])
        all_goals go_wp2
        all_goals go_meet
        all_goals exact ⟨false, rfl, _, by first | exact ((HG.out.set 1 _ ({ zA a.kind with name := a.name } : Ax) rfl).set 3 _ ({ zA a.kind with name := a.name, tag := a.tag } : Ax) rfl).drew | exact ((HG.out.set 1 _ ({ zA a.kind with name := a.name } : Ax) rfl).set 3 _ ({ zA a.kind with name := a.name, tag := a.tag } : Ax) rfl) | exact ((HG.out.set 3 _ ({ zA a.kind with tag := a.tag } : Ax) rfl).set 1 _ ({ zA a.kind with tag := a.tag, name := a.name } : Ax) rfl).drew | exact ((HG.out.set 3 _ ({ zA a.kind with tag := a.tag } : Ax) rfl).set 1 _ ({ zA a.kind with tag := a.tag, name := a.name } : Ax) rfl), by rw [HE.out, q0, q1]; rfl⟩
      · go_wp2
        go_region
        all_goals go_wp2_with fail
        all_goals refine (rname_any a.name _ HA.out.1.nm).mono ?_
        all_goals rintro e Vx ⟨rfl, rfl⟩
        all_goals (try rw [q0])
        all_goals go_wp2
        all_goals go_meet
        all_goals exact ⟨true, rfl, _, by first | exact ((HG.out.set 1 _ ({ zA a.kind with name := a.name } : Ax) rfl).set 3 _ ({ zA a.kind with name := a.name, tag := a.tag } : Ax) rfl).drew | exact ((HG.out.set 1 _ ({ zA a.kind with name := a.name } : Ax) rfl).set 3 _ ({ zA a.kind with name := a.name, tag := a.tag } : Ax) rfl) | exact ((HG.out.set 3 _ ({ zA a.kind with tag := a.tag } : Ax) rfl).set 1 _ ({ zA a.kind with tag := a.tag, name := a.name } : Ax) rfl).drew | exact ((HG.out.set 3 _ ({ zA a.kind with tag := a.tag } : Ax) rfl).set 1 _ ({ zA a.kind with tag := a.tag, name := a.name } : Ax) rfl), by rw [HE.out, q0, q1]; rfl⟩
    have e10 : (a.kind == 10) = false := by simpa using h10
    by_cases h11 : a.kind = 11
    · have hl : lettersL a.kind = some [115, 99] := by rw [h11]; rfl
      have HE : Hid _ := (goodA_of hl).trans (gk11 a)
      have e11 : (a.kind == 11) = true := by rw [h11]; rfl
      have HK : Hid (a.kind = 11) := h11
      clear hl h11
      cases q0 : decide (1 ≤ a.to)
      · go_wp2
        go_region
        all_goals go_wp2
        all_goals go_meet
        all_goals exact ⟨false, rfl, _, by first | exact ((HG.out.set 4 _ ({ zA a.kind with «to» := a.to } : Ax) rfl).set 2 _ ({ zA a.kind with «to» := a.to, n := a.n } : Ax) rfl).drew | exact ((HG.out.set 4 _ ({ zA a.kind with «to» := a.to } : Ax) rfl).set 2 _ ({ zA a.kind with «to» := a.to, n := a.n } : Ax) rfl) | exact ((HG.out.set 2 _ ({ zA a.kind with n := a.n } : Ax) rfl).set 4 _ ({ zA a.kind with n := a.n, «to» := a.to } : Ax) rfl).drew | exact ((HG.out.set 2 _ ({ zA a.kind with n := a.n } : Ax) rfl).set 4 _ ({ zA a.kind with n := a.n, «to» := a.to } : Ax) rfl), by rw [HE.out, q0]; rfl⟩
      cases q1 : decide (a.to ≤ 8)
      · go_wp2
        go_region
        all_goals go_wp2
        all_goals go_meet
        all_goals exact ⟨false, rfl, _, by first | exact ((HG.out.set 4 _ ({ zA a.kind with «to» := a.to } : Ax) rfl).set 2 _ ({ zA a.kind with «to» := a.to, n := a.n } : Ax) rfl).drew | exact ((HG.out.set 4 _ ({ zA a.kind with «to» := a.to } : Ax) rfl).set 2 _ ({ zA a.kind with «to» := a.to, n := a.n } : Ax) rfl) | exact ((HG.out.set 2 _ ({ zA a.kind with n := a.n } : Ax) rfl).set 4 _ ({ zA a.kind with n := a.n, «to» := a.to } : Ax) rfl).drew | exact ((HG.out.set 2 _ ({ zA a.kind with n := a.n } : Ax) rfl).set 4 _ ({ zA a.kind with n := a.n, «to» := a.to } : Ax) rfl), by rw [HE.out, q0, q1]; rfl⟩
      cases q2 : decide (1 ≤ a.n)
      · go_wp2
        go_region
        all_goals go_wp2
        all_goals go_meet
        all_goals exact ⟨false, rfl, _, by first | exact ((HG.out.set 4 _ ({ zA a.kind with «to» := a.to } : Ax) rfl).set 2 _ ({ zA a.kind with «to» := a.to, n := a.n } : Ax) rfl).drew | exact ((HG.out.set 4 _ ({ zA a.kind with «to» := a.to } : Ax) rfl).set 2 _ ({ zA a.kind with «to» := a.to, n := a.n } : Ax) rfl) | exact ((HG.out.set 2 _ ({ zA a.kind with n := a.n } : Ax) rfl).set 4 _ ({ zA a.kind with n := a.n, «to» := a.to } : Ax) rfl).drew | exact ((HG.out.set 2 _ ({ zA a.kind with n := a.n } : Ax) rfl).set 4 _ ({ zA a.kind with n := a.n, «to» := a.to } : Ax) rfl), by rw [HE.out, q0, q1, q2]; rfl⟩
      cases q3 : decide (a.n ≤ 200)
      · go_wp2
        go_region
        all_goals go_wp2
        all_goals go_meet
        all_goals exact ⟨false, rfl, _, by first | exact ((HG.out.set 4 _ ({ zA a.kind with «to» := a.to } : Ax) rfl).set 2 _ ({ zA a.kind with «to» := a.to, n := a.n } : Ax) rfl).drew | exact ((HG.out.set 4 _ ({ zA a.kind with «to» := a.to } : Ax) rfl).set 2 _ ({ zA a.kind with «to» := a.to, n := a.n } : Ax) rfl) | exact ((HG.out.set 2 _ ({ zA a.kind with n := a.n } : Ax) rfl).set 4 _ ({ zA a.kind with n := a.n, «to» := a.to } : Ax) rfl).drew | exact ((HG.out.set 2 _ ({ zA a.kind with n := a.n } : Ax) rfl).set 4 _ ({ zA a.kind with n := a.n, «to» := a.to } : Ax) rfl), by rw [HE.out, q0, q1, q2, q3]; rfl⟩
      · go_wp2
        go_region
        all_goals go_wp2
        all_goals go_meet
        all_goals exact ⟨true, rfl, _, by first | exact ((HG.out.set 4 _ ({ zA a.kind with «to» := a.to } : Ax) rfl).set 2 _ ({ zA a.kind with «to» := a.to, n := a.n } : Ax) rfl).drew | exact ((HG.out.set 4 _ ({ zA a.kind with «to» := a.to } : Ax) rfl).set 2 _ ({ zA a.kind with «to» := a.to, n := a.n } : Ax) rfl) | exact ((HG.out.set 2 _ ({ zA a.kind with n := a.n } : Ax) rfl).set 4 _ ({ zA a.kind with n := a.n, «to» := a.to } : Ax) rfl).drew | exact ((HG.out.set 2 _ ({ zA a.kind with n := a.n } : Ax) rfl).set 4 _ ({ zA a.kind with n := a.n, «to» := a.to } : Ax) rfl), by rw [HE.out, q0, q1, q2, q3]; rfl⟩
    have e11 : (a.kind == 11) = false := by simpa using h11
    by_cases h12 : a.kind = 12
    · have hl : lettersL a.kind = some [] := by rw [h12]; rfl
      have HE : Hid _ := (goodA_of hl).trans (gk12 a)
      have e12 : (a.kind == 12) = true := by rw [h12]; rfl
      have HK : Hid (a.kind = 12) := h12
      clear hl h12
      go_wp2
      go_meet
      exact ⟨true, rfl, _, HG.out, HE.out⟩
    have e12 : (a.kind == 12) = false := by simpa using h12
    have hl : lettersL a.kind = none := by
      unfold lettersL
      rw [if_neg h1, if_neg h2, if_neg h3, if_neg h4, if_neg h5, if_neg h6, if_neg h7, if_neg h8, if_neg h9, if_neg h10, if_neg h11, if_neg h12]
    have HE : Hid (goodA a = false) := goodA_no hl
    clear hl
    go_wp2
    go_meet
    exact ⟨false, rfl, _, HG.out, by rw [HE.out]; rfl⟩
  case rest =>
    obtain ⟨r, rfl, HP⟩ := hcut
    obtain ⟨z, hI, hgd⟩ := HP
    have HI : Hid (GIn w wc w.heap.size W.heap.size a z ∧ goodA a = (r && decide (a = z))) := ⟨hI, hgd⟩
    clear hI hgd
    cases r
    · go_wp2
      go_ret
      exact ⟨by rw [HI.out.2]; rfl, HI.out.1.bel⟩
    · have heqA := fun X => run_eqA a z X
      have hgA := eqGuardA
      go_wp2_with (first | refine wpList_load_rowG (by rfl) 42 _ rfl w.heap.size rfl 42 #[.int .i64 a.kind, .string a.name, .int .i64 a.n, .int .u64 a.tag, .int .i64 a.to, .string a.xn, .int .i64 a.xk, .bool a.xf, .string a.be, .string a.bq, .string a.bp, .int .i64 a.m.origin, .int .u64 a.m.seq, .int .i64 a.m.hop, .string a.m.ex, .string a.m.key, .string a.m.body] (0, 0) _ HI.out.1.hA Tryz.underlying42 rfl info17 ?_ | refine wpList_load_rowG (by rfl) 42 _ rfl W.heap.size rfl 42 #[.int .i64 z.kind, .string z.name, .int .i64 z.n, .int .u64 z.tag, .int .i64 z.to, .string z.xn, .int .i64 z.xk, .bool z.xf, .string z.be, .string z.bq, .string z.bp, .int .i64 z.m.origin, .int .u64 z.m.seq, .int .i64 z.m.hop, .string z.m.ex, .string z.m.key, .string z.m.body] (0, 0) _ HI.out.1.hB Tryz.underlying42 rfl info17 ?_)
      go_ret
      exact ⟨by rw [HI.out.2]; rfl, HI.out.1.bel⟩
end Go.Proofs.YtjagaankkcbjmaaGreatDoor
