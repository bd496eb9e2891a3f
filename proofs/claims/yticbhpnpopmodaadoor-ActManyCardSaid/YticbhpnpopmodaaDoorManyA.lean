/-
  act.Many, by its contract.
-/
import Derived.Test.YticbhpnpopmodaaDoorLists13
import Derived.Test.YticbhpnpopmodaaDoorBytesA
namespace Go.Proofs.YticbhpnpopmodaaDoor
open Go.RowKit

theorem exec_load_off {P : Program} {o : Oper} {a : Act} {w : World} (ty : TypeId) (x : Operand) (ho : o.op = .load ty x)
    (g off : Nat) (hx : a.eval x = .pointer (some ⟨g, off, none⟩)) (cs : List Value) (d : TypeDesc) (hc : ∀ j u, cs[j]? = some u → w.cell? ⟨g, off + j, none⟩ = some u)
    (hu : P.underlying ty = some d) (hd : (match d with | .struct _ | .array _ _ => true | _ => false) = true) (hi : (P.info? ty).map (·.size) = some cs.length) :
    (execOp a.eval o).run P w = .ok (.value (.agg cs.toArray)) w := by
  have hl : (loadCells ⟨g, off, none⟩ cs.length).run P w = .ok cs.toArray w :=
    run_loadCells_list (P := P) w ⟨g, off, none⟩ cs (fun j v hv => by
      have hadd : (⟨g, off, none⟩ : Addr).add j = ⟨g, off + j, none⟩ := by unfold Addr.add; split <;> simp_all
      rw [hadd]
      exact hc j v hv)
  have hlv : (loadVar ty ⟨g, off, none⟩).run P w = .ok (.agg cs.toArray) w := by
    cases hq : P.info? ty with
    | none => simp [hq] at hi
    | some i =>
      have hs : i.size = cs.length := by simpa [hq] using hi
      have hagg : (isAgg ty).run P w = .ok true w := by
        unfold isAgg
        rw [Sem.run_bind, run_underlying hu w]
        cases d <;> simp_all
      simp [loadVar, Sem.run_bind, hagg, sizeOf, typeInfo, hq, hs, hl]
  unfold execOp
  simp only [ho, hx, Instr.loadAt, Instr.sureAddr, Sem.run_bind, Sem.run_pure, Result.andThen_ok, hlv]
theorem wpList_load_off {P : Program} {ops : Array Oper} {rest : List Oper} {o : Oper} {a : Act} {w : World} {Q : Exit → Act → World → Prop} (hgd : o.guard = none) (ty : TypeId) (x : Operand) (ho : o.op = .load ty x)
    (g off : Nat) (hx : a.eval x = .pointer (some ⟨g, off, none⟩)) (cs : List Value) (d : TypeDesc) (hc : ∀ j u, cs[j]? = some u → w.cell? ⟨g, off + j, none⟩ = some u)
    (hu : P.underlying ty = some d) (hd : (match d with | .struct _ | .array _ _ => true | _ => false) = true) (hi : (P.info? ty).map (·.size) = some cs.length)
    (h : wpList P ops Q rest (a.put o.dst (.agg cs.toArray)) w) : wpList P ops Q (o :: rest) a w :=
  wpList_plain hgd fun _ hK => by
    unfold Oper.wp
    rw [exec_load_off ty x ho g off hx cs d hc hu hd hi]
    exact hK _ _ h
theorem grown_none {w w' : World} (g : w.grownBy w' none) : Below w.heap.size w w' := ⟨g.os, g.tape, g.output, g.size, fun k hk => g.block k hk (by simp)⟩
theorem items_len (l : List Ax) (h : l.all goodA = true) : (l.flatMap itemL).length ≤ 602 * l.length := by
  induction l with
  | nil => simp
  | cons a t ih =>
    rw [List.all_cons, Bool.and_eq_true] at h
    have h1 := bytesA_len h.1
    have h2 := ih h.2
    rw [List.flatMap_cons, List.length_append, List.length_cons]
    have h3 : (itemL a).length = 2 + (bytesA a).length := by unfold itemL; rw [List.length_append, putL_length]
    omega
theorem take_more {l : List Ax} {i : Nat} (h : i < l.length) : (l.take (i + 1)).flatMap itemL = (l.take i).flatMap itemL ++ itemL l[i] := by
  rw [List.take_succ_eq_append_getElem h, List.flatMap_append]
  simp
theorem take_all {l : List Ax} {i : Nat} (h : i < l.length) (h1 : (l.take i).all goodA = true) (h2 : goodA l[i] = true) : (l.take (i + 1)).all goodA = true := by
  rw [List.take_succ_eq_append_getElem h, List.all_append, h1]
  simp [h2]
theorem manyL_none {l : List Ax} {i : Nat} (h : i < l.length) (h2 : goodA l[i] = false) : manyL l = [] := by
  unfold manyL
  rw [if_neg]
  intro hh
  have := List.all_eq_true.1 hh.2 l[i] (List.getElem_mem h)
  rw [h2] at this
  cases this
theorem manyL_all {l : List Ax} (h : l.length ≤ 60000) (h2 : l.all goodA = true) : manyL l = putL 2 l.length ++ l.flatMap itemL := by
  unfold manyL
  rw [if_pos ⟨h, h2⟩]
theorem many_step {w wr V w5 : World} {u x v : Value} {A B C : List UInt8} (h1 : Owns V w.heap.size 5 u A) (h2 : Owns V wr.heap.size 5 x B) (h3 : Below w.heap.size w V) (h4 : ∀ k, u.ownBlock = some k → k < wr.heap.size) (o : Owns w5 w.heap.size 5 v C) (g : V.grownBy w5 u.ownBlock) :
    Owns w5 w.heap.size 5 v C ∧ Owns w5 wr.heap.size 5 x B ∧ Below w.heap.size w w5 := by
  refine ⟨o, World.ownsRow.kept h2 g ?_, Owns.below h1 g h3 h3.size⟩
  cases hx : x.ownBlock with
  | none => exact .inl rfl
  | some q =>
    refine .inr fun e => ?_
    have := h4 q e.symm
    have := (World.ownsRow.lt h2 q hx).1
    omega
set_option maxRecDepth 20000 in
set_option maxHeartbeats 8000000 in
theorem manyL_any (v : Value) (l : List Ax) (w : World) (ht : Tab w) (hK : Kinds w) (hv : K.RowOf xcells w v l) (hl : l.length ≤ 1000) (hf : ∀ a ∈ l, a.Fits) :
    Calls Tryd.prog 25 #[v] w (PutPost w.heap.size (.slice none 0 0) w (manyL l)) := by
  have HV : Hid (K.RowOf xcells w v l ∧ (∀ a ∈ l, a.Fits) ∧ Kinds w ∧ Tab w) := ⟨hv, hf, hK, ht⟩
  have hP := put_good (.slice none 0 0) [] 2 l.length w ht (.inl ⟨rfl, rfl⟩) (by simp) (by decide) (by omega)
  obtain ⟨va, vc, rfl⟩ := hv.slice
  obtain ⟨n, hn⟩ : ∃ z, l.length = z := ⟨_, rfl⟩
  rw [hn] at HV hP ⊢
  have HL : Hid (l.length = n) := hn
  clear hv hf ht hK
  rw [hn] at hl
  clear hn
  have hsm : ¬ (60000 : Int) < (n : Int) := by omega
  have cw : IntKind.u64.wrap (n : Int) = (n : Int) := by rw [IntKind.wrap_u64]; omega
  go_enter Tryd.func25, Tryd.ntmps25
  go_wp2_with fail
  refine hP.mono ?_
  rintro e V1 ⟨v1, rfl, o1, b1⟩
  clear hP
  have HS : Hid (Owns V1 w.heap.size 5 v1 (putL 2 n) ∧ Below w.heap.size w V1) := ⟨o1, b1⟩
  clear o1 b1
  go_wp2
  go_loopg [3, 16] n (fun g u3 u16 wr => ∃ i : Nat, u16 = .int .i64 (i : Int) ∧ i ≤ n ∧ g = n - i ∧ Hid (Owns wr w.heap.size 5 u3 (putL 2 n ++ (l.take i).flatMap itemL) ∧ Below w.heap.size w wr ∧ (l.take i).all goodA = true))
  case atStart => exact ⟨0, rfl, Nat.zero_le _, rfl, by simpa using HS.out.1, HS.out.2, rfl⟩
  case round =>
    obtain ⟨i, rfl, hi, rfl, HI⟩ := hrel
    by_cases hlt : i < n
    · have hlt' : (i : Int) < (n : Int) := by omega
      have hil : i < l.length := by rw [HL.out]; exact hlt
      have RW := HV.out.1.below HI.out.2.1 (Nat.le_refl _)
      obtain ⟨b, off, cap, hva, hcap, hmax, hcells⟩ := RW.at (by omega)
      rw [HL.out] at hva
      injection hva with hva1 hva0 hva2
      subst hva1 hva2
      obtain ⟨z, hz⟩ : ∃ z, l[i] = z := ⟨_, rfl⟩
      have HC : Hid (∀ j u, (xcells z)[j]? = some u → wr.cell? ⟨b, off + i * 17 + j, none⟩ = some u) := fun j u hj => by
        have hj17 : j < 17 := by have := (List.getElem?_eq_some_iff.1 hj).1; simpa [xcells] using this
        exact K.row_cell hcells i hil j hj17 u (by rw [hz]; exact hj)
      have HZ : Hid (l[i]'hil = z) := hz
      have HF : Hid (z.Fits) := by show z.Fits; rw [← hz]; exact HV.out.2.1 _ (List.getElem_mem hil)
      obtain ⟨X0, foldX⟩ : ∃ X, wr.alloc (.cells #[.int .i64 0, .string ⟨#[]⟩, .int .i64 0, .int .u64 0, .int .i64 0, .string ⟨#[]⟩, .int .i64 0, .bool false, .string ⟨#[]⟩, .string ⟨#[]⟩, .string ⟨#[]⟩, .int .i64 0, .int .u64 0, .int .i64 0, .string ⟨#[]⟩, .string ⟨#[]⟩, .string ⟨#[]⟩] 32) = X := ⟨_, rfl⟩
      have zX : X0.heap[wr.heap.size]? = some (.cells (xcells (zA 0)).toArray 32 (0, 0)) := by rw [← foldX]; exact heap_alloc_new wr _
      have bX0 : Below wr.heap.size wr X0 := by rw [← foldX]; exact box_below wr _
      obtain ⟨X1, foldX1⟩ : ∃ X, X0.setRow wr.heap.size (xcells z).toArray = X := ⟨_, rfl⟩
      have bX1 : Below wr.heap.size wr X1 := by rw [← foldX1]; exact below_setRow bX0 (Nat.le_refl _) _
      have xX1 : X1.heap[wr.heap.size]? = some (.cells (xcells z).toArray 32 (0, 0)) := by rw [← foldX1]; exact setRow_heap _ _ _ _ _ _ zX
      have HX : Hid (X0.heap[wr.heap.size]? = some (.cells (xcells (zA 0)).toArray 32 (0, 0)) ∧ X1.heap[wr.heap.size]? = some (.cells (xcells z).toArray 32 (0, 0)) ∧ X0.setRow wr.heap.size (xcells z).toArray = X1 ∧ Below wr.heap.size wr X1 ∧ (∀ j u, (xcells z)[j]? = some u → X0.cell? ⟨b, off + i * 17 + j, none⟩ = some u)) := ⟨zX, xX1, foldX1, bX1, fun j u hj => cell_on bX0 (HC.out j u hj)⟩
      have bw1 := keptW HI.out.2.1 bX1
      have t1 := HV.out.2.2.2.below bw1 HV.out.2.2.2.pos
      have hB := bytesA_any z X1 t1 (HV.out.2.2.1.below bw1) HF.out
      clear hcells hva0 hcap hmax RW hz t1 zX bX0 xX1 bX1 bw1
      go_wp2_with (first
        | refine wpList_load_off rfl 32 _ rfl b (off + i * 17) rfl (xcells z) _ (by first | exact HC.out | exact HX.out.2.2.2.2 | (rw [foldX]; exact HX.out.2.2.2.2)) Tryd.underlying32 rfl info17 ?_
        | refine wpList_store_row rfl 32 _ _ rfl wr.heap.size (xcells z).toArray rfl rfl 32 (xcells (zA 0)).toArray HX.out.1 info17 rfl (one17 _) ?_
        | refine wpList_load_row rfl 32 _ rfl wr.heap.size rfl 32 (xcells z).toArray (0, 0) _ (by first | exact HX.out.2.1 | (rw [HX.out.2.2.1]; exact HX.out.2.1)) Tryd.underlying32 rfl info17 ?_)
      try rw [foldX1]
      refine hB.mono ?_
      rintro e V2 ⟨v2, rfl, o2, g2, z2⟩
      clear hB HC
      have b2 : Below wr.heap.size wr V2 := keptW HX.out.2.2.2.1 (grown_none g2)
      have p2 := Owns.mono o2 HX.out.2.2.2.1.size
      have H2 : Hid (Owns V2 w.heap.size 5 u3 (putL 2 n ++ (l.take i).flatMap itemL) ∧ Owns V2 wr.heap.size 5 v2 (bytesA z) ∧ Below w.heap.size w V2 ∧ wr.heap.size ≤ V2.heap.size ∧ (∀ k, u3.ownBlock = some k → k < wr.heap.size)) := ⟨HI.out.1.kept b2 (Nat.le_refl _), p2, keptW HI.out.2.1 b2, b2.size, fun k hk => (World.ownsRow.lt HI.out.1 k hk).2⟩
      have hG2 : Hid ((l.take i).all goodA = true) := HI.out.2.2
      obtain ⟨qa, qc, hv2⟩ := o2.holds.slice
      obtain ⟨k, hk⟩ : ∃ q, (bytesA z).length = q := ⟨_, rfl⟩
      rw [hk] at hv2
      subst hv2
      have HK : Hid ((bytesA z).length = k) := hk
      clear o2 p2 g2 z2 b2 hk HI
      cases hg : goodA z
      · have hk0 : k = 0 := by rw [← HK.out, bytesA_none hg]; rfl
        have HM : Hid (manyL l = []) := manyL_none hil (by rw [HZ.out]; exact hg)
        subst hk0
        clear hg
        go_wp2
        go_ret
        rw [HM.out]
        exact ⟨_, rfl, World.ownsRow_nil _ _ _ _, grown_of H2.out.2.2.1 _, H2.out.2.2.1.size⟩
      · have hk1 : 1 ≤ k ∧ k ≤ 600 := by rw [← HK.out]; exact bytesA_len hg
        have HG : Hid ((l.take (i + 1)).all goodA = true) := take_all hil hG2.out (by rw [HZ.out]; exact hg)
        have HT : Hid ((l.take (i + 1)).flatMap itemL = (l.take i).flatMap itemL ++ itemL z) := by
          have h := take_more hil
          rw [HZ.out] at h
          exact h
        have HS2 : Hid (((l.take i).flatMap itemL).length ≤ 602000) := by
          have h := items_len _ hG2.out
          have h2 : (l.take i).length ≤ i := by rw [List.length_take]; omega
          show _ ≤ _
          omega
        clear hg hG2
        have t2 := HV.out.2.2.2.below H2.out.2.2.1 HV.out.2.2.2.pos
        have hP := put_good (.slice none 0 0) [] 2 k V2 t2 (.inl ⟨rfl, rfl⟩) (by simp) (by decide) (by omega)
        have hk0 : ¬ (k : Int) = 0 := by omega
        have cw2 : IntKind.u64.wrap (k : Int) = (k : Int) := by rw [IntKind.wrap_u64]; omega
        clear t2
        go_wp2_with fail
        refine hP.mono ?_
        rintro e V3 ⟨v3, rfl, o3, b3⟩
        clear hP
        have H3 : Hid (Owns V3 w.heap.size 5 u3 (putL 2 n ++ (l.take i).flatMap itemL) ∧ Owns V3 wr.heap.size 5 (.slice qa k qc) (bytesA z) ∧ Below w.heap.size w V3 ∧ Owns V3 V2.heap.size 5 v3 (putL 2 k)) := ⟨H2.out.1.kept b3 (Nat.le_refl _), H2.out.2.1.kept b3 (Nat.le_refl _), keptW H2.out.2.2.1 b3, o3⟩
        clear o3 b3
        go_wp2_with (first
          | (at_builtin; refine wpList_append_bytesG rfl _ _ 37 5 bigU8 rfl w.heap.size _ _ _ _ rfl rfl H3.out.1 H3.out.2.2.2.holds (by have := HS2.out; rw [List.length_append, putL_length, putL_length]; omega) H3.out.2.2.1.size ?_; intro v5 w5 o5 g5 z5; have H5 : Hid (Owns w5 w.heap.size 5 v5 (putL 2 n ++ (l.take i).flatMap itemL ++ putL 2 k) ∧ Owns w5 wr.heap.size 5 (.slice qa k qc) (bytesA z) ∧ Below w.heap.size w w5) := many_step H3.out.1 H3.out.2.1 H3.out.2.2.1 H2.out.2.2.2.2 o5 g5; clear o5 g5 z5)
          | (at_builtin; refine wpList_append_bytesG rfl _ _ 37 5 bigU8 rfl w.heap.size _ _ _ _ rfl rfl H5.out.1 H5.out.2.1.holds (by have := HS2.out; rw [List.length_append, List.length_append, putL_length, putL_length, HK.out]; omega) H5.out.2.2.size ?_; intro v6 w6 o6 g6 z6; have H6 : Hid (Owns w6 w.heap.size 5 v6 (putL 2 n ++ (l.take i).flatMap itemL ++ putL 2 k ++ bytesA z) ∧ Below w.heap.size w w6) := ⟨o6, Owns.below H5.out.1 g6 H5.out.2.2 H5.out.2.2.size⟩; clear o6 g6 z6))
        go_roundg (n - (i + 1))
        case measure => omega
        case rel =>
          refine ⟨i + 1, by go_num, by omega, rfl, ?_, H6.out.2, HG.out⟩
          rw [HT.out]
          unfold itemL
          rw [HK.out, ← List.append_assoc, ← List.append_assoc]
          exact H6.out.1
    · obtain rfl : i = n := by omega
      have hlt' : ¬ (i : Int) < (i : Int) := by omega
      have HF : Hid (Owns wr w.heap.size 5 u3 (manyL l) ∧ Below w.heap.size w wr) := by
        have h1 := HI.out.1
        have h2 := HI.out.2.2
        rw [List.take_of_length_le (by rw [HL.out]; exact Nat.le_refl _)] at h1 h2
        refine ⟨?_, HI.out.2.1⟩
        rw [manyL_all (by rw [HL.out]; omega) h2, HL.out]
        exact h1
      clear HI
      go_wp2
      go_ret
      exact ⟨_, rfl, HF.out.1, grown_of HF.out.2 _, HF.out.2.size⟩
end Go.Proofs.YticbhpnpopmodaaDoor
