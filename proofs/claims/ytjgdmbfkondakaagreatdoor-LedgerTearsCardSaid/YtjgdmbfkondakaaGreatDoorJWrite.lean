/-
  New, Write, by their contracts.
-/
import Derived.Test.YtjgdmbfkondakaaGreatDoorJAll
import Derived.Deep.RegionLaw
namespace Go.Proofs.YtjgdmbfkondakaaGreatDoor
open Go.RowKit Go.Maps

set_option maxRecDepth 20000 in
set_option maxHeartbeats 1000000 in
theorem new_any (r : Int) (w : World) (h0 : 0 ≤ r) (h1 : r ≤ 1073741824) : Calls Tryz.prog 10 #[.int .i64 r] w fun e w' => ∃ p, e = .returned (.pointer (some ⟨p, 0, none⟩)) ∧ ∃ F, St w' p F (M.new r) ∧ (∀ k, F k → w.heap.size ≤ k) ∧ Below w.heap.size w w' := by
  have hmm := @run_makeMap Tryz.prog
  have h0' : ¬ r < 0 := by omega
  have h1' : ¬ 1073741824 < r := by omega
  go_enter Tryz.func10, Tryz.ntmps10
  go_wp2
  go_ret
  refine ⟨w.heap.size + 1 + 1, rfl, _, ⟨w.heap.size, w.heap.size + 1, fun _ => 0, fun _ => .slice none 0 0, fun _ => .slice none 0 0, fun _ => False, ⟨?_, ?_, ?_, by omega, by simp [M.new], by simp [M.new], fun _ h => h.elim, fun _ h => h.elim, fun _ _ h => h.elim⟩, rfl⟩, ?_, ?_⟩
  · have h := heap_alloc_new ((w.alloc (.map #[] 0)).alloc (.map #[] 0)) (.cells (scell (M.new r) w.heap.size (w.heap.size + 1)).toArray 66)
    rw [World.size_alloc, World.size_alloc] at h
    exact h
  · exact ((dAt_new w).same (Below.heap_alloc _ _ _ (by simp))).same (Below.heap_alloc _ _ _ (by simp; omega))
  · have h := dAt_new (w.alloc (.map #[] 0))
    rw [World.size_alloc] at h
    exact h.same (Below.heap_alloc _ _ _ (by simp))
  · rintro k (rfl | rfl | rfl | ⟨_, hi, _⟩)
    · omega
    · omega
    · omega
    · exact hi.elim
  · exact (((Below.refl _ w).alloc (Nat.le_refl _) _).alloc (by simp) _).alloc (by simp; omega) _
theorem new_bad (r : Int) (w : World) (h : r < 0 ∨ 1073741824 < r) : Calls Tryz.prog 10 #[.int .i64 r] w fun e w' => e = .returned (.pointer none) ∧ w' = w := by
  by_cases h0 : r < 0
  · go_enter Tryz.func10, Tryz.ntmps10
    go_wp2
    go_ret
    exact ⟨rfl, rfl⟩
  · have h1 : 1073741824 < r := h.resolve_left h0
    clear h
    go_enter Tryz.func10, Tryz.ntmps10
    go_wp2
    go_ret
    exact ⟨rfl, rfl⟩

theorem scell_no_u8 (m : M) (nb sb i : Nat) (x : Int) : (scell m nb sb)[i]? ≠ some (.int .u8 x) := by
  unfold scell
  intro h
  match i, h with
  | 0, h => simp at h
  | 1, h => simp at h
  | 2, h => simp at h
  | 3, h => simp at h
  | 4, h => simp at h
  | 5, h => simp at h
  | 6, h => simp at h
  | 7, h => simp at h
  | n + 8, h => simp at h
section
variable {w W : World} {p nb sb : Nat} {ptr : Nat → Nat} {vb vs : Nat → Value} {L : Nat → Prop} {m : M}
/-- Bytes that came in are no store's own cells. -/
theorem StAt.holds (h : StAt w p nb sb ptr vb vs L m) {v : Value} {l : List UInt8} (hv : Holds w v l) (hs : ∀ k, k ≠ p → W.heap[k]? = w.heap[k]?) : Holds W v l := by
  rcases hv with hv | ⟨a, cap, rfl, h1, h2, h3⟩
  · exact .inl hv
  · refine .inr ⟨a, cap, rfl, h1, h2, fun j u hj => ?_⟩
    have hc := h3 j u hj
    have hne : a.block ≠ p := fun e => by
      have hsp := World.cell?_spot hc
      have hb : (a.add j).block = p := (Addr.block_add a j).trans e
      obtain ⟨x, hx⟩ : ∃ x : Int, u = .int .u8 x := by
        simp only [bcells, List.getElem?_map, Option.map_eq_some_iff] at hj
        obtain ⟨y, _, rfl⟩ := hj
        exact ⟨_, rfl⟩
      generalize ha : a.add j = ad at hc hsp hb
      obtain ⟨b1, o1, s1⟩ := ad
      simp only at hsp hb
      subst hsp hb hx
      rw [h.cell o1] at hc
      exact scell_no_u8 m nb sb o1 x hc
    have hbl : W.heap[(a.add j).block]? = w.heap[(a.add j).block]? := by rw [Addr.block_add]; exact hs _ hne
    exact (World.cell?_of_block (a := a.add j) hbl).trans hc

/-- Behind a Write: the file's bytes, what the files need. -/
theorem StAt.wrote {w1 : World} (h : StAt w p nb sb ptr vb vs L m) {i : Nat} (hi : L i) (ok : m.Ok) {e0 : En} (he : e0 ∈ m.dir) (hei : e0.f = i) {v' : Value} {bl : List UInt8} (hb : Buf w1 v' ((m.fl i).now ++ bl)) (gr : w.grownBy w1 (vb i).ownBlock) (hloc : v'.ownBlock = (vb i).ownBlock ∨ ∃ g, v'.ownBlock = some g ∧ w.heap.size ≤ g)
    (hsh : ∀ vs' ls, Buf w vs' ls → Sh (vb i) vs' (m.fl i).now ls → Buf w1 vs' ls ∧ Sh v' vs' ((m.fl i).now ++ bl) ls) {x : Int} (hx : x = (m.need : Int) + (bl.length : Int)) (V : World) (hV : V.heap = ((w1.setCell ⟨ptr i, 0, none⟩ v').setCell ⟨p, 3, none⟩ (.int .i64 x)).heap) (hos : V.os = w1.os) (htp : V.tape = w1.tape) (hou : V.output = w1.output) :
    ∃ F', St V p F' (M.setF i { m.fl i with now := (m.fl i).now ++ bl } m) ∧ Moved w V (footS p nb sb ptr vb vs L) F' := by
  have hF := h.file i hi
  have hq : ptr i < w.heap.size := hF.lts _ (.inl rfl)
  have hqv : some (ptr i) ≠ (vb i).ownBlock := fun e => (h.ptr_row hi hi).1 e.symm
  have hqp : ptr i ≠ p := (h.f_ne hi (.inl rfl)).1
  have hpv : some p ≠ (vb i).ownBlock := fun e => (h.f_ne hi (.inr (.inl e.symm))).1 rfl
  have hb1 : w1.heap[ptr i]? = some (.cells [vb i, vs i].toArray 91 (0, 0)) := (gr.block _ hq hqv).trans hF.blk
  have hb2 : w1.heap[p]? = some (.cells (scell m nb sb).toArray 66 (0, 0)) := (gr.block _ h.blk_lt hpv).trans h.blk
  have hVq : V.heap[ptr i]? = some (.cells #[v', vs i] 91 (0, 0)) := by
    rw [hV, Below.heap_setCell _ _ _ _ (show ptr i ≠ p from hqp)]
    exact heap_set_list (i := 0) hb1 v'
  have hVp : V.heap[p]? = some (.cells ((scell m nb sb).set 3 (.int .i64 x)).toArray 66 (0, 0)) := by
    rw [hV]
    exact heap_set_list (i := 3) ((Below.heap_setCell _ _ _ _ (show p ≠ ptr i from fun e => hqp e.symm)).trans hb2) _
  have hVo : ∀ k, k ≠ ptr i → k ≠ p → V.heap[k]? = w1.heap[k]? := fun k h1 h2 => by
    rw [hV, Below.heap_setCell _ _ _ _ h2, Below.heap_setCell _ _ _ _ h1]
  have hbuf : ∀ u l, Buf w1 u l → Buf V u l := fun u l hu => hu.same fun g hg => hVo g (fun e => by
      subst e
      obtain ⟨cur, hc⟩ := hu.blk hg
      rw [hb1] at hc
      simp at hc) (fun e => by
      subst e
      obtain ⟨cur, hc⟩ := hu.blk hg
      rw [hb2] at hc
      simp at hc)
  obtain ⟨hs1, hs2⟩ := hsh (vs i) (m.fl i).sure hF.s hF.sh
  have hnew : ∀ k, v'.ownBlock = some k ∨ (vs i).ownBlock = some k → footF (ptr i) (vb i) (vs i) k ∨ w.heap.size ≤ k := by
    rintro k (hk | hk)
    · rcases hloc with h1 | ⟨g, h1, h2⟩
      · exact .inl (.inr (.inl (by rw [← h1]; exact hk)))
      · rw [h1] at hk
        injection hk with hk
        exact .inr (hk ▸ h2)
    · exact .inl (.inr (.inr hk))
  have hneed : (M.setF i { m.fl i with now := (m.fl i).now ++ bl } m).need = m.need + bl.length := by
    have hsp := M.split_cut ok.od (findE_mem ok.od he)
    have hlt := h.lt i hi
    have e1 : m.need = 16 + (m.fl i).now.length + m.needL (cutE m.dir e0.name) := by
      have := M.needL_perm m hsp.symm
      rw [M.needL_cons, hei] at this
      exact this.symm
    have e2 : (M.setF i { m.fl i with now := (m.fl i).now ++ bl } m).need = 16 + ((m.fl i).now ++ bl).length + m.needL (cutE m.dir e0.name) := by
      have := M.needL_perm (M.setF i { m.fl i with now := (m.fl i).now ++ bl } m) hsp.symm
      rw [M.needL_cons, hei, M.at_set _ hlt, if_pos rfl] at this
      rw [show (M.setF i { m.fl i with now := (m.fl i).now ++ bl } m).need = (M.setF i { m.fl i with now := (m.fl i).now ++ bl } m).needL m.dir from rfl, ← this]
      congr 1
      refine M.needL_congr fun e hee => ?_
      have hne : e.f ≠ i := fun e2 => (mem_cutE.1 hee).2 (by rw [M.pw_one ok.nd (mem_cutE.1 hee).1 he (e2.trans hei.symm)])
      rw [M.at_set _ hlt, if_neg hne]
    rw [e1, e2, List.length_append]
    omega
  refine ⟨_, ⟨_, _, _, _, _, _, h.setFile (w' := V) (m' := M.setF i { m.fl i with now := (m.fl i).now ++ bl } m) hi (b' := v') (s' := vs i) (x := { m.fl i with now := (m.fl i).now ++ bl }) ?_ ⟨hVq, hbuf _ _ hb, hbuf _ _ hs1, hs2⟩ ?_ hnew rfl rfl rfl, rfl⟩, ?_⟩
  · rw [hVp]
    have : (scell m nb sb).set 3 (.int .i64 x) = scell (M.setF i { m.fl i with now := (m.fl i).now ++ bl } m) nb sb := by
      rw [scell_set3]
      unfold scell
      rw [hneed, hx]
      simp only [M.setF]
      rfl
    rw [this]
  · intro k hk h1 h2
    exact (hVo k (fun e => h2 (.inl e)) h1).trans (gr.block k (h.lts k hk) (fun e => h2 (.inr (.inl e.symm))))
  · refine ⟨hos.trans gr.os, htp.trans gr.tape, hou.trans gr.output, by rw [hV]; simpa using gr.size, fun k hk hn => ?_, footS_set hi hnew⟩
    refine (hVo k (fun e => hn (.inr (.inr (.inr ⟨i, hi, .inl e⟩)))) (fun e => hn (.inl e))).trans (gr.block k hk (fun e => hn (.inr (.inr (.inr ⟨i, hi, .inr (.inl e.symm)⟩)))))

/-- 'append', by its run, as a step of a region. -/
theorem step_append_run {w : World} {ops : Array Oper} {o : Oper} {a : Act} {J : Act → World → Prop} {Q : Exit → Act → World → Prop} {F : Prop} (hgd : o.guard = none) (s x : Operand) (ts : Array TypeId)
    (ho : o.op = .call { callee := .builtin .append, args := #[s, x], argTypes := ts }) (v src : Value) (hs : a.eval s = v) (hx : a.eval x = src) (v' : Value) (w' : World) (hr : (Builtin.append_ ts o.type #[v, src]).run Tryz.prog w = .ok v' w') (h : J (a.put o.dst v') w') : if Region.wanted o (yielded ops a.tmps) = true then Oper.wp Tryz.prog o a w J Q else F := by
  have hw : Region.wanted o (yielded ops a.tmps) = true := by simp [Region.wanted, hgd]
  rw [if_pos hw]
  unfold Oper.wp execOp
  simp only [ho, resolve, invoke, builtin, Sem.run_bind, Sem.run_pure, Result.andThen_ok, List.map_toArray, List.map_cons, List.map_nil, hs, hx, hr]
  exact h
set_option maxRecDepth 20000 in
set_option maxHeartbeats 4000000 in
theorem write1_at (h : StAt w p nb sb ptr vb vs L m) (ok : m.Ok) (hc : m.count ≤ 1000000) {i : Nat} (hi : L i) {e0 : En} (he : e0 ∈ m.dir) (hei : e0.f = i) (bv : Value) (bl : List UInt8) (hb : Holds w bv bl) (hbl : bl.length ≤ 1073741824) (Bf Bb Bs : Nat) (cf : Boxed w Bf 80 (.pointer (some ⟨ptr i, 0, none⟩))) (cb : Boxed w Bb 31 bv) (cs : Boxed w Bs 28 (.pointer (some ⟨p, 0, none⟩))) :
    Calls Tryz.prog 79 #[.pointer (some ⟨Bf, 0, none⟩), .pointer (some ⟨Bb, 0, none⟩), .pointer (some ⟨Bs, 0, none⟩)] w fun e w' => e = .returned (.tuple #[]) ∧ ∃ F', St w' p F' (M.setF i { m.fl i with now := (m.fl i).now ++ bl } m) ∧ Moved w w' (footS p nb sb ptr vb vs L) F' := by
  have hF := h.file i hi
  obtain ⟨q0, _⟩ := hF.cells
  have hbuf : Buf w.drew (vb i) (m.fl i).now := hF.b.same fun _ _ => rfl
  have hbd : Holds w.drew bv bl := hb.below ((Below.refl w.heap.size w).drew) (Nat.le_refl _)
  obtain ⟨v', w1, hap, hb1, gr, hloc, hsh⟩ := run_append_buf (w := w.drew) 31 hbuf hbd (by have := (ok.fl i).1; omega)
  have gr' : w.grownBy w1 (vb i).ownBlock := ⟨gr.os, gr.tape, gr.output, gr.size, gr.block⟩
  have hq : ptr i < w.heap.size := hF.lts _ (.inl rfl)
  have hqv : some (ptr i) ≠ (vb i).ownBlock := fun e => (h.ptr_row hi hi).1 e.symm
  have hqp : ptr i ≠ p := (h.f_ne hi (.inl rfl)).1
  have hpv : some p ≠ (vb i).ownBlock := fun e => (h.f_ne hi (.inr (.inl e.symm))).1 rfl
  have ob : ∀ (B : Nat) (t : TypeId) (v : Value), Boxed w B t v → t ≠ 5 → t ≠ 91 → w1.cell? ⟨B, 0, none⟩ = some v ∧ (w1.setCell ⟨ptr i, 0, none⟩ v').cell? ⟨B, 0, none⟩ = some v := fun B t v hB h1 h2 => by
    have e1 : w1.heap[B]? = w.heap[B]? := gr'.block B hB.lt (fun e => by
      obtain ⟨cur, hcur⟩ := hF.b.blk e.symm
      unfold Boxed at hB
      rw [hB] at hcur
      simp only [Option.some.injEq, Obj.cells.injEq] at hcur
      exact h1 hcur.2.1)
    have hBq : B ≠ ptr i := fun e => by
      subst e
      unfold Boxed at hB
      rw [hF.blk] at hB
      simp only [Option.some.injEq, Obj.cells.injEq] at hB
      exact h2 hB.2.1.symm
    exact ⟨box_cell hB.cell e1, box_cell hB.cell ((Below.heap_setCell _ _ _ _ hBq).trans e1)⟩
  have f1 := cf.cell
  have b1 := cb.cell
  obtain ⟨_, s2⟩ := ob Bs _ _ cs (by decide) (by decide)
  obtain ⟨_, b2⟩ := ob Bb _ _ cb (by decide) (by decide)
  obtain ⟨f2, _⟩ := ob Bf _ _ cf (by decide) (by decide)
  have hb1' : w1.heap[ptr i]? = some (.cells [vb i, vs i].toArray 91 (0, 0)) := (gr'.block _ hq hqv).trans hF.blk
  have u0 : w1.cell? ⟨ptr i, 0, none⟩ = some (vb i) := by simp [World.cell?, hb1']
  have uf : w1.frozen? ⟨ptr i, 0, none⟩ = false := by simp [World.frozen?, hb1']
  have hb2' : (w1.setCell ⟨ptr i, 0, none⟩ v').heap[p]? = some (.cells (scell m nb sb).toArray 66 (0, 0)) := (Below.heap_setCell _ _ _ _ (show p ≠ ptr i from fun e => hqp e.symm)).trans ((gr'.block _ h.blk_lt hpv).trans h.blk)
  have d3 : (w1.setCell ⟨ptr i, 0, none⟩ v').cell? ⟨p, 3, none⟩ = some (.int .i64 (m.need : Int)) := by simp [World.cell?, hb2', scell]
  have df : (w1.setCell ⟨ptr i, 0, none⟩ v').frozen? ⟨p, 3, none⟩ = false := by simp [World.frozen?, hb2']
  obtain ⟨x, hx⟩ : ∃ x : Int, x = (m.need : Int) + (bl.length : Int) := ⟨_, rfl⟩
  have hw : IntKind.i64.wrap ((m.need : Int) + (bl.length : Int)) = x := by have := ok.need hc; rw [IntKind.wrap_i64]; omega
  have HE : Hid (∀ V, V.heap = ((w1.setCell ⟨ptr i, 0, none⟩ v').setCell ⟨p, 3, none⟩ (.int .i64 x)).heap → V.os = w1.os → V.tape = w1.tape → V.output = w1.output → ∃ F', St V p F' (M.setF i { m.fl i with now := (m.fl i).now ++ bl } m) ∧ Moved w V (footS p nb sb ptr vb vs L) F') := fun V h1 h2 h3 h4 => h.wrote hi ok he hei hb1 gr' hloc (fun vs' ls hv hs => hsh vs' ls (hv.same fun _ _ => rfl) hs) hx V h1 h2 h3 h4
  obtain ⟨va, vc, hv'⟩ := hb1.slice
  obtain ⟨oa, oc, hvo⟩ := hF.b.slice
  obtain ⟨ba, bc, hbv⟩ : ∃ a c, bv = .slice a bl.length c := by
    rcases hb with ⟨rfl, rfl⟩ | ⟨a, cap, rfl, _⟩
    · exact ⟨_, _, rfl⟩
    · exact ⟨_, _, rfl⟩
  clear hF hbuf hbd hb hb1 gr gr' hloc hsh hq hqv hqp hpv ob cf cb cs hb1' hb2' h he hei hx
  obtain ⟨W2, fold⟩ : ∃ W2, w1.setCell ⟨ptr i, 0, none⟩ v' = W2 := ⟨_, rfl⟩
  rw [fold] at s2 b2 d3 df HE
  rw [hbv] at hap b1 b2
  rw [hvo] at hap q0 u0
  rw [hv'] at hap fold
  generalize ((m.fl i).now ++ bl).length = ln at *
  generalize (m.fl i).now.length = lo at *
  generalize bl.length = lb at *
  generalize (m.need : Int) = nd at *
  generalize ptr i = q at *
  clear hbv hvo hv'
  have mixed : Tryz.prog.follows .mixedOrders = true := by kernel_rfl
  go_enter Tryz.func79, Tryz.ntmps79
  go_wp2
  go_region_law (refine step_append_run rfl (.tmp 7) (.tmp 8) #[31, 31] rfl (.slice oa lo oc) (.slice ba lb bc) (by simp [Act.eval]) (by simp [Act.eval]) (.slice va ln vc) w1 hap ?_)
  all_goals go_wp2
  all_goals go_region
  all_goals go_wp2
  all_goals go_end0
  all_goals (refine ⟨rfl, HE.out _ ?_ ?_ ?_ ?_⟩ <;> first | rfl | (rw [← fold]; rfl))
end
end Go.Proofs.YtjgdmbfkondakaaGreatDoor

/-
  Write, by its contract.
-/
namespace Go.Proofs.YtjgdmbfkondakaaGreatDoor
open Go.RowKit Go.Maps

theorem Holds.slice {w : World} {v : Value} {l : List UInt8} (h : Holds w v l) : ∃ a c, v = .slice a l.length c := by
  rcases h with ⟨rfl, rfl⟩ | ⟨a, cap, rfl, _⟩
  · exact ⟨_, _, rfl⟩
  · exact ⟨_, _, rfl⟩
theorem boxed_below {w w' : World} {B : Nat} {t : TypeId} {v : Value} (h : Boxed w B t v) (hb : Below w.heap.size w w') : Boxed w' B t v := (hb.block B h.lt).trans h
theorem boxed_new (w : World) (t : TypeId) (v : Value) : Boxed (w.alloc (.cells #[v] t)) w.heap.size t v := heap_alloc_new w _
theorem boxed_old {w : World} {B : Nat} {t : TypeId} {v : Value} (h : Boxed w B t v) (o : Obj) : Boxed (w.alloc o) B t v := (Below.heap_alloc w o B h.lt).trans h
theorem fileB_some {ptr : Nat → Nat} {m : M} {n : ByteArray} (h : m.first n true = 0) : fileB ptr m n = some (ptr (m.place n)) := by unfold fileB; rw [if_pos h]
theorem fileB_none {ptr : Nat → Nat} {m : M} {n : ByteArray} (h : m.first n true ≠ 0) : fileB ptr m n = none := by unfold fileB; rw [if_neg h]

set_option maxRecDepth 20000 in
set_option maxHeartbeats 4000000 in
theorem write_any (p : Nat) (F : Nat → Prop) (m : M) (n : ByteArray) (bv : Value) (bl : List UInt8) (w : World) (h : St w p F m) (ok : m.Ok) (hc : m.count ≤ 900000) (hs : n.size ≤ maxLen) (hb : Holds w bv bl) :
    Calls Tryz.prog 36 #[.pointer (some ⟨p, 0, none⟩), .string n, bv] w fun e w' => e = .returned (.int .i64 (m.write n bl).1) ∧ ∃ F', St w' p F' (m.write n bl).2 ∧ Moved w w' F F' := by
  obtain ⟨nb, sb, ptr, vb, vs, L, hst, rfl⟩ := h
  obtain ⟨ba, bc, rfl⟩ := hb.slice
  obtain ⟨W1, fold1⟩ : ∃ W1, (w.alloc (.cells #[.pointer (some ⟨p, 0, none⟩)] 28)).alloc (.cells #[.slice ba bl.length bc] 31) = W1 := ⟨_, rfl⟩
  have b1 : Below w.heap.size w W1 := by rw [← fold1]; exact ((Below.refl _ w).alloc (Nat.le_refl _) _).alloc (by simp) _
  have z1 : W1.heap.size = w.heap.size + 2 := by rw [← fold1]; simp
  have x0 : Boxed W1 w.heap.size 28 (.pointer (some ⟨p, 0, none⟩)) := by rw [← fold1]; exact boxed_old (boxed_new w _ _) _
  have x1 : Boxed W1 (w.heap.size + 1) 31 (.slice ba bl.length bc) := by
    rw [← fold1]
    have := boxed_new (w.alloc (.cells #[.pointer (some ⟨p, 0, none⟩)] 28)) 31 (.slice ba bl.length bc)
    rwa [World.size_alloc] at this
  have st1 := hst.kept b1
  have hFi := find_at st1 ok n hs
  have y0 := x0.cell
  have HS : Hid (∀ W, Below w.heap.size w W → ∃ F', St W p F' m ∧ Moved w W (footS p nb sb ptr vb vs L) F') := fun W hW => ⟨_, ⟨_, _, _, _, _, _, hst.kept hW, rfl⟩, .of_below hW⟩
  by_cases h1 : m.first n true = 0
  · obtain ⟨hd, hg, e0, hf, hpl⟩ := M.first_true h1
    rw [fileB_some h1, h1, hpl] at hFi
    simp only [ptrO] at hFi
    have HF : Hid (∀ W, Below w.heap.size w W → Calls Tryz.prog 78 #[.pointer (some ⟨p, 0, none⟩), .int .i64 (bl.length : Int)] W fun e w' => e = .returned (.bool (!decide (m.room - m.need < bl.length))) ∧ Below W.heap.size W w') := fun W hW => fits_at (hst.kept hW) bl.length (ok.need (by omega)) ok.room0 ok.room1
    have HB : Hid (∀ w2 w4, Below W1.heap.size W1 w2 → Below (w2.heap.size + 1) (w2.alloc (.cells #[.pointer (some ⟨ptr e0.f, 0, none⟩)] 80)) w4 → Below w.heap.size w w4 ∧ Boxed w4 w.heap.size 28 (.pointer (some ⟨p, 0, none⟩)) ∧ Boxed w4 (w.heap.size + 1) 31 (.slice ba bl.length bc) ∧ Boxed w4 w2.heap.size 80 (.pointer (some ⟨ptr e0.f, 0, none⟩))) := fun w2 w4 k1 k2 => by
      have k2' : Below (w2.alloc (.cells #[.pointer (some ⟨ptr e0.f, 0, none⟩)] 80)).heap.size (w2.alloc (.cells #[.pointer (some ⟨ptr e0.f, 0, none⟩)] 80)) w4 := by rw [World.size_alloc]; exact k2
      have k3 : Below W1.heap.size W1 (w2.alloc (.cells #[.pointer (some ⟨ptr e0.f, 0, none⟩)] 80)) := k1.alloc k1.size _
      have k4 : Below W1.heap.size W1 w4 := k3.trans (k2'.mono k3.size)
      exact ⟨b1.trans (k4.mono b1.size), boxed_below x0 k4, boxed_below x1 k4, boxed_below (boxed_new w2 _ _) k2'⟩
    by_cases hsp : m.room - m.need < bl.length
    · have hF : m.write n bl = (6, m) := by unfold M.write; rw [h1]; simp [hsp]
      rw [hF]
      rw [decide_eq_true hsp] at HF
      clear hst st1 hd hg hf hb hsp
      go_enter Tryz.func36, Tryz.ntmps36
      go_wp2_with (go_at_call 64; refine hFi.mono ?_; rintro e w2 ⟨rfl, b2⟩; obtain ⟨k1, k2, k3, k4⟩ := HB.out w2 _ b2 (Below.refl _ _); have j0 := k2.cell; have j1 := k3.cell; have hFit := HF.out _ k1)
      go_wp2_with (go_at_call 78; refine hFit.mono ?_; rintro e w4 ⟨rfl, b4⟩)
      go_ret
      rw [World.size_alloc] at b4
      exact ⟨rfl, HS.out _ (HB.out w2 _ b2 b4).1⟩
    · have hF : m.write n bl = m.step (M.setF e0.f { m.fl e0.f with now := (m.fl e0.f).now ++ bl }) := by unfold M.write; rw [h1, hpl]; simp [hsp]
      rw [hF]
      rw [decide_eq_false hsp] at HF
      have hbl : bl.length ≤ 1073741824 := by have := ok.room1; omega
      have he := (findE_some hf).1
      have HD : Hid (∀ W Bf, Below w.heap.size w W → Boxed W w.heap.size 28 (.pointer (some ⟨p, 0, none⟩)) → Boxed W (w.heap.size + 1) 31 (.slice ba bl.length bc) → Boxed W Bf 80 (.pointer (some ⟨ptr e0.f, 0, none⟩)) → Calls Tryz.prog 65 #[.pointer (some ⟨p, 0, none⟩), .func (.func 79) #[] #[.pointer (some ⟨Bf, 0, none⟩), .pointer (some ⟨w.heap.size + 1, 0, none⟩), .pointer (some ⟨w.heap.size, 0, none⟩)]] W fun e w' => e = .returned (.int .i64 (m.step (M.setF e0.f { m.fl e0.f with now := (m.fl e0.f).now ++ bl })).1) ∧ ∃ F', St w' p F' (m.step (M.setF e0.f { m.fl e0.f with now := (m.fl e0.f).now ++ bl })).2 ∧ Moved w w' (footS p nb sb ptr vb vs L) F') := fun W Bf hW k0 k1 k2 => by
        have hlt := hst.blk_lt
        have hbox : ∀ (V : World) (B : Nat) (t : TypeId) (v : Value), (∀ k, k ≠ p → V.heap[k]? = W.heap[k]?) → Boxed W B t v → t ≠ 66 → Boxed V B t v := fun V B t v oV hB ht => (oV B (fun e => by
          subst e
          have := (hst.kept hW).blk
          unfold Boxed at hB
          rw [this] at hB
          simp only [Option.some.injEq, Obj.cells.injEq] at hB
          exact ht hB.2.1.symm)).trans hB
        refine (do_at (hst.kept hW) ok hc 79 _ (enters_of Tryz.func79 (by kernel_rfl) rfl) (M.setF e0.f { m.fl e0.f with now := (m.fl e0.f).now ++ bl }) (fun V stV oV sV => write1_at stV ok.tick (by show m.count + 1 ≤ _; omega) (hst.dl e0 he) he rfl _ bl ((hst.kept hW).holds (hb.below hW (Nat.le_refl _)) oV) hbl _ _ _ (hbox V _ _ _ oV k2 (by decide)) (hbox V _ _ _ oV k1 (by decide)) (hbox V _ _ _ oV k0 (by decide)))).mono ?_
        rintro e w' ⟨rfl, F', s', m'⟩
        exact ⟨rfl, F', s', (Moved.of_below hW).trans m'⟩
      generalize m.step (M.setF e0.f { m.fl e0.f with now := (m.fl e0.f).now ++ bl }) = res at *
      clear hst st1 hd hg hf hb hsp
      go_enter Tryz.func36, Tryz.ntmps36
      go_wp2_with (go_at_call 64; refine hFi.mono ?_; rintro e w2 ⟨rfl, b2⟩; obtain ⟨k1, k2, k3, k4⟩ := HB.out w2 _ b2 (Below.refl _ _); have j0 := k2.cell; have j1 := k3.cell; have hFit := HF.out _ k1)
      go_wp2_with (go_at_call 78; refine hFit.mono ?_; rintro e w4 ⟨rfl, b4⟩; rw [World.size_alloc] at b4; obtain ⟨l1, l2, l3, l4⟩ := HB.out w2 w4 b2 b4; have i0 := l2.cell; have hDo := HD.out w4 _ l1 l2 l3 l4)
      go_wp2_with (go_at_call 65; refine hDo.mono ?_; rintro e w5 ⟨rfl, F5, s5, m5⟩)
      go_ret
      exact ⟨rfl, F5, s5, m5⟩
  · have hF : m.write n bl = (m.first n true, m) := by unfold M.write; rw [if_pos h1]
    rw [hF]
    rw [fileB_none h1] at hFi
    simp only [ptrO] at hFi
    generalize m.first n true = er at *
    clear hst st1 hb
    go_enter Tryz.func36, Tryz.ntmps36
    go_wp2_with (go_at_call 64; refine hFi.mono ?_; rintro e w2 ⟨rfl, b2⟩)
    go_ret
    exact ⟨rfl, HS.out _ (b1.trans ((b2.alloc b2.size _).mono b1.size))⟩
end Go.Proofs.YtjgdmbfkondakaaGreatDoor

/-
  Cut, Sync, by their contracts.
-/
namespace Go.Proofs.YtjgdmbfkondakaaGreatDoor
open Go.RowKit Go.Maps

section
variable {w W : World} {p nb sb : Nat} {ptr : Nat → Nat} {vb vs : Nat → Value} {L : Nat → Prop} {m : M}
/-- What the files need, where one was changed. -/
theorem need_set (ok : m.Ok) {i : Nat} (hi : i < m.all.length) {e0 : En} (he : e0 ∈ m.dir) (hei : e0.f = i) (x : Fl) : (M.setF i x m).need + (m.fl i).now.length = m.need + x.now.length := by
  have hsp := M.split_cut ok.od (findE_mem ok.od he)
  have e1 : m.need = 16 + (m.fl i).now.length + m.needL (cutE m.dir e0.name) := by
    have := M.needL_perm m hsp.symm
    rw [M.needL_cons, hei] at this
    exact this.symm
  have e2 : (M.setF i x m).need = 16 + x.now.length + m.needL (cutE m.dir e0.name) := by
    have := M.needL_perm (M.setF i x m) hsp.symm
    rw [M.needL_cons, hei, M.at_set _ hi, if_pos rfl] at this
    rw [show (M.setF i x m).need = (M.setF i x m).needL m.dir from rfl, ← this]
    congr 1
    refine M.needL_congr fun e hee => ?_
    have hne : e.f ≠ i := fun e2 => (mem_cutE.1 hee).2 (by rw [M.pw_one ok.nd (mem_cutE.1 hee).1 he (e2.trans hei.symm)])
    rw [M.at_set _ hi, if_neg hne]
  omega
/-- One file's two slices were changed, over the memory that it had, and what the files need. -/
theorem StAt.refile (h : StAt w p nb sb ptr vb vs L m) {i : Nat} (hi : L i) (ok : m.Ok) {e0 : En} (he : e0 ∈ m.dir) (hei : e0.f = i) {b' s' : Value} {x : Fl} (hb : Buf w b' x.now) (hs : Buf w s' x.sure) (hsh : Sh b' s' x.now x.sure) (hnew : ∀ k, b'.ownBlock = some k ∨ s'.ownBlock = some k → footF (ptr i) (vb i) (vs i) k)
    {y : Int} (hy : y + ((m.fl i).now.length : Int) = (m.need : Int) + (x.now.length : Int)) (V : World) (hq : V.heap[ptr i]? = some (.cells #[b', s'] 91 (0, 0))) (hp : V.heap[p]? = some (.cells ((scell m nb sb).set 3 (.int .i64 y)).toArray 66 (0, 0))) (ho : ∀ k, k ≠ ptr i → k ≠ p → V.heap[k]? = w.heap[k]?) (hsz : V.heap.size = w.heap.size) (hos : V.os = w.os) (htp : V.tape = w.tape) (hou : V.output = w.output) :
    ∃ F', St V p F' (M.setF i x m) ∧ Moved w V (footS p nb sb ptr vb vs L) F' := by
  have hF := h.file i hi
  have hbuf : ∀ u l, Buf w u l → Buf V u l := fun u l hu => hu.same fun g hg => ho g (fun e => by
      subst e
      obtain ⟨cur, hc⟩ := hu.blk hg
      rw [hF.blk] at hc
      simp at hc) (fun e => by
      subst e
      obtain ⟨cur, hc⟩ := hu.blk hg
      rw [h.blk] at hc
      simp at hc)
  have hneed := need_set ok (h.lt i hi) he hei x
  refine ⟨_, ⟨_, _, _, _, _, _, h.setFile (w' := V) (m' := M.setF i x m) hi (b' := b') (s' := s') (x := x) ?_ ⟨hq, hbuf _ _ hb, hbuf _ _ hs, hsh⟩ (fun k _ h1 h2 => ho k (fun e => h2 (.inl e)) h1) (fun k hk => .inl (hnew k hk)) rfl rfl rfl, rfl⟩, hos, htp, hou, Nat.le_of_eq hsz.symm, fun k hk hn => ho k (fun e => hn (.inr (.inr (.inr ⟨i, hi, .inl e⟩)))) (fun e => hn (.inl e)), fun k hk => ?_⟩
  · rw [hp]
    have : (scell m nb sb).set 3 (.int .i64 y) = scell (M.setF i x m) nb sb := by
      rw [scell_set3]
      unfold scell
      rw [show y = ((M.setF i x m).need : Int) by omega]
      rfl
    rw [this]
  · rcases footS_set (z := w.heap.size) hi (fun k hk => .inl (hnew k hk)) k hk with h1 | h1
    · exact .inl h1
    · exact .inr h1
/-- A box is no cell of a store. -/
theorem StAt.box (h : StAt w p nb sb ptr vb vs L m) {V : World} (oV : ∀ k, k ≠ p → V.heap[k]? = w.heap[k]?) {B : Nat} {t : TypeId} {v : Value} (hB : Boxed w B t v) (ht : t ≠ 66) : Boxed V B t v := (oV B (fun e => by
  subst e
  have := h.blk
  unfold Boxed at hB
  rw [this] at hB
  simp only [Option.some.injEq, Obj.cells.injEq] at hB
  exact ht hB.2.1.symm)).trans hB
theorem StAt.box_f (h : StAt w p nb sb ptr vb vs L m) {i B : Nat} (hi : L i) {t : TypeId} {v : Value} (hB : Boxed w B t v) (ht : t ≠ 91) : B ≠ ptr i := fun e => by
  subst e
  have := (h.file i hi).blk
  unfold Boxed at hB
  rw [this] at hB
  simp only [Option.some.injEq, Obj.cells.injEq] at hB
  exact ht hB.2.1.symm
theorem StAt.box_p (h : StAt w p nb sb ptr vb vs L m) {B : Nat} {t : TypeId} {v : Value} (hB : Boxed w B t v) (ht : t ≠ 66) : B ≠ p := fun e => by
  subst e
  have := h.blk
  unfold Boxed at hB
  rw [this] at hB
  simp only [Option.some.injEq, Obj.cells.injEq] at hB
  exact ht hB.2.1.symm

set_option maxRecDepth 20000 in
set_option maxHeartbeats 4000000 in
theorem sync1_at (h : StAt w p nb sb ptr vb vs L m) (ok : m.Ok) {i : Nat} (hi : L i) {e0 : En} (he : e0 ∈ m.dir) (hei : e0.f = i) (Bf : Nat) (cf : Boxed w Bf 80 (.pointer (some ⟨ptr i, 0, none⟩))) :
    Calls Tryz.prog 80 #[.pointer (some ⟨Bf, 0, none⟩)] w fun e w' => e = .returned (.tuple #[]) ∧ ∃ F', St w' p F' (M.setF i { m.fl i with sure := (m.fl i).now } m) ∧ Moved w w' (footS p nb sb ptr vb vs L) F' := by
  have hF := h.file i hi
  obtain ⟨q0, q1⟩ := hF.cells
  have f1 := hF.free 1
  have c0 := cf.cell
  have hqp : ptr i ≠ p := (h.f_ne hi (.inl rfl)).1
  have HE : Hid (∀ V : World, V.heap = (w.setCell ⟨ptr i, 1, none⟩ (vb i)).heap → V.os = w.os → V.tape = w.tape → V.output = w.output → ∃ F', St V p F' (M.setF i { m.fl i with sure := (m.fl i).now } m) ∧ Moved w V (footS p nb sb ptr vb vs L) F') := fun V hV h1 h2 h3 => by
    refine h.refile hi ok he hei (b' := vb i) (s' := vb i) (x := { m.fl i with sure := (m.fl i).now }) hF.b hF.b (fun _ _ _ => .inl (Nat.le_refl _)) (fun k hk => .inr (.inl (hk.elim id id))) (y := (m.need : Int)) rfl V ?_ ?_ (fun k a b => ?_) (by rw [hV]; simp) h1 h2 h3
    · rw [hV]
      exact heap_set_list (C := [vb i, vs i]) (i := 1) hF.blk (vb i)
    · rw [hV, Below.heap_setCell _ _ _ _ (show p ≠ ptr i from fun e => hqp e.symm)]
      exact h.blk
    · rw [hV, Below.heap_setCell _ _ _ _ a]
  obtain ⟨oa, oc, hvo⟩ := hF.b.slice
  obtain ⟨sa, sc, hvs⟩ := hF.s.slice
  rw [hvo] at q0 HE
  rw [hvs] at q1
  generalize (m.fl i).now.length = lo at *
  generalize (m.fl i).sure.length = ls at *
  generalize ptr i = q at *
  clear h hF cf hqp hvo hvs he hei
  have mixed : Tryz.prog.follows .mixedOrders = true := by kernel_rfl
  go_enter Tryz.func80, Tryz.ntmps80
  go_wp2
  go_region
  all_goals go_wp2
  all_goals go_end0
  all_goals (refine ⟨rfl, HE.out _ ?_ ?_ ?_ ?_⟩ <;> rfl)

set_option maxRecDepth 20000 in
set_option maxHeartbeats 4000000 in
theorem cut1_at (h : StAt w p nb sb ptr vb vs L m) (ok : m.Ok) (hc : m.count ≤ 1000000) {i : Nat} (hi : L i) {e0 : En} (he : e0 ∈ m.dir) (hei : e0.f = i) (k : Nat) (hk : k ≤ (m.fl i).now.length) (Bs Bf Bn : Nat) (cs : Boxed w Bs 28 (.pointer (some ⟨p, 0, none⟩))) (cf : Boxed w Bf 80 (.pointer (some ⟨ptr i, 0, none⟩))) (cn : Boxed w Bn 3 (.int .i64 (k : Int))) :
    Calls Tryz.prog 66 #[.pointer (some ⟨Bs, 0, none⟩), .pointer (some ⟨Bf, 0, none⟩), .pointer (some ⟨Bn, 0, none⟩)] w fun e w' => e = .returned (.tuple #[]) ∧ ∃ F', St w' p F' (M.setF i { m.fl i with now := (m.fl i).now.take k } m) ∧ Moved w w' (footS p nb sb ptr vb vs L) F' := by
  have hF := h.file i hi
  obtain ⟨q0, q1⟩ := hF.cells
  have hqp : ptr i ≠ p := (h.f_ne hi (.inl rfl)).1
  have s0 := cs.cell
  have f0 := cf.cell
  have n0 := cn.cell
  have d3 := h.cells.2.2.2.1
  have df := h.frozen 3
  have hlen := (ok.fl i).1
  obtain ⟨y, hy⟩ : ∃ y : Int, y = (m.need : Int) - (((m.fl i).now.length : Int) - (k : Int)) := ⟨_, rfl⟩
  have hneed : (m.fl i).now.length ≤ m.need := by have := M.need_mem he; rw [hei] at this; omega
  have hw1 : IntKind.i64.wrap (((m.fl i).now.length : Int) - (k : Int)) = ((m.fl i).now.length : Int) - (k : Int) := by rw [IntKind.wrap_i64]; omega
  have hw2 : IntKind.i64.wrap ((m.need : Int) - (((m.fl i).now.length : Int) - (k : Int))) = y := by have := ok.need hc; rw [IntKind.wrap_i64]; omega
  obtain ⟨oa, oc, hvo⟩ := hF.b.slice
  have hcap : (m.fl i).now.length ≤ oc := by
    have hb := hF.b
    rw [hvo] at hb
    rcases hb with ⟨hv, h0⟩ | ⟨g, cap, cur, hv, _, h1, _⟩
    · injection hv with e1 e2 e3; omega
    · injection hv with e1 e2 e3; omega
  have hbt : Buf w (.slice oa k k) ((m.fl i).now.take k) := by
    have hb := hF.b
    rw [hvo] at hb
    exact hb.take3 hk
  have HE : Hid (∀ V : World, V.heap = ((w.setCell ⟨p, 3, none⟩ (.int .i64 y)).setCell ⟨ptr i, 0, none⟩ (.slice oa k k)).heap → V.os = w.os → V.tape = w.tape → V.output = w.output → ∃ F', St V p F' (M.setF i { m.fl i with now := (m.fl i).now.take k } m) ∧ Moved w V (footS p nb sb ptr vb vs L) F') := fun V hV h1 h2 h3 => by
    refine h.refile hi ok he hei (b' := .slice oa k k) (s' := vs i) (x := { m.fl i with now := (m.fl i).now.take k }) hbt hF.s (fun g _ _ => .inr (by show k = _; simp; omega)) (fun g hg => hg.elim (fun hg => .inr (.inl (by rw [hvo]; cases oa <;> exact hg))) (fun hg => .inr (.inr hg))) (y := y) (by rw [hy]; simp; omega) V ?_ ?_ (fun k a b => ?_) (by rw [hV]; simp) h1 h2 h3
    · rw [hV]
      exact heap_set_list (C := [vb i, vs i]) (i := 0) ((Below.heap_setCell _ _ _ _ (show ptr i ≠ p from hqp)).trans hF.blk) _
    · rw [hV, Below.heap_setCell _ _ _ _ (show p ≠ ptr i from fun e => hqp e.symm)]
      exact heap_set_list (i := 3) h.blk _
    · rw [hV, Below.heap_setCell _ _ _ _ a, Below.heap_setCell _ _ _ _ b]
  obtain ⟨W1, fold⟩ : ∃ W1, w.setCell ⟨p, 3, none⟩ (.int .i64 y) = W1 := ⟨_, rfl⟩
  have o1 : ∀ k, k ≠ p → W1.heap[k]? = w.heap[k]? := fun k hk => by rw [← fold]; exact Below.heap_setCell _ _ _ _ hk
  have f1 := (h.box o1 cf (by decide)).cell
  have n1 := (h.box o1 cn (by decide)).cell
  have r0 : W1.cell? ⟨ptr i, 0, none⟩ = some (vb i) := (World.cell?_of_block (a := ⟨ptr i, 0, none⟩) (o1 _ hqp)).trans q0
  have rf : W1.frozen? ⟨ptr i, 0, none⟩ = false := (World.frozen?_of_block (a := ⟨ptr i, 0, none⟩) (o1 _ hqp)).trans (hF.free 0)
  rw [fold] at HE
  rw [hvo] at q0 r0
  have hos : Hid (W1.os = w.os ∧ W1.tape = w.tape ∧ W1.output = w.output) := by rw [← fold]; exact ⟨rfl, rfl, rfl⟩
  clear h hF cf cn cs hqp hvo he hei hbt hneed o1 hlen hy
  generalize (m.fl i).now.length = lo at *
  generalize (m.need : Int) = nd at *
  generalize ptr i = q at *
  have hk1 : (k : Int) ≤ (oc : Int) := by omega
  have mixed : Tryz.prog.follows .mixedOrders = true := by kernel_rfl
  go_enter Tryz.func66, Tryz.ntmps66
  go_wp2
  go_region
  all_goals go_wp2
  all_goals go_region
  all_goals go_wp2
  all_goals go_end0
  all_goals exact ⟨rfl, HE.out _ rfl hos.out.1 hos.out.2.1 hos.out.2.2⟩

set_option maxRecDepth 20000 in
set_option maxHeartbeats 4000000 in
theorem sync_any (p : Nat) (F : Nat → Prop) (m : M) (n : ByteArray) (w : World) (h : St w p F m) (ok : m.Ok) (hc : m.count ≤ 900000) (hs : n.size ≤ maxLen) :
    Calls Tryz.prog 38 #[.pointer (some ⟨p, 0, none⟩), .string n] w fun e w' => e = .returned (.int .i64 (m.sync n).1) ∧ ∃ F', St w' p F' (m.sync n).2 ∧ Moved w w' F F' := by
  obtain ⟨nb, sb, ptr, vb, vs, L, hst, rfl⟩ := h
  have hFi := find_at hst ok n hs
  have HS : Hid (∀ W, Below w.heap.size w W → ∃ F', St W p F' m ∧ Moved w W (footS p nb sb ptr vb vs L) F') := fun W hW => ⟨_, ⟨_, _, _, _, _, _, hst.kept hW, rfl⟩, .of_below hW⟩
  by_cases h1 : m.first n true = 0
  · obtain ⟨hd, hg, e0, hf, hpl⟩ := M.first_true h1
    rw [fileB_some h1, h1, hpl] at hFi
    simp only [ptrO] at hFi
    have hF : m.sync n = m.step (M.setF e0.f { m.fl e0.f with sure := (m.fl e0.f).now }) := by unfold M.sync; rw [h1, hpl]; rfl
    rw [hF]
    have he := (findE_some hf).1
    have HD : Hid (∀ w2, Below w.heap.size w w2 → Calls Tryz.prog 65 #[.pointer (some ⟨p, 0, none⟩), .func (.func 80) #[] #[.pointer (some ⟨w2.heap.size, 0, none⟩)]] (w2.alloc (.cells #[.pointer (some ⟨ptr e0.f, 0, none⟩)] 80)) fun e w' => e = .returned (.int .i64 (m.step (M.setF e0.f { m.fl e0.f with sure := (m.fl e0.f).now })).1) ∧ ∃ F', St w' p F' (m.step (M.setF e0.f { m.fl e0.f with sure := (m.fl e0.f).now })).2 ∧ Moved w w' (footS p nb sb ptr vb vs L) F') := fun w2 hW => by
      have hW2 : Below w.heap.size w (w2.alloc (.cells #[.pointer (some ⟨ptr e0.f, 0, none⟩)] 80)) := hW.alloc hW.size _
      refine (do_at (hst.kept hW2) ok hc 80 _ (enters_of Tryz.func80 (by kernel_rfl) rfl) (M.setF e0.f { m.fl e0.f with sure := (m.fl e0.f).now }) (fun V stV oV sV => sync1_at stV ok.tick (hst.dl e0 he) he rfl _ ((hst.kept hW2).box oV (boxed_new w2 _ _) (by decide)))).mono ?_
      rintro e w' ⟨rfl, F', s', m'⟩
      exact ⟨rfl, F', s', (Moved.of_below hW2).trans m'⟩
    generalize m.step (M.setF e0.f { m.fl e0.f with sure := (m.fl e0.f).now }) = res at *
    clear hst hd hg hf
    go_enter Tryz.func38, Tryz.ntmps38
    go_wp2_with (first
      | (go_at_call 64; refine hFi.mono ?_; rintro e w2 ⟨rfl, b2⟩; have hDo := HD.out w2 b2)
      | (go_at_call 65; refine hDo.mono ?_; rintro e w5 ⟨rfl, F5, s5, m5⟩))
    go_ret
    exact ⟨rfl, F5, s5, m5⟩
  · have hF : m.sync n = (m.first n true, m) := by unfold M.sync; rw [if_pos h1]
    rw [hF]
    rw [fileB_none h1] at hFi
    simp only [ptrO] at hFi
    generalize m.first n true = er at *
    clear hst
    go_enter Tryz.func38, Tryz.ntmps38
    go_wp2_with (go_at_call 64; refine hFi.mono ?_; rintro e w2 ⟨rfl, b2⟩)
    go_ret
    exact ⟨rfl, HS.out _ (b2.alloc b2.size _)⟩

set_option maxRecDepth 20000 in
set_option maxHeartbeats 4000000 in
theorem cut_any (p : Nat) (F : Nat → Prop) (m : M) (n : ByteArray) (k : Int) (w : World) (h : St w p F m) (ok : m.Ok) (hc : m.count ≤ 900000) (hs : n.size ≤ maxLen) :
    Calls Tryz.prog 25 #[.pointer (some ⟨p, 0, none⟩), .string n, .int .i64 k] w fun e w' => e = .returned (.int .i64 (m.cut n k).1) ∧ ∃ F', St w' p F' (m.cut n k).2 ∧ Moved w w' F F' := by
  obtain ⟨nb, sb, ptr, vb, vs, L, hst, rfl⟩ := h
  obtain ⟨W1, fold1⟩ : ∃ W1, (w.alloc (.cells #[.pointer (some ⟨p, 0, none⟩)] 28)).alloc (.cells #[.int .i64 k] 3) = W1 := ⟨_, rfl⟩
  have b1 : Below w.heap.size w W1 := by rw [← fold1]; exact ((Below.refl _ w).alloc (Nat.le_refl _) _).alloc (by simp) _
  have z1 : W1.heap.size = w.heap.size + 2 := by rw [← fold1]; simp
  have x0 : Boxed W1 w.heap.size 28 (.pointer (some ⟨p, 0, none⟩)) := by rw [← fold1]; exact boxed_old (boxed_new w _ _) _
  have x1 : Boxed W1 (w.heap.size + 1) 3 (.int .i64 k) := by
    rw [← fold1]
    have := boxed_new (w.alloc (.cells #[.pointer (some ⟨p, 0, none⟩)] 28)) 3 (.int .i64 k)
    rwa [World.size_alloc] at this
  have st1 := hst.kept b1
  have hFi := find_at st1 ok n hs
  have y0 := x0.cell
  have HS : Hid (∀ W, Below w.heap.size w W → ∃ F', St W p F' m ∧ Moved w W (footS p nb sb ptr vb vs L) F') := fun W hW => ⟨_, ⟨_, _, _, _, _, _, hst.kept hW, rfl⟩, .of_below hW⟩
  by_cases h1 : m.first n true = 0
  · obtain ⟨hd, hg, e0, hf, hpl⟩ := M.first_true h1
    rw [fileB_some h1, h1, hpl] at hFi
    simp only [ptrO] at hFi
    have he := (findE_some hf).1
    have hFl := hst.file e0.f (hst.dl e0 he)
    obtain ⟨oa, oc, hvo⟩ := hFl.b.slice
    obtain ⟨q0, _⟩ := hFl.cells
    rw [hvo] at q0
    have hqlt := hFl.lts _ (.inl rfl)
    have HB : Hid (∀ w2, Below W1.heap.size W1 w2 → Below w.heap.size w (w2.alloc (.cells #[.pointer (some ⟨ptr e0.f, 0, none⟩)] 80)) ∧ Boxed (w2.alloc (.cells #[.pointer (some ⟨ptr e0.f, 0, none⟩)] 80)) w.heap.size 28 (.pointer (some ⟨p, 0, none⟩)) ∧ Boxed (w2.alloc (.cells #[.pointer (some ⟨ptr e0.f, 0, none⟩)] 80)) (w.heap.size + 1) 3 (.int .i64 k) ∧ Boxed (w2.alloc (.cells #[.pointer (some ⟨ptr e0.f, 0, none⟩)] 80)) w2.heap.size 80 (.pointer (some ⟨ptr e0.f, 0, none⟩)) ∧ (w2.alloc (.cells #[.pointer (some ⟨ptr e0.f, 0, none⟩)] 80)).cell? ⟨ptr e0.f, 0, none⟩ = some (.slice oa (m.fl e0.f).now.length oc)) := fun w2 k1 => by
      have k3 : Below W1.heap.size W1 (w2.alloc (.cells #[.pointer (some ⟨ptr e0.f, 0, none⟩)] 80)) := k1.alloc k1.size _
      have k4 := b1.trans (k3.mono b1.size)
      exact ⟨k4, boxed_below x0 k3, boxed_below x1 k3, boxed_new w2 _ _, (k4.cell (p := ⟨ptr e0.f, 0, none⟩) hqlt).trans q0⟩
    have mixed : Tryz.prog.follows .mixedOrders = true := by kernel_rfl
    by_cases hk0 : k < 0
    · have hF : m.cut n k = (2, m) := by unfold M.cut; rw [h1]; simp [hk0]
      rw [hF]
      have hkd : decide (k < 0) = true := decide_eq_true hk0
      clear hst st1 hd hg hf hFl hvo q0 hqlt
      go_enter Tryz.func25, Tryz.ntmps25
      go_wp2_with (go_at_call 64; refine hFi.mono ?_; rintro e w2 ⟨rfl, b2⟩; obtain ⟨k1, k2, k3, k4, k5⟩ := HB.out w2 b2; have j0 := k2.cell; have j1 := k3.cell; have j2 := k4.cell; obtain ⟨X, foldX⟩ : ∃ X, w2.alloc (.cells #[.pointer (some ⟨ptr e0.f, 0, none⟩)] 80) = X := ⟨_, rfl⟩; rw [foldX] at j0 j1 j2 k1 k5)
      go_quiet (fail)
      go_wp2
      go_ret
      exact ⟨rfl, HS.out _ (k1.trans (below_draws _ _ _))⟩
    · by_cases hk1 : k > (m.fl e0.f).now.length
      · have hF : m.cut n k = (2, m) := by unfold M.cut; rw [h1, hpl]; simp [hk0]; omega
        rw [hF]
        have hkd : decide (k < 0) = false := decide_eq_false hk0
        have hk1' : ((m.fl e0.f).now.length : Int) < k := hk1
        have hkd1 : decide (((m.fl e0.f).now.length : Int) < k) = true := decide_eq_true hk1
        clear hst st1 hd hg hf hFl hvo q0 hqlt
        go_enter Tryz.func25, Tryz.ntmps25
        go_wp2_with (go_at_call 64; refine hFi.mono ?_; rintro e w2 ⟨rfl, b2⟩; obtain ⟨k1, k2, k3, k4, k5⟩ := HB.out w2 b2; have j0 := k2.cell; have j1 := k3.cell; have j2 := k4.cell; obtain ⟨X, foldX⟩ : ∃ X, w2.alloc (.cells #[.pointer (some ⟨ptr e0.f, 0, none⟩)] 80) = X := ⟨_, rfl⟩; rw [foldX] at j0 j1 j2 k1 k5)
        go_quiet (fail)
        go_wp2
        go_ret
        exact ⟨rfl, HS.out _ (k1.trans (below_draws _ _ _))⟩
      · obtain ⟨kn, rfl⟩ : ∃ kn : Nat, k = kn := ⟨k.toNat, by omega⟩
        have hF : m.cut n kn = m.step (M.setF e0.f { m.fl e0.f with now := (m.fl e0.f).now.take kn }) := by
          unfold M.cut; rw [h1, hpl, if_neg (by simp), if_neg (by omega), Int.toNat_natCast]
        rw [hF]
        have hkd : decide ((kn : Int) < 0) = false := decide_eq_false hk0
        have hk1' : ¬ ((m.fl e0.f).now.length : Int) < (kn : Int) := by omega
        have hkd1 : decide (((m.fl e0.f).now.length : Int) < (kn : Int)) = false := decide_eq_false hk1'
        have HD : Hid (∀ W Bf, Below w.heap.size w W → Boxed W w.heap.size 28 (.pointer (some ⟨p, 0, none⟩)) → Boxed W (w.heap.size + 1) 3 (.int .i64 (kn : Int)) → Boxed W Bf 80 (.pointer (some ⟨ptr e0.f, 0, none⟩)) → Calls Tryz.prog 65 #[.pointer (some ⟨p, 0, none⟩), .func (.func 66) #[] #[.pointer (some ⟨w.heap.size, 0, none⟩), .pointer (some ⟨Bf, 0, none⟩), .pointer (some ⟨w.heap.size + 1, 0, none⟩)]] W fun e w' => e = .returned (.int .i64 (m.step (M.setF e0.f { m.fl e0.f with now := (m.fl e0.f).now.take kn })).1) ∧ ∃ F', St w' p F' (m.step (M.setF e0.f { m.fl e0.f with now := (m.fl e0.f).now.take kn })).2 ∧ Moved w w' (footS p nb sb ptr vb vs L) F') := fun W Bf hW k0 k1 k2 => by
          refine (do_at (hst.kept hW) ok hc 66 _ (enters_of Tryz.func66 (by kernel_rfl) rfl) (M.setF e0.f { m.fl e0.f with now := (m.fl e0.f).now.take kn }) (fun V stV oV sV => cut1_at stV ok.tick (by show m.count + 1 ≤ _; omega) (hst.dl e0 he) he rfl kn (by show kn ≤ (m.fl e0.f).now.length; omega) _ _ _ ((hst.kept hW).box oV k0 (by decide)) ((hst.kept hW).box oV k2 (by decide)) ((hst.kept hW).box oV k1 (by decide)))).mono ?_
          rintro e w' ⟨rfl, F', s', m'⟩
          exact ⟨rfl, F', s', (Moved.of_below hW).trans m'⟩
        generalize m.step (M.setF e0.f { m.fl e0.f with now := (m.fl e0.f).now.take kn }) = res at *
        clear hst st1 hd hg hf hFl hvo q0 hqlt
        go_enter Tryz.func25, Tryz.ntmps25
        go_wp2_with (go_at_call 64; refine hFi.mono ?_; rintro e w2 ⟨rfl, b2⟩; obtain ⟨k1, k2, k3, k4, k5⟩ := HB.out w2 b2; have j0 := k2.cell; have j1 := k3.cell; have j2 := k4.cell; obtain ⟨X, foldX⟩ : ∃ X, w2.alloc (.cells #[.pointer (some ⟨ptr e0.f, 0, none⟩)] 80) = X := ⟨_, rfl⟩; rw [foldX] at j0 j1 j2 k1 k2 k3 k4 k5)
        go_quiet (fail)
        have hDo := HD.out (X.drewN nq) w2.heap.size (k1.trans (below_draws _ _ _)) (boxed_below k2 (below_draws _ _ _)) (boxed_below k3 (below_draws _ _ _)) (boxed_below k4 (below_draws _ _ _))
        go_wp2_with (go_at_call 65; refine hDo.mono ?_; rintro e w5 ⟨rfl, F5, s5, m5⟩)
        go_ret
        exact ⟨rfl, F5, s5, m5⟩
  · have hF : m.cut n k = (m.first n true, m) := by unfold M.cut; rw [if_pos h1]
    rw [hF]
    rw [fileB_none h1] at hFi
    simp only [ptrO] at hFi
    generalize m.first n true = er at *
    clear hst st1
    go_enter Tryz.func25, Tryz.ntmps25
    go_wp2_with (go_at_call 64; refine hFi.mono ?_; rintro e w2 ⟨rfl, b2⟩)
    go_ret
    exact ⟨rfl, HS.out _ (b1.trans ((b2.alloc b2.size _).mono b1.size))⟩
end
end Go.Proofs.YtjgdmbfkondakaaGreatDoor
