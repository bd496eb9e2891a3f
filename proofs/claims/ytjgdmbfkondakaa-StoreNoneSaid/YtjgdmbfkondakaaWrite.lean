/-
  New, Write, by their contracts.
-/
import Derived.Test.YtjgdmbfkondakaaMake
import Derived.Deep.RegionLaw
namespace Go.Proofs.Ytjgdmbfkondakaa
open Go.RowKit Go.Maps

set_option maxRecDepth 20000 in
set_option maxHeartbeats 1000000 in
theorem new_any (r : Int) (w : World) (h0 : 0 ≤ r) (h1 : r ≤ 1073741824) : Calls Try.prog 40 #[.int .i64 r] w fun e w' => ∃ p, e = .returned (.pointer (some ⟨p, 0, none⟩)) ∧ ∃ F, St w' p F (M.new r) ∧ (∀ k, F k → w.heap.size ≤ k) ∧ Below w.heap.size w w' := by
  have hmm := @run_makeMap Try.prog
  have h0' : ¬ r < 0 := by omega
  have h1' : ¬ 1073741824 < r := by omega
  go_enter Try.func40, Try.ntmps40
  go_wp2
  go_ret
  refine ⟨w.heap.size + 1 + 1, rfl, _, ⟨w.heap.size, w.heap.size + 1, fun _ => 0, fun _ => .slice none 0 0, fun _ => .slice none 0 0, fun _ => False, ⟨?_, ?_, ?_, by omega, by simp [M.new], by simp [M.new], fun _ h => h.elim, fun _ h => h.elim, fun _ _ h => h.elim⟩, rfl⟩, ?_, ?_⟩
  · have h := heap_alloc_new ((w.alloc (.map #[] 0)).alloc (.map #[] 0)) (.cells (scell (M.new r) w.heap.size (w.heap.size + 1)).toArray 30)
    rw [World.size_alloc, World.size_alloc] at h
    exact h
  · exact ((dAt_new w).same (Below.heap_alloc _ _ _ (by simp))).same (Below.heap_alloc _ _ _ (by simp; omega))
  · have h := dAt_new (w.alloc (.map #[] 0))
    rw [World.size_alloc] at h
    exact h.same (Below.heap_alloc _ _ _ (by simp))
  · rintro k (rfl | rfl | rfl | ⟨_, hi, _⟩)
    · omega
    · omega
    · omega
    · exact hi.elim
  · exact (((Below.refl _ w).alloc (Nat.le_refl _) _).alloc (by simp) _).alloc (by simp; omega) _
theorem new_bad (r : Int) (w : World) (h : r < 0 ∨ 1073741824 < r) : Calls Try.prog 40 #[.int .i64 r] w fun e w' => e = .returned (.pointer none) ∧ w' = w := by
  by_cases h0 : r < 0
  · go_enter Try.func40, Try.ntmps40
    go_wp2
    go_ret
    exact ⟨rfl, rfl⟩
  · have h1 : 1073741824 < r := h.resolve_left h0
    clear h
    go_enter Try.func40, Try.ntmps40
    go_wp2
    go_ret
    exact ⟨rfl, rfl⟩

theorem scell_no_u8 (m : M) (nb sb i : Nat) (x : Int) : (scell m nb sb)[i]? ≠ some (.int .u8 x) := by
  unfold scell
  intro h
  match i, h with
  | 0, h => simp at h
  | 1, h => simp at h
  | 2, h => simp at h
  | 3, h => simp at h
  | 4, h => simp at h
  | 5, h => simp at h
  | 6, h => simp at h
  | 7, h => simp at h
  | n + 8, h => simp at h
section
variable {w W : World} {p nb sb : Nat} {ptr : Nat → Nat} {vb vs : Nat → Value} {L : Nat → Prop} {m : M}
/-- Bytes that came in are no store's own cells. -/
theorem StAt.holds (h : StAt w p nb sb ptr vb vs L m) {v : Value} {l : List UInt8} (hv : Holds w v l) (hs : ∀ k, k ≠ p → W.heap[k]? = w.heap[k]?) : Holds W v l := by
  rcases hv with hv | ⟨a, cap, rfl, h1, h2, h3⟩
  · exact .inl hv
  · refine .inr ⟨a, cap, rfl, h1, h2, fun j u hj => ?_⟩
    have hc := h3 j u hj
    have hne : a.block ≠ p := fun e => by
      have hsp := World.cell?_spot hc
      have hb : (a.add j).block = p := (Addr.block_add a j).trans e
      obtain ⟨x, hx⟩ : ∃ x : Int, u = .int .u8 x := by
        simp only [bcells, List.getElem?_map, Option.map_eq_some_iff] at hj
        obtain ⟨y, _, rfl⟩ := hj
        exact ⟨_, rfl⟩
      generalize ha : a.add j = ad at hc hsp hb
      obtain ⟨b1, o1, s1⟩ := ad
      simp only at hsp hb
      subst hsp hb hx
      rw [h.cell o1] at hc
      exact scell_no_u8 m nb sb o1 x hc
    have hbl : W.heap[(a.add j).block]? = w.heap[(a.add j).block]? := by rw [Addr.block_add]; exact hs _ hne
    exact (World.cell?_of_block (a := a.add j) hbl).trans hc

/-- Behind a Write: the file's bytes, what the files need. -/
theorem StAt.wrote {w1 : World} (h : StAt w p nb sb ptr vb vs L m) {i : Nat} (hi : L i) (ok : m.Ok) {e0 : En} (he : e0 ∈ m.dir) (hei : e0.f = i) {v' : Value} {bl : List UInt8} (hb : Buf w1 v' ((m.fl i).now ++ bl)) (gr : w.grownBy w1 (vb i).ownBlock) (hloc : v'.ownBlock = (vb i).ownBlock ∨ ∃ g, v'.ownBlock = some g ∧ w.heap.size ≤ g)
    (hsh : ∀ vs' ls, Buf w vs' ls → Sh (vb i) vs' (m.fl i).now ls → Buf w1 vs' ls ∧ Sh v' vs' ((m.fl i).now ++ bl) ls) {x : Int} (hx : x = (m.need : Int) + (bl.length : Int)) (V : World) (hV : V.heap = ((w1.setCell ⟨ptr i, 0, none⟩ v').setCell ⟨p, 3, none⟩ (.int .i64 x)).heap) (hos : V.os = w1.os) (htp : V.tape = w1.tape) (hou : V.output = w1.output) :
    ∃ F', St V p F' (M.setF i { m.fl i with now := (m.fl i).now ++ bl } m) ∧ Moved w V (footS p nb sb ptr vb vs L) F' := by
  have hF := h.file i hi
  have hq : ptr i < w.heap.size := hF.lts _ (.inl rfl)
  have hqv : some (ptr i) ≠ (vb i).ownBlock := fun e => (h.ptr_row hi hi).1 e.symm
  have hqp : ptr i ≠ p := (h.f_ne hi (.inl rfl)).1
  have hpv : some p ≠ (vb i).ownBlock := fun e => (h.f_ne hi (.inr (.inl e.symm))).1 rfl
  have hb1 : w1.heap[ptr i]? = some (.cells [vb i, vs i].toArray 57 (0, 0)) := (gr.block _ hq hqv).trans hF.blk
  have hb2 : w1.heap[p]? = some (.cells (scell m nb sb).toArray 30 (0, 0)) := (gr.block _ h.blk_lt hpv).trans h.blk
  have hVq : V.heap[ptr i]? = some (.cells #[v', vs i] 57 (0, 0)) := by
    rw [hV, Below.heap_setCell _ _ _ _ (show ptr i ≠ p from hqp)]
    exact heap_set_list (i := 0) hb1 v'
  have hVp : V.heap[p]? = some (.cells ((scell m nb sb).set 3 (.int .i64 x)).toArray 30 (0, 0)) := by
    rw [hV]
    exact heap_set_list (i := 3) ((Below.heap_setCell _ _ _ _ (show p ≠ ptr i from fun e => hqp e.symm)).trans hb2) _
  have hVo : ∀ k, k ≠ ptr i → k ≠ p → V.heap[k]? = w1.heap[k]? := fun k h1 h2 => by
    rw [hV, Below.heap_setCell _ _ _ _ h2, Below.heap_setCell _ _ _ _ h1]
  have hbuf : ∀ u l, Buf w1 u l → Buf V u l := fun u l hu => hu.same fun g hg => hVo g (fun e => by
      subst e
      obtain ⟨cur, hc⟩ := hu.blk hg
      rw [hb1] at hc
      simp at hc) (fun e => by
      subst e
      obtain ⟨cur, hc⟩ := hu.blk hg
      rw [hb2] at hc
      simp at hc)
  obtain ⟨hs1, hs2⟩ := hsh (vs i) (m.fl i).sure hF.s hF.sh
  have hnew : ∀ k, v'.ownBlock = some k ∨ (vs i).ownBlock = some k → footF (ptr i) (vb i) (vs i) k ∨ w.heap.size ≤ k := by
    rintro k (hk | hk)
    · rcases hloc with h1 | ⟨g, h1, h2⟩
      · exact .inl (.inr (.inl (by rw [← h1]; exact hk)))
      · rw [h1] at hk
        injection hk with hk
        exact .inr (hk ▸ h2)
    · exact .inl (.inr (.inr hk))
  have hneed : (M.setF i { m.fl i with now := (m.fl i).now ++ bl } m).need = m.need + bl.length := by
    have hsp := M.split_cut ok.od (findE_mem ok.od he)
    have hlt := h.lt i hi
    have e1 : m.need = 16 + (m.fl i).now.length + m.needL (cutE m.dir e0.name) := by
      have := M.needL_perm m hsp.symm
      rw [M.needL_cons, hei] at this
      exact this.symm
    have e2 : (M.setF i { m.fl i with now := (m.fl i).now ++ bl } m).need = 16 + ((m.fl i).now ++ bl).length + m.needL (cutE m.dir e0.name) := by
      have := M.needL_perm (M.setF i { m.fl i with now := (m.fl i).now ++ bl } m) hsp.symm
      rw [M.needL_cons, hei, M.at_set _ hlt, if_pos rfl] at this
      rw [show (M.setF i { m.fl i with now := (m.fl i).now ++ bl } m).need = (M.setF i { m.fl i with now := (m.fl i).now ++ bl } m).needL m.dir from rfl, ← this]
      congr 1
      refine M.needL_congr fun e hee => ?_
      have hne : e.f ≠ i := fun e2 => (mem_cutE.1 hee).2 (by rw [M.pw_one ok.nd (mem_cutE.1 hee).1 he (e2.trans hei.symm)])
      rw [M.at_set _ hlt, if_neg hne]
    rw [e1, e2, List.length_append]
    omega
  refine ⟨_, ⟨_, _, _, _, _, _, h.setFile (w' := V) (m' := M.setF i { m.fl i with now := (m.fl i).now ++ bl } m) hi (b' := v') (s' := vs i) (x := { m.fl i with now := (m.fl i).now ++ bl }) ?_ ⟨hVq, hbuf _ _ hb, hbuf _ _ hs1, hs2⟩ ?_ hnew rfl rfl rfl, rfl⟩, ?_⟩
  · rw [hVp]
    have : (scell m nb sb).set 3 (.int .i64 x) = scell (M.setF i { m.fl i with now := (m.fl i).now ++ bl } m) nb sb := by
      rw [scell_set3]
      unfold scell
      rw [hneed, hx]
      simp only [M.setF]
      rfl
    rw [this]
  · intro k hk h1 h2
    exact (hVo k (fun e => h2 (.inl e)) h1).trans (gr.block k (h.lts k hk) (fun e => h2 (.inr (.inl e.symm))))
  · refine ⟨hos.trans gr.os, htp.trans gr.tape, hou.trans gr.output, by rw [hV]; simpa using gr.size, fun k hk hn => ?_, footS_set hi hnew⟩
    refine (hVo k (fun e => hn (.inr (.inr (.inr ⟨i, hi, .inl e⟩)))) (fun e => hn (.inl e))).trans (gr.block k hk (fun e => hn (.inr (.inr (.inr ⟨i, hi, .inr (.inl e.symm)⟩)))))

/-- 'append', by its run, as a step of a region. -/
theorem step_append_run {w : World} {ops : Array Oper} {o : Oper} {a : Act} {J : Act → World → Prop} {Q : Exit → Act → World → Prop} {F : Prop} (hgd : o.guard = none) (s x : Operand) (ts : Array TypeId)
    (ho : o.op = .call { callee := .builtin .append, args := #[s, x], argTypes := ts }) (v src : Value) (hs : a.eval s = v) (hx : a.eval x = src) (v' : Value) (w' : World) (hr : (Builtin.append_ ts o.type #[v, src]).run Try.prog w = .ok v' w') (h : J (a.put o.dst v') w') : if Region.wanted o (yielded ops a.tmps) = true then Oper.wp Try.prog o a w J Q else F := by
  have hw : Region.wanted o (yielded ops a.tmps) = true := by simp [Region.wanted, hgd]
  rw [if_pos hw]
  unfold Oper.wp execOp
  simp only [ho, resolve, invoke, builtin, Sem.run_bind, Sem.run_pure, Result.andThen_ok, List.map_toArray, List.map_cons, List.map_nil, hs, hx, hr]
  exact h
set_option maxRecDepth 20000 in
set_option maxHeartbeats 4000000 in
theorem write1_at (h : StAt w p nb sb ptr vb vs L m) (ok : m.Ok) (hc : m.count ≤ 1000000) {i : Nat} (hi : L i) {e0 : En} (he : e0 ∈ m.dir) (hei : e0.f = i) (bv : Value) (bl : List UInt8) (hb : Holds w bv bl) (hbl : bl.length ≤ 1073741824) (Bf Bb Bs : Nat) (cf : Boxed w Bf 51 (.pointer (some ⟨ptr i, 0, none⟩))) (cb : Boxed w Bb 22 bv) (cs : Boxed w Bs 31 (.pointer (some ⟨p, 0, none⟩))) :
    Calls Try.prog 30 #[.pointer (some ⟨Bf, 0, none⟩), .pointer (some ⟨Bb, 0, none⟩), .pointer (some ⟨Bs, 0, none⟩)] w fun e w' => e = .returned (.tuple #[]) ∧ ∃ F', St w' p F' (M.setF i { m.fl i with now := (m.fl i).now ++ bl } m) ∧ Moved w w' (footS p nb sb ptr vb vs L) F' := by
  have hF := h.file i hi
  obtain ⟨q0, _⟩ := hF.cells
  have hbuf : Buf w.drew (vb i) (m.fl i).now := hF.b.same fun _ _ => rfl
  have hbd : Holds w.drew bv bl := hb.below ((Below.refl w.heap.size w).drew) (Nat.le_refl _)
  obtain ⟨v', w1, hap, hb1, gr, hloc, hsh⟩ := run_append_buf (w := w.drew) 22 hbuf hbd (by have := (ok.fl i).1; omega)
  have gr' : w.grownBy w1 (vb i).ownBlock := ⟨gr.os, gr.tape, gr.output, gr.size, gr.block⟩
  have hq : ptr i < w.heap.size := hF.lts _ (.inl rfl)
  have hqv : some (ptr i) ≠ (vb i).ownBlock := fun e => (h.ptr_row hi hi).1 e.symm
  have hqp : ptr i ≠ p := (h.f_ne hi (.inl rfl)).1
  have hpv : some p ≠ (vb i).ownBlock := fun e => (h.f_ne hi (.inr (.inl e.symm))).1 rfl
  have ob : ∀ (B : Nat) (t : TypeId) (v : Value), Boxed w B t v → t ≠ 5 → t ≠ 57 → w1.cell? ⟨B, 0, none⟩ = some v ∧ (w1.setCell ⟨ptr i, 0, none⟩ v').cell? ⟨B, 0, none⟩ = some v := fun B t v hB h1 h2 => by
    have e1 : w1.heap[B]? = w.heap[B]? := gr'.block B hB.lt (fun e => by
      obtain ⟨cur, hcur⟩ := hF.b.blk e.symm
      unfold Boxed at hB
      rw [hB] at hcur
      simp only [Option.some.injEq, Obj.cells.injEq] at hcur
      exact h1 hcur.2.1)
    have hBq : B ≠ ptr i := fun e => by
      subst e
      unfold Boxed at hB
      rw [hF.blk] at hB
      simp only [Option.some.injEq, Obj.cells.injEq] at hB
      exact h2 hB.2.1.symm
    exact ⟨box_cell hB.cell e1, box_cell hB.cell ((Below.heap_setCell _ _ _ _ hBq).trans e1)⟩
  have f1 := cf.cell
  have b1 := cb.cell
  obtain ⟨_, s2⟩ := ob Bs _ _ cs (by decide) (by decide)
  obtain ⟨_, b2⟩ := ob Bb _ _ cb (by decide) (by decide)
  obtain ⟨f2, _⟩ := ob Bf _ _ cf (by decide) (by decide)
  have hb1' : w1.heap[ptr i]? = some (.cells [vb i, vs i].toArray 57 (0, 0)) := (gr'.block _ hq hqv).trans hF.blk
  have u0 : w1.cell? ⟨ptr i, 0, none⟩ = some (vb i) := by simp [World.cell?, hb1']
  have uf : w1.frozen? ⟨ptr i, 0, none⟩ = false := by simp [World.frozen?, hb1']
  have hb2' : (w1.setCell ⟨ptr i, 0, none⟩ v').heap[p]? = some (.cells (scell m nb sb).toArray 30 (0, 0)) := (Below.heap_setCell _ _ _ _ (show p ≠ ptr i from fun e => hqp e.symm)).trans ((gr'.block _ h.blk_lt hpv).trans h.blk)
  have d3 : (w1.setCell ⟨ptr i, 0, none⟩ v').cell? ⟨p, 3, none⟩ = some (.int .i64 (m.need : Int)) := by simp [World.cell?, hb2', scell]
  have df : (w1.setCell ⟨ptr i, 0, none⟩ v').frozen? ⟨p, 3, none⟩ = false := by simp [World.frozen?, hb2']
  obtain ⟨x, hx⟩ : ∃ x : Int, x = (m.need : Int) + (bl.length : Int) := ⟨_, rfl⟩
  have hw : IntKind.i64.wrap ((m.need : Int) + (bl.length : Int)) = x := by have := ok.need hc; rw [IntKind.wrap_i64]; omega
  have HE : Hid (∀ V, V.heap = ((w1.setCell ⟨ptr i, 0, none⟩ v').setCell ⟨p, 3, none⟩ (.int .i64 x)).heap → V.os = w1.os → V.tape = w1.tape → V.output = w1.output → ∃ F', St V p F' (M.setF i { m.fl i with now := (m.fl i).now ++ bl } m) ∧ Moved w V (footS p nb sb ptr vb vs L) F') := fun V h1 h2 h3 h4 => h.wrote hi ok he hei hb1 gr' hloc (fun vs' ls hv hs => hsh vs' ls (hv.same fun _ _ => rfl) hs) hx V h1 h2 h3 h4
  obtain ⟨va, vc, hv'⟩ := hb1.slice
  obtain ⟨oa, oc, hvo⟩ := hF.b.slice
  obtain ⟨ba, bc, hbv⟩ : ∃ a c, bv = .slice a bl.length c := by
    rcases hb with ⟨rfl, rfl⟩ | ⟨a, cap, rfl, _⟩
    · exact ⟨_, _, rfl⟩
    · exact ⟨_, _, rfl⟩
  clear hF hbuf hbd hb hb1 gr gr' hloc hsh hq hqv hqp hpv ob cf cb cs hb1' hb2' h he hei hx
  obtain ⟨W2, fold⟩ : ∃ W2, w1.setCell ⟨ptr i, 0, none⟩ v' = W2 := ⟨_, rfl⟩
  rw [fold] at s2 b2 d3 df HE
  rw [hbv] at hap b1 b2
  rw [hvo] at hap q0 u0
  rw [hv'] at hap fold
  generalize ((m.fl i).now ++ bl).length = ln at *
  generalize (m.fl i).now.length = lo at *
  generalize bl.length = lb at *
  generalize (m.need : Int) = nd at *
  generalize ptr i = q at *
  clear hbv hvo hv'
  have mixed : Try.prog.follows .mixedOrders = true := by kernel_rfl
  go_enter Try.func30, Try.ntmps30
  go_wp2
  go_region_law (refine step_append_run rfl (.tmp 7) (.tmp 8) #[22, 22] rfl (.slice oa lo oc) (.slice ba lb bc) (by simp [Act.eval]) (by simp [Act.eval]) (.slice va ln vc) w1 hap ?_)
  all_goals go_wp2
  all_goals go_region
  all_goals go_wp2
  all_goals go_end0
  all_goals (refine ⟨rfl, HE.out _ ?_ ?_ ?_ ?_⟩ <;> first | rfl | (rw [← fold]; rfl))
end
end Go.Proofs.Ytjgdmbfkondakaa
