/-
  Cut, Sync, by their contracts.
-/
import Derived.Test.YtjgdmbfkondakaaWrite2
namespace Go.Proofs.Ytjgdmbfkondakaa
open Go.RowKit Go.Maps

section
variable {w W : World} {p nb sb : Nat} {ptr : Nat → Nat} {vb vs : Nat → Value} {L : Nat → Prop} {m : M}
/-- What the files need, where one was changed. -/
theorem need_set (ok : m.Ok) {i : Nat} (hi : i < m.all.length) {e0 : En} (he : e0 ∈ m.dir) (hei : e0.f = i) (x : Fl) : (M.setF i x m).need + (m.fl i).now.length = m.need + x.now.length := by
  have hsp := M.split_cut ok.od (findE_mem ok.od he)
  have e1 : m.need = 16 + (m.fl i).now.length + m.needL (cutE m.dir e0.name) := by
    have := M.needL_perm m hsp.symm
    rw [M.needL_cons, hei] at this
    exact this.symm
  have e2 : (M.setF i x m).need = 16 + x.now.length + m.needL (cutE m.dir e0.name) := by
    have := M.needL_perm (M.setF i x m) hsp.symm
    rw [M.needL_cons, hei, M.at_set _ hi, if_pos rfl] at this
    rw [show (M.setF i x m).need = (M.setF i x m).needL m.dir from rfl, ← this]
    congr 1
    refine M.needL_congr fun e hee => ?_
    have hne : e.f ≠ i := fun e2 => (mem_cutE.1 hee).2 (by rw [M.pw_one ok.nd (mem_cutE.1 hee).1 he (e2.trans hei.symm)])
    rw [M.at_set _ hi, if_neg hne]
  omega
/-- One file's two slices were changed, over the memory that it had, and what the files need. -/
theorem StAt.refile (h : StAt w p nb sb ptr vb vs L m) {i : Nat} (hi : L i) (ok : m.Ok) {e0 : En} (he : e0 ∈ m.dir) (hei : e0.f = i) {b' s' : Value} {x : Fl} (hb : Buf w b' x.now) (hs : Buf w s' x.sure) (hsh : Sh b' s' x.now x.sure) (hnew : ∀ k, b'.ownBlock = some k ∨ s'.ownBlock = some k → footF (ptr i) (vb i) (vs i) k)
    {y : Int} (hy : y + ((m.fl i).now.length : Int) = (m.need : Int) + (x.now.length : Int)) (V : World) (hq : V.heap[ptr i]? = some (.cells #[b', s'] 57 (0, 0))) (hp : V.heap[p]? = some (.cells ((scell m nb sb).set 3 (.int .i64 y)).toArray 30 (0, 0))) (ho : ∀ k, k ≠ ptr i → k ≠ p → V.heap[k]? = w.heap[k]?) (hsz : V.heap.size = w.heap.size) (hos : V.os = w.os) (htp : V.tape = w.tape) (hou : V.output = w.output) :
    ∃ F', St V p F' (M.setF i x m) ∧ Moved w V (footS p nb sb ptr vb vs L) F' := by
  have hF := h.file i hi
  have hbuf : ∀ u l, Buf w u l → Buf V u l := fun u l hu => hu.same fun g hg => ho g (fun e => by
      subst e
      obtain ⟨cur, hc⟩ := hu.blk hg
      rw [hF.blk] at hc
      simp at hc) (fun e => by
      subst e
      obtain ⟨cur, hc⟩ := hu.blk hg
      rw [h.blk] at hc
      simp at hc)
  have hneed := need_set ok (h.lt i hi) he hei x
  refine ⟨_, ⟨_, _, _, _, _, _, h.setFile (w' := V) (m' := M.setF i x m) hi (b' := b') (s' := s') (x := x) ?_ ⟨hq, hbuf _ _ hb, hbuf _ _ hs, hsh⟩ (fun k _ h1 h2 => ho k (fun e => h2 (.inl e)) h1) (fun k hk => .inl (hnew k hk)) rfl rfl rfl, rfl⟩, hos, htp, hou, Nat.le_of_eq hsz.symm, fun k hk hn => ho k (fun e => hn (.inr (.inr (.inr ⟨i, hi, .inl e⟩)))) (fun e => hn (.inl e)), fun k hk => ?_⟩
  · rw [hp]
    have : (scell m nb sb).set 3 (.int .i64 y) = scell (M.setF i x m) nb sb := by
      rw [scell_set3]
      unfold scell
      rw [show y = ((M.setF i x m).need : Int) by omega]
      rfl
    rw [this]
  · rcases footS_set (z := w.heap.size) hi (fun k hk => .inl (hnew k hk)) k hk with h1 | h1
    · exact .inl h1
    · exact .inr h1
/-- A box is no cell of a store. -/
theorem StAt.box (h : StAt w p nb sb ptr vb vs L m) {V : World} (oV : ∀ k, k ≠ p → V.heap[k]? = w.heap[k]?) {B : Nat} {t : TypeId} {v : Value} (hB : Boxed w B t v) (ht : t ≠ 30) : Boxed V B t v := (oV B (fun e => by
  subst e
  have := h.blk
  unfold Boxed at hB
  rw [this] at hB
  simp only [Option.some.injEq, Obj.cells.injEq] at hB
  exact ht hB.2.1.symm)).trans hB
theorem StAt.box_f (h : StAt w p nb sb ptr vb vs L m) {i B : Nat} (hi : L i) {t : TypeId} {v : Value} (hB : Boxed w B t v) (ht : t ≠ 57) : B ≠ ptr i := fun e => by
  subst e
  have := (h.file i hi).blk
  unfold Boxed at hB
  rw [this] at hB
  simp only [Option.some.injEq, Obj.cells.injEq] at hB
  exact ht hB.2.1.symm
theorem StAt.box_p (h : StAt w p nb sb ptr vb vs L m) {B : Nat} {t : TypeId} {v : Value} (hB : Boxed w B t v) (ht : t ≠ 30) : B ≠ p := fun e => by
  subst e
  have := h.blk
  unfold Boxed at hB
  rw [this] at hB
  simp only [Option.some.injEq, Obj.cells.injEq] at hB
  exact ht hB.2.1.symm

set_option maxRecDepth 20000 in
set_option maxHeartbeats 4000000 in
theorem sync1_at (h : StAt w p nb sb ptr vb vs L m) (ok : m.Ok) {i : Nat} (hi : L i) {e0 : En} (he : e0 ∈ m.dir) (hei : e0.f = i) (Bf : Nat) (cf : Boxed w Bf 51 (.pointer (some ⟨ptr i, 0, none⟩))) :
    Calls Try.prog 32 #[.pointer (some ⟨Bf, 0, none⟩)] w fun e w' => e = .returned (.tuple #[]) ∧ ∃ F', St w' p F' (M.setF i { m.fl i with sure := (m.fl i).now } m) ∧ Moved w w' (footS p nb sb ptr vb vs L) F' := by
  have hF := h.file i hi
  obtain ⟨q0, q1⟩ := hF.cells
  have f1 := hF.free 1
  have c0 := cf.cell
  have hqp : ptr i ≠ p := (h.f_ne hi (.inl rfl)).1
  have HE : Hid (∀ V : World, V.heap = (w.setCell ⟨ptr i, 1, none⟩ (vb i)).heap → V.os = w.os → V.tape = w.tape → V.output = w.output → ∃ F', St V p F' (M.setF i { m.fl i with sure := (m.fl i).now } m) ∧ Moved w V (footS p nb sb ptr vb vs L) F') := fun V hV h1 h2 h3 => by
    refine h.refile hi ok he hei (b' := vb i) (s' := vb i) (x := { m.fl i with sure := (m.fl i).now }) hF.b hF.b (fun _ _ _ => .inl (Nat.le_refl _)) (fun k hk => .inr (.inl (hk.elim id id))) (y := (m.need : Int)) rfl V ?_ ?_ (fun k a b => ?_) (by rw [hV]; simp) h1 h2 h3
    · rw [hV]
      exact heap_set_list (C := [vb i, vs i]) (i := 1) hF.blk (vb i)
    · rw [hV, Below.heap_setCell _ _ _ _ (show p ≠ ptr i from fun e => hqp e.symm)]
      exact h.blk
    · rw [hV, Below.heap_setCell _ _ _ _ a]
  obtain ⟨oa, oc, hvo⟩ := hF.b.slice
  obtain ⟨sa, sc, hvs⟩ := hF.s.slice
  rw [hvo] at q0 HE
  rw [hvs] at q1
  generalize (m.fl i).now.length = lo at *
  generalize (m.fl i).sure.length = ls at *
  generalize ptr i = q at *
  clear h hF cf hqp hvo hvs he hei
  have mixed : Try.prog.follows .mixedOrders = true := by kernel_rfl
  go_enter Try.func32, Try.ntmps32
  go_wp2
  go_region
  all_goals go_wp2
  all_goals go_end0
  all_goals (refine ⟨rfl, HE.out _ ?_ ?_ ?_ ?_⟩ <;> rfl)

set_option maxRecDepth 20000 in
set_option maxHeartbeats 4000000 in
theorem cut1_at (h : StAt w p nb sb ptr vb vs L m) (ok : m.Ok) (hc : m.count ≤ 1000000) {i : Nat} (hi : L i) {e0 : En} (he : e0 ∈ m.dir) (hei : e0.f = i) (k : Nat) (hk : k ≤ (m.fl i).now.length) (Bs Bf Bn : Nat) (cs : Boxed w Bs 31 (.pointer (some ⟨p, 0, none⟩))) (cf : Boxed w Bf 51 (.pointer (some ⟨ptr i, 0, none⟩))) (cn : Boxed w Bn 3 (.int .i64 (k : Int))) :
    Calls Try.prog 31 #[.pointer (some ⟨Bs, 0, none⟩), .pointer (some ⟨Bf, 0, none⟩), .pointer (some ⟨Bn, 0, none⟩)] w fun e w' => e = .returned (.tuple #[]) ∧ ∃ F', St w' p F' (M.setF i { m.fl i with now := (m.fl i).now.take k } m) ∧ Moved w w' (footS p nb sb ptr vb vs L) F' := by
  have hF := h.file i hi
  obtain ⟨q0, q1⟩ := hF.cells
  have hqp : ptr i ≠ p := (h.f_ne hi (.inl rfl)).1
  have s0 := cs.cell
  have f0 := cf.cell
  have n0 := cn.cell
  have d3 := h.cells.2.2.2.1
  have df := h.frozen 3
  have hlen := (ok.fl i).1
  obtain ⟨y, hy⟩ : ∃ y : Int, y = (m.need : Int) - (((m.fl i).now.length : Int) - (k : Int)) := ⟨_, rfl⟩
  have hneed : (m.fl i).now.length ≤ m.need := by have := M.need_mem he; rw [hei] at this; omega
  have hw1 : IntKind.i64.wrap (((m.fl i).now.length : Int) - (k : Int)) = ((m.fl i).now.length : Int) - (k : Int) := by rw [IntKind.wrap_i64]; omega
  have hw2 : IntKind.i64.wrap ((m.need : Int) - (((m.fl i).now.length : Int) - (k : Int))) = y := by have := ok.need hc; rw [IntKind.wrap_i64]; omega
  obtain ⟨oa, oc, hvo⟩ := hF.b.slice
  have hcap : (m.fl i).now.length ≤ oc := by
    have hb := hF.b
    rw [hvo] at hb
    rcases hb with ⟨hv, h0⟩ | ⟨g, cap, cur, hv, _, h1, _⟩
    · injection hv with e1 e2 e3; omega
    · injection hv with e1 e2 e3; omega
  have hbt : Buf w (.slice oa k k) ((m.fl i).now.take k) := by
    have hb := hF.b
    rw [hvo] at hb
    exact hb.take3 hk
  have HE : Hid (∀ V : World, V.heap = ((w.setCell ⟨p, 3, none⟩ (.int .i64 y)).setCell ⟨ptr i, 0, none⟩ (.slice oa k k)).heap → V.os = w.os → V.tape = w.tape → V.output = w.output → ∃ F', St V p F' (M.setF i { m.fl i with now := (m.fl i).now.take k } m) ∧ Moved w V (footS p nb sb ptr vb vs L) F') := fun V hV h1 h2 h3 => by
    refine h.refile hi ok he hei (b' := .slice oa k k) (s' := vs i) (x := { m.fl i with now := (m.fl i).now.take k }) hbt hF.s (fun g _ _ => .inr (by show k = _; simp; omega)) (fun g hg => hg.elim (fun hg => .inr (.inl (by rw [hvo]; cases oa <;> exact hg))) (fun hg => .inr (.inr hg))) (y := y) (by rw [hy]; simp; omega) V ?_ ?_ (fun k a b => ?_) (by rw [hV]; simp) h1 h2 h3
    · rw [hV]
      exact heap_set_list (C := [vb i, vs i]) (i := 0) ((Below.heap_setCell _ _ _ _ (show ptr i ≠ p from hqp)).trans hF.blk) _
    · rw [hV, Below.heap_setCell _ _ _ _ (show p ≠ ptr i from fun e => hqp e.symm)]
      exact heap_set_list (i := 3) h.blk _
    · rw [hV, Below.heap_setCell _ _ _ _ a, Below.heap_setCell _ _ _ _ b]
  obtain ⟨W1, fold⟩ : ∃ W1, w.setCell ⟨p, 3, none⟩ (.int .i64 y) = W1 := ⟨_, rfl⟩
  have o1 : ∀ k, k ≠ p → W1.heap[k]? = w.heap[k]? := fun k hk => by rw [← fold]; exact Below.heap_setCell _ _ _ _ hk
  have f1 := (h.box o1 cf (by decide)).cell
  have n1 := (h.box o1 cn (by decide)).cell
  have r0 : W1.cell? ⟨ptr i, 0, none⟩ = some (vb i) := (World.cell?_of_block (a := ⟨ptr i, 0, none⟩) (o1 _ hqp)).trans q0
  have rf : W1.frozen? ⟨ptr i, 0, none⟩ = false := (World.frozen?_of_block (a := ⟨ptr i, 0, none⟩) (o1 _ hqp)).trans (hF.free 0)
  rw [fold] at HE
  rw [hvo] at q0 r0
  have hos : Hid (W1.os = w.os ∧ W1.tape = w.tape ∧ W1.output = w.output) := by rw [← fold]; exact ⟨rfl, rfl, rfl⟩
  clear h hF cf cn cs hqp hvo he hei hbt hneed o1 hlen hy
  generalize (m.fl i).now.length = lo at *
  generalize (m.need : Int) = nd at *
  generalize ptr i = q at *
  have hk1 : (k : Int) ≤ (oc : Int) := by omega
  have mixed : Try.prog.follows .mixedOrders = true := by kernel_rfl
  go_enter Try.func31, Try.ntmps31
  go_wp2
  go_region
  all_goals go_wp2
  all_goals go_region
  all_goals go_wp2
  all_goals go_end0
  all_goals exact ⟨rfl, HE.out _ rfl hos.out.1 hos.out.2.1 hos.out.2.2⟩

set_option maxRecDepth 20000 in
set_option maxHeartbeats 4000000 in
theorem sync_any (p : Nat) (F : Nat → Prop) (m : M) (n : ByteArray) (w : World) (h : St w p F m) (ok : m.Ok) (hc : m.count ≤ 900000) (hs : n.size ≤ maxLen) :
    Calls Try.prog 10 #[.pointer (some ⟨p, 0, none⟩), .string n] w fun e w' => e = .returned (.int .i64 (m.sync n).1) ∧ ∃ F', St w' p F' (m.sync n).2 ∧ Moved w w' F F' := by
  obtain ⟨nb, sb, ptr, vb, vs, L, hst, rfl⟩ := h
  have hFi := find_at hst ok n hs
  have HS : Hid (∀ W, Below w.heap.size w W → ∃ F', St W p F' m ∧ Moved w W (footS p nb sb ptr vb vs L) F') := fun W hW => ⟨_, ⟨_, _, _, _, _, _, hst.kept hW, rfl⟩, .of_below hW⟩
  by_cases h1 : m.first n true = 0
  · obtain ⟨hd, hg, e0, hf, hpl⟩ := M.first_true h1
    rw [fileB_some h1, h1, hpl] at hFi
    simp only [ptrO] at hFi
    have hF : m.sync n = m.step (M.setF e0.f { m.fl e0.f with sure := (m.fl e0.f).now }) := by unfold M.sync; rw [h1, hpl]; rfl
    rw [hF]
    have he := (findE_some hf).1
    have HD : Hid (∀ w2, Below w.heap.size w w2 → Calls Try.prog 28 #[.pointer (some ⟨p, 0, none⟩), .func (.func 32) #[] #[.pointer (some ⟨w2.heap.size, 0, none⟩)]] (w2.alloc (.cells #[.pointer (some ⟨ptr e0.f, 0, none⟩)] 51)) fun e w' => e = .returned (.int .i64 (m.step (M.setF e0.f { m.fl e0.f with sure := (m.fl e0.f).now })).1) ∧ ∃ F', St w' p F' (m.step (M.setF e0.f { m.fl e0.f with sure := (m.fl e0.f).now })).2 ∧ Moved w w' (footS p nb sb ptr vb vs L) F') := fun w2 hW => by
      have hW2 : Below w.heap.size w (w2.alloc (.cells #[.pointer (some ⟨ptr e0.f, 0, none⟩)] 51)) := hW.alloc hW.size _
      refine (do_at (hst.kept hW2) ok hc 32 _ (enters_of Try.func32 (by kernel_rfl) rfl) (M.setF e0.f { m.fl e0.f with sure := (m.fl e0.f).now }) (fun V stV oV sV => sync1_at stV ok.tick (hst.dl e0 he) he rfl _ ((hst.kept hW2).box oV (boxed_new w2 _ _) (by decide)))).mono ?_
      rintro e w' ⟨rfl, F', s', m'⟩
      exact ⟨rfl, F', s', (Moved.of_below hW2).trans m'⟩
    generalize m.step (M.setF e0.f { m.fl e0.f with sure := (m.fl e0.f).now }) = res at *
    clear hst hd hg hf
    go_enter Try.func10, Try.ntmps10
    go_wp2_with (first
      | (go_at_call 24; refine hFi.mono ?_; rintro e w2 ⟨rfl, b2⟩; have hDo := HD.out w2 b2)
      | (go_at_call 28; refine hDo.mono ?_; rintro e w5 ⟨rfl, F5, s5, m5⟩))
    go_ret
    exact ⟨rfl, F5, s5, m5⟩
  · have hF : m.sync n = (m.first n true, m) := by unfold M.sync; rw [if_pos h1]
    rw [hF]
    rw [fileB_none h1] at hFi
    simp only [ptrO] at hFi
    generalize m.first n true = er at *
    clear hst
    go_enter Try.func10, Try.ntmps10
    go_wp2_with (go_at_call 24; refine hFi.mono ?_; rintro e w2 ⟨rfl, b2⟩)
    go_ret
    exact ⟨rfl, HS.out _ (b2.alloc b2.size _)⟩

set_option maxRecDepth 20000 in
set_option maxHeartbeats 4000000 in
theorem cut_any (p : Nat) (F : Nat → Prop) (m : M) (n : ByteArray) (k : Int) (w : World) (h : St w p F m) (ok : m.Ok) (hc : m.count ≤ 900000) (hs : n.size ≤ maxLen) :
    Calls Try.prog 9 #[.pointer (some ⟨p, 0, none⟩), .string n, .int .i64 k] w fun e w' => e = .returned (.int .i64 (m.cut n k).1) ∧ ∃ F', St w' p F' (m.cut n k).2 ∧ Moved w w' F F' := by
  obtain ⟨nb, sb, ptr, vb, vs, L, hst, rfl⟩ := h
  obtain ⟨W1, fold1⟩ : ∃ W1, (w.alloc (.cells #[.pointer (some ⟨p, 0, none⟩)] 31)).alloc (.cells #[.int .i64 k] 3) = W1 := ⟨_, rfl⟩
  have b1 : Below w.heap.size w W1 := by rw [← fold1]; exact ((Below.refl _ w).alloc (Nat.le_refl _) _).alloc (by simp) _
  have z1 : W1.heap.size = w.heap.size + 2 := by rw [← fold1]; simp
  have x0 : Boxed W1 w.heap.size 31 (.pointer (some ⟨p, 0, none⟩)) := by rw [← fold1]; exact boxed_old (boxed_new w _ _) _
  have x1 : Boxed W1 (w.heap.size + 1) 3 (.int .i64 k) := by
    rw [← fold1]
    have := boxed_new (w.alloc (.cells #[.pointer (some ⟨p, 0, none⟩)] 31)) 3 (.int .i64 k)
    rwa [World.size_alloc] at this
  have st1 := hst.kept b1
  have hFi := find_at st1 ok n hs
  have y0 := x0.cell
  have HS : Hid (∀ W, Below w.heap.size w W → ∃ F', St W p F' m ∧ Moved w W (footS p nb sb ptr vb vs L) F') := fun W hW => ⟨_, ⟨_, _, _, _, _, _, hst.kept hW, rfl⟩, .of_below hW⟩
  by_cases h1 : m.first n true = 0
  · obtain ⟨hd, hg, e0, hf, hpl⟩ := M.first_true h1
    rw [fileB_some h1, h1, hpl] at hFi
    simp only [ptrO] at hFi
    have he := (findE_some hf).1
    have hFl := hst.file e0.f (hst.dl e0 he)
    obtain ⟨oa, oc, hvo⟩ := hFl.b.slice
    obtain ⟨q0, _⟩ := hFl.cells
    rw [hvo] at q0
    have hqlt := hFl.lts _ (.inl rfl)
    have HB : Hid (∀ w2, Below W1.heap.size W1 w2 → Below w.heap.size w (w2.alloc (.cells #[.pointer (some ⟨ptr e0.f, 0, none⟩)] 51)) ∧ Boxed (w2.alloc (.cells #[.pointer (some ⟨ptr e0.f, 0, none⟩)] 51)) w.heap.size 31 (.pointer (some ⟨p, 0, none⟩)) ∧ Boxed (w2.alloc (.cells #[.pointer (some ⟨ptr e0.f, 0, none⟩)] 51)) (w.heap.size + 1) 3 (.int .i64 k) ∧ Boxed (w2.alloc (.cells #[.pointer (some ⟨ptr e0.f, 0, none⟩)] 51)) w2.heap.size 51 (.pointer (some ⟨ptr e0.f, 0, none⟩)) ∧ (w2.alloc (.cells #[.pointer (some ⟨ptr e0.f, 0, none⟩)] 51)).cell? ⟨ptr e0.f, 0, none⟩ = some (.slice oa (m.fl e0.f).now.length oc)) := fun w2 k1 => by
      have k3 : Below W1.heap.size W1 (w2.alloc (.cells #[.pointer (some ⟨ptr e0.f, 0, none⟩)] 51)) := k1.alloc k1.size _
      have k4 := b1.trans (k3.mono b1.size)
      exact ⟨k4, boxed_below x0 k3, boxed_below x1 k3, boxed_new w2 _ _, (k4.cell (p := ⟨ptr e0.f, 0, none⟩) hqlt).trans q0⟩
    have mixed : Try.prog.follows .mixedOrders = true := by kernel_rfl
    by_cases hk0 : k < 0
    · have hF : m.cut n k = (2, m) := by unfold M.cut; rw [h1]; simp [hk0]
      rw [hF]
      have hkd : decide (k < 0) = true := decide_eq_true hk0
      clear hst st1 hd hg hf hFl hvo q0 hqlt
      go_enter Try.func9, Try.ntmps9
      go_wp2_with (go_at_call 24; refine hFi.mono ?_; rintro e w2 ⟨rfl, b2⟩; obtain ⟨k1, k2, k3, k4, k5⟩ := HB.out w2 b2; have j0 := k2.cell; have j1 := k3.cell; have j2 := k4.cell; obtain ⟨X, foldX⟩ : ∃ X, w2.alloc (.cells #[.pointer (some ⟨ptr e0.f, 0, none⟩)] 51) = X := ⟨_, rfl⟩; rw [foldX] at j0 j1 j2 k1 k5)
      go_quiet (fail)
      go_wp2
      go_ret
      exact ⟨rfl, HS.out _ (k1.trans (below_draws _ _ _))⟩
    · by_cases hk1 : k > (m.fl e0.f).now.length
      · have hF : m.cut n k = (2, m) := by unfold M.cut; rw [h1, hpl]; simp [hk0]; omega
        rw [hF]
        have hkd : decide (k < 0) = false := decide_eq_false hk0
        have hk1' : ((m.fl e0.f).now.length : Int) < k := hk1
        have hkd1 : decide (((m.fl e0.f).now.length : Int) < k) = true := decide_eq_true hk1
        clear hst st1 hd hg hf hFl hvo q0 hqlt
        go_enter Try.func9, Try.ntmps9
        go_wp2_with (go_at_call 24; refine hFi.mono ?_; rintro e w2 ⟨rfl, b2⟩; obtain ⟨k1, k2, k3, k4, k5⟩ := HB.out w2 b2; have j0 := k2.cell; have j1 := k3.cell; have j2 := k4.cell; obtain ⟨X, foldX⟩ : ∃ X, w2.alloc (.cells #[.pointer (some ⟨ptr e0.f, 0, none⟩)] 51) = X := ⟨_, rfl⟩; rw [foldX] at j0 j1 j2 k1 k5)
        go_quiet (fail)
        go_wp2
        go_ret
        exact ⟨rfl, HS.out _ (k1.trans (below_draws _ _ _))⟩
      · obtain ⟨kn, rfl⟩ : ∃ kn : Nat, k = kn := ⟨k.toNat, by omega⟩
        have hF : m.cut n kn = m.step (M.setF e0.f { m.fl e0.f with now := (m.fl e0.f).now.take kn }) := by
          unfold M.cut; rw [h1, hpl, if_neg (by simp), if_neg (by omega), Int.toNat_natCast]
        rw [hF]
        have hkd : decide ((kn : Int) < 0) = false := decide_eq_false hk0
        have hk1' : ¬ ((m.fl e0.f).now.length : Int) < (kn : Int) := by omega
        have hkd1 : decide (((m.fl e0.f).now.length : Int) < (kn : Int)) = false := decide_eq_false hk1'
        have HD : Hid (∀ W Bf, Below w.heap.size w W → Boxed W w.heap.size 31 (.pointer (some ⟨p, 0, none⟩)) → Boxed W (w.heap.size + 1) 3 (.int .i64 (kn : Int)) → Boxed W Bf 51 (.pointer (some ⟨ptr e0.f, 0, none⟩)) → Calls Try.prog 28 #[.pointer (some ⟨p, 0, none⟩), .func (.func 31) #[] #[.pointer (some ⟨w.heap.size, 0, none⟩), .pointer (some ⟨Bf, 0, none⟩), .pointer (some ⟨w.heap.size + 1, 0, none⟩)]] W fun e w' => e = .returned (.int .i64 (m.step (M.setF e0.f { m.fl e0.f with now := (m.fl e0.f).now.take kn })).1) ∧ ∃ F', St w' p F' (m.step (M.setF e0.f { m.fl e0.f with now := (m.fl e0.f).now.take kn })).2 ∧ Moved w w' (footS p nb sb ptr vb vs L) F') := fun W Bf hW k0 k1 k2 => by
          refine (do_at (hst.kept hW) ok hc 31 _ (enters_of Try.func31 (by kernel_rfl) rfl) (M.setF e0.f { m.fl e0.f with now := (m.fl e0.f).now.take kn }) (fun V stV oV sV => cut1_at stV ok.tick (by show m.count + 1 ≤ _; omega) (hst.dl e0 he) he rfl kn (by show kn ≤ (m.fl e0.f).now.length; omega) _ _ _ ((hst.kept hW).box oV k0 (by decide)) ((hst.kept hW).box oV k2 (by decide)) ((hst.kept hW).box oV k1 (by decide)))).mono ?_
          rintro e w' ⟨rfl, F', s', m'⟩
          exact ⟨rfl, F', s', (Moved.of_below hW).trans m'⟩
        generalize m.step (M.setF e0.f { m.fl e0.f with now := (m.fl e0.f).now.take kn }) = res at *
        clear hst st1 hd hg hf hFl hvo q0 hqlt
        go_enter Try.func9, Try.ntmps9
        go_wp2_with (go_at_call 24; refine hFi.mono ?_; rintro e w2 ⟨rfl, b2⟩; obtain ⟨k1, k2, k3, k4, k5⟩ := HB.out w2 b2; have j0 := k2.cell; have j1 := k3.cell; have j2 := k4.cell; obtain ⟨X, foldX⟩ : ∃ X, w2.alloc (.cells #[.pointer (some ⟨ptr e0.f, 0, none⟩)] 51) = X := ⟨_, rfl⟩; rw [foldX] at j0 j1 j2 k1 k2 k3 k4 k5)
        go_quiet (fail)
        have hDo := HD.out (X.drewN nq) w2.heap.size (k1.trans (below_draws _ _ _)) (boxed_below k2 (below_draws _ _ _)) (boxed_below k3 (below_draws _ _ _)) (boxed_below k4 (below_draws _ _ _))
        go_wp2_with (go_at_call 28; refine hDo.mono ?_; rintro e w5 ⟨rfl, F5, s5, m5⟩)
        go_ret
        exact ⟨rfl, F5, s5, m5⟩
  · have hF : m.cut n k = (m.first n true, m) := by unfold M.cut; rw [if_pos h1]
    rw [hF]
    rw [fileB_none h1] at hFi
    simp only [ptrO] at hFi
    generalize m.first n true = er at *
    clear hst st1
    go_enter Try.func9, Try.ntmps9
    go_wp2_with (go_at_call 24; refine hFi.mono ?_; rintro e w2 ⟨rfl, b2⟩)
    go_ret
    exact ⟨rfl, HS.out _ (b1.trans ((b2.alloc b2.size _).mono b1.size))⟩
end
end Go.Proofs.Ytjgdmbfkondakaa
