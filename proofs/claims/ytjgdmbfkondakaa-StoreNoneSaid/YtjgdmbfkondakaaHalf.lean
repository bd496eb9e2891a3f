/-
  A FAILURE UNDER WAY: the directory anew, some files as the failure leaves them.
-/
import Derived.Test.YtjgdmbfkondakaaAll
namespace Go.Proofs.Ytjgdmbfkondakaa
open Go.RowKit Go.Maps Go.Shelf

/-- These files failed. -/
def failOn (k : Int) (is : List Nat) (l : List Fl) : List Fl := l.mapIdx fun i x => if i ∈ is then failF k x else x
def M.half (m : M) (k : Int) (es : List En) : M := { m with dark := true, dir := es, all := failOn k (es.map En.f) m.all }
theorem failOn_length (k : Int) (is : List Nat) (l : List Fl) : (failOn k is l).length = l.length := by simp [failOn]
theorem half_fl {m : M} {k : Int} {es : List En} {i : Nat} (hi : i < m.all.length) : (m.half k es).fl i = if i ∈ es.map En.f then failF k (m.fl i) else m.fl i := by
  unfold M.half M.fl
  simp only
  rw [getD_lt _ (by rw [failOn_length]; exact hi), getD_lt _ hi]
  simp [failOn]
theorem failOn_nil (k : Int) (l : List Fl) : failOn k [] l = l := by
  unfold failOn
  apply List.ext_getElem <;> simp
theorem failOn_cons {k : Int} {i : Nat} {is : List Nat} {l : List Fl} (hi : i < l.length) : (failOn k is l).set i (failF k l[i]) = failOn k (i :: is) l := by
  apply List.ext_getElem
  · simp [failOn]
  · intro j h1 h2
    simp only [failOn, List.getElem_set, List.getElem_mapIdx]
    by_cases e : i = j
    · subst e; simp
    · rw [if_neg e]
      have : (j ∈ i :: is) ↔ j ∈ is := by
        rw [List.mem_cons]
        exact ⟨fun h => h.elim (fun h => absurd h.symm e) id, .inr⟩
      simp only [this]
theorem failOn_congr {k : Int} {is js : List Nat} {l : List Fl} (h : ∀ i, i ∈ is ↔ i ∈ js) : failOn k is l = failOn k js l := by
  unfold failOn
  congr 1
  funext i x
  simp only [h i]

section
variable {w w' : World} {p nb sb : Nat} {ptr : Nat → Nat} {vb vs : Nat → Value} {L : Nat → Prop} {m m' : M}
/-- Another way to tell the same. -/
theorem StAt.flEq (h : StAt w p nb sb ptr vb vs L m) (h1 : m'.room = m.room) (h2 : m'.dark = m.dark) (h3 : m'.count = m.count) (h4 : m'.left = m.left) (h5 : m'.keep = m.keep) (h6 : m'.dir = m.dir) (h7 : m'.sur = m.sur) (h8 : m'.all.length = m.all.length) (h9 : ∀ i, L i → m'.fl i = m.fl i) : StAt w p nb sb ptr vb vs L m' := by
  have hneed : m'.need = m.need := by
    unfold M.need
    rw [h6]
    exact M.needL_congr fun e he => by rw [h9 e.f (h.dl e he)]
  refine ⟨?_, by rw [h6]; exact h.n, by rw [h7]; exact h.s, h.ne, by rw [h6]; exact h.dl, by rw [h7]; exact h.sl, by rw [h8]; exact h.lt, fun i hi => by rw [h9 i hi]; exact h.file i hi, h.ap⟩
  have : scell m' nb sb = scell m nb sb := by unfold scell; rw [h1, h2, h3, h4, h5, hneed]
  rw [this]
  exact h.blk
/-- Fewer files are told. -/
theorem StAt.less (h : StAt w p nb sb ptr vb vs L m) {L' : Nat → Prop} (hL : ∀ i, L' i → L i) (hd : ∀ e ∈ m.dir, L' e.f) (hs : ∀ e ∈ m.sur, L' e.f) : StAt w p nb sb ptr vb vs L' m :=
  ⟨h.blk, h.n, h.s, h.ne, hd, hs, fun i hi => h.lt i (hL i hi), fun i hi => h.file i (hL i hi), fun i j hi hj => h.ap i j (hL i hi) (hL j hj)⟩
/-- It abides the turn of what is no cells and lies beyond. -/
theorem StAt.grown {N : Nat} {row : Option Nat} (h : StAt w p nb sb ptr vb vs L m) (hn : nb < N) (hs : sb < N) (hg : w.grownBy w' row) (hr : ∀ r, row = some r → N ≤ r ∧ ∃ o : Obj, w.heap[r]? = some o ∧ o.isCells = false) : StAt w' p nb sb ptr vb vs L m := by
  refine h.same fun k hk => hg.block k (h.lts k hk) fun e => ?_
  obtain ⟨h1, o, ho, hc⟩ := hr k e.symm
  rcases hk with rfl | rfl | rfl | ⟨i, hi, hk⟩
  · rw [h.blk] at ho; cases ho; cases hc
  · omega
  · omega
  · rcases hk with rfl | hk
    · rw [(h.file i hi).blk] at ho; cases ho; cases hc
    · obtain ⟨cur, hcur⟩ := (h.file i hi).row_ty hk
      rw [hcur] at ho; cases ho; cases hc
/-- A store of which the power was lost, ahead of its files. -/
theorem StAt.dark0 {w1 : World} (h : StAt w p nb sb ptr vb vs L m) (k : Int) {nb' : Nat} (hb : w1.heap[p]? = some (.cells (scell (m.half k []) nb' sb).toArray 30 (0, 0))) (hn : DAt w1 nb' []) (hne : nb' ≠ sb) (ho : ∀ k, footS p nb sb ptr vb vs L k → k ≠ p → w1.heap[k]? = w.heap[k]?) :
    StAt w1 p nb' sb ptr vb vs (fun i => ∃ e ∈ m.sur, e.f = i) (m.half k []) := by
  have hL : ∀ i, (∃ e ∈ m.sur, e.f = i) → L i := by rintro i ⟨e, he, rfl⟩; exact h.sl e he
  refine ⟨hb, hn, h.s.same (ho sb (.inr (.inr (.inl rfl))) h.s_ne), hne, fun e he => by simp [M.half] at he, fun e he => ⟨e, he, rfl⟩, fun i hi => ?_, fun i hi => ?_, fun i j hi hj => h.ap i j (hL i hi) (hL j hj)⟩
  · show i < (failOn k [] m.all).length
    rw [failOn_length]; exact h.lt i (hL i hi)
  · rw [half_fl (h.lt i (hL i hi))]
    simp only [List.map_nil, List.not_mem_nil, if_false]
    exact (h.file i (hL i hi)).same fun k hk => ho k (.inr (.inr (.inr ⟨i, hL i hi, hk⟩))) (h.f_ne (hL i hi) hk).1
/-- One file more failed. -/
theorem StAt.failOne {k : Int} {es : List En} {e0 : En} {v : Value} (h : StAt w p nb sb ptr vb vs L (m.half k es)) (hi : L e0.f) (hlt : e0.f < m.all.length) (hn : e0.f ∉ es.map En.f) (hf : FileAt w' (ptr e0.f) v v (failF k (m.fl e0.f))) (hv : ∀ g, v.ownBlock = some g → (vb e0.f).ownBlock = some g ∨ (vs e0.f).ownBlock = some g) (mv : Moved w w' (fun k => k = ptr e0.f) (fun k => k = ptr e0.f)) :
    StAt w' p nb sb ptr (putF vb e0.f v) (putF vs e0.f v) L { m.half k es with all := failOn k (e0.f :: es.map En.f) m.all } := by
  have hset : failOn k (e0.f :: es.map En.f) m.all = (m.half k es).all.set e0.f (failF k (m.fl e0.f)) := by
    have := failOn_cons (k := k) (is := es.map En.f) hlt
    unfold M.half M.fl
    rw [getD_lt _ hlt, ← this]
  have hneed : ({ m.half k es with all := failOn k (e0.f :: es.map En.f) m.all } : M).need = (m.half k es).need := by
    refine M.needL_congr fun e he => ?_
    have hne : e.f ≠ e0.f := fun e1 => hn (by rw [← e1]; exact List.mem_map.2 ⟨e, he, rfl⟩)
    have := M.at_set (m := m.half k es) (i := e0.f) (j := e.f) (failF k (m.fl e0.f)) (by show _ < (failOn _ _ _).length; rw [failOn_length]; exact hlt)
    rw [if_neg hne] at this
    rw [← this]
    unfold M.setF M.fl
    simp only [hset]
    rfl
  have hp : ∀ k, footS p nb sb ptr vb vs L k → k ≠ ptr e0.f → w'.heap[k]? = w.heap[k]? := fun k hk hne => mv.block k (h.lts k hk) hne
  refine h.setFile hi (x := failF k (m.fl e0.f)) ?_ hf (fun k hk _ hnf => hp k hk (fun e => hnf (.inl e))) (fun g hg => .inl (.inr (hg.elim (hv g) (hv g)))) rfl rfl hset
  have : scell ({ m.half k es with all := failOn k (e0.f :: es.map En.f) m.all } : M) nb sb = scell (m.half k es) nb sb := by unfold scell; rw [hneed]
  rw [this]
  exact (hp p (.inl rfl) (fun e => (h.f_ne hi (.inl rfl)).1 e.symm)).trans h.blk
end
/-- What is told of what lay there. -/
abbrev plus (w : World) (F : Nat → Prop) (k : Nat) : Prop := F k ∨ w.heap.size ≤ k
theorem moved_plus {w W W' : World} {F G : Nat → Prop} (h : Moved w W (plus w F) (plus w F)) (k : Moved W W' G G) (hG : ∀ i, G i → plus w F i) : Moved w W' (plus w F) (plus w F) :=
  h.trans ⟨k.os, k.tape, k.output, k.size, fun i hi hn => k.block i hi (fun hg => hn (hG i hg)), fun _ h => .inl h⟩
theorem moved_grown {w W W' : World} {F : Nat → Prop} {N : Nat} {row : Option Nat} (h : Moved w W (plus w F) (plus w F)) (hN : w.heap.size ≤ N) (hg : W.grownBy W' row) (hr : ∀ r, row = some r → N ≤ r) : Moved w W' (plus w F) (plus w F) :=
  ⟨hg.os.trans h.os, hg.tape.trans h.tape, hg.output.trans h.output, Nat.le_trans h.size hg.size, fun k hk hn => (hg.block k (Nat.lt_of_lt_of_le hk h.size) (fun e => by have := hr k e.symm; omega)).trans (h.block k hk hn), fun _ h => .inl h⟩

theorem nodup_le {l l' : List En} (hn : l.Nodup) (hs : ∀ x ∈ l, x ∈ l') : l.length ≤ l'.length := by
  induction l generalizing l' with
  | nil => exact Nat.zero_le _
  | cons x r ih =>
    obtain ⟨h1, h2⟩ := List.nodup_cons.1 hn
    have hx := hs x (by simp)
    have := ih h2 (l' := l'.erase x) fun y hy => (List.mem_erase_of_ne (fun (e : y = x) => h1 (e ▸ hy))).2 (hs y (by simp [hy]))
    rw [List.length_erase_of_mem hx] at this
    have := List.length_pos_of_mem hx
    simp
    omega
theorem boxed_on {W W' : World} {b : Nat} {t : TypeId} {v : Value} {row : Option Nat} (h : Boxed W b t v) (hg : W.grownBy W' row) (hr : ∀ r, row = some r → ∃ o : Obj, W.heap[r]? = some o ∧ o.isCells = false) : Boxed W' b t v := by
  have hlt := h.lt
  unfold Boxed at h ⊢
  refine (hg.block b hlt fun e => ?_).trans h
  obtain ⟨o, ho, hc⟩ := hr b e.symm
  rw [h] at ho; cases ho; cases hc
/-- The failure under way, behind some of the names. -/
structure FailI (w : World) (p nb sb : Nat) (ptr : Nat → Nat) (vb vs : Nat → Value) (L : Nat → Prop) (m : M) (k : Int) (pre : List Pe) (W : World) (es : List En) (vb' vs' : Nat → Value) : Prop where
  pre : ents ptr es = pre
  sub : ∀ e ∈ es, e ∈ m.sur
  diff : es.Pairwise fun a b => a.name ≠ b.name
  st : StAt W p (w.heap.size + 2) sb ptr vb' vs' (fun i => ∃ e ∈ m.sur, e.f = i) (m.half k es)
  old : ∀ i g, (∃ e ∈ m.sur, e.f = i) → (vb' i).ownBlock = some g ∨ (vs' i).ownBlock = some g → (vb i).ownBlock = some g ∨ (vs i).ownBlock = some g
  b0 : Boxed W w.heap.size 31 (.pointer (some ⟨p, 0, none⟩))
  b1 : Boxed W (w.heap.size + 1) 3 (.int .i64 k)
  mv : Moved w W (plus w (footS p nb sb ptr vb vs L)) (plus w (footS p nb sb ptr vb vs L))
section
variable {w W W' : World} {p nb sb : Nat} {ptr : Nat → Nat} {vb vs vb' vs' : Nat → Value} {L : Nat → Prop} {m : M} {k : Int} {pre : List Pe} {es : List En}
theorem FailI.grown {row : Option Nat} (h : FailI w p nb sb ptr vb vs L m k pre W es vb' vs') (hsb : sb < w.heap.size) (hg : W.grownBy W' row) (hr : ∀ r, row = some r → w.heap.size + 4 ≤ r ∧ ∃ o : Obj, W.heap[r]? = some o ∧ o.isCells = false) : FailI w p nb sb ptr vb vs L m k pre W' es vb' vs' :=
  ⟨h.pre, h.sub, h.diff, h.st.grown (N := w.heap.size + 4) (by omega) (by omega) hg hr, h.old, boxed_on h.b0 hg (fun r e => (hr r e).2), boxed_on h.b1 hg (fun r e => (hr r e).2), moved_grown h.mv (N := w.heap.size + 4) (by omega) hg (fun r e => (hr r e).1)⟩
/-- One name more. -/
theorem FailI.one {w1 w2 : World} (h : FailI w p nb sb ptr vb vs L m k pre W es vb' vs') (hp : p < w.heap.size) (hsb : sb < w.heap.size) (hLL : ∀ e ∈ m.sur, L e.f) (ok : m.Ok) {e0 : En} (he : e0 ∈ m.sur) (hne : e0 ∉ es) {v : Value} (hv : ∀ g, v.ownBlock = some g → (vb' e0.f).ownBlock = some g ∨ (vs' e0.f).ownBlock = some g) (mv1 : Moved W w1 (fun k => k = ptr e0.f) (fun k => k = ptr e0.f))
    (st2 : StAt w2 p (w.heap.size + 2) sb ptr (putF vb' e0.f v) (putF vs' e0.f v) (fun i => ∃ e ∈ m.sur, e.f = i) { m.half k es with all := failOn k (e0.f :: es.map En.f) m.all, dir := ⟨e0.name, e0.f⟩ :: es }) (mv2 : Moved w1 w2 (two p (w.heap.size + 2)) (two p (w.heap.size + 2))) :
    KeepsFrom (w.heap.size + 4) W w2 ∧ KpW (w.heap.size + 4) sb W w2 ∧ FailI w p nb sb ptr vb vs L m k (pre ++ [(e0.name, ptr e0.f)]) w2 (es ++ [e0]) (putF vb' e0.f v) (putF vs' e0.f v) := by
  have hL : (∃ e ∈ m.sur, e.f = e0.f) := ⟨e0, he, rfl⟩
  have hfb := (h.st.file e0.f hL).blk
  have hnames : ∀ e ∈ es, e.name ≠ e0.name := fun e h1 e2 => hne (by rw [← ok.os.names (h.sub e h1) he e2]; exact h1)
  have same : ∀ i, i < W.heap.size → i ≠ ptr e0.f → i ≠ p → i ≠ w.heap.size + 2 → w2.heap[i]? = W.heap[i]? := fun i hi h1 h2 h3 =>
    (mv2.block i (Nat.lt_of_lt_of_le hi mv1.size) (fun e => e.elim h2 h3)).trans (mv1.block i hi h1)
  have noCells : ∀ i o, W.heap[i]? = some o → o.isCells = false → i ≠ ptr e0.f := fun i o ho hc e => by
    subst e
    rw [hfb] at ho; cases ho; cases hc
  refine ⟨⟨Nat.le_trans mv1.size mv2.size, fun i o hi ho hc => ?_⟩, ⟨Nat.le_trans mv1.size mv2.size, fun i o hi ho hw => ?_⟩, ?_, ?_, ?_, ?_, ?_, ?_, ?_, ?_⟩
  · exact (same i (Array.getElem?_eq_some_iff.1 ho).1 (noCells i o ho hc) (by omega) (by omega)).trans ho
  · have hc : o.isCells = false := by cases o <;> first | rfl | (simp [Obj.isWalk] at hw)
    refine (same i (Array.getElem?_eq_some_iff.1 ho).1 (noCells i o ho hc) ?_ ?_).trans ho
    · rcases hi with hi | rfl
      · omega
      · exact h.st.s_ne
    · rcases hi with hi | rfl <;> omega
  · rw [← h.pre]; simp [ents]
  · intro e h1
    rcases List.mem_append.1 h1 with h1 | h1
    · exact h.sub e h1
    · rw [List.mem_singleton.1 h1]; exact he
  · rw [List.pairwise_append]
    exact ⟨h.diff, List.pairwise_singleton _ _, fun a ha b hb => by rw [List.mem_singleton.1 hb]; exact hnames a ha⟩
  · have hd : (es ++ [e0]).Pairwise fun a b => a.name ≠ b.name := by
      rw [List.pairwise_append]
      exact ⟨h.diff, List.pairwise_singleton _ _, fun a ha b hb => by rw [List.mem_singleton.1 hb]; exact hnames a ha⟩
    have hdl : DL (ents ptr (es ++ [e0])) := ents_dl hd fun e h1 => by
      rcases List.mem_append.1 h1 with h1 | h1
      · exact goodN_size (ok.gs e (h.sub e h1))
      · rw [List.mem_singleton.1 h1]; exact goodN_size (ok.gs e0 he)
    have h3 := st2.perm (l := es ++ [e0]) (by
      show (⟨e0.name, e0.f⟩ :: es : List En).Perm (es ++ [e0])
      exact (List.perm_append_comm (l₁ := [e0]) (l₂ := es))) hdl
    have e : m.half k (es ++ [e0]) = ({ m.half k es with all := failOn k (e0.f :: es.map En.f) m.all, dir := es ++ [e0] } : M) := by
      unfold M.half
      simp only [M.mk.injEq, true_and, and_true]
      exact failOn_congr fun i => by simp [or_comm]
    rw [e]
    exact h3
  · intro i g hi hg
    by_cases e : i = e0.f
    · subst e
      rw [putF_at, putF_at] at hg
      exact h.old e0.f g hi (hv g (hg.elim id id))
    · rw [putF_ne _ _ e, putF_ne _ _ e] at hg
      exact h.old i g hi hg
  · refine (same _ h.b0.lt (fun e => ?_) (by omega) (by omega)).trans h.b0
    have := h.b0
    unfold Boxed at this
    rw [e, hfb] at this
    simp at this
  · refine (same _ h.b1.lt (fun e => ?_) (by omega) (by omega)).trans h.b1
    have := h.b1
    unfold Boxed at this
    rw [e, hfb] at this
    simp at this
  · refine moved_plus (moved_plus h.mv mv1 fun i e => .inl (.inr (.inr (.inr ⟨e0.f, hLL e0 he, .inl e⟩)))) mv2 fun i e => ?_
    rcases e with rfl | rfl
    · exact .inl (.inl rfl)
    · exact .inr (by omega)
/-- Behind all names. -/
theorem FailI.done (h : FailI w p nb sb ptr vb vs L m k pre W es vb' vs') (ok : m.Ok) (hp : pre.Perm (ents ptr m.sur)) (hw : StAt w p nb sb ptr vb vs L m) : ∃ F', St W p F' (m.fail k) ∧ Moved w W (footS p nb sb ptr vb vs L) F' := by
  have hnd : es.Nodup := h.diff.imp fun {a b} hne e => hne (by rw [e])
  have hnd2 : m.sur.Nodup := (ord_diff ok.os).imp fun {a b} hne e => hne (by rw [e])
  have hperm : es.Perm m.sur := by
    rw [List.perm_ext_iff_of_nodup hnd hnd2]
    refine fun e => ⟨h.sub e, fun he => ?_⟩
    have h1 : (e.name, ptr e.f) ∈ pre := hp.mem_iff.2 (List.mem_map.2 ⟨e, he, rfl⟩)
    rw [← h.pre] at h1
    obtain ⟨e', h2, h3⟩ := List.mem_map.1 h1
    have h4 : e'.name = e.name := by injection h3
    rw [← ok.os.names (h.sub e' h2) he h4]
    exact h2
  have st := h.st.perm (l := m.sur) hperm (ok.dlS ptr)
  refine ⟨_, ⟨_, _, _, _, _, _, st.flEq (m' := m.fail k) rfl rfl rfl rfl rfl rfl rfl ?_ ?_, rfl⟩, ?_⟩
  · show (m.all.map (failF k)).length = (failOn k _ m.all).length
    rw [failOn_length, List.length_map]
  · rintro i ⟨e, he, rfl⟩
    have hlt := ok.fs e he
    rw [M.at_fail hlt]
    have := half_fl (m := m) (k := k) (es := es) hlt
    rw [if_pos (List.mem_map.2 ⟨e, hperm.mem_iff.2 he, rfl⟩)] at this
    rw [← this]
    rfl
  · refine ⟨h.mv.os, h.mv.tape, h.mv.output, h.mv.size, fun i hi hn => h.mv.block i hi (fun e => e.elim hn (by omega)), ?_⟩
    rintro i (rfl | rfl | rfl | ⟨j, hj, hk⟩)
    · exact .inl (.inl rfl)
    · exact .inr (by omega)
    · exact .inl (.inr (.inr (.inl rfl)))
    · obtain ⟨e, he, rfl⟩ := hj
      refine .inl (.inr (.inr (.inr ⟨e.f, hw.sl e he, ?_⟩)))
      rcases hk with rfl | hk
      · exact .inl rfl
      · exact .inr (h.old e.f i ⟨e, he, rfl⟩ hk)
end
end Go.Proofs.Ytjgdmbfkondakaa
