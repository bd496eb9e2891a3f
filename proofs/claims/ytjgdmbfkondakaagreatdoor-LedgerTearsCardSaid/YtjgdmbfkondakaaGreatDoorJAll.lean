/-
  all, and the function that it hands back, by their contracts.
-/
import Derived.Test.YtjgdmbfkondakaaGreatDoorJFFail
import Derived.Test.YtjgdmbfkondakaaGreatDoorJLoops
namespace Go.Proofs.YtjgdmbfkondakaaGreatDoor
open Go.RowKit Go.Maps Go.Shelf Go.Sort

attribute [local go_sem] Oper.semAt_some

theorem all_any (mb : Option Nat) (w : World) :
    Calls Tryz.prog 54 #[.map mb] w fun e w' => e = .returned (.func (.func 87) #[] #[.pointer (some ⟨w.heap.size, 0, none⟩)]) ∧ w' = w.alloc (.cells #[.map mb] 62) := by
  go_enter Tryz.func54, Tryz.ntmps54
  go_wp2
  go_ret
  exact ⟨rfl, rfl⟩
theorem ranges_kept {w w' : World} {b r n N cnt : Nat} {D : DataW (Option Nat)} {left : Lit → Bool} (h : w.ranges Tryz.prog 9 rdP b r n D left cnt) (hk : KpW N b w w') (hN : N ≤ r) : w'.ranges Tryz.prog 9 rdP b r n D left cnt := by
  obtain ⟨es, clock, since, seen, c0, hb, F, hs, hD, hr, rest⟩ := h
  exact ⟨es, clock, since, seen, c0, hk.same b _ (.inr rfl) hb rfl, F, hs, hD, hk.same r _ (.inl hN) hr rfl, rest⟩

set_option maxRecDepth 100000 in
set_option maxHeartbeats 2000000 in
theorem all_seq (n : Nat) (hn : 1 ≤ n) (Bd b : Nat) (out : List Pe) (hr : DL out) (w : World) (hBd : w.cell? ⟨Bd, 0, none⟩ = some (.map (some b))) (hown : DAt w b out) :
    SeqP Fence.wide n Tryz.prog 87 #[.pointer (some ⟨Bd, 0, none⟩)] (fun x : Pe => #[.string x.1, .pointer (some ⟨x.2, 0, none⟩)]) w.heap.size b (fun pre x => x ∈ out ∧ x ∉ pre) (fun xs => xs.Perm out) w := fun l J W hW hJ hY h0 => by
  have hm : W.cell? ⟨Bd, 0, none⟩ = some (.map (some b)) := (hW.cell (p := ⟨Bd, 0, none⟩) (World.block_lt_of_cell? _ _ hBd)).trans hBd
  have ho : DAt W b out := hown.same (hW.block b hown.lt)
  have hN : w.heap.size ≤ W.heap.size := hW.size
  clear hBd hown
  show CallsIn Fence.wide n Tryz.prog 87 #[.func (.yield l) #[] #[], .pointer (some ⟨Bd, 0, none⟩)] W _
  refine callsIn_of_wp Tryz.func87 rfl trivial ?_ rfl
  simp only [Tryz.ntmps87, List.size_toArray, List.length_cons, List.length_nil, Nat.reduceAdd, Nat.reduceSub, Array.replicate_succ, Array.replicate_zero, List.push_toArray, List.append_toArray, List.nil_append, List.cons_append]
  have hD : Maps.size (DofG pkl pd out) = out.length := size_DofG out
  gi_wp2_with (first
    | (gi_at_range; refine wpListIn_range_own _ rfl _ 62 rfl 9 80 sKeyed Tryz.underlying62 rdP b out.length (DofG pkl pd out) rfl ho ?_; intro w0 hrg0 hg0 hs0)
    | gi_in)
  gi_loopw [3, 4] (fun _ _ wr => ∃ (left : Lit → Bool) (cnt : Nat) (ps : List Pe), wr.ranges Tryz.prog 9 rdP b W.heap.size out.length (DofG pkl pd out) left cnt ∧ ComeG pkl out left ps ∧ J ps wr)
    (fun _ _ wr => wr.rangeLeft b W.heap.size)
  case atStart =>
    exact ⟨_, _, [], hrg0, ComeG.start sKeyed.one hr.keys, hJ [] W w0 none h0 hg0 (fun r e => by cases e)⟩
  case round =>
    obtain ⟨left, cnt, ps, hrg, hC, hJs⟩ := hrel
    gi_wp2_with (first
      | (gi_at_next; refine wpListIn_next_ranges _ rfl _ rfl 9 sKeyed rdP (fun s : ByteArray => Value.string s) ptrO (fun key kl hk => by obtain ⟨s, hs, _⟩ := skey_inv hk; exact ⟨s, hs⟩) (fun v y hv => by obtain ⟨c, hc, _⟩ := rdP_inv hv; exact ⟨c, hc⟩) b W.heap.size out.length _ _ _ rfl hrg ?_ ?_)
      | gi_in)
    · intro hc0 hl0
      gi_wp2
      go_end0
      exact ⟨⟨_, rfl⟩, ps, hC.perm hr.diff hl0, hJs⟩
    · intro s c kl yd yp w2 cnt2 hkey hlk hv hat hrg2 hlt hg2 hs2 hen
      obtain ⟨x, hx, hxk, hxv⟩ := p_entry hr hv hat
      obtain ⟨s', hs', hkl⟩ := skey_inv hkey
      obtain rfl : s = x.1 := by
        injection hs' with hs'
        subst hs'
        rw [hkl] at hxk
        exact (str_inj hxk).symm
      obtain rfl : c = some x.2 := by
        cases c with
        | none => cases hxv
        | some c => unfold ptrO at hxv; simp at hxv; rw [hxv]
      subst hxk
      have hJ2 : J ps w2 := hJ ps wr w2 (some W.heap.size) hJs hg2 (fun r e => by cases e; exact ⟨Nat.le_refl _, hrg.iter_walk⟩)
      have hnp : x ∉ ps := fun hm => by have := (hC.2.2 x hx).1 hm; rw [hlk] at this; cases this
      obtain ⟨fn, tmps, assign, body, hy, hR⟩ := hY ps x w2 hJ2 ⟨hx, hnp⟩
      clear hs2 hkey hv hat hs' hkl hxv
      unfold ptrO at *
      gi_wp2
      refine hR.mono ?_
      have hC2 := hC.step sKeyed.one hr.keys hr.diff hx hlk
      rintro e W3 ⟨rfl, hJ4, hk4⟩
      gi_wp2
      have hrg4 := ranges_kept hrg2 hk4 hN
      go_roundw
      case rel => exact ⟨_, cnt2, ps ++ [x], hrg4, hC2, hJ4⟩
      case measure => rw [hrg4.left_eq, hrg.left_eq]; exact hlt
end Go.Proofs.YtjgdmbfkondakaaGreatDoor

/-
  A FAILURE UNDER WAY: the directory anew, some files as the failure leaves them.
-/
namespace Go.Proofs.YtjgdmbfkondakaaGreatDoor
open Go.RowKit Go.Maps Go.Shelf

/-- These files failed. -/
def failOn (k : Int) (is : List Nat) (l : List Fl) : List Fl := l.mapIdx fun i x => if i ∈ is then failF k x else x
def M.half (m : M) (k : Int) (es : List En) : M := { m with dark := true, dir := es, all := failOn k (es.map En.f) m.all }
theorem failOn_length (k : Int) (is : List Nat) (l : List Fl) : (failOn k is l).length = l.length := by simp [failOn]
theorem half_fl {m : M} {k : Int} {es : List En} {i : Nat} (hi : i < m.all.length) : (m.half k es).fl i = if i ∈ es.map En.f then failF k (m.fl i) else m.fl i := by
  unfold M.half M.fl
  simp only
  rw [getD_lt _ (by rw [failOn_length]; exact hi), getD_lt _ hi]
  simp [failOn]
theorem failOn_nil (k : Int) (l : List Fl) : failOn k [] l = l := by
  unfold failOn
  apply List.ext_getElem <;> simp
theorem failOn_cons {k : Int} {i : Nat} {is : List Nat} {l : List Fl} (hi : i < l.length) : (failOn k is l).set i (failF k l[i]) = failOn k (i :: is) l := by
  apply List.ext_getElem
  · simp [failOn]
  · intro j h1 h2
    simp only [failOn, List.getElem_set, List.getElem_mapIdx]
    by_cases e : i = j
    · subst e; simp
    · rw [if_neg e]
      have : (j ∈ i :: is) ↔ j ∈ is := by
        rw [List.mem_cons]
        exact ⟨fun h => h.elim (fun h => absurd h.symm e) id, .inr⟩
      simp only [this]
theorem failOn_congr {k : Int} {is js : List Nat} {l : List Fl} (h : ∀ i, i ∈ is ↔ i ∈ js) : failOn k is l = failOn k js l := by
  unfold failOn
  congr 1
  funext i x
  simp only [h i]

section
variable {w w' : World} {p nb sb : Nat} {ptr : Nat → Nat} {vb vs : Nat → Value} {L : Nat → Prop} {m m' : M}
/-- Another way to tell the same. -/
theorem StAt.flEq (h : StAt w p nb sb ptr vb vs L m) (h1 : m'.room = m.room) (h2 : m'.dark = m.dark) (h3 : m'.count = m.count) (h4 : m'.left = m.left) (h5 : m'.keep = m.keep) (h6 : m'.dir = m.dir) (h7 : m'.sur = m.sur) (h8 : m'.all.length = m.all.length) (h9 : ∀ i, L i → m'.fl i = m.fl i) : StAt w p nb sb ptr vb vs L m' := by
  have hneed : m'.need = m.need := by
    unfold M.need
    rw [h6]
    exact M.needL_congr fun e he => by rw [h9 e.f (h.dl e he)]
  refine ⟨?_, by rw [h6]; exact h.n, by rw [h7]; exact h.s, h.ne, by rw [h6]; exact h.dl, by rw [h7]; exact h.sl, by rw [h8]; exact h.lt, fun i hi => by rw [h9 i hi]; exact h.file i hi, h.ap⟩
  have : scell m' nb sb = scell m nb sb := by unfold scell; rw [h1, h2, h3, h4, h5, hneed]
  rw [this]
  exact h.blk
/-- Fewer files are told. -/
theorem StAt.less (h : StAt w p nb sb ptr vb vs L m) {L' : Nat → Prop} (hL : ∀ i, L' i → L i) (hd : ∀ e ∈ m.dir, L' e.f) (hs : ∀ e ∈ m.sur, L' e.f) : StAt w p nb sb ptr vb vs L' m :=
  ⟨h.blk, h.n, h.s, h.ne, hd, hs, fun i hi => h.lt i (hL i hi), fun i hi => h.file i (hL i hi), fun i j hi hj => h.ap i j (hL i hi) (hL j hj)⟩
/-- It abides the turn of what is no cells and lies beyond. -/
theorem StAt.grown {N : Nat} {row : Option Nat} (h : StAt w p nb sb ptr vb vs L m) (hn : nb < N) (hs : sb < N) (hg : w.grownBy w' row) (hr : ∀ r, row = some r → N ≤ r ∧ ∃ o : Obj, w.heap[r]? = some o ∧ o.isCells = false) : StAt w' p nb sb ptr vb vs L m := by
  refine h.same fun k hk => hg.block k (h.lts k hk) fun e => ?_
  obtain ⟨h1, o, ho, hc⟩ := hr k e.symm
  rcases hk with rfl | rfl | rfl | ⟨i, hi, hk⟩
  · rw [h.blk] at ho; cases ho; cases hc
  · omega
  · omega
  · rcases hk with rfl | hk
    · rw [(h.file i hi).blk] at ho; cases ho; cases hc
    · obtain ⟨cur, hcur⟩ := (h.file i hi).row_ty hk
      rw [hcur] at ho; cases ho; cases hc
/-- A store of which the power was lost, ahead of its files. -/
theorem StAt.dark0 {w1 : World} (h : StAt w p nb sb ptr vb vs L m) (k : Int) {nb' : Nat} (hb : w1.heap[p]? = some (.cells (scell (m.half k []) nb' sb).toArray 66 (0, 0))) (hn : DAt w1 nb' []) (hne : nb' ≠ sb) (ho : ∀ k, footS p nb sb ptr vb vs L k → k ≠ p → w1.heap[k]? = w.heap[k]?) :
    StAt w1 p nb' sb ptr vb vs (fun i => ∃ e ∈ m.sur, e.f = i) (m.half k []) := by
  have hL : ∀ i, (∃ e ∈ m.sur, e.f = i) → L i := by rintro i ⟨e, he, rfl⟩; exact h.sl e he
  refine ⟨hb, hn, h.s.same (ho sb (.inr (.inr (.inl rfl))) h.s_ne), hne, fun e he => by simp [M.half] at he, fun e he => ⟨e, he, rfl⟩, fun i hi => ?_, fun i hi => ?_, fun i j hi hj => h.ap i j (hL i hi) (hL j hj)⟩
  · show i < (failOn k [] m.all).length
    rw [failOn_length]; exact h.lt i (hL i hi)
  · rw [half_fl (h.lt i (hL i hi))]
    simp only [List.map_nil, List.not_mem_nil, if_false]
    exact (h.file i (hL i hi)).same fun k hk => ho k (.inr (.inr (.inr ⟨i, hL i hi, hk⟩))) (h.f_ne (hL i hi) hk).1
/-- One file more failed. -/
theorem StAt.failOne {k : Int} {es : List En} {e0 : En} {v : Value} (h : StAt w p nb sb ptr vb vs L (m.half k es)) (hi : L e0.f) (hlt : e0.f < m.all.length) (hn : e0.f ∉ es.map En.f) (hf : FileAt w' (ptr e0.f) v v (failF k (m.fl e0.f))) (hv : ∀ g, v.ownBlock = some g → (vb e0.f).ownBlock = some g ∨ (vs e0.f).ownBlock = some g) (mv : Moved w w' (fun k => k = ptr e0.f) (fun k => k = ptr e0.f)) :
    StAt w' p nb sb ptr (putF vb e0.f v) (putF vs e0.f v) L { m.half k es with all := failOn k (e0.f :: es.map En.f) m.all } := by
  have hset : failOn k (e0.f :: es.map En.f) m.all = (m.half k es).all.set e0.f (failF k (m.fl e0.f)) := by
    have := failOn_cons (k := k) (is := es.map En.f) hlt
    unfold M.half M.fl
    rw [getD_lt _ hlt, ← this]
  have hneed : ({ m.half k es with all := failOn k (e0.f :: es.map En.f) m.all } : M).need = (m.half k es).need := by
    refine M.needL_congr fun e he => ?_
    have hne : e.f ≠ e0.f := fun e1 => hn (by rw [← e1]; exact List.mem_map.2 ⟨e, he, rfl⟩)
    have := M.at_set (m := m.half k es) (i := e0.f) (j := e.f) (failF k (m.fl e0.f)) (by show _ < (failOn _ _ _).length; rw [failOn_length]; exact hlt)
    rw [if_neg hne] at this
    rw [← this]
    unfold M.setF M.fl
    simp only [hset]
    rfl
  have hp : ∀ k, footS p nb sb ptr vb vs L k → k ≠ ptr e0.f → w'.heap[k]? = w.heap[k]? := fun k hk hne => mv.block k (h.lts k hk) hne
  refine h.setFile hi (x := failF k (m.fl e0.f)) ?_ hf (fun k hk _ hnf => hp k hk (fun e => hnf (.inl e))) (fun g hg => .inl (.inr (hg.elim (hv g) (hv g)))) rfl rfl hset
  have : scell ({ m.half k es with all := failOn k (e0.f :: es.map En.f) m.all } : M) nb sb = scell (m.half k es) nb sb := by unfold scell; rw [hneed]
  rw [this]
  exact (hp p (.inl rfl) (fun e => (h.f_ne hi (.inl rfl)).1 e.symm)).trans h.blk
end
/-- What is told of what lay there. -/
abbrev plus (w : World) (F : Nat → Prop) (k : Nat) : Prop := F k ∨ w.heap.size ≤ k
theorem moved_plus {w W W' : World} {F G : Nat → Prop} (h : Moved w W (plus w F) (plus w F)) (k : Moved W W' G G) (hG : ∀ i, G i → plus w F i) : Moved w W' (plus w F) (plus w F) :=
  h.trans ⟨k.os, k.tape, k.output, k.size, fun i hi hn => k.block i hi (fun hg => hn (hG i hg)), fun _ h => .inl h⟩
theorem moved_grown {w W W' : World} {F : Nat → Prop} {N : Nat} {row : Option Nat} (h : Moved w W (plus w F) (plus w F)) (hN : w.heap.size ≤ N) (hg : W.grownBy W' row) (hr : ∀ r, row = some r → N ≤ r) : Moved w W' (plus w F) (plus w F) :=
  ⟨hg.os.trans h.os, hg.tape.trans h.tape, hg.output.trans h.output, Nat.le_trans h.size hg.size, fun k hk hn => (hg.block k (Nat.lt_of_lt_of_le hk h.size) (fun e => by have := hr k e.symm; omega)).trans (h.block k hk hn), fun _ h => .inl h⟩

theorem nodup_le {l l' : List En} (hn : l.Nodup) (hs : ∀ x ∈ l, x ∈ l') : l.length ≤ l'.length := by
  induction l generalizing l' with
  | nil => exact Nat.zero_le _
  | cons x r ih =>
    obtain ⟨h1, h2⟩ := List.nodup_cons.1 hn
    have hx := hs x (by simp)
    have := ih h2 (l' := l'.erase x) fun y hy => (List.mem_erase_of_ne (fun (e : y = x) => h1 (e ▸ hy))).2 (hs y (by simp [hy]))
    rw [List.length_erase_of_mem hx] at this
    have := List.length_pos_of_mem hx
    simp
    omega
theorem boxed_on {W W' : World} {b : Nat} {t : TypeId} {v : Value} {row : Option Nat} (h : Boxed W b t v) (hg : W.grownBy W' row) (hr : ∀ r, row = some r → ∃ o : Obj, W.heap[r]? = some o ∧ o.isCells = false) : Boxed W' b t v := by
  have hlt := h.lt
  unfold Boxed at h ⊢
  refine (hg.block b hlt fun e => ?_).trans h
  obtain ⟨o, ho, hc⟩ := hr b e.symm
  rw [h] at ho; cases ho; cases hc
/-- The failure under way, behind some of the names. -/
structure FailI (w : World) (p nb sb : Nat) (ptr : Nat → Nat) (vb vs : Nat → Value) (L : Nat → Prop) (m : M) (k : Int) (pre : List Pe) (W : World) (es : List En) (vb' vs' : Nat → Value) : Prop where
  pre : ents ptr es = pre
  sub : ∀ e ∈ es, e ∈ m.sur
  diff : es.Pairwise fun a b => a.name ≠ b.name
  st : StAt W p (w.heap.size + 2) sb ptr vb' vs' (fun i => ∃ e ∈ m.sur, e.f = i) (m.half k es)
  old : ∀ i g, (∃ e ∈ m.sur, e.f = i) → (vb' i).ownBlock = some g ∨ (vs' i).ownBlock = some g → (vb i).ownBlock = some g ∨ (vs i).ownBlock = some g
  b0 : Boxed W w.heap.size 28 (.pointer (some ⟨p, 0, none⟩))
  b1 : Boxed W (w.heap.size + 1) 3 (.int .i64 k)
  mv : Moved w W (plus w (footS p nb sb ptr vb vs L)) (plus w (footS p nb sb ptr vb vs L))
section
variable {w W W' : World} {p nb sb : Nat} {ptr : Nat → Nat} {vb vs vb' vs' : Nat → Value} {L : Nat → Prop} {m : M} {k : Int} {pre : List Pe} {es : List En}
theorem FailI.grown {row : Option Nat} (h : FailI w p nb sb ptr vb vs L m k pre W es vb' vs') (hsb : sb < w.heap.size) (hg : W.grownBy W' row) (hr : ∀ r, row = some r → w.heap.size + 4 ≤ r ∧ ∃ o : Obj, W.heap[r]? = some o ∧ o.isCells = false) : FailI w p nb sb ptr vb vs L m k pre W' es vb' vs' :=
  ⟨h.pre, h.sub, h.diff, h.st.grown (N := w.heap.size + 4) (by omega) (by omega) hg hr, h.old, boxed_on h.b0 hg (fun r e => (hr r e).2), boxed_on h.b1 hg (fun r e => (hr r e).2), moved_grown h.mv (N := w.heap.size + 4) (by omega) hg (fun r e => (hr r e).1)⟩
/-- One name more. -/
theorem FailI.one {w1 w2 : World} (h : FailI w p nb sb ptr vb vs L m k pre W es vb' vs') (hp : p < w.heap.size) (hsb : sb < w.heap.size) (hLL : ∀ e ∈ m.sur, L e.f) (ok : m.Ok) {e0 : En} (he : e0 ∈ m.sur) (hne : e0 ∉ es) {v : Value} (hv : ∀ g, v.ownBlock = some g → (vb' e0.f).ownBlock = some g ∨ (vs' e0.f).ownBlock = some g) (mv1 : Moved W w1 (fun k => k = ptr e0.f) (fun k => k = ptr e0.f))
    (st2 : StAt w2 p (w.heap.size + 2) sb ptr (putF vb' e0.f v) (putF vs' e0.f v) (fun i => ∃ e ∈ m.sur, e.f = i) { m.half k es with all := failOn k (e0.f :: es.map En.f) m.all, dir := ⟨e0.name, e0.f⟩ :: es }) (mv2 : Moved w1 w2 (two p (w.heap.size + 2)) (two p (w.heap.size + 2))) :
    KeepsFrom (w.heap.size + 4) W w2 ∧ KpW (w.heap.size + 4) sb W w2 ∧ FailI w p nb sb ptr vb vs L m k (pre ++ [(e0.name, ptr e0.f)]) w2 (es ++ [e0]) (putF vb' e0.f v) (putF vs' e0.f v) := by
  have hL : (∃ e ∈ m.sur, e.f = e0.f) := ⟨e0, he, rfl⟩
  have hfb := (h.st.file e0.f hL).blk
  have hnames : ∀ e ∈ es, e.name ≠ e0.name := fun e h1 e2 => hne (by rw [← ok.os.names (h.sub e h1) he e2]; exact h1)
  have same : ∀ i, i < W.heap.size → i ≠ ptr e0.f → i ≠ p → i ≠ w.heap.size + 2 → w2.heap[i]? = W.heap[i]? := fun i hi h1 h2 h3 =>
    (mv2.block i (Nat.lt_of_lt_of_le hi mv1.size) (fun e => e.elim h2 h3)).trans (mv1.block i hi h1)
  have noCells : ∀ i o, W.heap[i]? = some o → o.isCells = false → i ≠ ptr e0.f := fun i o ho hc e => by
    subst e
    rw [hfb] at ho; cases ho; cases hc
  refine ⟨⟨Nat.le_trans mv1.size mv2.size, fun i o hi ho hc => ?_⟩, ⟨Nat.le_trans mv1.size mv2.size, fun i o hi ho hw => ?_⟩, ?_, ?_, ?_, ?_, ?_, ?_, ?_, ?_⟩
  · exact (same i (Array.getElem?_eq_some_iff.1 ho).1 (noCells i o ho hc) (by omega) (by omega)).trans ho
  · have hc : o.isCells = false := by cases o <;> first | rfl | (simp [Obj.isWalk] at hw)
    refine (same i (Array.getElem?_eq_some_iff.1 ho).1 (noCells i o ho hc) ?_ ?_).trans ho
    · rcases hi with hi | rfl
      · omega
      · exact h.st.s_ne
    · rcases hi with hi | rfl <;> omega
  · rw [← h.pre]; simp [ents]
  · intro e h1
    rcases List.mem_append.1 h1 with h1 | h1
    · exact h.sub e h1
    · rw [List.mem_singleton.1 h1]; exact he
  · rw [List.pairwise_append]
    exact ⟨h.diff, List.pairwise_singleton _ _, fun a ha b hb => by rw [List.mem_singleton.1 hb]; exact hnames a ha⟩
  · have hd : (es ++ [e0]).Pairwise fun a b => a.name ≠ b.name := by
      rw [List.pairwise_append]
      exact ⟨h.diff, List.pairwise_singleton _ _, fun a ha b hb => by rw [List.mem_singleton.1 hb]; exact hnames a ha⟩
    have hdl : DL (ents ptr (es ++ [e0])) := ents_dl hd fun e h1 => by
      rcases List.mem_append.1 h1 with h1 | h1
      · exact goodN_size (ok.gs e (h.sub e h1))
      · rw [List.mem_singleton.1 h1]; exact goodN_size (ok.gs e0 he)
    have h3 := st2.perm (l := es ++ [e0]) (by
      show (⟨e0.name, e0.f⟩ :: es : List En).Perm (es ++ [e0])
      exact (List.perm_append_comm (l₁ := [e0]) (l₂ := es))) hdl
    have e : m.half k (es ++ [e0]) = ({ m.half k es with all := failOn k (e0.f :: es.map En.f) m.all, dir := es ++ [e0] } : M) := by
      unfold M.half
      simp only [M.mk.injEq, true_and, and_true]
      exact failOn_congr fun i => by simp [or_comm]
    rw [e]
    exact h3
  · intro i g hi hg
    by_cases e : i = e0.f
    · subst e
      rw [putF_at, putF_at] at hg
      exact h.old e0.f g hi (hv g (hg.elim id id))
    · rw [putF_ne _ _ e, putF_ne _ _ e] at hg
      exact h.old i g hi hg
  · refine (same _ h.b0.lt (fun e => ?_) (by omega) (by omega)).trans h.b0
    have := h.b0
    unfold Boxed at this
    rw [e, hfb] at this
    simp at this
  · refine (same _ h.b1.lt (fun e => ?_) (by omega) (by omega)).trans h.b1
    have := h.b1
    unfold Boxed at this
    rw [e, hfb] at this
    simp at this
  · refine moved_plus (moved_plus h.mv mv1 fun i e => .inl (.inr (.inr (.inr ⟨e0.f, hLL e0 he, .inl e⟩)))) mv2 fun i e => ?_
    rcases e with rfl | rfl
    · exact .inl (.inl rfl)
    · exact .inr (by omega)
/-- Behind all names. -/
theorem FailI.done (h : FailI w p nb sb ptr vb vs L m k pre W es vb' vs') (ok : m.Ok) (hp : pre.Perm (ents ptr m.sur)) (hw : StAt w p nb sb ptr vb vs L m) : ∃ F', St W p F' (m.fail k) ∧ Moved w W (footS p nb sb ptr vb vs L) F' := by
  have hnd : es.Nodup := h.diff.imp fun {a b} hne e => hne (by rw [e])
  have hnd2 : m.sur.Nodup := (ord_diff ok.os).imp fun {a b} hne e => hne (by rw [e])
  have hperm : es.Perm m.sur := by
    rw [List.perm_ext_iff_of_nodup hnd hnd2]
    refine fun e => ⟨h.sub e, fun he => ?_⟩
    have h1 : (e.name, ptr e.f) ∈ pre := hp.mem_iff.2 (List.mem_map.2 ⟨e, he, rfl⟩)
    rw [← h.pre] at h1
    obtain ⟨e', h2, h3⟩ := List.mem_map.1 h1
    have h4 : e'.name = e.name := by injection h3
    rw [← ok.os.names (h.sub e' h2) he h4]
    exact h2
  have st := h.st.perm (l := m.sur) hperm (ok.dlS ptr)
  refine ⟨_, ⟨_, _, _, _, _, _, st.flEq (m' := m.fail k) rfl rfl rfl rfl rfl rfl rfl ?_ ?_, rfl⟩, ?_⟩
  · show (m.all.map (failF k)).length = (failOn k _ m.all).length
    rw [failOn_length, List.length_map]
  · rintro i ⟨e, he, rfl⟩
    have hlt := ok.fs e he
    rw [M.at_fail hlt]
    have := half_fl (m := m) (k := k) (es := es) hlt
    rw [if_pos (List.mem_map.2 ⟨e, hperm.mem_iff.2 he, rfl⟩)] at this
    rw [← this]
    rfl
  · refine ⟨h.mv.os, h.mv.tape, h.mv.output, h.mv.size, fun i hi hn => h.mv.block i hi (fun e => e.elim hn (by omega)), ?_⟩
    rintro i (rfl | rfl | rfl | ⟨j, hj, hk⟩)
    · exact .inl (.inl rfl)
    · exact .inr (by omega)
    · exact .inl (.inr (.inr (.inl rfl)))
    · obtain ⟨e, he, rfl⟩ := hj
      refine .inl (.inr (.inr (.inr ⟨e.f, hw.sl e he, ?_⟩)))
      rcases hk with rfl | hk
      · exact .inl rfl
      · exact .inr (h.old e.f i ⟨e, he, rfl⟩ hk)
end
end Go.Proofs.YtjgdmbfkondakaaGreatDoor

/-
  Fail, by its contract.
-/
namespace Go.Proofs.YtjgdmbfkondakaaGreatDoor
open Go.RowKit Go.Maps Go.Shelf Go.Sort

attribute [local go_sem] Oper.semAt_some

set_option maxRecDepth 100000 in
set_option maxHeartbeats 8000000 in
theorem fail_in (p nb sb : Nat) (ptr : Nat → Nat) (vb vs : Nat → Value) (L : Nat → Prop) (m : M) (k : Int) (w : World) (h : StAt w p nb sb ptr vb vs L m) (ok : m.Ok) (hc : m.count ≤ 1000000) (hk : -9223372036854775808 ≤ k ∧ k < 9223372036854775808) :
    CallsIn Fence.wide 3 Tryz.prog 17 #[.pointer (some ⟨p, 0, none⟩), .int .i64 k] w fun e w' => e = .returned (.tuple #[]) ∧ ∃ F', St w' p F' (m.fail k) ∧ Moved w w' (footS p nb sb ptr vb vs L) F' := by
  have hmm := @run_makeMap Tryz.prog
  obtain ⟨W2, fold⟩ : ∃ W2, (w.alloc (.cells #[.pointer (some ⟨p, 0, none⟩)] 28)).alloc (.cells #[.int .i64 k] 3) = W2 := ⟨_, rfl⟩
  have b2 : Below w.heap.size w W2 := by rw [← fold]; exact ((Below.refl _ w).alloc (Nat.le_refl _) _).alloc (by simp) _
  have s2 : W2.heap.size = w.heap.size + 2 := by rw [← fold]; simp
  have hM := made_at (h.kept b2)
  have h2 := h.kept b2
  have hp : p < w.heap.size := h.blk_lt
  have x0 : Boxed W2 w.heap.size 28 (.pointer (some ⟨p, 0, none⟩)) := by rw [← fold]; exact (Boxed.new w 28 (.pointer (some ⟨p, 0, none⟩))).alloc _
  have x1 : Boxed W2 (w.heap.size + 1) 3 (.int .i64 k) := by
    rw [← fold]
    have := Boxed.new (w.alloc (.cells #[.pointer (some ⟨p, 0, none⟩)] 28)) 3 (.int .i64 k)
    rwa [World.size_alloc] at this
  have y0 := x0.cell
  have c1 := h2.cell 1
  have f1 := h2.frozen 1
  simp only [scell, List.getElem?_cons_succ, List.getElem?_cons_zero] at c1
  obtain ⟨W3, fold3⟩ : ∃ W3, W2.setCell ⟨p, 1, none⟩ (.bool false) = W3 := ⟨_, rfl⟩
  have o3 : ∀ i, i ≠ p → W3.heap[i]? = W2.heap[i]? := fun i hi => by rw [← fold3]; exact Below.heap_setCell _ _ _ _ hi
  have s3 : W3.heap.size = w.heap.size + 2 := by rw [← fold3]; simpa using s2
  have p3 : W3.heap[p]? = some (.cells [.int .i64 m.room, .bool false, .int .i64 (m.count : Int), .int .i64 (m.need : Int), .int .i64 m.left, .int .i64 m.keep, .map (some nb), .map (some sb)].toArray 66 (0, 0)) := by
    rw [← fold3]; exact heap_set_list (i := 1) h2.blk (.bool false)
  have z0 : W3.cell? ⟨w.heap.size, 0, none⟩ = some (.pointer (some ⟨p, 0, none⟩)) := (World.cell?_of_block (a := ⟨w.heap.size, 0, none⟩) (o3 w.heap.size (by omega))).trans y0
  have d6 : W3.cell? ⟨p, 6, none⟩ = some (.map (some nb)) := by simp [World.cell?, p3]
  have d3 : W3.cell? ⟨p, 3, none⟩ = some (.int .i64 (m.need : Int)) := by simp [World.cell?, p3]
  have g6 : W3.frozen? ⟨p, 6, none⟩ = false := by simp [World.frozen?, p3]
  have g3 : W3.frozen? ⟨p, 3, none⟩ = false := by simp [World.frozen?, p3]
  have l3 : p < W3.heap.size := by omega
  have a6 : ∀ o, (W3.alloc o).cell? ⟨p, 6, none⟩ = some (.map (some nb)) := fun o => bcell d6
  have a3 : ∀ o, (W3.alloc o).cell? ⟨p, 3, none⟩ = some (.int .i64 (m.need : Int)) := fun o => bcell d3
  have a0 : ∀ o, (W3.alloc o).cell? ⟨w.heap.size, 0, none⟩ = some (.pointer (some ⟨p, 0, none⟩)) := fun o => bcell z0
  have e6 : ∀ o i, (W3.alloc o).frozen? ⟨p, i, none⟩ = false := fun o i => (World.frozen?_of_block (a := ⟨p, i, none⟩) (Below.heap_alloc W3 o p l3)).trans (by simp [World.frozen?, p3])
  obtain ⟨W4, fold4⟩ : ∃ W4, ((W3.alloc (.map #[] 0)).setCell ⟨p, 6, none⟩ (.map (some (w.heap.size + 2)))).setCell ⟨p, 3, none⟩ (.int .i64 0) = W4 := ⟨_, rfl⟩
  have o4 : ∀ i, i ≠ p → i < w.heap.size + 2 → W4.heap[i]? = W2.heap[i]? := fun i hi hl => by
    rw [← fold4, Below.heap_setCell _ _ _ _ hi, Below.heap_setCell _ _ _ _ hi, Below.heap_alloc _ _ _ (by omega), o3 i hi]
  have s4 : W4.heap.size = w.heap.size + 3 := by rw [← fold4]; simp [s3]
  have p4 : W4.heap[p]? = some (.cells (scell (m.half k []) (w.heap.size + 2) sb).toArray 66 (0, 0)) := by
    rw [← fold4]
    exact heap_set_list (i := 3) (heap_set_list (i := 6) ((Below.heap_alloc W3 _ p l3).trans p3) (.map (some (w.heap.size + 2)))) (.int .i64 0)
  have n4 : DAt W4 (w.heap.size + 2) [] := by
    have := dAt_new W3
    rw [s3] at this
    refine this.same ?_
    rw [← fold4, Below.heap_setCell _ _ _ _ (show w.heap.size + 2 ≠ p by omega), Below.heap_setCell _ _ _ _ (show w.heap.size + 2 ≠ p by omega)]
  have q7 : W4.cell? ⟨p, 7, none⟩ = some (.map (some sb)) := by simp [World.cell?, p4, scell]
  have q0 : W4.cell? ⟨w.heap.size, 0, none⟩ = some (.pointer (some ⟨p, 0, none⟩)) := (World.cell?_of_block (a := ⟨w.heap.size, 0, none⟩) (o4 w.heap.size (by omega) (by omega))).trans y0
  have hne : ¬ p = w.heap.size := by omega
  have hne2 : ¬ w.heap.size = p := by omega
  have hmx : Tryz.prog.follows .mixedOrders = true := by kernel_rfl
  refine callsIn_of_wp_marks Tryz.func17 rfl trivial ?_ rfl
  simp only [Tryz.ntmps17, List.size_toArray, List.length_cons, List.length_nil, Nat.reduceAdd, Nat.reduceSub, Array.replicate_succ, Array.replicate_zero, List.push_toArray, List.append_toArray, List.nil_append, List.cons_append]
  gi_wp2_with (first
    | (refine ⟨trivial, ?_⟩; gi_at_call 53; refine (callsIn_wide.2 hM).mono ?_; rintro e w' ⟨rfl, rfl⟩))
  first | (gi_region_o) | fail
  gi_wp2_with (first
    | (refine ⟨trivial, ?_⟩; gi_at_call 54; refine (callsIn_wide.2 (all_any _ _)).mono ?_; rintro e w' ⟨rfl, rfl⟩))
  have hsb : sb < w.heap.size := h.s.lt
  have H0 : FailI w p nb sb ptr vb vs L m k [] (W4.alloc (.cells #[.map (some sb)] 62)).drew [] vb vs := by
    have hold : ∀ i, i < w.heap.size + 3 → (W4.alloc (.cells #[.map (some sb)] 62)).drew.heap[i]? = W4.heap[i]? := fun i hi => Below.heap_alloc W4 _ i (by omega)
    have hw : ∀ i, i ≠ p → i < w.heap.size → (W4.alloc (.cells #[.map (some sb)] 62)).drew.heap[i]? = w.heap[i]? := fun i h1 h2 => (hold i (by omega)).trans ((o4 i h1 (by omega)).trans (b2.block i h2))
    refine ⟨rfl, by simp, List.Pairwise.nil, h.dark0 k ((hold p (by omega)).trans p4) (n4.same (hold _ (by omega))) (by omega) (fun i hi hne => hw i hne (h.lts i hi)), fun i g _ hg => hg, (hold _ (by omega)).trans ((o4 _ (by omega) (by omega)).trans x0), (hold _ (by omega)).trans ((o4 _ (by omega) (by omega)).trans x1), ?_⟩
    refine ⟨?_, ?_, ?_, by simp; omega, fun i hi hn => hw i (fun e => hn (.inl (.inl e))) hi, fun _ h => .inl h⟩
    · rw [← fold4, ← fold3]; exact b2.os
    · rw [← fold4, ← fold3]; exact b2.tape
    · rw [← fold4, ← fold3]; exact b2.output
  have hBd : (W4.alloc (.cells #[.map (some sb)] 62)).drew.cell? ⟨w.heap.size + 3, 0, none⟩ = some (.map (some sb)) := by
    have : (W4.alloc (.cells #[.map (some sb)] 62)).heap[W4.heap.size]? = _ := heap_alloc_new W4 _
    rw [s4] at this
    show (W4.alloc (.cells #[.map (some sb)] 62)).cell? _ = _
    simp [World.cell?, this]
  have hs0 : (W4.alloc (.cells #[.map (some sb)] 62)).drew.heap.size = w.heap.size + 4 := by simp [s4]
  have hseq := all_seq (3 - 1) (by decide) (w.heap.size + 3) sb (ents ptr m.sur) (ok.dlS ptr) _ hBd H0.st.s
  rename_i hQ
  generalize (W4.alloc (.cells #[.map (some sb)] 62)).drew = W0 at *
  clear fold fold3 fold4 o3 o4 p3 p4 n4 q7 q0 z0 d6 d3 g6 g3 a6 a3 a0 e6 y0 c1 f1 x0 x1 h2 hM hBd b2 s2 s3 s4 l3
  refine wpIn_range_own rfl (by decide) (gf := 87) (lb := #[.pointer (some ⟨w.heap.size + 3, 0, none⟩)]) rfl trivial (enters_of Tryz.func87 (by kernel_rfl) rfl)
    (b := sb) hseq (fun _ => rfl)
    (fun pre W => ∃ es vb' vs', FailI w p nb sb ptr vb vs L m k pre W es vb' vs')
    (fun pre A B row hA hg hr => by
      obtain ⟨es, vb', vs', hi⟩ := hA
      exact ⟨es, vb', vs', hi.grown hsb hg (by rw [hs0] at hr; exact hr)⟩)
    ⟨[], vb, vs, H0⟩
    (fun x => { tmps := #[.pointer (some ⟨p, 0, none⟩), .int .i64 k, .pointer (some ⟨w.heap.size, 0, none⟩), .pointer (some ⟨w.heap.size + 1, 0, none⟩), .string x.1, .pointer (some ⟨x.2, 0, none⟩), .pointer (some ⟨p, 0, none⟩), .bool true, .bool false, .pointer (some ⟨p, 0, none⟩), .pointer (some ⟨p, 0, none⟩), .pointer (some ⟨p, 1, none⟩), .pointer (some ⟨p, 0, none⟩), .pointer (some ⟨p, 0, none⟩), .map (some (w.heap.size + 2)), .pointer (some ⟨p, 0, none⟩), .pointer (some ⟨p, 6, none⟩), .pointer (some ⟨p, 0, none⟩), .pointer (some ⟨p, 3, none⟩), .pointer (some ⟨p, 0, none⟩), .pointer (some ⟨p, 0, none⟩), .pointer (some ⟨p, 7, none⟩), .map (some sb), .func (.func 87) #[] #[.pointer (some ⟨w.heap.size + 3, 0, none⟩)], .string x.1, .pointer (some ⟨x.2, 0, none⟩), undef, undef, undef, undef, undef, undef, undef], defers := [] }) ?assign ?body ?done
  case assign =>
    intro l x W K hK
    gi_wp2
    exact hK
  case body =>
    rintro l pre ⟨nm, q⟩ W ⟨es, vb', vs', hi⟩ ⟨hx, hnp⟩
    obtain ⟨e0, he, hxe⟩ := List.mem_map.1 hx
    simp only [Prod.mk.injEq] at hxe
    obtain ⟨rfl, rfl⟩ := hxe
    have hne : e0 ∉ es := fun h1 => hnp (by rw [← hi.pre]; exact List.mem_map.2 ⟨e0, h1, rfl⟩)
    have hL : (∃ e ∈ m.sur, e.f = e0.f) := ⟨e0, he, rfl⟩
    have hlt := ok.fs e0 he
    have hni : e0.f ∉ es.map En.f := fun h1 => by
      obtain ⟨e', h2, h3⟩ := List.mem_map.1 h1
      exact hne (by rw [← M.pw_one ok.ns (hi.sub e' h2) he h3]; exact h2)
    have hfl : (m.half k es).fl e0.f = m.fl e0.f := by rw [half_fl hlt, if_neg hni]
    have hfile := hi.st.file e0.f hL
    rw [hfl] at hfile
    have hFF := ffail_at (ptr e0.f) _ _ (m.fl e0.f) k W hfile (ok.fl e0.f).1 (ok.fl e0.f).2 hk
    have hnd : es.Nodup := hi.diff.imp fun {a b} hne e => hne (by rw [e])
    have hlen : es.length ≤ 1000000 := by have := nodup_le hnd hi.sub; have := ok.ls; omega
    have y0 := hi.b0.cell
    have y1 := hi.b1.cell
    have HL : Hid (∀ w1 v, FileAt w1 (ptr e0.f) v v (failF k (m.fl e0.f)) → (∀ g, v.ownBlock = some g → (vb' e0.f).ownBlock = some g ∨ (vs' e0.f).ownBlock = some g) → Moved W w1 (fun k => k = ptr e0.f) (fun k => k = ptr e0.f) →
        w1.cell? ⟨w.heap.size, 0, none⟩ = some (.pointer (some ⟨p, 0, none⟩)) ∧
        Calls Tryz.prog 56 #[.pointer (some ⟨p, 0, none⟩), .string e0.name, .pointer (some ⟨ptr e0.f, 0, none⟩)] w1 fun e w2 => e = .returned (.tuple #[]) ∧ KeepsFrom (w.heap.size + 4) W w2 ∧ KpW (w.heap.size + 4) sb W w2 ∧ ∃ es vb' vs', FailI w p nb sb ptr vb vs L m k (pre ++ [(e0.name, ptr e0.f)]) w2 es vb' vs') := fun w1 v hf hv mv1 => by
      have st1 := hi.st.failOne hL hlt hni hf hv mv1
      have hfb := hfile.blk
      have hneed : ({ m.half k es with all := failOn k (e0.f :: es.map En.f) m.all } : M).need ≤ 1073741840000000 := by
        have hb : ∀ i, (({ m.half k es with all := failOn k (e0.f :: es.map En.f) m.all } : M).fl i).now.length ≤ 1073741824 := fun i => by
          unfold M.fl
          by_cases h9 : i < m.all.length
          · simp only
            rw [getD_lt _ (by rw [failOn_length]; exact h9)]
            have := ok.small _ (List.getElem_mem h9)
            simp only [failOn, List.getElem_mapIdx]
            split
            · exact leftF_length this.1 this.2
            · exact this.1
          · simp only
            rw [List.getD_eq_getElem?_getD, List.getElem?_eq_none (by rw [failOn_length]; omega)]; simp [zeroFl]
        have := M.sum_le (l := es.map fun e => 16 + (({ m.half k es with all := failOn k (e0.f :: es.map En.f) m.all } : M).fl e.f).now.length) (b := 1073741840) (by
          intro x hx
          obtain ⟨e, _, rfl⟩ := List.mem_map.1 hx
          have := hb e.f
          omega)
        rw [List.length_map] at this
        show (es.map _).sum ≤ _
        have h5 : es.length * 1073741840 ≤ 1000000 * 1073741840 := Nat.mul_le_mul_right _ hlen
        omega
      refine ⟨?_, (lay_at st1 (i := e0.f) hL e0.name (by have := goodN_size (ok.gs e0 he); unfold maxLen; omega) (fun e h1 e2 => hne (by rw [← ok.os.names (hi.sub e h1) he e2]; exact h1)) (ents_dl hi.diff fun e h1 => goodN_size (ok.gs e (hi.sub e h1))) hlen hneed ?_).mono ?_⟩
      · refine (World.cell?_of_block (a := ⟨w.heap.size, 0, none⟩) (mv1.block _ hi.b0.lt fun e => ?_)).trans y0
        have h0 := hi.b0
        unfold Boxed at h0
        have e' : w.heap.size = ptr e0.f := e
        rw [e', hfb] at h0
        simp at h0
      · have := (st1.file e0.f hL).b
        unfold M.fl
        simp only
        rw [getD_lt _ (by rw [failOn_length]; exact hlt)]
        have := ok.small _ (List.getElem_mem hlt)
        simp only [failOn, List.getElem_mapIdx]
        split
        · exact leftF_length this.1 this.2
        · exact this.1
      · rintro e w2 ⟨rfl, st2, mv2⟩
        obtain ⟨r1, r2, r3⟩ := hi.one hp hsb (fun e he => h.sl e he) ok he hne hv mv1 st2 mv2
        exact ⟨rfl, r1, r2, _, _, _, r3⟩
    clear hi hfile hfl hni hnd hlen hx hnp hne hL hlt he hseq H0
    rw [hs0]
    clear hs0
    gi_wp2_with (first
      | (refine ⟨trivial, ?_⟩; gi_at_call 55; refine (CallsIn.inRound l (callsIn_wide.2 hFF)).mono ?_; rintro e w1 ⟨rfl, v, f1, v1, m1, z1⟩; obtain ⟨u0, hLay⟩ := HL.out w1 v f1 v1 m1; clear f1 v1 m1 z1)
      | (refine ⟨trivial, ?_⟩; gi_at_call 56; refine (CallsIn.inRound l (callsIn_wide.2 hLay)).mono ?_; rintro e w2 ⟨rfl, r1, r2, r3⟩))
    all_goals exact ⟨rfl, r1, r2, r3⟩
  case done =>
    rintro D xs W hD hperm ⟨es, vb', vs', hi⟩ hK
    rw [hs0] at hD
    have hi2 := hi.grown hsb (grownBy_putObj' W D (.deferred none)) (fun r e => by cases e; exact ⟨hD, _, hK, rfl⟩)
    have HE : Hid _ := hi2.done ok hperm h
    clear hi hi2 hseq H0
    gi_wp2
    refine ⟨by simp, .inl ⟨_, _, rfl, run_takeDeferred hK, ?_⟩⟩
    exact ⟨_, results_none rfl _ _ _, rfl, HE.out⟩
theorem fail_at {p nb sb : Nat} {ptr : Nat → Nat} {vb vs : Nat → Value} {L : Nat → Prop} {m : M} {w : World} (h : StAt w p nb sb ptr vb vs L m) (ok : m.Ok) (hc : m.count ≤ 1000000) (k : Int) (hk : -9223372036854775808 ≤ k ∧ k < 9223372036854775808) :
    Calls Tryz.prog 17 #[.pointer (some ⟨p, 0, none⟩), .int .i64 k] w fun e w' => e = .returned (.tuple #[]) ∧ ∃ F', St w' p F' (m.fail k) ∧ Moved w w' (footS p nb sb ptr vb vs L) F' :=
  callsIn_wide.1 (fail_in p nb sb ptr vb vs L m k w h ok hc hk)
end Go.Proofs.YtjgdmbfkondakaaGreatDoor

/-
  do, by its contract.
-/
namespace Go.Proofs.YtjgdmbfkondakaaGreatDoor
open Go.RowKit Go.Maps

section
variable {w : World} {p nb sb : Nat} {ptr : Nat → Nat} {vb vs : Nat → Value} {L : Nat → Prop} {m : M}
theorem moved_turn {W : World} (ho : ∀ k, k ≠ p → W.heap[k]? = w.heap[k]?) (h1 : W.os = w.os) (h2 : W.tape = w.tape) (h3 : W.output = w.output) (hs : W.heap.size = w.heap.size) : Moved w W (footS p nb sb ptr vb vs L) (footS p nb sb ptr vb vs L) :=
  ⟨h1, h2, h3, Nat.le_of_eq hs.symm, fun k _ hn => ho k (fun e => hn (.inl e)), fun _ h => .inl h⟩
theorem step_go {m : M} {g : M → M} (h : m.left ≠ 1) : m.step g = (0, g m.tick) := by unfold M.step; rw [if_neg h]
theorem step_dark {m : M} {g : M → M} (h : m.left = 1) : m.step g = (9, m.tick.fail m.keep) := by unfold M.step; rw [if_pos h]

set_option maxRecDepth 20000 in
set_option maxHeartbeats 4000000 in
theorem do_at (h : StAt w p nb sb ptr vb vs L m) (ok : m.Ok) (hc : m.count ≤ 900000) (f : Nat) (caps : Array Value) (ef : ∀ args w, (callFunc f args).run Tryz.prog w = .ok (.enter f args) w) (g : M → M)
    (hcl : ∀ W, StAt W p nb sb ptr vb vs L m.tick → (∀ k, k ≠ p → W.heap[k]? = w.heap[k]?) → W.heap.size = w.heap.size → Calls Tryz.prog f caps W fun e w' => e = .returned (.tuple #[]) ∧ ∃ F', St w' p F' (g m.tick) ∧ Moved W w' (footS p nb sb ptr vb vs L) F') :
    Calls Tryz.prog 65 #[.pointer (some ⟨p, 0, none⟩), .func (.func f) #[] caps] w fun e w' => e = .returned (.int .i64 (m.step g).1) ∧ ∃ F', St w' p F' (m.step g).2 ∧ Moved w w' (footS p nb sb ptr vb vs L) F' := by
  obtain ⟨_, _, c2, _, c4, c5, _, _⟩ := h.cells
  have f2 := h.frozen 2
  obtain ⟨cn, hcn⟩ : ∃ cn : Int, cn = ((m.count + 1 : Nat) : Int) := ⟨_, rfl⟩
  have hw2 : IntKind.i64.wrap ((m.count : Int) + 1) = cn := by rw [IntKind.wrap_i64]; omega
  obtain ⟨W1, fold1⟩ : ∃ W1, w.setCell ⟨p, 2, none⟩ (.int .i64 cn) = W1 := ⟨_, rfl⟩
  have p1 : W1.heap[p]? = some (.cells [.int .i64 m.room, .bool (!m.dark), .int .i64 ((m.count + 1 : Nat) : Int), .int .i64 (m.need : Int), .int .i64 m.left, .int .i64 m.keep, .map (some nb), .map (some sb)].toArray 66 (0, 0)) := by
    rw [← fold1, ← hcn]; exact heap_set_list (i := 2) h.blk (.int .i64 cn)
  have o1 : ∀ k, k ≠ p → W1.heap[k]? = w.heap[k]? := fun k hk => by rw [← fold1]; exact Below.heap_setCell _ _ _ _ hk
  have s1 : W1.heap.size = w.heap.size := by rw [← fold1]; simp
  have d4 : W1.cell? ⟨p, 4, none⟩ = some (.int .i64 m.left) := by simp [World.cell?, p1]
  have hkp := ok.kp
  have l0 := ok.left0
  have l1 := ok.left1
  by_cases hl : 0 < m.left
  · have hl' : (0 : Int) < m.left := hl
    obtain ⟨lf, hlf⟩ : ∃ lf : Int, lf = m.left - 1 := ⟨_, rfl⟩
    have hw4 : IntKind.i64.wrap (m.left - 1) = lf := by rw [IntKind.wrap_i64]; omega
    have g4 : W1.frozen? ⟨p, 4, none⟩ = false := by simp [World.frozen?, p1]
    obtain ⟨W2, fold2⟩ : ∃ W2, W1.setCell ⟨p, 4, none⟩ (.int .i64 lf) = W2 := ⟨_, rfl⟩
    have ht : scell m.tick nb sb = [.int .i64 m.room, .bool (!m.dark), .int .i64 ((m.count + 1 : Nat) : Int), .int .i64 (m.need : Int), .int .i64 (m.left - 1), .int .i64 m.keep, .map (some nb), .map (some sb)] := by
      have : m.tick.left = m.left - 1 := by unfold M.tick M.less; rw [if_pos hl]
      unfold scell
      rw [this]
      rfl
    have p2 : W2.heap[p]? = some (.cells (scell m.tick nb sb).toArray 66 (0, 0)) := by
      rw [← fold2, ht, ← hlf]; exact heap_set_list (i := 4) p1 (.int .i64 lf)
    have o2 : ∀ k, k ≠ p → W2.heap[k]? = w.heap[k]? := fun k hk => by rw [← fold2, Below.heap_setCell _ _ _ _ hk]; exact o1 k hk
    have s2 : W2.heap.size = w.heap.size := by rw [← fold2]; simpa using s1
    have e4 : W2.cell? ⟨p, 4, none⟩ = some (.int .i64 lf) := by rw [hlf]; simp [World.cell?, p2, ht]
    have e5 : W2.cell? ⟨p, 5, none⟩ = some (.int .i64 m.keep) := by simp [World.cell?, p2, ht]
    have st2 : StAt W2 p nb sb ptr vb vs L m.tick := h.turn p2 o2 rfl rfl rfl
    have mv2 : Moved w W2 (footS p nb sb ptr vb vs L) (footS p nb sb ptr vb vs L) := moved_turn o2 (by rw [← fold2, ← fold1]; rfl) (by rw [← fold2, ← fold1]; rfl) (by rw [← fold2, ← fold1]; rfl) s2
    by_cases hz : m.left = 1
    · rw [step_dark hz]
      have hF := fail_at st2 ok.tick (by show m.count + 1 ≤ _; omega) m.keep hkp
      have HM : Hid (∀ w' F', Moved W2 w' (footS p nb sb ptr vb vs L) F' → Moved w w' (footS p nb sb ptr vb vs L) F') := fun w' F' k => mv2.trans k
      have hz' : (lf == 0) = true := by rw [hlf, hz]; rfl
      clear hcl h p1 p2 o1 o2 s1 s2 st2 mv2 ht ok hlf hcn hz
      go_enter Tryz.func65, Tryz.ntmps65
      go_wp2_with (first | (go_at_call 17; refine hF.mono ?_; rintro e w' ⟨rfl, F', s', m'⟩))
      go_ret
      exact ⟨rfl, F', s', HM.out _ _ m'⟩
    · rw [step_go hz]
      have hC := hcl W2 st2 o2 s2
      have HM : Hid (∀ w' F', Moved W2 w' (footS p nb sb ptr vb vs L) F' → Moved w w' (footS p nb sb ptr vb vs L) F') := fun w' F' k => mv2.trans k
      have hz2 : ¬ lf = 0 := by omega
      clear hcl h p1 p2 o1 o2 s1 s2 st2 mv2 ht ok hz hlf hcn
      go_enter Tryz.func65, Tryz.ntmps65
      go_wp2_with (first | (go_at_fn f; refine hC.mono ?_; rintro e w' ⟨rfl, F', s', m'⟩))
      go_ret
      exact ⟨rfl, F', s', HM.out _ _ m'⟩
  · have hz : m.left ≠ 1 := by omega
    rw [step_go hz]
    have ht : scell m.tick nb sb = [.int .i64 m.room, .bool (!m.dark), .int .i64 ((m.count + 1 : Nat) : Int), .int .i64 (m.need : Int), .int .i64 m.left, .int .i64 m.keep, .map (some nb), .map (some sb)] := by
      have : m.tick.left = m.left := by unfold M.tick M.less; rw [if_neg hl]
      unfold scell
      rw [this]
      rfl
    have st1 : StAt W1 p nb sb ptr vb vs L m.tick := h.turn (by rw [ht]; exact p1) o1 rfl rfl rfl
    have mv1 : Moved w W1 (footS p nb sb ptr vb vs L) (footS p nb sb ptr vb vs L) := moved_turn o1 (by rw [← fold1]; rfl) (by rw [← fold1]; rfl) (by rw [← fold1]; rfl) s1
    have hC := hcl W1 st1 o1 s1
    have HM : Hid (∀ w' F', Moved W1 w' (footS p nb sb ptr vb vs L) F' → Moved w w' (footS p nb sb ptr vb vs L) F') := fun w' F' k => mv1.trans k
    have hl' : ¬ (0 : Int) < m.left := hl
    clear hcl h p1 o1 s1 st1 mv1 ht ok hz hcn
    go_enter Tryz.func65, Tryz.ntmps65
    go_wp2_with (first | (go_at_fn f; refine hC.mono ?_; rintro e w' ⟨rfl, F', s', m'⟩))
    go_ret
    exact ⟨rfl, F', s', HM.out _ _ m'⟩
end
end Go.Proofs.YtjgdmbfkondakaaGreatDoor

/-
  New, Make, by their contracts.
-/
namespace Go.Proofs.YtjgdmbfkondakaaGreatDoor
open Go.RowKit Go.Maps

theorem box_cell {w w' : World} {b : Nat} {v : Value} (h : w.cell? ⟨b, 0, none⟩ = some v) (hs : w'.heap[b]? = w.heap[b]?) : w'.cell? ⟨b, 0, none⟩ = some v := (World.cell?_of_block (a := ⟨b, 0, none⟩) hs).trans h
theorem cell_on {w w' : World} {b i : Nat} {v : Value} (hb : Below w.heap.size w w') (h : w.cell? ⟨b, i, none⟩ = some v) : w'.cell? ⟨b, i, none⟩ = some v := (hb.cell (p := ⟨b, i, none⟩) (World.block_lt_of_cell? _ _ h)).trans h
theorem cell_new (w : World) (v : Value) (t : TypeId) : (w.alloc (.cells #[v] t)).cell? ⟨w.heap.size, 0, none⟩ = some v := by
  have := heap_alloc_new w (.cells #[v] t)
  simp only [World.cell?]
  rw [this]
  rfl
theorem below_draws (n : Nat) (w : World) (k : Nat) : Below n w (w.drewN k) := ⟨rfl, rfl, rfl, Nat.le_refl _, fun _ _ => rfl⟩
section
variable {w : World} {p nb sb : Nat} {ptr : Nat → Nat} {vb vs : Nat → Value} {L : Nat → Prop} {m : M}
/-- A file more, of no name yet. -/
theorem StAt.newFile (h : StAt w p nb sb ptr vb vs L m) : StAt (w.alloc (.cells #[.slice none 0 0, .slice none 0 0] 91)) p nb sb (putF ptr m.all.length w.heap.size) (putF vb m.all.length (.slice none 0 0)) (putF vs m.all.length (.slice none 0 0)) (fun j => L j ∨ j = m.all.length) { m with all := m.all ++ [zeroFl] } := by
  have bel : Below w.heap.size w (w.alloc (.cells #[.slice none 0 0, .slice none 0 0] 91)) := (Below.refl _ _).alloc (Nat.le_refl _) _
  have h' := h.kept bel
  have hne : ∀ i, L i → i ≠ m.all.length := fun i hi e => by have := h.lt i hi; omega
  have hfl : ∀ i, ({ m with all := m.all ++ [zeroFl] } : M).fl i = m.fl i := fun i => M.at_add (n := ⟨#[]⟩)
  have hpt : ∀ l : List En, (∀ e ∈ l, L e.f) → ents (putF ptr m.all.length w.heap.size) l = ents ptr l := fun l hl => ents_congr fun e he => putF_ne _ _ (hne e.f (hl e he))
  have hneed : ({ m with all := m.all ++ [zeroFl] } : M).need = m.need := M.needL_congr fun e _ => by rw [hfl]
  refine ⟨?_, ?_, ?_, h.ne, fun e he => .inl (h.dl e he), fun e he => .inl (h.sl e he), fun i hi => ?_, fun i hi => ?_, fun i j hi hj hij k hk hk2 => ?_⟩
  · have : scell ({ m with all := m.all ++ [zeroFl] } : M) nb sb = scell m nb sb := by unfold scell; rw [hneed]
    rw [this]; exact h'.blk
  · show DAt _ nb (ents _ m.dir)
    rw [hpt m.dir h.dl]; exact h'.n
  · show DAt _ sb (ents _ m.sur)
    rw [hpt m.sur h.sl]; exact h'.s
  · show i < (m.all ++ [zeroFl]).length
    simp only [List.length_append, List.length_cons, List.length_nil]
    rcases hi with hi | rfl
    · have := h.lt i hi; omega
    · omega
  · rw [hfl]
    rcases hi with hi | rfl
    · rw [putF_ne _ _ (hne i hi), putF_ne _ _ (hne i hi), putF_ne _ _ (hne i hi)]
      exact h'.file i hi
    · rw [putF_at, putF_at, putF_at]
      have : m.fl m.all.length = zeroFl := by unfold M.fl; rw [List.getD_eq_getElem?_getD, List.getElem?_eq_none (Nat.le_refl _)]; rfl
      rw [this]
      exact ⟨heap_alloc_new w _, buf_nil _, buf_nil _, fun g hg => by simp [Value.ownBlock] at hg⟩
  · have hn : ∀ x, footF (putF ptr m.all.length w.heap.size m.all.length) (putF vb m.all.length (.slice none 0 0) m.all.length) (putF vs m.all.length (.slice none 0 0) m.all.length) x → x = w.heap.size := by
      intro x hx
      rw [putF_at, putF_at, putF_at] at hx
      rcases hx with hx | hx | hx
      · exact hx
      · simp [Value.ownBlock] at hx
      · simp [Value.ownBlock] at hx
    rcases hi with hi | rfl
    · rw [putF_ne _ _ (hne i hi), putF_ne _ _ (hne i hi), putF_ne _ _ (hne i hi)] at hk
      rcases hj with hj | rfl
      · rw [putF_ne _ _ (hne j hj), putF_ne _ _ (hne j hj), putF_ne _ _ (hne j hj)] at hk2
        exact h.ap i j hi hj hij k hk hk2
      · have := (h.file i hi).lts k hk
        have := hn k hk2
        omega
    · rcases hj with hj | rfl
      · rw [putF_ne _ _ (hne j hj), putF_ne _ _ (hne j hj), putF_ne _ _ (hne j hj)] at hk2
        have := (h.file j hj).lts k hk2
        have := hn k hk
        omega
      · exact hij rfl
theorem foot_new (h : StAt w p nb sb ptr vb vs L m) : ∀ k, footS p nb sb (putF ptr m.all.length w.heap.size) (putF vb m.all.length (.slice none 0 0)) (putF vs m.all.length (.slice none 0 0)) (fun j => L j ∨ j = m.all.length) k → footS p nb sb ptr vb vs L k ∨ w.heap.size ≤ k := by
  rintro k (rfl | rfl | rfl | ⟨i, hi, hk⟩)
  · exact .inl (.inl rfl)
  · exact .inl (.inr (.inl rfl))
  · exact .inl (.inr (.inr (.inl rfl)))
  · rcases hi with hi | rfl
    · have hne : i ≠ m.all.length := by have := h.lt i hi; omega
      rw [putF_ne _ _ hne, putF_ne _ _ hne, putF_ne _ _ hne] at hk
      exact .inl (.inr (.inr (.inr ⟨i, hi, hk⟩)))
    · rw [putF_at, putF_at, putF_at] at hk
      rcases hk with rfl | hk | hk
      · exact .inr (Nat.le_refl _)
      · simp [Value.ownBlock] at hk
      · simp [Value.ownBlock] at hk

set_option maxRecDepth 20000 in
set_option maxHeartbeats 2000000 in
theorem make1_at (h : StAt w p nb sb ptr vb vs L m) (ok : m.Ok) (hc : m.count ≤ 1000000) (n : ByteArray) (hg : goodN n = true) (hf : findE m.dir n = none) (Bs Bn : Nat) (cs : w.cell? ⟨Bs, 0, none⟩ = some (.pointer (some ⟨p, 0, none⟩))) (cn : w.cell? ⟨Bn, 0, none⟩ = some (.string n)) :
    Calls Tryz.prog 82 #[.pointer (some ⟨Bs, 0, none⟩), .pointer (some ⟨Bn, 0, none⟩)] w fun e w' => e = .returned (.tuple #[]) ∧ ∃ F', St w' p F' (M.add n m) ∧ Moved w w' (footS p nb sb ptr vb vs L) F' := by
  have hs : n.size ≤ maxLen := by have := goodN_size hg; unfold maxLen; omega
  obtain ⟨W, fold⟩ : ∃ W, w.alloc (.cells #[.slice none 0 0, .slice none 0 0] 91) = W := ⟨_, rfl⟩
  have bW : Below w.heap.size w W := by rw [← fold]; exact (Below.refl _ _).alloc (Nat.le_refl _) _
  have st := h.newFile
  rw [fold] at st
  have hfn := foot_new h
  have hneed : ({ m with all := m.all ++ [zeroFl] } : M).need = m.need := M.needL_congr fun e _ => by rw [show ({ m with all := m.all ++ [zeroFl] } : M).fl e.f = m.fl e.f from M.at_add (n := ⟨#[]⟩)]
  have hlay := lay_at st (i := m.all.length) (.inr rfl) n hs (fun e he => findE_none hf e he) (ok.dlD _) (by have := ok.ld; show m.dir.length ≤ _; omega) (by rw [hneed]; exact ok.need hc) (by
    rw [show ({ m with all := m.all ++ [zeroFl] } : M).fl m.all.length = m.fl m.all.length from M.at_add (n := ⟨#[]⟩)]
    exact (ok.fl _).1)
  rw [putF_at] at hlay
  have HE : Hid (∀ w', StAt w' p nb sb (putF ptr m.all.length w.heap.size) (putF vb m.all.length (.slice none 0 0)) (putF vs m.all.length (.slice none 0 0)) (fun j => L j ∨ j = m.all.length) { m with all := m.all ++ [zeroFl], dir := ⟨n, m.all.length⟩ :: m.dir } → Moved W w' (two p nb) (two p nb) → ∃ F', St w' p F' (M.add n m) ∧ Moved w w' (footS p nb sb ptr vb vs L) F') := fun w' st' mv => by
    have hp : (⟨n, m.all.length⟩ :: m.dir : List En).Perm (putE m.dir n m.all.length) := by
      have := (putE_perm m.dir n m.all.length).symm
      rwa [M.cut_none hf] at this
    have hdl : DL (ents (putF ptr m.all.length w.heap.size) (putE m.dir n m.all.length)) := ents_dl (ord_diff (putE_ord ok.od n _)) fun e he => by
      rcases mem_putE.1 he with rfl | ⟨he, _⟩
      · exact goodN_size hg
      · exact goodN_size (ok.gd e he)
    refine ⟨_, ⟨_, _, _, _, _, _, st'.perm hp hdl, rfl⟩, ?_⟩
    have m1 : Moved w W (footS p nb sb ptr vb vs L) (footS p nb sb ptr vb vs L) := .of_below bW
    have m2 : Moved W w' (footS p nb sb ptr vb vs L) (footS p nb sb ptr vb vs L) := ⟨mv.os, mv.tape, mv.output, mv.size, fun k hk hn => mv.block k hk (fun e => hn (e.elim .inl (fun e => .inr (.inl e)))), fun _ h => .inl h⟩
    have m3 := m1.trans m2
    exact ⟨m3.os, m3.tape, m3.output, m3.size, m3.block, hfn⟩
  clear h st hfn hneed hf
  go_enter Tryz.func82, Tryz.ntmps82
  go_wp2_with (go_at_call 56; refine hlay.mono ?_; rintro e w' ⟨rfl, s', m'⟩)
  go_end0
  exact ⟨rfl, HE.out _ s' m'⟩
end
theorem St.at {w : World} {p : Nat} {F : Nat → Prop} {m : M} (h : St w p F m) : ∃ nb sb ptr vb vs L, StAt w p nb sb ptr vb vs L m ∧ F = footS p nb sb ptr vb vs L := h

set_option maxRecDepth 20000 in
set_option maxHeartbeats 4000000 in
theorem make_any (p : Nat) (F : Nat → Prop) (m : M) (n : ByteArray) (w : World) (h : St w p F m) (ok : m.Ok) (hc : m.count ≤ 900000) (hs : n.size ≤ maxLen) :
    Calls Tryz.prog 43 #[.pointer (some ⟨p, 0, none⟩), .string n] w fun e w' => e = .returned (.int .i64 (m.make n).1) ∧ ∃ F', St w' p F' (m.make n).2 ∧ Moved w w' F F' := by
  obtain ⟨nb, sb, ptr, vb, vs, L, hst, rfl⟩ := h
  obtain ⟨W1, fold1⟩ : ∃ W1, (w.alloc (.cells #[.pointer (some ⟨p, 0, none⟩)] 28)).alloc (.cells #[.string n] 9) = W1 := ⟨_, rfl⟩
  have b1 : Below w.heap.size w W1 := by rw [← fold1]; exact ((Below.refl _ w).alloc (Nat.le_refl _) _).alloc (by simp) _
  have z1 : W1.heap.size = w.heap.size + 2 := by rw [← fold1]; simp
  have x0 : W1.cell? ⟨w.heap.size, 0, none⟩ = some (.pointer (some ⟨p, 0, none⟩)) := by rw [← fold1]; exact bcell (cell_new w _ _)
  have x1 : W1.cell? ⟨w.heap.size + 1, 0, none⟩ = some (.string n) := by
    rw [← fold1]
    have := cell_new (w.alloc (.cells #[.pointer (some ⟨p, 0, none⟩)] 28)) (.string n) 9
    rwa [World.size_alloc] at this
  obtain ⟨W2, fold2⟩ : ∃ W2, W1.alloc (.cells #[.string n] 9) = W2 := ⟨_, rfl⟩
  have b2 : Below W1.heap.size W1 W2 := by rw [← fold2]; exact (Below.refl _ _).alloc (Nat.le_refl _) _
  have b02 : Below w.heap.size w W2 := b1.trans (b2.mono b1.size)
  have st2 := hst.kept b02
  have hr : Row W2 (.slice (some ⟨w.heap.size + 2, 0, none⟩) 1 1) (scells [n]) := by
    rw [← fold2, ← z1]; exact row_one W1 9 (.string n)
  have y0 := cell_on b2 x0
  have y1 := cell_on b2 x1
  have hC := check_at st2 _ [n] hr (by simpa using hs)
  rw [check_one] at hC
  have HS : Hid (∀ W, Below w.heap.size w W → ∃ F', St W p F' m ∧ Moved w W (footS p nb sb ptr vb vs L) F') := fun W hW => ⟨_, ⟨_, _, _, _, _, _, hst.kept hW, rfl⟩, .of_below hW⟩
  cases hd : m.dark with
  | true =>
    have hF : m.make n = (9, m) := by unfold M.make; rw [first_dark hd]; rfl
    rw [hF]
    rw [hd] at hC
    clear hst st2 hr hd
    go_enter Tryz.func43, Tryz.ntmps43
    go_wp2_with (go_at_call 30; refine hC.mono ?_; rintro e W2 ⟨rfl, rfl⟩)
    go_ret
    exact ⟨rfl, HS.out _ b02⟩
  | false =>
    rw [hd] at hC
    cases hg : goodN n with
    | false =>
      have hF : m.make n = (2, m) := by unfold M.make; rw [first_bad hd hg]; rfl
      rw [hF]
      rw [hg] at hC
      clear hst st2 hr hd hg
      go_enter Tryz.func43, Tryz.ntmps43
      go_wp2_with (go_at_call 30; refine hC.mono ?_; rintro e W2 ⟨rfl, rfl⟩)
      go_ret
      exact ⟨rfl, HS.out _ b02⟩
    | true =>
      rw [hg] at hC
      have hk := st2.n.look (ok.dlD ptr) hs
      rw [ents_find] at hk
      obtain ⟨_, _, _, _, _, _, c6, _⟩ := st2.cells
      cases hf : findE m.dir n with
      | some e0 =>
        have hF : m.make n = (4, m) := by unfold M.make; rw [first_free hd hg, hf]; rfl
        rw [hF]
        rw [hf] at hk
        simp only [Option.map_some, ptrO] at hk
        have hkd : ∀ j, (Instr.lookup 62 (.map (some nb)) (.string n) false).run Tryz.prog (W2.drewN j) = .ok (.pointer (some ⟨ptr e0.f, 0, none⟩)) (W2.drewN j) := fun j => by
          have := (st2.n.same (w' := W2.drewN j) rfl).look (ok.dlD ptr) hs
          rwa [ents_find, hf] at this
        have mixed : Tryz.prog.follows .mixedOrders = true := by kernel_rfl
        clear hst st2 hr hd hg hf
        go_enter Tryz.func43, Tryz.ntmps43
        go_wp2_with (go_at_call 30; refine hC.mono ?_; rintro e W2 ⟨rfl, rfl⟩)
        go_quiet (fail)
        go_wp2
        go_ret
        exact ⟨rfl, HS.out _ (b02.trans (below_draws _ _ _))⟩
      | none =>
        rw [hf] at hk
        simp only [Option.map_none, ptrO] at hk
        have hkd : ∀ j, (Instr.lookup 62 (.map (some nb)) (.string n) false).run Tryz.prog (W2.drewN j) = .ok (.pointer none) (W2.drewN j) := fun j => by
          have := (st2.n.same (w' := W2.drewN j) rfl).look (ok.dlD ptr) hs
          rwa [ents_find, hf] at this
        have mixed : Tryz.prog.follows .mixedOrders = true := by kernel_rfl
        have HF : Hid (∀ W, Below w.heap.size w W → Calls Tryz.prog 78 #[.pointer (some ⟨p, 0, none⟩), .int .i64 16] W fun e w' => e = .returned (.bool (!decide (m.room - m.need < 16))) ∧ Below W.heap.size W w') := fun W hW => fits_at (hst.kept hW) 16 (ok.need (by omega)) ok.room0 ok.room1
        by_cases hsp : m.room - m.need < 16
        · have hF : m.make n = (6, m) := by unfold M.make; rw [first_free hd hg, hf]; simp [hsp]
          rw [hF]
          rw [decide_eq_true hsp] at HF
          clear hst st2 hr hd hg hf
          go_enter Tryz.func43, Tryz.ntmps43
          go_wp2_with (go_at_call 30; refine hC.mono ?_; rintro e W2 ⟨rfl, rfl⟩)
          go_quiet (fail)
          go_wp2_with (go_at_call 78; refine (HF.out _ (b02.trans (below_draws _ _ _))).mono ?_; rintro e w4 ⟨rfl, b4⟩)
          go_ret
          exact ⟨rfl, HS.out _ ((b02.trans (below_draws _ _ _)).trans (b4.mono b02.size))⟩
        · have hF : m.make n = m.step (M.add n) := by unfold M.make; rw [first_free hd hg, hf]; simp [hsp]
          rw [hF]
          rw [decide_eq_false hsp] at HF
          have HD : Hid (∀ W, Below w.heap.size w W → W.cell? ⟨w.heap.size, 0, none⟩ = some (.pointer (some ⟨p, 0, none⟩)) → W.cell? ⟨w.heap.size + 1, 0, none⟩ = some (.string n) → Calls Tryz.prog 65 #[.pointer (some ⟨p, 0, none⟩), .func (.func 82) #[] #[.pointer (some ⟨w.heap.size, 0, none⟩), .pointer (some ⟨w.heap.size + 1, 0, none⟩)]] W fun e w' => e = .returned (.int .i64 (m.step (M.add n)).1) ∧ ∃ F', St w' p F' (m.step (M.add n)).2 ∧ Moved w w' (footS p nb sb ptr vb vs L) F') := fun W hW k0 k1 => by
            have hlt := hst.blk_lt
            refine (do_at (hst.kept hW) ok hc 82 _ (enters_of Tryz.func82 (by kernel_rfl) rfl) (M.add n) (fun V stV oV sV => make1_at stV ok.tick (by show m.count + 1 ≤ _; omega) n hg hf _ _ (box_cell k0 (oV _ (by omega))) (box_cell k1 (oV _ (by omega))))).mono ?_
            rintro e w' ⟨rfl, F', s', m'⟩
            exact ⟨rfl, F', s', (Moved.of_below hW).trans m'⟩
          clear hst st2 hr hd hg hf
          go_enter Tryz.func43, Tryz.ntmps43
          go_wp2_with (go_at_call 30; refine hC.mono ?_; rintro e W2 ⟨rfl, rfl⟩)
          go_quiet (fail)
          go_wp2_with (first
            | (go_at_call 78; refine (HF.out _ (b02.trans (below_draws _ _ _))).mono ?_; rintro e w4 ⟨rfl, b4⟩; have v0 := cell_on b4 y0; have v1 := cell_on b4 y1)
            | (go_at_call 65; refine (HD.out _ ((b02.trans (below_draws _ _ _)).trans (b4.mono b02.size)) v0 v1).mono ?_; rintro e w5 ⟨rfl, F5, s5, m5⟩))
          go_ret
          exact ⟨rfl, F5, s5, m5⟩
end Go.Proofs.YtjgdmbfkondakaaGreatDoor
