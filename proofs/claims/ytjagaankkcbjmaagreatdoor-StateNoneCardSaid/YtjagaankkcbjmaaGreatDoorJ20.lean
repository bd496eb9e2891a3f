/-
  another at messages and at edges; Link, Has, by their contracts.
-/
import Derived.Test.YtjagaankkcbjmaaGreatDoorJ19
import Derived.Test.YtjagaankkcbjmaaGreatDoorJ18
namespace Go.Proofs.YtjagaankkcbjmaaGreatDoor
open Go.RowKit

theorem msgInfo : ∃ i, Tryz.prog.info? 40 = some i ∧ i.zero = some (mv zM) ∧ i.size = 6 ∧ i.bytes = 72 := by
  have hinfo : (Tryz.prog.info? 40).map (fun i => (i.zero, i.size, i.bytes)) = some (some (mv zM), 6, 72) := by kernel_rfl
  cases h : Tryz.prog.info? 40 with
  | none => rw [h] at hinfo; simp at hinfo
  | some i =>
    rw [h] at hinfo
    simp only [Option.map_some, Option.some.injEq, Prod.mk.injEq] at hinfo
    exact ⟨i, rfl, hinfo.1, hinfo.2.1, hinfo.2.2⟩
theorem edgeInfo : ∃ i, Tryz.prog.info? 110 = some i ∧ i.zero = some (.agg #[.int .i64 0, .int .i64 0]) ∧ i.size = 2 ∧ i.bytes = 16 := by
  have hinfo : (Tryz.prog.info? 110).map (fun i => (i.zero, i.size, i.bytes)) = some (some (.agg #[.int .i64 0, .int .i64 0]), 2, 16) := by kernel_rfl
  cases h : Tryz.prog.info? 110 with
  | none => rw [h] at hinfo; simp at hinfo
  | some i =>
    rw [h] at hinfo
    simp only [Option.map_some, Option.some.injEq, Prod.mk.injEq] at hinfo
    exact ⟨i, rfl, hinfo.1, hinfo.2.1, hinfo.2.2⟩
set_option maxRecDepth 20000 in
theorem anotherM_any (v : Value) (l : List Ms) (w : World) (hr : K.RowOf mcells w v l) (hlen : l.length ≤ 1000000) :
    Calls Tryz.prog 75 #[v] w fun e w' => ∃ v', e = .returned v' ∧ OwnM w' w.heap.size v' l ∧ Below w.heap.size w w' := by
  obtain ⟨a, cap, rfl⟩ := hr.slice
  obtain ⟨i, hi, hz, hsz, hby⟩ := msgInfo
  go_enter Tryz.func75, Tryz.ntmps75
  go_wp2_with (at_builtin; refine K.wpList_append_rows (enc := mcells) rfl (.const (.slice none 0 0)) (.tmp 3) 67 rfl Tryz.underlying67 i _ 72 hi hz hsz hby rfl w.heap.size (.slice none 0 0) _ [] l rfl rfl (K.ownOf_nil _ _) hr (by unfold maxLen; simp; omega) (by simp; omega) (Nat.le_refl _) ?_; intro v' w' own' grown' _; obtain ⟨va, vc, hva⟩ := own'.rng.slice; subst hva)
  all_goals go_ret
  all_goals exact ⟨_, rfl, own', ⟨grown'.os, grown'.tape, grown'.output, grown'.size, fun k hk => grown'.block k hk (by simp [Value.ownBlock])⟩⟩
set_option maxRecDepth 20000 in
theorem anotherE_any (v : Value) (l : List (Int × Int)) (w : World) (hr : K.RowOf O.ecells w v l) (hlen : l.length ≤ 1000000) :
    Calls Tryz.prog 33 #[v] w fun e w' => ∃ v', e = .returned v' ∧ OwnE w' w.heap.size v' l ∧ Below w.heap.size w w' := by
  obtain ⟨a, cap, rfl⟩ := hr.slice
  obtain ⟨i, hi, hz, hsz, hby⟩ := edgeInfo
  go_enter Tryz.func33, Tryz.ntmps33
  go_wp2_with (at_builtin; refine K.wpList_append_rows (enc := O.ecells) rfl (.const (.slice none 0 0)) (.tmp 3) 22 rfl Tryz.underlying22 i _ 16 hi hz hsz hby rfl w.heap.size (.slice none 0 0) _ [] l rfl rfl (K.ownOf_nil _ _) hr (by unfold maxLen; simp; omega) (by simp; omega) (Nat.le_refl _) ?_; intro v' w' own' grown' _; obtain ⟨va, vc, hva⟩ := own'.rng.slice; subst hva)
  all_goals go_ret
  all_goals exact ⟨_, rfl, own', ⟨grown'.os, grown'.tape, grown'.output, grown'.size, fun k hk => grown'.block k hk (by simp [Value.ownBlock])⟩⟩
/-- What waits for a site. -/
def linkOf (lk : List (Int × List Ms)) (t : Int) : List Ms := ((lk.find? fun x => decide (x.1 = t)).map Prod.snd).getD []
/-- The lists of a state's maps are as a map's keys must be. -/
structure Sm.Fit (s : Sm) : Prop where
  names : (s.qs.map Prod.fst).Nodup
  short : ∀ x ∈ s.qs, x.1.size ≤ 20
  tos : (s.lk.map Prod.fst).Nodup
  small : ∀ x ∈ s.lk, I64 x.1
  few : ∀ x ∈ s.lk, x.2.length ≤ 1000
theorem SAt.ll {w : World} {p : Nat} {ft : Ix → Nat → Prop} {d : Ad} {s : Sm} (h : SAt w p ft d s) (ok : s.Fit) : LL d.es := by
  have hn : (d.es.map Prod.fst).Nodup := by rw [h.tos]; exact ok.tos
  refine ⟨?_, fun x hx => ?_⟩
  · have := List.pairwise_map.1 hn
    exact this.imp fun hne e => hne (int_inj e)
  · have : x.1 ∈ s.lk.map Prod.fst := by rw [← h.tos]; exact List.mem_map.2 ⟨x, hx, rfl⟩
    obtain ⟨y, hy, e⟩ := List.mem_map.1 this
    rw [← e]
    exact ok.small y hy
theorem SAt.dl {w : World} {p : Nat} {ft : Ix → Nat → Prop} {d : Ad} {s : Sm} (h : SAt w p ft d s) (ok : s.Fit) : DL d.ps := by
  have hn : (d.ps.map Prod.fst).Nodup := by rw [h.names]; exact ok.names
  refine ⟨?_, fun x hx => ?_⟩
  · have := List.pairwise_map.1 hn
    exact this.imp fun hne e => hne (str_inj e)
  · have : x.1 ∈ s.qs.map Prod.fst := by rw [← h.names]; exact List.mem_map.2 ⟨x, hx, rfl⟩
    obtain ⟨y, hy, e⟩ := List.mem_map.1 this
    rw [← e]
    have := ok.short y hy
    unfold maxLen
    omega
/-- A pair of a list by its first half. -/
theorem nodup_pair {α β : Type} {l : List (α × β)} (h : (l.map Prod.fst).Nodup) {a : α} {x y : β} (hx : (a, x) ∈ l) (hy : (a, y) ∈ l) : x = y := by
  induction l with
  | nil => cases hx
  | cons z r ih =>
    rw [List.map_cons, List.nodup_cons] at h
    rcases List.mem_cons.1 hx with e1 | m1
    · rcases List.mem_cons.1 hy with e2 | m2
      · rw [← e1] at e2; injection e2 with _ e2; exact e2.symm
      · exact absurd (List.mem_map.2 ⟨_, m2, rfl⟩) (by rw [← e1] at h; exact h.1)
    · rcases List.mem_cons.1 hy with e2 | m2
      · exact absurd (List.mem_map.2 ⟨_, m1, rfl⟩) (by rw [← e2] at h; exact h.1)
      · exact ih h.2 m1 m2
/-- The slice of what waits for a site. -/
theorem SAt.linkAt {w : World} {p : Nat} {ft : Ix → Nat → Prop} {d : Ad} {s : Sm} (h : SAt w p ft d s) (ok : s.Fit) (t : Int) : OwnM w 0 (((findL d.es t).map Prod.snd).getD (.slice none 0 0)) (linkOf s.lk t) := by
  unfold linkOf
  cases hf : s.lk.find? fun x => decide (x.1 = t) with
  | none =>
    have hn : findL d.es t = none := by
      unfold findL
      rw [List.find?_eq_none]
      intro x hx he
      have : x.1 ∈ s.lk.map Prod.fst := by rw [← h.tos]; exact List.mem_map.2 ⟨x, hx, rfl⟩
      obtain ⟨y, hy, e⟩ := List.mem_map.1 this
      have := List.find?_eq_none.1 hf y hy
      rw [e] at this
      exact this he
    rw [hn]
    exact K.ownOf_nil _ _
  | some y =>
    obtain ⟨t', l⟩ := y
    have hm := List.mem_of_find?_eq_some hf
    obtain rfl : t' = t := by simpa using List.find?_some hf
    obtain ⟨v, h1, h2, _⟩ := h.link t' l hm
    cases hg : findL d.es t' with
    | none => exact absurd rfl (findL_none hg (t', v) h1)
    | some z =>
      obtain ⟨hz, e⟩ := findL_some hg
      obtain ⟨t'', v'⟩ := z
      obtain rfl : t'' = t' := e
      obtain rfl := nodup_pair (by rw [h.tos]; exact ok.tos) h1 hz
      exact h2
theorem linkOf_few {s : Sm} (ok : s.Fit) (t : Int) : (linkOf s.lk t).length ≤ 1000 := by
  unfold linkOf
  cases hf : s.lk.find? fun x => decide (x.1 = t) with
  | none => exact Nat.zero_le _
  | some y => exact ok.few y (List.mem_of_find?_eq_some hf)
set_option maxRecDepth 20000 in
theorem link_any (p : Nat) (F : Nat → Prop) (s : Sm) (t : Int) (w : World) (h : SS w p F s) (ok : s.Fit) (ht : I64 t) :
    Calls Tryz.prog 27 #[.pointer (some ⟨p, 0, none⟩), .int .i64 t] w fun e w' => ∃ v', e = .returned v' ∧ OwnM w' w.heap.size v' (linkOf s.lk t) ∧ Below w.heap.size w w' := by
  have hM := made14_any p F s w h
  obtain ⟨ft, d, hs, _⟩ := h
  obtain ⟨c0, c1, c2, c3, c4, c5, c6, c7, c8, c9⟩ := cells10 hs.blk
  have hl := hs.lmap.look (hs.ll ok) ht
  have ho := hs.linkAt ok t
  generalize (((findL d.es t).map Prod.snd).getD (.slice none 0 0)) = v at hl ho
  have hA := anotherM_any v _ w ho.rng (Nat.le_trans (linkOf_few ok t) (by decide))
  obtain ⟨va, vc, rfl⟩ := ho.rng.slice
  clear ho hs
  generalize linkOf s.lk t = l at hl hA ⊢
  go_enter Tryz.func27, Tryz.ntmps27
  go_wp2_with fail
  refine hM.mono ?_
  rintro e w ⟨rfl, rfl⟩
  clear hM
  go_wp2_with fail
  refine hA.mono ?_
  rintro e w' ⟨v', rfl, ho, hb⟩
  obtain ⟨va', vc', rfl⟩ := ho.rng.slice
  have HE : Hid (OwnM w' w.heap.size (.slice va' l.length vc') l ∧ Below w.heap.size w w') := ⟨ho, hb⟩
  clear hA ho hb
  go_wp2
  go_ret
  exact ⟨_, rfl, HE.out⟩
end Go.Proofs.YtjagaankkcbjmaaGreatDoor

/-
  ONE PART OF A STATE IS CHANGED: the others stay.
-/
namespace Go.Proofs.YtjagaankkcbjmaaGreatDoor
open Go.RowKit

section
variable {w w' : World} {p : Nat} {ft : Ix → Nat → Prop} {d : Ad} {s : Sm} {F' : Nat → Prop}
theorem SAt.turnTable (h : SAt w p ft d s) (m : Moved w w' (ft .table) F') {tb' : B.Tb} (ht : B.T w' d.tp F' tb') : SAt w' p (upd ft .table F') d { s with tb := tb' } := by
  have ho := h.others m
  refine ⟨?_, ?_, ?_, ?_, ?_, ?_, ?_, ?_, ?_, ?_, h.names, ?_, ?_, h.tos, ?_, ?_, h.oneUpd m⟩
  · rw [ho .main (by simp) p ((h.fm p).2 rfl)]; exact h.blk
  · rw [upd_other ft F' (by simp)]; exact h.fm
  · exact h.edges.same fun g hg => ho .edges (by simp) g ((h.fe g).2 hg)
  · rw [upd_other ft F' (by simp)]; exact h.fe
  · rw [upd_same]; exact ht
  · exact h.qmap.same (ho .qmap (by simp) _ ((h.fq _).2 rfl))
  · rw [upd_other ft F' (by simp)]; exact h.fq
  · rw [upd_other ft F' (by simp)]; exact h.book.same fun k hk => ho .book (by simp) k hk
  · exact h.lmap.same (ho .lmap (by simp) _ ((h.fl _).2 rfl))
  · rw [upd_other ft F' (by simp)]; exact h.fl
  · intro n q hq
    rw [upd_other ft F' (by simp)]
    obtain ⟨b, h1, h2⟩ := h.queue n q hq
    exact ⟨b, h1, h2.same fun k hk => ho _ (by simp) k hk⟩
  · intro n hn
    rw [upd_other ft F' (by simp)]
    exact h.noq n hn
  · intro t l hl
    rw [upd_other ft F' (by simp)]
    obtain ⟨v, h1, h2, h3⟩ := h.link t l hl
    exact ⟨v, h1, h2.same fun g hg => ho (.link t) (by simp) g ((h3 g).2 hg), h3⟩
  · intro t ht
    rw [upd_other ft F' (by simp)]
    exact h.nol t ht
theorem SAt.turnBook (h : SAt w p ft d s) (m : Moved w w' (ft .book) F') {bk' : Nat → List (Nat × Nat)} (ht : S.Bk w' d.bp F' bk') : SAt w' p (upd ft .book F') d { s with bk := bk' } := by
  have ho := h.others m
  refine ⟨?_, ?_, ?_, ?_, ?_, ?_, ?_, ?_, ?_, ?_, h.names, ?_, ?_, h.tos, ?_, ?_, h.oneUpd m⟩
  · rw [ho .main (by simp) p ((h.fm p).2 rfl)]; exact h.blk
  · rw [upd_other ft F' (by simp)]; exact h.fm
  · exact h.edges.same fun g hg => ho .edges (by simp) g ((h.fe g).2 hg)
  · rw [upd_other ft F' (by simp)]; exact h.fe
  · rw [upd_other ft F' (by simp)]; exact h.table.same fun k hk => ho .table (by simp) k hk
  · exact h.qmap.same (ho .qmap (by simp) _ ((h.fq _).2 rfl))
  · rw [upd_other ft F' (by simp)]; exact h.fq
  · rw [upd_same]; exact ht
  · exact h.lmap.same (ho .lmap (by simp) _ ((h.fl _).2 rfl))
  · rw [upd_other ft F' (by simp)]; exact h.fl
  · intro n q hq
    rw [upd_other ft F' (by simp)]
    obtain ⟨b, h1, h2⟩ := h.queue n q hq
    exact ⟨b, h1, h2.same fun k hk => ho _ (by simp) k hk⟩
  · intro n hn
    rw [upd_other ft F' (by simp)]
    exact h.noq n hn
  · intro t l hl
    rw [upd_other ft F' (by simp)]
    obtain ⟨v, h1, h2, h3⟩ := h.link t l hl
    exact ⟨v, h1, h2.same fun g hg => ho (.link t) (by simp) g ((h3 g).2 hg), h3⟩
  · intro t ht
    rw [upd_other ft F' (by simp)]
    exact h.nol t ht
/-- A number of the state's own block is another. -/
theorem SAt.turnMain (h : SAt w p ft d s) (hw : ∀ k, k ≠ p → w'.heap[k]? = w.heap[k]?) {seq boots : Nat} (hb : w'.heap[p]? = some (.cells (scells14 d { s with seq := seq, boots := boots }) 96 (0, 0))) : SAt w' p ft d { s with seq := seq, boots := boots } := by
  have ho : ∀ a, a ≠ .main → ∀ k, ft a k → w'.heap[k]? = w.heap[k]? := fun a ha k hk => hw k fun e => ha (h.one a .main k hk ((h.fm k).2 e))
  refine ⟨hb, h.fm, ?_, h.fe, ?_, ?_, h.fq, ?_, ?_, h.fl, h.names, ?_, h.noq, h.tos, ?_, h.nol, h.one⟩
  · exact h.edges.same fun g hg => ho .edges (by simp) g ((h.fe g).2 hg)
  · exact h.table.same fun k hk => ho .table (by simp) k hk
  · exact h.qmap.same (ho .qmap (by simp) _ ((h.fq _).2 rfl))
  · exact h.book.same fun k hk => ho .book (by simp) k hk
  · exact h.lmap.same (ho .lmap (by simp) _ ((h.fl _).2 rfl))
  · intro n q hq
    obtain ⟨b, h1, h2⟩ := h.queue n q hq
    exact ⟨b, h1, h2.same fun k hk => ho _ (by simp) k hk⟩
  · intro t l hl
    obtain ⟨v, h1, h2, h3⟩ := h.link t l hl
    exact ⟨v, h1, h2.same fun g hg => ho (.link t) (by simp) g ((h3 g).2 hg), h3⟩
end
/-- A queue of this name is another. -/
def setQ (l : List (ByteArray × F.St)) (n : ByteArray) (q : F.St) : List (ByteArray × F.St) := l.map fun x => if x.1 = n then (x.1, q) else x
theorem setQ_names (l : List (ByteArray × F.St)) (n : ByteArray) (q : F.St) : (setQ l n q).map Prod.fst = l.map Prod.fst := by
  unfold setQ
  rw [List.map_map]
  refine List.map_congr_left fun x _ => ?_
  show (if x.1 = n then (x.1, q) else x).1 = x.1
  split <;> rfl
theorem mem_setQ {l : List (ByteArray × F.St)} {n m : ByteArray} {q r : F.St} (h : (m, r) ∈ setQ l n q) : (m = n ∧ r = q) ∨ (m ≠ n ∧ (m, r) ∈ l) := by
  unfold setQ at h
  obtain ⟨x, hx, e⟩ := List.mem_map.1 h
  by_cases hn : x.1 = n
  · rw [if_pos hn] at e
    injection e with e1 e2
    exact .inl ⟨by rw [← e1]; exact hn, e2.symm⟩
  · rw [if_neg hn] at e
    subst e
    exact .inr ⟨hn, hx⟩
section
variable {w w' : World} {p : Nat} {ft : Ix → Nat → Prop} {d : Ad} {s : Sm} {F' : Nat → Prop}
theorem SAt.turnQueue (h : SAt w p ft d s) {n : ByteArray} {b : Nat} {q' : F.St} (hb : (n, b) ∈ d.ps) (m : Moved w w' (ft (.queue n)) F') (ht : F.Q w' b F' q') : SAt w' p (upd ft (.queue n) F') d { s with qs := setQ s.qs n q' } := by
  have ho := h.others m
  refine ⟨?_, ?_, ?_, ?_, ?_, ?_, ?_, ?_, ?_, ?_, ?_, ?_, ?_, h.tos, ?_, ?_, h.oneUpd m⟩
  · rw [ho .main (by simp) p ((h.fm p).2 rfl)]; exact h.blk
  · rw [upd_other ft F' (by simp)]; exact h.fm
  · exact h.edges.same fun g hg => ho .edges (by simp) g ((h.fe g).2 hg)
  · rw [upd_other ft F' (by simp)]; exact h.fe
  · rw [upd_other ft F' (by simp)]; exact h.table.same fun k hk => ho .table (by simp) k hk
  · exact h.qmap.same (ho .qmap (by simp) _ ((h.fq _).2 rfl))
  · rw [upd_other ft F' (by simp)]; exact h.fq
  · rw [upd_other ft F' (by simp)]; exact h.book.same fun k hk => ho .book (by simp) k hk
  · exact h.lmap.same (ho .lmap (by simp) _ ((h.fl _).2 rfl))
  · rw [upd_other ft F' (by simp)]; exact h.fl
  · show d.ps.map Prod.fst = (setQ s.qs n q').map Prod.fst
    rw [setQ_names]
    exact h.names
  · intro n' q hq
    rcases mem_setQ hq with ⟨rfl, rfl⟩ | ⟨hne, hm⟩
    · rw [upd_same]
      exact ⟨b, hb, ht⟩
    · rw [upd_other ft F' (by simpa using hne)]
      obtain ⟨b', h1, h2⟩ := h.queue n' q hm
      exact ⟨b', h1, h2.same fun k hk => ho _ (by simpa using hne) k hk⟩
  · intro n' hn
    have hn' : n' ∉ s.qs.map Prod.fst := by
      have : n' ∉ (setQ s.qs n q').map Prod.fst := hn
      rwa [setQ_names] at this
    have hne : n' ≠ n := fun e => hn' (by rw [e, ← h.names]; exact List.mem_map.2 ⟨(n, b), hb, rfl⟩)
    rw [upd_other ft F' (by simpa using hne)]
    exact h.noq n' hn'
  · intro t l hl
    rw [upd_other ft F' (by simp)]
    obtain ⟨v, h1, h2, h3⟩ := h.link t l hl
    exact ⟨v, h1, h2.same fun g hg => ho (.link t) (by simp) g ((h3 g).2 hg), h3⟩
  · intro t ht
    rw [upd_other ft F' (by simp)]
    exact h.nol t ht
end
end Go.Proofs.YtjagaankkcbjmaaGreatDoor

/-
  within, bind's Good, goodBinding, GoodMessage, and the document's, by their contracts.
-/
namespace Go.Proofs.YtjagaankkcbjmaaGreatDoor
open Go.RowKit

theorem keptW {w W w' : World} (h : Below w.heap.size w W) (b : Below W.heap.size W w') : Below w.heap.size w w' := h.trans (b.mono h.size)
theorem cell_on {w w' : World} {b j : Nat} {v : Value} (hb : Below w.heap.size w w') (h : w.cell? ⟨b, j, none⟩ = some v) : w'.cell? ⟨b, j, none⟩ = some v := (hb.cell (p := ⟨b, j, none⟩) (World.block_lt_of_cell? w _ h)).trans h
theorem box_below (w : World) (o : Obj) : Below w.heap.size w (w.alloc o) := (Below.refl _ _).alloc (Nat.le_refl _) _
theorem box_cell (w : World) (cs : Array Value) (t : TypeId) (j : Nat) (v : Value) (h : cs[j]? = some v) : (w.alloc (.cells cs t)).cell? ⟨w.heap.size, j, none⟩ = some v := by
  have := heap_alloc_new w (.cells cs t)
  simp only [World.cell?]
  rw [this]
  exact h
theorem within_any (n lo hi : Int) (w : World) : Calls Tryz.prog 171 #[.int .i64 n, .int .i64 lo, .int .i64 hi] w fun e w' => e = .returned (.bool (inB n lo hi)) ∧ w' = w := by
  unfold inB
  by_cases h1 : lo ≤ n
  · have e1 : decide (lo ≤ n) = true := by simpa using h1
    go_enter Tryz.func171, Tryz.ntmps171
    go_wp2
    go_ret
    exact ⟨by rw [e1]; simp, rfl⟩
  · have e1 : decide (lo ≤ n) = false := by simpa using h1
    go_enter Tryz.func171, Tryz.ntmps171
    go_wp2
    go_ret
    exact ⟨by first | (rw [e1]; simp) | simp, rfl⟩
theorem goodX_any (n : ByteArray) (k : Int) (f : Bool) (w : World) (hn : n.size ≤ maxLen) : Calls Tryz.prog 172 #[.agg #[.string n, .int .i64 k, .bool f]] w fun e w' => e = .returned (.bool (goodX n k)) ∧ Below w.heap.size w w' := by
  have hB := box_below w (.cells #[.string n, .int .i64 k, .bool f] 34)
  have hN := name_any n (w.alloc (.cells #[.string n, .int .i64 k, .bool f] 34)) hn
  unfold goodX inB
  by_cases h1 : k = 1
  · subst h1
    go_enter Tryz.func172, Tryz.ntmps172
    go_wp2_with (go_at_call 144; refine hN.mono ?_; rintro e w2 ⟨rfl, b2⟩)
    go_ret
    exact ⟨by simp, keptW hB b2⟩
  by_cases h2 : k = 2
  · subst h2
    go_enter Tryz.func172, Tryz.ntmps172
    go_wp2_with (go_at_call 144; refine hN.mono ?_; rintro e w2 ⟨rfl, b2⟩)
    go_ret
    exact ⟨by simp, keptW hB b2⟩
  by_cases h3 : k = 3
  · subst h3
    go_enter Tryz.func172, Tryz.ntmps172
    go_wp2_with (go_at_call 144; refine hN.mono ?_; rintro e w2 ⟨rfl, b2⟩)
    go_ret
    exact ⟨by simp, keptW hB b2⟩
  have e1 : (k == 1) = false := by simpa using h1
  have e2 : (k == 2) = false := by simpa using h2
  have e3 : (k == 3) = false := by simpa using h3
  clear hN
  go_enter Tryz.func172, Tryz.ntmps172
  go_wp2
  go_ret
  refine ⟨?_, hB⟩
  have : (decide (1 ≤ k) && decide (k ≤ 3)) = false := by
    rw [Bool.and_eq_false_iff, decide_eq_false_iff_not, decide_eq_false_iff_not]
    omega
  rw [this]
  rfl
set_option maxRecDepth 20000 in
theorem goodBd_any (x q p : ByteArray) (w : World) (hx : x.size ≤ maxLen) (hq : q.size ≤ maxLen) : Calls Tryz.prog 173 #[.agg #[.string x, .string q, .string p]] w fun e w' => e = .returned (.bool (goodBd x q p)) ∧ Below w.heap.size w w' := by
  obtain ⟨W, fold⟩ : ∃ W, w.alloc (.cells #[.string x, .string q, .string p] 36) = W := ⟨_, rfl⟩
  have b0 : Below w.heap.size w W := by rw [← fold]; exact box_below w _
  have y0 : W.cell? ⟨w.heap.size, 0, none⟩ = some (.string x) := by rw [← fold]; exact box_cell w _ _ _ _ rfl
  have y1 : W.cell? ⟨w.heap.size, 1, none⟩ = some (.string q) := by rw [← fold]; exact box_cell w _ _ _ _ rfl
  have y2 : W.cell? ⟨w.heap.size, 2, none⟩ = some (.string p) := by rw [← fold]; exact box_cell w _ _ _ _ rfl
  unfold goodBd
  go_enter Tryz.func173, Tryz.ntmps173
  have hc := name_any x W hx
  go_wp2_with fail
  try rw [fold]
  refine hc.mono ?_
  rintro e V1 ⟨rfl, b1⟩
  have y0 := cell_on b1 y0
  have y1 := cell_on b1 y1
  have y2 := cell_on b1 y2
  clear hc
  cases e0 : nameB (txt x)
  · go_wp2
    go_ret
    exact ⟨by (try rw [e0]); first | rfl | simp, keptW b0 b1⟩
  have hc := name_any q V1 hq
  go_wp2_with fail
  refine hc.mono ?_
  rintro e V2 ⟨rfl, b2⟩
  have y0 := cell_on b2 y0
  have y1 := cell_on b2 y1
  have y2 := cell_on b2 y2
  clear hc
  cases e1 : nameB (txt q)
  · go_wp2
    go_ret
    exact ⟨by (try rw [e0]); (try rw [e1]); first | rfl | simp, keptW (keptW b0 b1) b2⟩
  go_wp2
  go_ret
  exact ⟨by (try rw [e0]); (try rw [e1]); first | rfl | simp, keptW (keptW b0 b1) b2⟩
set_option maxRecDepth 20000 in
theorem goodM_any (m : Ms) (w : World) (hm : m.Fits) : Calls Tryz.prog 174 #[mv m] w fun e w' => e = .returned (.bool (goodM m)) ∧ Below w.heap.size w w' := by
  obtain ⟨W, fold⟩ : ∃ W, w.alloc (.cells #[.int .i64 m.origin, .int .u64 m.seq, .int .i64 m.hop, .string m.ex, .string m.key, .string m.body] 40) = W := ⟨_, rfl⟩
  have b0 : Below w.heap.size w W := by rw [← fold]; exact box_below w _
  have y0 : W.cell? ⟨w.heap.size, 0, none⟩ = some (.int .i64 m.origin) := by rw [← fold]; exact box_cell w _ _ _ _ rfl
  have y1 : W.cell? ⟨w.heap.size, 1, none⟩ = some (.int .u64 m.seq) := by rw [← fold]; exact box_cell w _ _ _ _ rfl
  have y2 : W.cell? ⟨w.heap.size, 2, none⟩ = some (.int .i64 m.hop) := by rw [← fold]; exact box_cell w _ _ _ _ rfl
  have y3 : W.cell? ⟨w.heap.size, 3, none⟩ = some (.string m.ex) := by rw [← fold]; exact box_cell w _ _ _ _ rfl
  have y4 : W.cell? ⟨w.heap.size, 4, none⟩ = some (.string m.key) := by rw [← fold]; exact box_cell w _ _ _ _ rfl
  have y5 : W.cell? ⟨w.heap.size, 5, none⟩ = some (.string m.body) := by rw [← fold]; exact box_cell w _ _ _ _ rfl
  unfold goodM
  go_enter Tryz.func174, Tryz.ntmps174
  have hc := within_any m.origin 1 8 W
  go_wp2_with fail
  try rw [fold]
  refine hc.mono ?_
  rintro e V1 ⟨rfl, rfl⟩
  clear hc
  cases e0 : inB m.origin 1 8
  · go_wp2
    go_ret
    exact ⟨by (try rw [e0]); first | rfl | simp, b0⟩
  cases e1 : decide (1 ≤ m.seq)
  · go_wp2
    go_ret
    exact ⟨by (try rw [e0]); (try rw [e1]); first | rfl | simp, b0⟩
  have hc := within_any m.hop 0 8 V1
  go_wp2_with fail
  refine hc.mono ?_
  rintro e V3 ⟨rfl, rfl⟩
  clear hc
  cases e2 : inB m.hop 0 8
  · go_wp2
    go_ret
    exact ⟨by (try rw [e0]); (try rw [e1]); (try rw [e2]); first | rfl | simp, b0⟩
  have hc := name_any m.ex V3 hm.e
  go_wp2_with fail
  refine hc.mono ?_
  rintro e V4 ⟨rfl, b4⟩
  have y0 := cell_on b4 y0
  have y1 := cell_on b4 y1
  have y2 := cell_on b4 y2
  have y3 := cell_on b4 y3
  have y4 := cell_on b4 y4
  have y5 := cell_on b4 y5
  clear hc
  cases e3 : nameB (txt m.ex)
  · go_wp2
    go_ret
    exact ⟨by (try rw [e0]); (try rw [e1]); (try rw [e2]); (try rw [e3]); first | rfl | simp, keptW b0 b4⟩
  have hc := key_any m.key V4 hm.k
  go_wp2_with fail
  refine hc.mono ?_
  rintro e V5 ⟨rfl, b5⟩
  have y0 := cell_on b5 y0
  have y1 := cell_on b5 y1
  have y2 := cell_on b5 y2
  have y3 := cell_on b5 y3
  have y4 := cell_on b5 y4
  have y5 := cell_on b5 y5
  clear hc
  cases e4 : keyB (txt m.key)
  · go_wp2
    go_ret
    exact ⟨by (try rw [e0]); (try rw [e1]); (try rw [e2]); (try rw [e3]); (try rw [e4]); first | rfl | simp, keptW (keptW b0 b4) b5⟩
  go_wp2
  go_ret
  exact ⟨by (try rw [e0]); (try rw [e1]); (try rw [e2]); (try rw [e3]); (try rw [e4]); first | rfl | simp, keptW (keptW b0 b4) b5⟩
end Go.Proofs.YtjagaankkcbjmaaGreatDoor
