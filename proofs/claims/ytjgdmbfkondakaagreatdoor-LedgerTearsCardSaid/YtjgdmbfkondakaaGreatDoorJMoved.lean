/-
  WHAT HAS CHANGED where a thing of one's own was changed. Of no program.
-/
import Derived.Test.YtjgdmbfkondakaaGreatDoorJDirs
import Derived.Deep.QuietTactic
namespace Go.Proofs.YtjgdmbfkondakaaGreatDoor
open Go.RowKit Go.Sort

/-- Of what was there nothing but the blocks F has changed; F' are of them, or new. -/
structure Moved (w w' : World) (F F' : Nat → Prop) : Prop where
  os : w'.os = w.os
  tape : w'.tape = w.tape
  output : w'.output = w.output
  size : w.heap.size ≤ w'.heap.size
  block : ∀ k, k < w.heap.size → ¬ F k → w'.heap[k]? = w.heap[k]?
  sub : ∀ k, F' k → F k ∨ w.heap.size ≤ k
theorem Moved.refl (w : World) (F : Nat → Prop) : Moved w w F F := ⟨rfl, rfl, rfl, Nat.le_refl _, fun _ _ _ => rfl, fun _ h => .inl h⟩
theorem Moved.trans {a b c : World} {F G H : Nat → Prop} (h : Moved a b F G) (k : Moved b c G H) : Moved a c F H := by
  refine ⟨k.os.trans h.os, k.tape.trans h.tape, k.output.trans h.output, Nat.le_trans h.size k.size, fun i hi hn => ?_, fun i hi => ?_⟩
  · have h1 : ¬ G i := fun hg => (h.sub i hg).elim hn (by omega)
    exact (k.block i (Nat.lt_of_lt_of_le hi h.size) h1).trans (h.block i hi hn)
  · rcases k.sub i hi with hg | hg
    · exact h.sub i hg
    · exact .inr (Nat.le_trans h.size hg)
theorem Moved.of_below {w w' : World} {F : Nat → Prop} (h : Below w.heap.size w w') : Moved w w' F F := ⟨h.os, h.tape, h.output, h.size, fun k hk _ => h.block k hk, fun _ h => .inl h⟩
theorem Moved.weak {w w' : World} {F F' G : Nat → Prop} (h : Moved w w' F F') (hs : ∀ k, F k → G k) : Moved w w' G F' :=
  ⟨h.os, h.tape, h.output, h.size, fun k hk hn => h.block k hk (fun hf => hn (hs k hf)), fun k hk => (h.sub k hk).imp (hs k) id⟩
/-- What lies below base stays, where all that changes lies from base on. -/
theorem Moved.below {w0 w w' : World} {F F' : Nat → Prop} {base : Nat} (h : Moved w w' F F') (hF : ∀ k, F k → base ≤ k) (h0 : Below base w0 w) (hb : base ≤ w.heap.size) : Below base w0 w' :=
  h0.trans ⟨h.os, h.tape, h.output, h.size, fun k hk => h.block k (by omega) (fun hf => by have := hF k hf; omega)⟩
theorem Moved.from {w w' : World} {F F' : Nat → Prop} {base : Nat} (h : Moved w w' F F') (hF : ∀ k, F k → base ≤ k) (hb : base ≤ w.heap.size) : ∀ k, F' k → base ≤ k := fun k hk => (h.sub k hk).elim (hF k) (fun h => by omega)
theorem Moved.apart {w w' : World} {F F' G : Nat → Prop} (h : Moved w w' F F') (hG : ∀ k, G k → k < w.heap.size) (ha : ∀ k, F k → ¬ G k) : ∀ k, F' k → ¬ G k := fun k hk hg => (h.sub k hk).elim (fun hf => ha k hf hg) (fun h => by have := hG k hg; omega)

end Go.Proofs.YtjgdmbfkondakaaGreatDoor

/-
  A STORE in memory: its block, its two directories, its files.
-/
namespace Go.Proofs.YtjgdmbfkondakaaGreatDoor
open Go.RowKit Go.Maps

/-- One place of a function set. -/
def putF {α : Type} (f : Nat → α) (i : Nat) (x : α) : Nat → α := fun j => if j = i then x else f j
theorem putF_at {α : Type} (f : Nat → α) (i : Nat) (x : α) : putF f i x i = x := if_pos rfl
theorem putF_ne {α : Type} (f : Nat → α) {i j : Nat} (x : α) (h : j ≠ i) : putF f i x j = f j := if_neg h

/-- A file in memory. -/
structure FileAt (w : World) (p : Nat) (vb vs : Value) (x : Fl) : Prop where
  blk : w.heap[p]? = some (.cells #[vb, vs] 91 (0, 0))
  b : Buf w vb x.now
  s : Buf w vs x.sure
  sh : Sh vb vs x.now x.sure
def footF (p : Nat) (vb vs : Value) (k : Nat) : Prop := k = p ∨ vb.ownBlock = some k ∨ vs.ownBlock = some k
theorem FileAt.lts {w : World} {p : Nat} {vb vs : Value} {x : Fl} (h : FileAt w p vb vs x) : ∀ k, footF p vb vs k → k < w.heap.size := by
  rintro k (rfl | hk | hk)
  · exact (Array.getElem?_eq_some_iff.1 h.blk).1
  · exact h.b.lt hk
  · exact h.s.lt hk
theorem FileAt.same {w w' : World} {p : Nat} {vb vs : Value} {x : Fl} (h : FileAt w p vb vs x) (hs : ∀ k, footF p vb vs k → w'.heap[k]? = w.heap[k]?) : FileAt w' p vb vs x :=
  ⟨(hs p (.inl rfl)).trans h.blk, h.b.same fun g hg => hs g (.inr (.inl hg)), h.s.same fun g hg => hs g (.inr (.inr hg)), h.sh⟩
theorem FileAt.row_ty {w : World} {p : Nat} {vb vs : Value} {x : Fl} (h : FileAt w p vb vs x) {k : Nat} (hk : vb.ownBlock = some k ∨ vs.ownBlock = some k) : ∃ cur, w.heap[k]? = some (.cells cur 5 (0, 0)) :=
  hk.elim h.b.blk h.s.blk

def ents (ptr : Nat → Nat) (l : List En) : List Pe := l.map fun e => (e.name, ptr e.f)
theorem ents_perm {ptr : Nat → Nat} {l l' : List En} (h : l'.Perm l) : (ents ptr l').Perm (ents ptr l) := h.map _
theorem ents_congr {ptr ptr' : Nat → Nat} {l : List En} (h : ∀ e ∈ l, ptr' e.f = ptr e.f) : ents ptr' l = ents ptr l := List.map_congr_left fun e he => by rw [h e he]
theorem ents_find {ptr : Nat → Nat} (l : List En) (n : ByteArray) : (findP (ents ptr l) n).map Prod.snd = (findE l n).map fun e => ptr e.f := by
  unfold findP ents findE
  rw [List.find?_map]
  simp only [Option.map_map, Function.comp_def]
theorem ents_cut {ptr : Nat → Nat} (l : List En) (n : ByteArray) : (ents ptr l).filter (fun y => !decide (y.1 = n)) = ents ptr (cutE l n) := by
  unfold ents cutE
  rw [List.filter_map]
  rfl
theorem ents_dl {ptr : Nat → Nat} {l : List En} (ho : l.Pairwise fun a b => a.name ≠ b.name) (hg : ∀ e ∈ l, e.name.size ≤ 30) : DL (ents ptr l) := by
  refine ⟨?_, ?_⟩
  · unfold Diff ents
    rw [List.pairwise_map]
    exact ho.imp fun {a b} h e => h (str_inj e)
  · intro x hx
    obtain ⟨e, he, rfl⟩ := List.mem_map.1 hx
    have := hg e he
    show e.name.size ≤ maxLen
    unfold maxLen
    omega
theorem ord_diff {l : List En} (h : Ord cmpE l) : l.Pairwise fun a b => a.name ≠ b.name := h.imp fun {a b} hlt e => by unfold cmpE at hlt; rw [e, cmpS3.self] at hlt; omega
theorem M.Ok.dlD {m : M} (h : m.Ok) (ptr : Nat → Nat) : DL (ents ptr m.dir) := ents_dl (ord_diff h.od) fun e he => goodN_size (h.gd e he)
theorem M.Ok.dlS {m : M} (h : m.Ok) (ptr : Nat → Nat) : DL (ents ptr m.sur) := ents_dl (ord_diff h.os) fun e he => goodN_size (h.gs e he)

def scell (m : M) (nb sb : Nat) : List Value := [.int .i64 m.room, .bool (!m.dark), .int .i64 (m.count : Int), .int .i64 (m.need : Int), .int .i64 m.left, .int .i64 m.keep, .map (some nb), .map (some sb)]
/-- A store that a call made. L: the files that are told; ptr, vb, vs: where each lies. -/
structure StAt (w : World) (p nb sb : Nat) (ptr : Nat → Nat) (vb vs : Nat → Value) (L : Nat → Prop) (m : M) : Prop where
  blk : w.heap[p]? = some (.cells (scell m nb sb).toArray 66 (0, 0))
  n : DAt w nb (ents ptr m.dir)
  s : DAt w sb (ents ptr m.sur)
  ne : nb ≠ sb
  dl : ∀ e ∈ m.dir, L e.f
  sl : ∀ e ∈ m.sur, L e.f
  lt : ∀ i, L i → i < m.all.length
  file : ∀ i, L i → FileAt w (ptr i) (vb i) (vs i) (m.fl i)
  ap : ∀ i j, L i → L j → i ≠ j → ∀ k, footF (ptr i) (vb i) (vs i) k → ¬ footF (ptr j) (vb j) (vs j) k
def footS (p nb sb : Nat) (ptr : Nat → Nat) (vb vs : Nat → Value) (L : Nat → Prop) (k : Nat) : Prop := k = p ∨ k = nb ∨ k = sb ∨ ∃ i, L i ∧ footF (ptr i) (vb i) (vs i) k
def St (w : World) (p : Nat) (F : Nat → Prop) (m : M) : Prop := ∃ nb sb ptr vb vs L, StAt w p nb sb ptr vb vs L m ∧ F = footS p nb sb ptr vb vs L

section
variable {w w' : World} {p nb sb : Nat} {ptr : Nat → Nat} {vb vs : Nat → Value} {L : Nat → Prop} {m m' : M}
theorem StAt.lts (h : StAt w p nb sb ptr vb vs L m) : ∀ k, footS p nb sb ptr vb vs L k → k < w.heap.size := by
  rintro k (rfl | rfl | rfl | ⟨i, hi, hk⟩)
  · exact (Array.getElem?_eq_some_iff.1 h.blk).1
  · exact h.n.lt
  · exact h.s.lt
  · exact (h.file i hi).lts k hk
theorem St.lts {F : Nat → Prop} (h : St w p F m) : ∀ k, F k → k < w.heap.size := by
  obtain ⟨nb, sb, ptr, vb, vs, L, hs, rfl⟩ := h
  exact hs.lts
theorem StAt.same (h : StAt w p nb sb ptr vb vs L m) (hs : ∀ k, footS p nb sb ptr vb vs L k → w'.heap[k]? = w.heap[k]?) : StAt w' p nb sb ptr vb vs L m :=
  ⟨(hs p (.inl rfl)).trans h.blk, h.n.same (hs nb (.inr (.inl rfl))), h.s.same (hs sb (.inr (.inr (.inl rfl)))), h.ne, h.dl, h.sl, h.lt, fun i hi => (h.file i hi).same fun k hk => hs k (.inr (.inr (.inr ⟨i, hi, hk⟩))), h.ap⟩
theorem StAt.kept (h : StAt w p nb sb ptr vb vs L m) (hb : Below w.heap.size w w') : StAt w' p nb sb ptr vb vs L m := h.same fun k hk => hb.block k (h.lts k hk)
theorem St.same {F : Nat → Prop} (h : St w p F m) (hs : ∀ k, F k → w'.heap[k]? = w.heap[k]?) : St w' p F m := by
  obtain ⟨nb, sb, ptr, vb, vs, L, hq, rfl⟩ := h
  exact ⟨nb, sb, ptr, vb, vs, L, hq.same hs, rfl⟩
theorem St.kept {F : Nat → Prop} (h : St w p F m) (hb : Below w.heap.size w w') : St w' p F m := h.same fun k hk => hb.block k (h.lts k hk)
theorem St.beside {F G G' : Nat → Prop} (h : St w p F m) (mv : Moved w w' G G') (ha : ∀ k, G k → ¬ F k) : St w' p F m := h.same fun k hk => mv.block k (h.lts k hk) (fun hg => ha k hg hk)
theorem StAt.cell (h : StAt w p nb sb ptr vb vs L m) (i : Nat) : w.cell? ⟨p, i, none⟩ = (scell m nb sb)[i]? := by simp [World.cell?, h.blk]
theorem StAt.frozen (h : StAt w p nb sb ptr vb vs L m) (i : Nat) : w.frozen? ⟨p, i, none⟩ = false := by simp [World.frozen?, h.blk]
theorem StAt.cells (h : StAt w p nb sb ptr vb vs L m) : w.cell? ⟨p, 0, none⟩ = some (.int .i64 m.room) ∧ w.cell? ⟨p, 1, none⟩ = some (.bool (!m.dark)) ∧ w.cell? ⟨p, 2, none⟩ = some (.int .i64 (m.count : Int)) ∧ w.cell? ⟨p, 3, none⟩ = some (.int .i64 (m.need : Int)) ∧ w.cell? ⟨p, 4, none⟩ = some (.int .i64 m.left) ∧ w.cell? ⟨p, 5, none⟩ = some (.int .i64 m.keep) ∧ w.cell? ⟨p, 6, none⟩ = some (.map (some nb)) ∧ w.cell? ⟨p, 7, none⟩ = some (.map (some sb)) :=
  ⟨h.cell 0, h.cell 1, h.cell 2, h.cell 3, h.cell 4, h.cell 5, h.cell 6, h.cell 7⟩
theorem StAt.n_ne (h : StAt w p nb sb ptr vb vs L m) : nb ≠ p := by rintro rfl; exact h.n.noCells h.blk
theorem StAt.s_ne (h : StAt w p nb sb ptr vb vs L m) : sb ≠ p := by rintro rfl; exact h.s.noCells h.blk
theorem StAt.f_ne (h : StAt w p nb sb ptr vb vs L m) {i k : Nat} (hi : L i) (hk : footF (ptr i) (vb i) (vs i) k) : k ≠ p ∧ k ≠ nb ∧ k ≠ sb := by
  obtain ⟨c, t, hc, ht⟩ : ∃ c t, w.heap[k]? = some (.cells c t (0, 0)) ∧ t ≠ 66 := by
    rcases hk with rfl | hk
    · exact ⟨_, _, (h.file i hi).blk, by decide⟩
    · obtain ⟨cur, hc⟩ := (h.file i hi).row_ty hk
      exact ⟨_, _, hc, by decide⟩
  refine ⟨?_, ?_, ?_⟩
  · rintro rfl
    rw [h.blk] at hc
    simp only [Option.some.injEq, Obj.cells.injEq] at hc
    exact ht hc.2.1.symm
  · rintro rfl; exact h.n.noCells hc
  · rintro rfl; exact h.s.noCells hc
/-- A file's block is no row of bytes. -/
theorem StAt.ptr_row (h : StAt w p nb sb ptr vb vs L m) {i j : Nat} (hi : L i) (hj : L j) : (vb j).ownBlock ≠ some (ptr i) ∧ (vs j).ownBlock ≠ some (ptr i) := by
  have hb := (h.file i hi).blk
  refine ⟨fun e => ?_, fun e => ?_⟩
  · obtain ⟨cur, hc⟩ := (h.file j hj).row_ty (.inl e)
    rw [hb] at hc
    simp at hc
  · obtain ⟨cur, hc⟩ := (h.file j hj).row_ty (.inr e)
    rw [hb] at hc
    simp at hc
theorem StAt.ptr_inj (h : StAt w p nb sb ptr vb vs L m) {i j : Nat} (hi : L i) (hj : L j) (e : ptr i = ptr j) : i = j := by
  by_cases he : i = j
  · exact he
  · exact absurd (.inl e) (h.ap i j hi hj he (ptr i) (.inl rfl))

/-- The directory was changed, and the store's own cells. -/
theorem StAt.to (h : StAt w p nb sb ptr vb vs L m) (hb : w'.heap[p]? = some (.cells (scell m' nb sb).toArray 66 (0, 0))) (hn : DAt w' nb (ents ptr m'.dir)) (ho : ∀ k, footS p nb sb ptr vb vs L k → k ≠ p → k ≠ nb → w'.heap[k]? = w.heap[k]?) (hs : m'.sur = m.sur) (ha : m'.all = m.all) (hL : ∀ e ∈ m'.dir, L e.f) : StAt w' p nb sb ptr vb vs L m' := by
  refine ⟨hb, hn, ?_, h.ne, hL, by rw [hs]; exact h.sl, by rw [ha]; exact h.lt, fun i hi => ?_, h.ap⟩
  · rw [hs]
    exact h.s.same (ho sb (.inr (.inr (.inl rfl))) h.s_ne h.ne.symm)
  · have : m'.fl i = m.fl i := by unfold M.fl; rw [ha]
    rw [this]
    refine (h.file i hi).same fun k hk => ?_
    obtain ⟨k1, k2, _⟩ := h.f_ne hi hk
    exact ho k (.inr (.inr (.inr ⟨i, hi, hk⟩))) k1 k2
/-- The store's own cells were changed, and nothing else of it. -/
theorem StAt.turn (h : StAt w p nb sb ptr vb vs L m) (hb : w'.heap[p]? = some (.cells (scell m' nb sb).toArray 66 (0, 0))) (ho : ∀ k, k ≠ p → w'.heap[k]? = w.heap[k]?) (hd : m'.dir = m.dir) (hs : m'.sur = m.sur) (ha : m'.all = m.all) : StAt w' p nb sb ptr vb vs L m' :=
  h.to hb (by rw [hd]; exact h.n.same (ho nb h.n_ne)) (fun k _ hk _ => ho k hk) hs ha (by rw [hd]; exact h.dl)
/-- One file was changed, and the store's own cells. -/
theorem StAt.setFile (h : StAt w p nb sb ptr vb vs L m) {i : Nat} (hi : L i) {b' s' : Value} {x : Fl} (hb : w'.heap[p]? = some (.cells (scell m' nb sb).toArray 66 (0, 0))) (hf : FileAt w' (ptr i) b' s' x)
    (ho : ∀ k, footS p nb sb ptr vb vs L k → k ≠ p → ¬ footF (ptr i) (vb i) (vs i) k → w'.heap[k]? = w.heap[k]?) (hnew : ∀ k, b'.ownBlock = some k ∨ s'.ownBlock = some k → footF (ptr i) (vb i) (vs i) k ∨ w.heap.size ≤ k)
    (hd : m'.dir = m.dir) (hs : m'.sur = m.sur) (ha : m'.all = m.all.set i x) : StAt w' p nb sb ptr (putF vb i b') (putF vs i s') L m' := by
  have keep : ∀ k, k = nb ∨ k = sb → w'.heap[k]? = w.heap[k]? := fun k hk => by
    have e : footS p nb sb ptr vb vs L k := hk.elim (fun e => .inr (.inl e)) (fun e => .inr (.inr (.inl e)))
    refine ho k e ?_ fun hf => ?_
    · rcases hk with rfl | rfl
      · exact h.n_ne
      · exact h.s_ne
    · obtain ⟨_, h2, h3⟩ := h.f_ne hi hf
      exact hk.elim h2 h3
  have hfoot : ∀ k, footF (ptr i) b' s' k → footF (ptr i) (vb i) (vs i) k ∨ w.heap.size ≤ k := by
    rintro k (rfl | hk)
    · exact .inl (.inl rfl)
    · exact hnew k hk
  refine ⟨hb, ?_, ?_, h.ne, by rw [hd]; exact h.dl, by rw [hs]; exact h.sl, fun j hj => by rw [ha, List.length_set]; exact h.lt j hj, fun j hj => ?_, fun j l hj hl hjl k hk hk2 => ?_⟩
  · rw [hd]; exact h.n.same (keep nb (.inl rfl))
  · rw [hs]; exact h.s.same (keep sb (.inr rfl))
  · have hfl : m'.fl j = if j = i then x else m.fl j := by
      have := M.at_set (m := m) (i := i) (j := j) x (h.lt i hi)
      rw [← this]
      unfold M.fl M.setF
      rw [ha]
    by_cases e : j = i
    · subst e
      rw [putF_at, putF_at, hfl, if_pos rfl]
      exact hf
    · rw [putF_ne _ _ e, putF_ne _ _ e, hfl, if_neg e]
      refine (h.file j hj).same fun k hk => ?_
      exact ho k (.inr (.inr (.inr ⟨j, hj, hk⟩))) (h.f_ne hj hk).1 (h.ap j i hj hi e k hk)
  · by_cases e : j = i
    · subst e
      rw [putF_at, putF_at] at hk
      rw [putF_ne _ _ (fun e => hjl e.symm), putF_ne _ _ (fun e => hjl e.symm)] at hk2
      rcases hfoot k hk with h1 | h1
      · exact h.ap j l hj hl hjl k h1 hk2
      · have := (h.file l hl).lts k hk2; omega
    · rw [putF_ne _ _ e, putF_ne _ _ e] at hk
      by_cases e2 : l = i
      · subst e2
        rw [putF_at, putF_at] at hk2
        rcases hfoot k hk2 with h1 | h1
        · exact h.ap j l hj hl hjl k hk h1
        · have := (h.file j hj).lts k hk; omega
      · rw [putF_ne _ _ e2, putF_ne _ _ e2] at hk2
        exact h.ap j l hj hl hjl k hk hk2
theorem footS_set {i : Nat} (hi : L i) {b' s' : Value} {z : Nat} (hnew : ∀ k, b'.ownBlock = some k ∨ s'.ownBlock = some k → footF (ptr i) (vb i) (vs i) k ∨ z ≤ k) : ∀ k, footS p nb sb ptr (putF vb i b') (putF vs i s') L k → footS p nb sb ptr vb vs L k ∨ z ≤ k := by
  rintro k (rfl | rfl | rfl | ⟨j, hj, hk⟩)
  · exact .inl (.inl rfl)
  · exact .inl (.inr (.inl rfl))
  · exact .inl (.inr (.inr (.inl rfl)))
  · by_cases e : j = i
    · subst e
      rw [putF_at, putF_at] at hk
      rcases hk with rfl | hk
      · exact .inl (.inr (.inr (.inr ⟨j, hj, .inl rfl⟩)))
      · exact (hnew k hk).imp (fun h => .inr (.inr (.inr ⟨j, hj, h⟩))) id
    · rw [putF_ne _ _ e, putF_ne _ _ e] at hk
      exact .inl (.inr (.inr (.inr ⟨j, hj, hk⟩)))
/-- Another way to have the directory. -/
theorem StAt.perm (h : StAt w p nb sb ptr vb vs L m) {l : List En} (hp : m.dir.Perm l) (hl : DL (ents ptr l)) : StAt w p nb sb ptr vb vs L { m with dir := l } := by
  have hneed : ({ m with dir := l } : M).need = m.need := (M.needL_perm m hp).symm
  refine ⟨?_, h.n.permTo hl (ents_perm hp), h.s, h.ne, fun e he => h.dl e (hp.mem_iff.2 he), h.sl, h.lt, h.file, h.ap⟩
  have : scell { m with dir := l } nb sb = scell m nb sb := by unfold scell; rw [hneed]
  rw [this]
  exact h.blk
end
end Go.Proofs.YtjgdmbfkondakaaGreatDoor
