/-
  lay, take, by their contracts.
-/
import Derived.Test.YtjgdmbfkondakaaGreatDoorJBasics
import Derived.Deep.RegionHeld3
namespace Go.Proofs.YtjgdmbfkondakaaGreatDoor
open Go.RowKit Go.Maps

theorem scell_set3 (m : M) (nb sb : Nat) (x : Int) : (scell m nb sb).set 3 (.int .i64 x) = [.int .i64 m.room, .bool (!m.dark), .int .i64 (m.count : Int), .int .i64 x, .int .i64 m.left, .int .i64 m.keep, .map (some nb), .map (some sb)] := rfl
theorem heap_set_list {w : World} {p i : Nat} {C : List Value} {t : TypeId} (h : w.heap[p]? = some (.cells C.toArray t (0, 0))) (v : Value) : (w.setCell ⟨p, i, none⟩ v).heap[p]? = some (.cells (C.set i v).toArray t (0, 0)) := by
  have := heap_setCell_same w p i _ _ v h
  simpa using this
/-- What lay and take change: the store's own cells, its directory. -/
abbrev two (p nb k : Nat) : Prop := k = p ∨ k = nb

section
variable {w : World} {p nb sb : Nat} {ptr : Nat → Nat} {vb vs : Nat → Value} {L : Nat → Prop} {m : M}
theorem StAt.blk_lt (h : StAt w p nb sb ptr vb vs L m) : p < w.heap.size := (Array.getElem?_eq_some_iff.1 h.blk).1
theorem StAt.laid {w1 : World} (h : StAt w p nb sb ptr vb vs L m) {l : List En} (hn : DAt w1 nb (ents ptr l)) (gr : w.grownBy w1 (some nb)) (hL : ∀ e ∈ l, L e.f) {x : Int} (hx : x = ({ m with dir := l } : M).need) :
    StAt (w1.drew.setCell ⟨p, 3, none⟩ (.int .i64 x)) p nb sb ptr vb vs L { m with dir := l } ∧ Moved w (w1.drew.setCell ⟨p, 3, none⟩ (.int .i64 x)) (two p nb) (two p nb) := by
  have hp : w1.drew.heap[p]? = some (.cells (scell m nb sb).toArray 66 (0, 0)) := (gr.block p h.blk_lt (fun e => h.n_ne (by injection e with e; exact e.symm))).trans h.blk
  have hb := heap_set_list (i := 3) hp (.int .i64 x)
  rw [scell_set3, hx] at hb
  have ho : ∀ k, k ≠ p → (w1.drew.setCell ⟨p, 3, none⟩ (.int .i64 x)).heap[k]? = w1.heap[k]? := fun k hk => Below.heap_setCell _ _ _ _ hk
  refine ⟨h.to (by rw [hx] at ho ⊢; exact hb) (hn.same (ho nb h.n_ne)) (fun k hk h1 h2 => (ho k h1).trans (gr.block k (h.lts k hk) (fun e => h2 (by injection e)))) rfl rfl hL, gr.os, gr.tape, gr.output, by simpa using gr.size, fun k hk hn => (ho k (fun e => hn (.inl e))).trans (gr.block k hk (fun e => hn (.inr (by injection e)))), fun k hk => .inl hk⟩

set_option maxRecDepth 20000 in
set_option maxHeartbeats 2000000 in
theorem lay_at (h : StAt w p nb sb ptr vb vs L m) {i : Nat} (hi : L i) (n : ByteArray) (hs : n.size ≤ maxLen) (hne : ∀ e ∈ m.dir, e.name ≠ n) (dl : DL (ents ptr m.dir)) (hlen : m.dir.length ≤ 1000000) (hnd : m.need ≤ 1073741840000000) (hl : (m.fl i).now.length ≤ 1073741824) :
    Calls Tryz.prog 56 #[.pointer (some ⟨p, 0, none⟩), .string n, .pointer (some ⟨ptr i, 0, none⟩)] w fun e w' => e = .returned (.tuple #[]) ∧ StAt w' p nb sb ptr vb vs L { m with dir := ⟨n, i⟩ :: m.dir } ∧ Moved w w' (two p nb) (two p nb) := by
  obtain ⟨w1, hst, hn1, gr⟩ := h.n.put dl hs (ptr i) (by
    intro y hy
    obtain ⟨e, he, rfl⟩ := List.mem_map.1 hy
    exact hne e he) (by unfold ents; simp; omega)
  obtain ⟨_, _, _, c3, _, _, c6, _⟩ := h.cells
  have hp1 : w1.heap[p]? = w.heap[p]? := gr.block p h.blk_lt (fun e => h.n_ne (by injection e with e; exact e.symm))
  have d3 : w1.cell? ⟨p, 3, none⟩ = some (.int .i64 (m.need : Int)) := (World.cell?_of_block (a := ⟨p, 3, none⟩) hp1).trans c3
  have f3 : w1.frozen? ⟨p, 3, none⟩ = false := (World.frozen?_of_block (a := ⟨p, 3, none⟩) hp1).trans (h.frozen 3)
  have hf : FileAt w1.drew (ptr i) (vb i) (vs i) (m.fl i) := (h.file i hi).same fun k hk => gr.block k ((h.file i hi).lts k hk) (fun e => (h.f_ne hi hk).2.1 (by injection e))
  have hN := need_at (ptr i) _ _ _ _ hf hl
  have hneed : ({ m with dir := ⟨n, i⟩ :: m.dir } : M).need = 16 + (m.fl i).now.length + m.need := M.needL_cons m ⟨n, i⟩ m.dir
  have hw : IntKind.i64.wrap ((m.need : Int) + ((16 + (m.fl i).now.length : Nat) : Int)) = (m.need : Int) + ((16 + (m.fl i).now.length : Nat) : Int) := by rw [IntKind.wrap_i64]; omega
  have HE : Hid _ := h.laid (l := ⟨n, i⟩ :: m.dir) hn1 gr (by
    intro e he
    rcases List.mem_cons.1 he with rfl | he
    · exact hi
    · exact h.dl e he) (x := (m.need : Int) + ((16 + (m.fl i).now.length : Nat) : Int)) (by rw [hneed]; omega)
  generalize ((16 + (m.fl i).now.length : Nat) : Int) = ln at *
  generalize (m.need : Int) = nd at *
  clear h hn1 gr hp1 hf hneed hne dl hlen hnd hl c3 hi
  go_enter Tryz.func56, Tryz.ntmps56
  go_wp2
  go_region_with (go_at_call 89; refine hN.mono ?_; rintro e w2 ⟨rfl, rfl⟩)
  all_goals go_wp2
  all_goals go_end0
  all_goals exact ⟨rfl, HE.out⟩

theorem StAt.lost {w2 : World} (h : StAt w p nb sb ptr vb vs L m) {l : List En} {x : Int} (hx : x = ({ m with dir := l } : M).need) (hn : DAt w2 nb (ents ptr l)) (gr : (w.drew.setCell ⟨p, 3, none⟩ (.int .i64 x)).grownBy w2 (some nb)) (hL : ∀ e ∈ l, L e.f) :
    StAt w2 p nb sb ptr vb vs L { m with dir := l } ∧ Moved w w2 (two p nb) (two p nb) := by
  have hp : w.drew.heap[p]? = some (.cells (scell m nb sb).toArray 66 (0, 0)) := h.blk
  have hb := heap_set_list (i := 3) hp (.int .i64 x)
  have hb2 := (gr.block p (by simpa using h.blk_lt) (fun e => h.n_ne (by injection e with e; exact e.symm))).trans hb
  rw [scell_set3] at hb2
  have ho : ∀ k, k ≠ p → k ≠ nb → k < w.heap.size → w2.heap[k]? = w.heap[k]? := fun k h1 h2 hk => (gr.block k (by simpa using hk) (fun e => h2 (by injection e))).trans (Below.heap_setCell _ _ _ _ h1)
  refine ⟨h.to (by rw [hx] at hb2; exact hb2) hn (fun k hk h1 h2 => ho k h1 h2 (h.lts k hk)) rfl rfl hL, gr.os, gr.tape, gr.output, by simpa using gr.size, fun k hk hn => ho k (fun e => hn (.inl e)) (fun e => hn (.inr e)) hk, fun k hk => .inl hk⟩

set_option maxRecDepth 20000 in
set_option maxHeartbeats 2000000 in
theorem take_at (h : StAt w p nb sb ptr vb vs L m) (od : Ord cmpE m.dir) (n : ByteArray) (hs : n.size ≤ maxLen) (dl : DL (ents ptr m.dir)) (hnd : m.need ≤ 1073741840000000) (hl : ∀ i, (m.fl i).now.length ≤ 1073741824) :
    Calls Tryz.prog 84 #[.pointer (some ⟨p, 0, none⟩), .string n] w fun e w' => e = .returned (.tuple #[]) ∧ StAt w' p nb sb ptr vb vs L { m with dir := cutE m.dir n } ∧ Moved w w' (two p nb) (two p nb) := by
  have hk := h.n.look dl hs
  rw [ents_find] at hk
  obtain ⟨_, _, _, c3, _, _, c6, _⟩ := h.cells
  cases hf : findE m.dir n with
  | none =>
    rw [hf] at hk
    simp only [Option.map_none, ptrO] at hk
    have hc : cutE m.dir n = m.dir := M.cut_none hf
    have HE : Hid (StAt w p nb sb ptr vb vs L { m with dir := cutE m.dir n } ∧ Moved w w (two p nb) (two p nb)) := ⟨by rw [hc]; exact h, Moved.refl _ _⟩
    clear h hf hc dl hnd hl c3
    go_enter Tryz.func84, Tryz.ntmps84
    go_wp2
    go_end0
    exact ⟨rfl, HE.out⟩
  | some e0 =>
    rw [hf] at hk
    simp only [Option.map_some, ptrO] at hk
    have he0 := (findE_some hf).1
    have hi : L e0.f := h.dl e0 he0
    have hF := h.file e0.f hi
    have hlen := hl e0.f
    have hsplit := M.needL_perm m (M.split_cut od hf).symm
    rw [M.needL_cons] at hsplit
    have hneed : ({ m with dir := cutE m.dir n } : M).need = m.needL (cutE m.dir n) := rfl
    have hneed0 : m.need = m.needL m.dir := rfl
    have hN := need_at (ptr e0.f) _ _ _ w.drew (hF.same fun _ _ => rfl) hlen
    have f3 := h.frozen 3
    obtain ⟨x, hx⟩ : ∃ x : Int, x = (m.need : Int) - ((16 + (m.fl e0.f).now.length : Nat) : Int) := ⟨_, rfl⟩
    have hxn : x = (({ m with dir := cutE m.dir n } : M).need : Int) := by rw [hx, hneed]; omega
    have hw : IntKind.i64.wrap ((m.need : Int) - ((16 + (m.fl e0.f).now.length : Nat) : Int)) = x := by rw [← hx, IntKind.wrap_i64]; omega
    have hn1 : DAt ((w.setCell ⟨p, 3, none⟩ (.int .i64 x)).drew) nb (ents ptr m.dir) := h.n.same (Below.heap_setCell _ _ _ _ h.n_ne)
    obtain ⟨f, hfx⟩ := hn1.del dl hs
    have hrun := fun ty => (hfx ty).1
    have d6 : (w.setCell ⟨p, 3, none⟩ (.int .i64 x)).cell? ⟨p, 6, none⟩ = some (.map (some nb)) := by
      have hb := heap_set_list (w := w) (i := 3) h.blk (.int .i64 x)
      rw [scell_set3] at hb
      simp [World.cell?, hb]
    have HE : Hid (∀ ty, StAt (f ty) p nb sb ptr vb vs L { m with dir := cutE m.dir n } ∧ Moved w (f ty) (two p nb) (two p nb)) := fun ty => by
      obtain ⟨_, h2, h3⟩ := hfx ty
      rw [ents_cut] at h2
      exact h.lost hxn h2 h3 (fun e he => h.dl e (mem_cutE.1 he).1)
    generalize ((16 + (m.fl e0.f).now.length : Nat) : Int) = ln at *
    clear h hf dl hnd hl he0 hF hsplit hneed hneed0 hx hxn hn1 hfx hlen od hi
    generalize (m.need : Int) = nd at *
    go_enter Tryz.func84, Tryz.ntmps84
    go_wp2
    go_region_with (go_at_call 89; refine hN.mono ?_; rintro e w2 ⟨rfl, rfl⟩)
    all_goals go_wp2
    all_goals go_end0
    all_goals exact ⟨rfl, HE.out _⟩
end
end Go.Proofs.YtjgdmbfkondakaaGreatDoor
