/-
  Move, Drop, Commit, by their contracts.
-/
import Derived.Test.YtjgdmbfkondakaaCut
import Derived.Test.YtjgdmbfkondakaaShelf
namespace Go.Proofs.Ytjgdmbfkondakaa
open Go.RowKit Go.Maps Go.Shelf

section
variable {w W : World} {p nb sb : Nat} {ptr : Nat → Nat} {vb vs : Nat → Value} {L : Nat → Prop} {m : M}
theorem two_foot {W : World} (mv : Moved w W (two p nb) (two p nb)) : Moved w W (footS p nb sb ptr vb vs L) (footS p nb sb ptr vb vs L) :=
  ⟨mv.os, mv.tape, mv.output, mv.size, fun k hk hn => mv.block k hk (fun e => hn (e.elim .inl (fun e => .inr (.inl e)))), fun _ h => .inl h⟩
theorem StAt.box_n (h : StAt w p nb sb ptr vb vs L m) {B : Nat} {t : TypeId} {v : Value} (hB : Boxed w B t v) : B ≠ nb := fun e => by
  subst e
  exact h.n.noCells hB
/-- A box stays where the store's cells and its directory are changed. -/
theorem StAt.box2 (h : StAt w p nb sb ptr vb vs L m) {B : Nat} {t : TypeId} {v : Value} (hB : Boxed w B t v) (ht : t ≠ 30) {V : World} (mv : Moved w V (two p nb) (two p nb)) : Boxed V B t v :=
  (mv.block B hB.lt (fun e => e.elim (h.box_p hB ht) (h.box_n hB))).trans hB

set_option maxRecDepth 20000 in
theorem drop1_at (h : StAt w p nb sb ptr vb vs L m) (ok : m.Ok) (hc : m.count ≤ 1000000) (n : ByteArray) (hs : n.size ≤ maxLen) (Bs Bn : Nat) (cs : Boxed w Bs 31 (.pointer (some ⟨p, 0, none⟩))) (cn : Boxed w Bn 9 (.string n)) :
    Calls Try.prog 35 #[.pointer (some ⟨Bs, 0, none⟩), .pointer (some ⟨Bn, 0, none⟩)] w fun e w' => e = .returned (.tuple #[]) ∧ ∃ F', St w' p F' (M.lose n m) ∧ Moved w w' (footS p nb sb ptr vb vs L) F' := by
  have hT := take_at h ok.od n hs (ok.dlD ptr) (ok.need hc) (fun i => (ok.fl i).1)
  have s0 := cs.cell
  have n0 := cn.cell
  clear h
  go_enter Try.func35, Try.ntmps35
  go_wp2_with (go_at_call 34; refine hT.mono ?_; rintro e w1 ⟨rfl, s1, m1⟩)
  go_end0
  exact ⟨rfl, _, ⟨_, _, _, _, _, _, s1, rfl⟩, two_foot m1⟩

set_option maxRecDepth 20000 in
set_option maxHeartbeats 2000000 in
theorem move1_at (h : StAt w p nb sb ptr vb vs L m) (ok : m.Ok) (hc : m.count ≤ 1000000) (n t : ByteArray) (hs : n.size ≤ maxLen) (hgt : goodN t = true) {e0 : En} (hf : findE m.dir n = some e0) (Bs Bn Bt Bf : Nat) (cs : Boxed w Bs 31 (.pointer (some ⟨p, 0, none⟩))) (cn : Boxed w Bn 9 (.string n)) (ct : Boxed w Bt 9 (.string t)) (cf : Boxed w Bf 51 (.pointer (some ⟨ptr e0.f, 0, none⟩))) :
    Calls Try.prog 33 #[.pointer (some ⟨Bs, 0, none⟩), .pointer (some ⟨Bn, 0, none⟩), .pointer (some ⟨Bt, 0, none⟩), .pointer (some ⟨Bf, 0, none⟩)] w fun e w' => e = .returned (.tuple #[]) ∧ ∃ F', St w' p F' (M.shift n t e0.f m) ∧ Moved w w' (footS p nb sb ptr vb vs L) F' := by
  have hts : t.size ≤ maxLen := by have := goodN_size hgt; unfold maxLen; omega
  have he := (findE_some hf).1
  have hL := h.dl e0 he
  have hT := take_at h ok.od n hs (ok.dlD ptr) (ok.need hc) (fun i => (ok.fl i).1)
  have s0 := cs.cell
  have n0 := cn.cell
  have od1 : Ord cmpE (cutE m.dir n) := cutE_ord ok.od n
  have hg1 : ∀ e ∈ cutE m.dir n, e.name.size ≤ 30 := fun e he => goodN_size (ok.gd e (mem_cutE.1 he).1)
  have hneed : ∀ l : List En, l.length ≤ m.dir.length → ({ m with dir := l } : M).need ≤ 1073741840000000 := fun l hl => by
    have h1 := ok.needL l
    have h2 := ok.ld
    have h3 : l.length * 1073741840 ≤ 1000000 * 1073741840 := Nat.mul_le_mul_right _ (by omega)
    show m.needL l ≤ _
    omega
  have HB1 : Hid (∀ w1, StAt w1 p nb sb ptr vb vs L { m with dir := cutE m.dir n } → Moved w w1 (two p nb) (two p nb) → w1.cell? ⟨Bs, 0, none⟩ = some (.pointer (some ⟨p, 0, none⟩)) ∧ w1.cell? ⟨Bt, 0, none⟩ = some (.string t) ∧ Calls Try.prog 34 #[.pointer (some ⟨p, 0, none⟩), .string t] w1 fun e w2 => e = .returned (.tuple #[]) ∧ StAt w2 p nb sb ptr vb vs L { m with dir := cutE (cutE m.dir n) t } ∧ Moved w1 w2 (two p nb) (two p nb)) := fun w1 s1 m1 =>
    ⟨(h.box2 cs (by decide) m1).cell, (h.box2 ct (by decide) m1).cell, take_at s1 od1 t hts (ents_dl (ord_diff od1) hg1) (hneed _ (cutE_length _ _)) (fun i => (ok.fl i).1)⟩
  have HB2 : Hid (∀ w1 w2, Moved w w1 (two p nb) (two p nb) → StAt w2 p nb sb ptr vb vs L { m with dir := cutE (cutE m.dir n) t } → Moved w1 w2 (two p nb) (two p nb) → w2.cell? ⟨Bs, 0, none⟩ = some (.pointer (some ⟨p, 0, none⟩)) ∧ w2.cell? ⟨Bt, 0, none⟩ = some (.string t) ∧ w2.cell? ⟨Bf, 0, none⟩ = some (.pointer (some ⟨ptr e0.f, 0, none⟩)) ∧ Calls Try.prog 23 #[.pointer (some ⟨p, 0, none⟩), .string t, .pointer (some ⟨ptr e0.f, 0, none⟩)] w2 fun e w3 => e = .returned (.tuple #[]) ∧ ∃ F', St w3 p F' (M.shift n t e0.f m) ∧ Moved w w3 (footS p nb sb ptr vb vs L) F') := fun w1 w2 m1 s2 m2 => by
    have m12 := m1.trans m2
    refine ⟨(h.box2 cs (by decide) m12).cell, (h.box2 ct (by decide) m12).cell, (h.box2 cf (by decide) m12).cell, (lay_at s2 (i := e0.f) hL t hts (fun e he => (mem_cutE.1 he).2) (ents_dl (ord_diff (cutE_ord od1 t)) fun e he => hg1 e (mem_cutE.1 he).1) (by have := cutE_length (cutE m.dir n) t; have := cutE_length m.dir n; have := ok.ld; show (cutE (cutE m.dir n) t).length ≤ _; omega) (hneed _ (Nat.le_trans (cutE_length _ _) (cutE_length _ _))) (ok.fl e0.f).1).mono ?_⟩
    rintro e w3 ⟨rfl, s3, m3⟩
    have hp : (⟨t, e0.f⟩ :: cutE (cutE m.dir n) t : List En).Perm (putE (cutE m.dir n) t e0.f) := (putE_perm _ _ _).symm
    have hdl : DL (ents ptr (putE (cutE m.dir n) t e0.f)) := ents_dl (ord_diff (putE_ord od1 t _)) fun e he => by
      rcases mem_putE.1 he with rfl | ⟨he, _⟩
      · exact goodN_size hgt
      · exact hg1 e he
    exact ⟨rfl, _, ⟨_, _, _, _, _, _, s3.perm hp hdl, rfl⟩, two_foot (m12.trans m3)⟩
  clear h hneed hg1 od1 cs cn ct cf hf
  go_enter Try.func33, Try.ntmps33
  go_wp2_with fail
  refine hT.mono ?_
  rintro e w1 ⟨rfl, s1, m1⟩
  obtain ⟨k1, k2, hT2⟩ := HB1.out w1 s1 m1
  clear hT HB1 s1 s0 n0
  go_wp2_with fail
  refine hT2.mono ?_
  rintro e w2 ⟨rfl, s2, m2⟩
  obtain ⟨l1, l2, l3, hLy⟩ := HB2.out w1 w2 m1 s2 m2
  clear hT2 HB2 s2 m1 m2 k1 k2
  go_wp2_with fail
  refine hLy.mono ?_
  rintro e w3 ⟨rfl, F3, s3, m3⟩
  go_wp2
  go_end0
  exact ⟨rfl, F3, s3, m3⟩

theorem clone_at (b : Nat) (l : List Pe) (w : World) (h : DAt w b l) :
    Calls Try.prog 37 #[.map (some b)] w fun e w' => e = .returned (.map (some w.heap.size)) ∧ DAt w' w.heap.size l ∧ Below w.heap.size w w' := by
  refine (AnyW.maps_Clone_owns Try.cloneD 9 rdP b l.length (DofG pkl pd l) w h).mono ?_
  rintro e w' ⟨rfl, h1, _, h3⟩
  exact ⟨rfl, h1, h3⟩
theorem scell_set7 (m : M) (nb sb c : Nat) : (scell m nb sb).set 7 (.map (some c)) = scell m nb c := rfl
theorem StAt.secured {w1 : World} (h : StAt w p nb sb ptr vb vs L m) (hcl : DAt w1 w.heap.size (ents ptr m.dir)) (b : Below w.heap.size w w1) (V : World) (hV : V.heap = (w1.setCell ⟨p, 7, none⟩ (.map (some w.heap.size))).heap) (hos : V.os = w1.os) (htp : V.tape = w1.tape) (hou : V.output = w1.output) :
    ∃ F', St V p F' (M.secure m) ∧ Moved w V (footS p nb sb ptr vb vs L) F' := by
  have h1 := h.kept b
  have hlt := h.blk_lt
  have ho : ∀ k, k ≠ p → V.heap[k]? = w1.heap[k]? := fun k hk => by rw [hV]; exact Below.heap_setCell _ _ _ _ hk
  have hp : V.heap[p]? = some (.cells (scell (M.secure m) nb w.heap.size).toArray 30 (0, 0)) := by
    rw [hV]
    have := heap_set_list (i := 7) h1.blk (.map (some w.heap.size))
    rw [scell_set7] at this
    exact this
  have hn := h.n.lt
  refine ⟨_, ⟨nb, w.heap.size, ptr, vb, vs, L, ⟨hp, h1.n.same (ho nb h1.n_ne), hcl.same (ho _ (by omega)), by omega, h.dl, h.dl, h.lt, fun i hi => (h1.file i hi).same fun k hk => ho k (h1.f_ne hi hk).1, h.ap⟩, rfl⟩, hos.trans b.os, htp.trans b.tape, hou.trans b.output, by rw [hV]; simpa using b.size, fun k hk hne => (ho k (fun e => hne (.inl e))).trans (b.block k hk), ?_⟩
  rintro k (rfl | rfl | rfl | hk)
  · exact .inl (.inl rfl)
  · exact .inl (.inr (.inl rfl))
  · exact .inr (Nat.le_refl _)
  · exact .inl (.inr (.inr (.inr hk)))
set_option maxRecDepth 20000 in
set_option maxHeartbeats 2000000 in
theorem commit1_at (h : StAt w p nb sb ptr vb vs L m) (Bs : Nat) (cs : Boxed w Bs 31 (.pointer (some ⟨p, 0, none⟩))) :
    Calls Try.prog 36 #[.pointer (some ⟨Bs, 0, none⟩)] w fun e w' => e = .returned (.tuple #[]) ∧ ∃ F', St w' p F' (M.secure m) ∧ Moved w w' (footS p nb sb ptr vb vs L) F' := by
  have hlt := h.blk_lt
  have s0 := cs.cell
  have c6 := h.cells.2.2.2.2.2.2.1
  have hC := clone_at nb (ents ptr m.dir) w.drew (h.n.same rfl)
  have HW : Hid (∀ w1, Below w.drew.heap.size w.drew w1 → w1.cell? ⟨Bs, 0, none⟩ = some (.pointer (some ⟨p, 0, none⟩)) ∧ w1.cell? ⟨p, 7, none⟩ = some (.map (some sb)) ∧ w1.frozen? ⟨p, 7, none⟩ = false) := fun w1 b => by
    have b' : Below w.heap.size w w1 := ⟨b.os, b.tape, b.output, b.size, b.block⟩
    exact ⟨(boxed_below cs b').cell, (h.kept b').cells.2.2.2.2.2.2.2, (h.kept b').frozen 7⟩
  have HE : Hid (∀ w1, DAt w1 w.drew.heap.size (ents ptr m.dir) → Below w.drew.heap.size w.drew w1 → ∀ V : World, V.heap = (w1.setCell ⟨p, 7, none⟩ (.map (some w.heap.size))).heap → V.os = w1.os → V.tape = w1.tape → V.output = w1.output → ∃ F', St V p F' (M.secure m) ∧ Moved w V (footS p nb sb ptr vb vs L) F') := fun w1 hd b V e1 e2 e3 e4 => h.secured hd ⟨b.os, b.tape, b.output, b.size, b.block⟩ V e1 e2 e3 e4
  clear h
  have mixed : Try.prog.follows .mixedOrders = true := by kernel_rfl
  go_enter Try.func36, Try.ntmps36
  go_wp2
  go_region_with (go_at_call 37; refine hC.mono ?_; rintro e w1 ⟨rfl, d1, b1⟩; obtain ⟨k1, k2, k3⟩ := HW.out w1 b1; have HX : Hid _ := HE.out w1 d1 b1; clear d1 b1)
  all_goals go_wp2
  all_goals go_end0
  all_goals (refine ⟨rfl, HX.out _ ?_ ?_ ?_ ?_⟩ <;> rfl)
end
end Go.Proofs.Ytjgdmbfkondakaa
