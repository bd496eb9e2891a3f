/-
  Move, Drop, Commit, by their contracts.
-/
import Derived.Test.YtjgdmbfkondakaaGreatDoorJWrite
import Derived.Test.YtjgdmbfkondakaaGreatDoorJShelf
namespace Go.Proofs.YtjgdmbfkondakaaGreatDoor
open Go.RowKit Go.Maps Go.Shelf

section
variable {w W : World} {p nb sb : Nat} {ptr : Nat → Nat} {vb vs : Nat → Value} {L : Nat → Prop} {m : M}
theorem two_foot {W : World} (mv : Moved w W (two p nb) (two p nb)) : Moved w W (footS p nb sb ptr vb vs L) (footS p nb sb ptr vb vs L) :=
  ⟨mv.os, mv.tape, mv.output, mv.size, fun k hk hn => mv.block k hk (fun e => hn (e.elim .inl (fun e => .inr (.inl e)))), fun _ h => .inl h⟩
theorem StAt.box_n (h : StAt w p nb sb ptr vb vs L m) {B : Nat} {t : TypeId} {v : Value} (hB : Boxed w B t v) : B ≠ nb := fun e => by
  subst e
  exact h.n.noCells hB
/-- A box stays where the store's cells and its directory are changed. -/
theorem StAt.box2 (h : StAt w p nb sb ptr vb vs L m) {B : Nat} {t : TypeId} {v : Value} (hB : Boxed w B t v) (ht : t ≠ 66) {V : World} (mv : Moved w V (two p nb) (two p nb)) : Boxed V B t v :=
  (mv.block B hB.lt (fun e => e.elim (h.box_p hB ht) (h.box_n hB))).trans hB

set_option maxRecDepth 20000 in
theorem drop1_at (h : StAt w p nb sb ptr vb vs L m) (ok : m.Ok) (hc : m.count ≤ 1000000) (n : ByteArray) (hs : n.size ≤ maxLen) (Bs Bn : Nat) (cs : Boxed w Bs 28 (.pointer (some ⟨p, 0, none⟩))) (cn : Boxed w Bn 9 (.string n)) :
    Calls Tryz.prog 102 #[.pointer (some ⟨Bs, 0, none⟩), .pointer (some ⟨Bn, 0, none⟩)] w fun e w' => e = .returned (.tuple #[]) ∧ ∃ F', St w' p F' (M.lose n m) ∧ Moved w w' (footS p nb sb ptr vb vs L) F' := by
  have hT := take_at h ok.od n hs (ok.dlD ptr) (ok.need hc) (fun i => (ok.fl i).1)
  have s0 := cs.cell
  have n0 := cn.cell
  clear h
  go_enter Tryz.func102, Tryz.ntmps102
  go_wp2_with (go_at_call 84; refine hT.mono ?_; rintro e w1 ⟨rfl, s1, m1⟩)
  go_end0
  exact ⟨rfl, _, ⟨_, _, _, _, _, _, s1, rfl⟩, two_foot m1⟩

set_option maxRecDepth 20000 in
set_option maxHeartbeats 2000000 in
theorem move1_at (h : StAt w p nb sb ptr vb vs L m) (ok : m.Ok) (hc : m.count ≤ 1000000) (n t : ByteArray) (hs : n.size ≤ maxLen) (hgt : goodN t = true) {e0 : En} (hf : findE m.dir n = some e0) (Bs Bn Bt Bf : Nat) (cs : Boxed w Bs 28 (.pointer (some ⟨p, 0, none⟩))) (cn : Boxed w Bn 9 (.string n)) (ct : Boxed w Bt 9 (.string t)) (cf : Boxed w Bf 80 (.pointer (some ⟨ptr e0.f, 0, none⟩))) :
    Calls Tryz.prog 83 #[.pointer (some ⟨Bs, 0, none⟩), .pointer (some ⟨Bn, 0, none⟩), .pointer (some ⟨Bt, 0, none⟩), .pointer (some ⟨Bf, 0, none⟩)] w fun e w' => e = .returned (.tuple #[]) ∧ ∃ F', St w' p F' (M.shift n t e0.f m) ∧ Moved w w' (footS p nb sb ptr vb vs L) F' := by
  have hts : t.size ≤ maxLen := by have := goodN_size hgt; unfold maxLen; omega
  have he := (findE_some hf).1
  have hL := h.dl e0 he
  have hT := take_at h ok.od n hs (ok.dlD ptr) (ok.need hc) (fun i => (ok.fl i).1)
  have s0 := cs.cell
  have n0 := cn.cell
  have od1 : Ord cmpE (cutE m.dir n) := cutE_ord ok.od n
  have hg1 : ∀ e ∈ cutE m.dir n, e.name.size ≤ 30 := fun e he => goodN_size (ok.gd e (mem_cutE.1 he).1)
  have hneed : ∀ l : List En, l.length ≤ m.dir.length → ({ m with dir := l } : M).need ≤ 1073741840000000 := fun l hl => by
    have h1 := ok.needL l
    have h2 := ok.ld
    have h3 : l.length * 1073741840 ≤ 1000000 * 1073741840 := Nat.mul_le_mul_right _ (by omega)
    show m.needL l ≤ _
    omega
  have HB1 : Hid (∀ w1, StAt w1 p nb sb ptr vb vs L { m with dir := cutE m.dir n } → Moved w w1 (two p nb) (two p nb) → w1.cell? ⟨Bs, 0, none⟩ = some (.pointer (some ⟨p, 0, none⟩)) ∧ w1.cell? ⟨Bt, 0, none⟩ = some (.string t) ∧ Calls Tryz.prog 84 #[.pointer (some ⟨p, 0, none⟩), .string t] w1 fun e w2 => e = .returned (.tuple #[]) ∧ StAt w2 p nb sb ptr vb vs L { m with dir := cutE (cutE m.dir n) t } ∧ Moved w1 w2 (two p nb) (two p nb)) := fun w1 s1 m1 =>
    ⟨(h.box2 cs (by decide) m1).cell, (h.box2 ct (by decide) m1).cell, take_at s1 od1 t hts (ents_dl (ord_diff od1) hg1) (hneed _ (cutE_length _ _)) (fun i => (ok.fl i).1)⟩
  have HB2 : Hid (∀ w1 w2, Moved w w1 (two p nb) (two p nb) → StAt w2 p nb sb ptr vb vs L { m with dir := cutE (cutE m.dir n) t } → Moved w1 w2 (two p nb) (two p nb) → w2.cell? ⟨Bs, 0, none⟩ = some (.pointer (some ⟨p, 0, none⟩)) ∧ w2.cell? ⟨Bt, 0, none⟩ = some (.string t) ∧ w2.cell? ⟨Bf, 0, none⟩ = some (.pointer (some ⟨ptr e0.f, 0, none⟩)) ∧ Calls Tryz.prog 56 #[.pointer (some ⟨p, 0, none⟩), .string t, .pointer (some ⟨ptr e0.f, 0, none⟩)] w2 fun e w3 => e = .returned (.tuple #[]) ∧ ∃ F', St w3 p F' (M.shift n t e0.f m) ∧ Moved w w3 (footS p nb sb ptr vb vs L) F') := fun w1 w2 m1 s2 m2 => by
    have m12 := m1.trans m2
    refine ⟨(h.box2 cs (by decide) m12).cell, (h.box2 ct (by decide) m12).cell, (h.box2 cf (by decide) m12).cell, (lay_at s2 (i := e0.f) hL t hts (fun e he => (mem_cutE.1 he).2) (ents_dl (ord_diff (cutE_ord od1 t)) fun e he => hg1 e (mem_cutE.1 he).1) (by have := cutE_length (cutE m.dir n) t; have := cutE_length m.dir n; have := ok.ld; show (cutE (cutE m.dir n) t).length ≤ _; omega) (hneed _ (Nat.le_trans (cutE_length _ _) (cutE_length _ _))) (ok.fl e0.f).1).mono ?_⟩
    rintro e w3 ⟨rfl, s3, m3⟩
    have hp : (⟨t, e0.f⟩ :: cutE (cutE m.dir n) t : List En).Perm (putE (cutE m.dir n) t e0.f) := (putE_perm _ _ _).symm
    have hdl : DL (ents ptr (putE (cutE m.dir n) t e0.f)) := ents_dl (ord_diff (putE_ord od1 t _)) fun e he => by
      rcases mem_putE.1 he with rfl | ⟨he, _⟩
      · exact goodN_size hgt
      · exact hg1 e he
    exact ⟨rfl, _, ⟨_, _, _, _, _, _, s3.perm hp hdl, rfl⟩, two_foot (m12.trans m3)⟩
  clear h hneed hg1 od1 cs cn ct cf hf
  go_enter Tryz.func83, Tryz.ntmps83
  go_wp2_with fail
  refine hT.mono ?_
  rintro e w1 ⟨rfl, s1, m1⟩
  obtain ⟨k1, k2, hT2⟩ := HB1.out w1 s1 m1
  clear hT HB1 s1 s0 n0
  go_wp2_with fail
  refine hT2.mono ?_
  rintro e w2 ⟨rfl, s2, m2⟩
  obtain ⟨l1, l2, l3, hLy⟩ := HB2.out w1 w2 m1 s2 m2
  clear hT2 HB2 s2 m1 m2 k1 k2
  go_wp2_with fail
  refine hLy.mono ?_
  rintro e w3 ⟨rfl, F3, s3, m3⟩
  go_wp2
  go_end0
  exact ⟨rfl, F3, s3, m3⟩

theorem clone_at (b : Nat) (l : List Pe) (w : World) (h : DAt w b l) :
    Calls Tryz.prog 86 #[.map (some b)] w fun e w' => e = .returned (.map (some w.heap.size)) ∧ DAt w' w.heap.size l ∧ Below w.heap.size w w' := by
  refine (AnyW.maps_Clone_owns Tryz.cloneD 9 rdP b l.length (DofG pkl pd l) w h).mono ?_
  rintro e w' ⟨rfl, h1, _, h3⟩
  exact ⟨rfl, h1, h3⟩
theorem scell_set7 (m : M) (nb sb c : Nat) : (scell m nb sb).set 7 (.map (some c)) = scell m nb c := rfl
theorem StAt.secured {w1 : World} (h : StAt w p nb sb ptr vb vs L m) (hcl : DAt w1 w.heap.size (ents ptr m.dir)) (b : Below w.heap.size w w1) (V : World) (hV : V.heap = (w1.setCell ⟨p, 7, none⟩ (.map (some w.heap.size))).heap) (hos : V.os = w1.os) (htp : V.tape = w1.tape) (hou : V.output = w1.output) :
    ∃ F', St V p F' (M.secure m) ∧ Moved w V (footS p nb sb ptr vb vs L) F' := by
  have h1 := h.kept b
  have hlt := h.blk_lt
  have ho : ∀ k, k ≠ p → V.heap[k]? = w1.heap[k]? := fun k hk => by rw [hV]; exact Below.heap_setCell _ _ _ _ hk
  have hp : V.heap[p]? = some (.cells (scell (M.secure m) nb w.heap.size).toArray 66 (0, 0)) := by
    rw [hV]
    have := heap_set_list (i := 7) h1.blk (.map (some w.heap.size))
    rw [scell_set7] at this
    exact this
  have hn := h.n.lt
  refine ⟨_, ⟨nb, w.heap.size, ptr, vb, vs, L, ⟨hp, h1.n.same (ho nb h1.n_ne), hcl.same (ho _ (by omega)), by omega, h.dl, h.dl, h.lt, fun i hi => (h1.file i hi).same fun k hk => ho k (h1.f_ne hi hk).1, h.ap⟩, rfl⟩, hos.trans b.os, htp.trans b.tape, hou.trans b.output, by rw [hV]; simpa using b.size, fun k hk hne => (ho k (fun e => hne (.inl e))).trans (b.block k hk), ?_⟩
  rintro k (rfl | rfl | rfl | hk)
  · exact .inl (.inl rfl)
  · exact .inl (.inr (.inl rfl))
  · exact .inr (Nat.le_refl _)
  · exact .inl (.inr (.inr (.inr hk)))
set_option maxRecDepth 20000 in
set_option maxHeartbeats 2000000 in
theorem commit1_at (h : StAt w p nb sb ptr vb vs L m) (Bs : Nat) (cs : Boxed w Bs 28 (.pointer (some ⟨p, 0, none⟩))) :
    Calls Tryz.prog 85 #[.pointer (some ⟨Bs, 0, none⟩)] w fun e w' => e = .returned (.tuple #[]) ∧ ∃ F', St w' p F' (M.secure m) ∧ Moved w w' (footS p nb sb ptr vb vs L) F' := by
  have hlt := h.blk_lt
  have s0 := cs.cell
  have c6 := h.cells.2.2.2.2.2.2.1
  have hC := clone_at nb (ents ptr m.dir) w.drew (h.n.same rfl)
  have HW : Hid (∀ w1, Below w.drew.heap.size w.drew w1 → w1.cell? ⟨Bs, 0, none⟩ = some (.pointer (some ⟨p, 0, none⟩)) ∧ w1.cell? ⟨p, 7, none⟩ = some (.map (some sb)) ∧ w1.frozen? ⟨p, 7, none⟩ = false) := fun w1 b => by
    have b' : Below w.heap.size w w1 := ⟨b.os, b.tape, b.output, b.size, b.block⟩
    exact ⟨(boxed_below cs b').cell, (h.kept b').cells.2.2.2.2.2.2.2, (h.kept b').frozen 7⟩
  have HE : Hid (∀ w1, DAt w1 w.drew.heap.size (ents ptr m.dir) → Below w.drew.heap.size w.drew w1 → ∀ V : World, V.heap = (w1.setCell ⟨p, 7, none⟩ (.map (some w.heap.size))).heap → V.os = w1.os → V.tape = w1.tape → V.output = w1.output → ∃ F', St V p F' (M.secure m) ∧ Moved w V (footS p nb sb ptr vb vs L) F') := fun w1 hd b V e1 e2 e3 e4 => h.secured hd ⟨b.os, b.tape, b.output, b.size, b.block⟩ V e1 e2 e3 e4
  clear h
  have mixed : Tryz.prog.follows .mixedOrders = true := by kernel_rfl
  go_enter Tryz.func85, Tryz.ntmps85
  go_wp2
  go_region_with (go_at_call 86; refine hC.mono ?_; rintro e w1 ⟨rfl, d1, b1⟩; obtain ⟨k1, k2, k3⟩ := HW.out w1 b1; have HX : Hid _ := HE.out w1 d1 b1; clear d1 b1)
  all_goals go_wp2
  all_goals go_end0
  all_goals (refine ⟨rfl, HX.out _ ?_ ?_ ?_ ?_⟩ <;> rfl)
end
end Go.Proofs.YtjgdmbfkondakaaGreatDoor

/-
  Move, Drop, Commit, by their contracts.
-/
namespace Go.Proofs.YtjgdmbfkondakaaGreatDoor
open Go.RowKit Go.Maps Go.Shelf

set_option maxRecDepth 20000 in
set_option maxHeartbeats 4000000 in
theorem drop_any (p : Nat) (F : Nat → Prop) (m : M) (n : ByteArray) (w : World) (h : St w p F m) (ok : m.Ok) (hc : m.count ≤ 900000) (hs : n.size ≤ maxLen) :
    Calls Tryz.prog 81 #[.pointer (some ⟨p, 0, none⟩), .string n] w fun e w' => e = .returned (.int .i64 (m.drop n).1) ∧ ∃ F', St w' p F' (m.drop n).2 ∧ Moved w w' F F' := by
  obtain ⟨nb, sb, ptr, vb, vs, L, hst, rfl⟩ := h
  obtain ⟨W1, fold1⟩ : ∃ W1, (w.alloc (.cells #[.pointer (some ⟨p, 0, none⟩)] 28)).alloc (.cells #[.string n] 9) = W1 := ⟨_, rfl⟩
  have b1 : Below w.heap.size w W1 := by rw [← fold1]; exact ((Below.refl _ w).alloc (Nat.le_refl _) _).alloc (by simp) _
  have x0 : Boxed W1 w.heap.size 28 (.pointer (some ⟨p, 0, none⟩)) := by rw [← fold1]; exact boxed_old (boxed_new w _ _) _
  have x1 : Boxed W1 (w.heap.size + 1) 9 (.string n) := by
    rw [← fold1]
    have := boxed_new (w.alloc (.cells #[.pointer (some ⟨p, 0, none⟩)] 28)) 9 (.string n)
    rwa [World.size_alloc] at this
  have st1 := hst.kept b1
  have hFi := find_at st1 ok n hs
  have y0 := x0.cell
  have y1 := x1.cell
  have HS : Hid (∀ W, Below w.heap.size w W → ∃ F', St W p F' m ∧ Moved w W (footS p nb sb ptr vb vs L) F') := fun W hW => ⟨_, ⟨_, _, _, _, _, _, hst.kept hW, rfl⟩, .of_below hW⟩
  by_cases h1 : m.first n true = 0
  · rw [fileB_some h1, h1] at hFi
    simp only [ptrO] at hFi
    have hF : m.drop n = m.step (M.lose n) := by unfold M.drop; rw [h1]; rfl
    rw [hF]
    have HD : Hid (∀ w2, Below W1.heap.size W1 w2 → w2.cell? ⟨w.heap.size, 0, none⟩ = some (.pointer (some ⟨p, 0, none⟩)) ∧ Calls Tryz.prog 65 #[.pointer (some ⟨p, 0, none⟩), .func (.func 102) #[] #[.pointer (some ⟨w.heap.size, 0, none⟩), .pointer (some ⟨w.heap.size + 1, 0, none⟩)]] w2 fun e w' => e = .returned (.int .i64 (m.step (M.lose n)).1) ∧ ∃ F', St w' p F' (m.step (M.lose n)).2 ∧ Moved w w' (footS p nb sb ptr vb vs L) F') := fun w2 k1 => by
      have hW := b1.trans (k1.mono b1.size)
      refine ⟨(boxed_below x0 k1).cell, (do_at (hst.kept hW) ok hc 102 _ (enters_of Tryz.func102 (by kernel_rfl) rfl) (M.lose n) (fun V stV oV sV => drop1_at stV ok.tick (by show m.count + 1 ≤ _; omega) n hs _ _ ((hst.kept hW).box oV (boxed_below x0 k1) (by decide)) ((hst.kept hW).box oV (boxed_below x1 k1) (by decide)))).mono ?_⟩
      rintro e w' ⟨rfl, F', s', m'⟩
      exact ⟨rfl, F', s', (Moved.of_below hW).trans m'⟩
    generalize m.step (M.lose n) = res at *
    generalize ptr (m.place n) = q at *
    clear hst st1
    go_enter Tryz.func81, Tryz.ntmps81
    go_wp2_with (first
      | (go_at_call 64; refine hFi.mono ?_; rintro e w2 ⟨rfl, b2⟩; obtain ⟨k0, hDo⟩ := HD.out w2 b2)
      | (go_at_call 65; refine hDo.mono ?_; rintro e w5 ⟨rfl, F5, s5, m5⟩))
    go_ret
    exact ⟨rfl, F5, s5, m5⟩
  · have hF : m.drop n = (m.first n true, m) := by unfold M.drop; rw [if_pos h1]
    rw [hF]
    rw [fileB_none h1] at hFi
    simp only [ptrO] at hFi
    generalize m.first n true = er at *
    clear hst st1
    go_enter Tryz.func81, Tryz.ntmps81
    go_wp2_with (go_at_call 64; refine hFi.mono ?_; rintro e w2 ⟨rfl, b2⟩)
    go_ret
    exact ⟨rfl, HS.out _ (b1.trans (b2.mono b1.size))⟩

set_option maxRecDepth 20000 in
set_option maxHeartbeats 4000000 in
theorem commit_any (p : Nat) (F : Nat → Prop) (m : M) (w : World) (h : St w p F m) (ok : m.Ok) (hc : m.count ≤ 900000) :
    Calls Tryz.prog 50 #[.pointer (some ⟨p, 0, none⟩)] w fun e w' => e = .returned (.int .i64 m.commit.1) ∧ ∃ F', St w' p F' m.commit.2 ∧ Moved w w' F F' := by
  obtain ⟨nb, sb, ptr, vb, vs, L, hst, rfl⟩ := h
  obtain ⟨W1, fold1⟩ : ∃ W1, w.alloc (.cells #[.pointer (some ⟨p, 0, none⟩)] 28) = W1 := ⟨_, rfl⟩
  have b1 : Below w.heap.size w W1 := by rw [← fold1]; exact (Below.refl _ w).alloc (Nat.le_refl _) _
  have x0 : Boxed W1 w.heap.size 28 (.pointer (some ⟨p, 0, none⟩)) := by rw [← fold1]; exact boxed_new w _ _
  have y0 := x0.cell
  have hC := check_at (hst.kept b1) (.slice none 0 0) [] (.inl ⟨rfl, rfl⟩) (by simp)
  have hI : checkI m [] = if m.dark then 9 else 0 := by unfold checkI; simp
  rw [hI] at hC
  cases hd : m.dark with
  | true =>
    have hF : m.commit = (9, m) := by unfold M.commit; rw [hd]; rfl
    rw [hF]
    rw [hd] at hC
    have HS : Hid (∃ F', St W1 p F' m ∧ Moved w W1 (footS p nb sb ptr vb vs L) F') := ⟨_, ⟨_, _, _, _, _, _, hst.kept b1, rfl⟩, .of_below b1⟩
    clear hst
    go_enter Tryz.func50, Tryz.ntmps50
    go_wp2_with (go_at_call 30; refine hC.mono ?_; rintro e W1 ⟨rfl, rfl⟩)
    go_ret
    exact ⟨rfl, HS.out⟩
  | false =>
    have hF : m.commit = m.step M.secure := by unfold M.commit; rw [hd]; rfl
    rw [hF]
    rw [hd] at hC
    have hDo := do_at (hst.kept b1) ok hc 85 #[.pointer (some ⟨w.heap.size, 0, none⟩)] (enters_of Tryz.func85 (by kernel_rfl) rfl) M.secure (fun V stV oV sV => commit1_at stV _ ((hst.kept b1).box oV x0 (by decide)))
    have HM : Hid (∀ w' F', Moved W1 w' (footS p nb sb ptr vb vs L) F' → Moved w w' (footS p nb sb ptr vb vs L) F') := fun w' F' k => (Moved.of_below b1).trans k
    generalize m.step M.secure = res at *
    clear hst
    go_enter Tryz.func50, Tryz.ntmps50
    go_wp2_with (first
      | (go_at_call 30; refine hC.mono ?_; rintro e W1 ⟨rfl, rfl⟩)
      | (go_at_call 65; refine hDo.mono ?_; rintro e w5 ⟨rfl, F5, s5, m5⟩))
    go_ret
    exact ⟨rfl, F5, s5, HM.out _ _ m5⟩

set_option maxRecDepth 20000 in
set_option maxHeartbeats 4000000 in
theorem move_any (p : Nat) (F : Nat → Prop) (m : M) (n t : ByteArray) (w : World) (h : St w p F m) (ok : m.Ok) (hc : m.count ≤ 900000) (hs : n.size ≤ maxLen) (ht : t.size ≤ maxLen) :
    Calls Tryz.prog 49 #[.pointer (some ⟨p, 0, none⟩), .string n, .string t] w fun e w' => e = .returned (.int .i64 (m.move n t).1) ∧ ∃ F', St w' p F' (m.move n t).2 ∧ Moved w w' F F' := by
  obtain ⟨nb, sb, ptr, vb, vs, L, hst, rfl⟩ := h
  obtain ⟨W1, fold1⟩ : ∃ W1, ((w.alloc (.cells #[.pointer (some ⟨p, 0, none⟩)] 28)).alloc (.cells #[.string n] 9)).alloc (.cells #[.string t] 9) = W1 := ⟨_, rfl⟩
  have b1 : Below w.heap.size w W1 := by rw [← fold1]; exact (((Below.refl _ w).alloc (Nat.le_refl _) _).alloc (by simp) _).alloc (by simp; omega) _
  have z1 : W1.heap.size = w.heap.size + 3 := by rw [← fold1]; simp
  have x0 : Boxed W1 w.heap.size 28 (.pointer (some ⟨p, 0, none⟩)) := by rw [← fold1]; exact boxed_old (boxed_old (boxed_new w _ _) _) _
  have x1 : Boxed W1 (w.heap.size + 1) 9 (.string n) := by
    rw [← fold1]
    have := boxed_new (w.alloc (.cells #[.pointer (some ⟨p, 0, none⟩)] 28)) 9 (.string n)
    rw [World.size_alloc] at this
    exact boxed_old this _
  have x2 : Boxed W1 (w.heap.size + 1 + 1) 9 (.string t) := by
    rw [← fold1]
    have := boxed_new ((w.alloc (.cells #[.pointer (some ⟨p, 0, none⟩)] 28)).alloc (.cells #[.string n] 9)) 9 (.string t)
    rwa [World.size_alloc, World.size_alloc] at this
  obtain ⟨W2, fold2⟩ : ∃ W2, W1.alloc (.cells #[.string n, .string t] 9) = W2 := ⟨_, rfl⟩
  have b2 : Below W1.heap.size W1 W2 := by rw [← fold2]; exact (Below.refl _ _).alloc (Nat.le_refl _) _
  have b02 : Below w.heap.size w W2 := b1.trans (b2.mono b1.size)
  have st2 := hst.kept b02
  have hr : Row W2 (.slice (some ⟨W1.heap.size, 0, none⟩) 2 2) (scells [n, t]) := by
    rw [← fold2]; exact (own1_new W1 W1.heap.size 9 [.string n, .string t] (Nat.le_refl _) (by simp [maxLen])).row
  rw [z1] at hr
  have hC := check_at st2 _ [n, t] hr (by simp; exact ⟨hs, ht⟩)
  have hI : checkI m [n, t] = if m.dark then 9 else if goodN n && goodN t then 0 else 2 := by unfold checkI; simp
  rw [hI] at hC
  have u0 := boxed_below x0 b2
  have u1 := boxed_below x1 b2
  have u2 := boxed_below x2 b2
  have hFi := find_at st2 ok n hs
  have y0 := x0.cell
  have y1 := x1.cell
  have y2 := x2.cell
  have v0 := u0.cell
  have v1 := u1.cell
  have HS : Hid (∀ W, Below w.heap.size w W → ∃ F', St W p F' m ∧ Moved w W (footS p nb sb ptr vb vs L) F') := fun W hW => ⟨_, ⟨_, _, _, _, _, _, hst.kept hW, rfl⟩, .of_below hW⟩
  cases hd : m.dark with
  | true =>
    have hF : m.move n t = (9, m) := by unfold M.move; rw [hd]; rfl
    rw [hF]
    rw [hd] at hC
    clear hst st2 hr hFi
    go_enter Tryz.func49, Tryz.ntmps49
    go_wp2_with (go_at_call 30; refine hC.mono ?_; rintro e W2 ⟨rfl, rfl⟩)
    go_ret
    exact ⟨rfl, HS.out _ b02⟩
  | false =>
    rw [hd] at hC
    cases hgg : (goodN n && goodN t) with
    | false =>
      have hF : m.move n t = (2, m) := by
        unfold M.move; rw [hd]
        rw [Bool.and_eq_false_iff] at hgg
        rw [if_neg (by simp), if_pos hgg]
      rw [hF]
      rw [hgg] at hC
      clear hst st2 hr hFi hgg
      go_enter Tryz.func49, Tryz.ntmps49
      go_wp2_with (go_at_call 30; refine hC.mono ?_; rintro e W2 ⟨rfl, rfl⟩)
      go_ret
      exact ⟨rfl, HS.out _ b02⟩
    | true =>
      rw [hgg] at hC
      rw [Bool.and_eq_true] at hgg
      obtain ⟨hg, hgt⟩ := hgg
      cases hf : findE m.dir n with
      | none =>
        have hF : m.move n t = (3, m) := by unfold M.move; rw [hd, hg, hgt, hf]; rfl
        rw [hF]
        have h1 : m.first n true = 3 := first_none hd hg hf
        rw [fileB_none (by rw [h1]; decide), h1] at hFi
        simp only [ptrO] at hFi
        clear hst st2 hr hg hgt hf
        go_enter Tryz.func49, Tryz.ntmps49
        go_wp2_with (first
          | (go_at_call 30; refine hC.mono ?_; rintro e W2 ⟨rfl, rfl⟩)
          | (go_at_call 64; refine hFi.mono ?_; rintro e w3 ⟨rfl, b3⟩))
        go_ret
        exact ⟨rfl, HS.out _ (b02.trans ((b3.alloc b3.size _).mono b02.size))⟩
      | some e0 =>
        have hpl := M.place_of hf
        have hF : m.move n t = m.step (M.shift n t e0.f) := by unfold M.move; rw [hd, hg, hgt, hf, hpl]; rfl
        rw [hF]
        have h1 : m.first n true = 0 := first_some hd hg hf
        rw [fileB_some h1, h1, hpl] at hFi
        simp only [ptrO] at hFi
        have HD : Hid (∀ w3, Below W2.heap.size W2 w3 → (w3.alloc (.cells #[.pointer (some ⟨ptr e0.f, 0, none⟩)] 80)).cell? ⟨w.heap.size, 0, none⟩ = some (.pointer (some ⟨p, 0, none⟩)) ∧ Calls Tryz.prog 65 #[.pointer (some ⟨p, 0, none⟩), .func (.func 83) #[] #[.pointer (some ⟨w.heap.size, 0, none⟩), .pointer (some ⟨w.heap.size + 1, 0, none⟩), .pointer (some ⟨w.heap.size + 1 + 1, 0, none⟩), .pointer (some ⟨w3.heap.size, 0, none⟩)]] (w3.alloc (.cells #[.pointer (some ⟨ptr e0.f, 0, none⟩)] 80)) fun e w' => e = .returned (.int .i64 (m.step (M.shift n t e0.f)).1) ∧ ∃ F', St w' p F' (m.step (M.shift n t e0.f)).2 ∧ Moved w w' (footS p nb sb ptr vb vs L) F') := fun w3 k1 => by
          have k3 : Below W2.heap.size W2 (w3.alloc (.cells #[.pointer (some ⟨ptr e0.f, 0, none⟩)] 80)) := k1.alloc k1.size _
          have hW := b02.trans (k3.mono b02.size)
          refine ⟨(boxed_below u0 k3).cell, (do_at (hst.kept hW) ok hc 83 _ (enters_of Tryz.func83 (by kernel_rfl) rfl) (M.shift n t e0.f) (fun V stV oV sV => move1_at stV ok.tick (by show m.count + 1 ≤ _; omega) n t hs hgt hf _ _ _ _ ((hst.kept hW).box oV (boxed_below u0 k3) (by decide)) ((hst.kept hW).box oV (boxed_below u1 k3) (by decide)) ((hst.kept hW).box oV (boxed_below u2 k3) (by decide)) ((hst.kept hW).box oV (boxed_new w3 _ _) (by decide)))).mono ?_⟩
          rintro e w' ⟨rfl, F', s', m'⟩
          exact ⟨rfl, F', s', (Moved.of_below hW).trans m'⟩
        generalize m.step (M.shift n t e0.f) = res at *
        clear hst st2 hr hg hgt hf
        go_enter Tryz.func49, Tryz.ntmps49
        go_wp2_with (first
          | (go_at_call 30; refine hC.mono ?_; rintro e W2 ⟨rfl, rfl⟩)
          | (go_at_call 64; refine hFi.mono ?_; rintro e w3 ⟨rfl, b3⟩; obtain ⟨k0, hDo⟩ := HD.out w3 b3)
          | (go_at_call 65; refine hDo.mono ?_; rintro e w5 ⟨rfl, F5, s5, m5⟩))
        go_ret
        exact ⟨rfl, F5, s5, m5⟩
end Go.Proofs.YtjgdmbfkondakaaGreatDoor
