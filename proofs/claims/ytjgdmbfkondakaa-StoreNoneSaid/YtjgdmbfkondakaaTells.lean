/-
  Read, Names, Plan, Power, by their contracts; all of them at whichever store that a call made.
-/
import Derived.Test.YtjgdmbfkondakaaMove2
import Derived.Sort.KeysCollected
namespace Go.Proofs.Ytjgdmbfkondakaa
open Go.RowKit Go.Maps Go.Shelf Go.Sort Go.WideShapes

theorem cb_lt : ∀ (a b : List UInt8), Lib.compareBytes a b < 0 → a < b
  | [], [], h => by simp [Lib.compareBytes] at h
  | [], _ :: _, _ => List.nil_lt_cons _ _
  | _ :: _, [], h => by simp [Lib.compareBytes] at h
  | x :: a, y :: b, h => by
    unfold Lib.compareBytes at h
    rw [List.cons_lt_cons_iff]
    by_cases h1 : x < y
    · exact .inl h1
    · rw [if_neg h1] at h
      by_cases h2 : y < x
      · rw [if_pos h2] at h; simp at h
      · rw [if_neg h2] at h
        have e : x = y := UInt8.toNat_inj.1 (by rw [UInt8.lt_iff_toNat_lt] at h1 h2; omega)
        exact .inr ⟨e, cb_lt a b h⟩
theorem keys_sorted {ptr : Nat → Nat} {l : List En} (ho : Ord cmpE l) {ss : List (List UInt8)} (hp : ss.Perm (strKeys (DofG pkl pd (ents ptr l)))) : (ss.mergeSort (fun x y => decide (x ≤ y))).map Go.Proofs.encStr = scells (l.map En.name) ∧ ss.length = l.length := by
  have h1 : (strKeys (DofG pkl pd (ents ptr l))).Perm (l.map fun e => e.name.data.toList) := by
    unfold DofG strKeys
    refine ((sorted_perm (entsG pkl pd (ents ptr l))).map _).trans ?_
    unfold entsG ents
    rw [List.map_map, List.map_map]
    exact List.Perm.refl _
  have h2 := hp.trans h1
  have h3 : (l.map fun e => e.name.data.toList).Pairwise fun a b => leB a b = true := by
    rw [List.pairwise_map]
    exact ho.imp fun {a b} h => by
      simp only [leB, decide_eq_true_eq]
      exact List.le_of_lt (cb_lt _ _ h)
  refine ⟨?_, by rw [h2.length_eq, List.length_map]⟩
  have h4 := mergeSort_of_perm h2
  rw [List.mergeSort_of_pairwise h3] at h4
  rw [show ss.mergeSort (fun x y => decide (x ≤ y)) = ss.mergeSort leB from rfl, h4]
  unfold scells
  rw [List.map_map, List.map_map]
  exact List.map_congr_left fun e _ => by simp [Go.Proofs.encStr]

theorem sorts_at (m : Nat) : AnyZ.SortsIn Try.prog Try.sortedS_ren Fence.wide m :=
  ⟨fun blk off cap ss W hH hblk hsz => callsIn_wide.2 (AnyM.slices_Sort_string Try.sortS blk off cap ss W hH hblk hsz),
   fun p cap W => callsIn_wide.2 (AnyM.slices_Sort_string_none Try.sortS p cap W)⟩
theorem keys_at (mb : Option Nat) (W : World) : Calls Try.prog 39 #[.map mb] W fun e w' => e = .returned (.func (.func 48) #[] #[.pointer (some ⟨W.heap.size, 0, none⟩)]) ∧ w' = W.alloc (.cells #[.map mb] 28) :=
  callsIn_wide.1 (AnyZ.keys_in Try.keysD Fence.wide 5 trivial rfl mb W)
set_option maxHeartbeats 1000000 in
theorem sorted_at (b : Nat) (ptr : Nat → Nat) (l : List En) (w : World) (hown : DAt w b (ents ptr l)) (ho : Ord cmpE l) (hlen : l.length ≤ 1000000) :
    Calls Try.prog 38 #[.func (.func 48) #[] #[.pointer (some ⟨w.heap.size, 0, none⟩)]] (w.alloc (.cells #[.map (some b)] 28)) fun e w' => ∃ v, e = .returned v ∧ Row w' v (scells (l.map En.name)) ∧ Below w.heap.size w w' := by
  have hbl := hown.lt
  have hsz : Maps.size (DofG pkl pd (ents ptr l)) = l.length := by rw [size_DofG]; simp [ents]
  have hseq : SeqGives Fence.wide 2 Try.prog 48 #[.pointer (some ⟨w.heap.size, 0, none⟩)] Go.Proofs.encStr (fun ss => ss.Perm (strKeys (DofG pkl pd (ents ptr l)))) (Maps.size (DofG pkl pd (ents ptr l))) (w.alloc (.cells #[.map (some b)] 28)) :=
    AnyZ.keys_gives (ρ := Try.keysD_ren) { Try.keysD with } Fence.wide _ trivial rfl (by omega) w.heap.size b _ (DofG pkl pd (ents ptr l)) _ (by simp) (cell_new w _ _) (hown.same (Below.heap_alloc _ _ b hbl))
  refine (callsIn_wide.1 (AnyZ.sorted_in Try.sortedS Fence.wide 5 trivial trivial trivial trivial rfl (by omega) (sorts_at _) (enters_of Try.func47 (by kernel_rfl) rfl) 48 #[.pointer (some ⟨w.heap.size, 0, none⟩)] trivial (enters_of Try.func48 (by kernel_rfl) rfl) _ _ (by rw [hsz]; unfold maxLen; omega) (by rw [hsz]; omega) _ hseq)).mono ?_
  rintro e w' ⟨v, ss, rfl, hS, hrow, _, hb⟩
  obtain ⟨h1, h2⟩ := keys_sorted ho hS
  rw [h1, h2] at hrow
  refine ⟨v, rfl, row_of_owns (base := (w.alloc (.cells #[.map (some b)] 28)).heap.size) (e := Try.sortedS_ren.t 26) ?_, ((Below.refl _ w).alloc (Nat.le_refl _) _).trans (hb.mono (by simp))⟩
  rw [show (scells (l.map En.name)).length = l.length by simp [scells]]
  exact hrow

set_option maxRecDepth 20000 in
set_option maxHeartbeats 1000000 in
theorem names_any (p : Nat) (F : Nat → Prop) (m : M) (w : World) (h : St w p F m) (ok : m.Ok) (hc : m.count ≤ 1000000) :
    Calls Try.prog 15 #[.pointer (some ⟨p, 0, none⟩)] w fun e w' => ∃ v, e = .returned v ∧ Row w' v (scells m.names) ∧ Below w.heap.size w w' := by
  obtain ⟨nb, sb, ptr, vb, vs, L, hst, rfl⟩ := h
  have hC := check_at hst (.slice none 0 0) [] (.inl ⟨rfl, rfl⟩) (by simp)
  have hI : checkI m [] = if m.dark then 9 else 0 := by unfold checkI; simp
  rw [hI] at hC
  have c6 := hst.cells.2.2.2.2.2.2.1
  have hK := keys_at (some nb) w
  have hS := sorted_at nb ptr m.dir w hst.n ok.od (by have := ok.ld; omega)
  unfold M.names
  clear hst
  cases hd : m.dark with
  | true =>
    rw [hd] at hC
    go_enter Try.func15, Try.ntmps15
    go_wp2_with (go_at_call 26; refine hC.mono ?_; rintro e w ⟨rfl, rfl⟩)
    go_ret
    exact ⟨_, rfl, .inl ⟨rfl, rfl⟩, Below.refl _ _⟩
  | false =>
    rw [hd] at hC
    simp only [Bool.false_eq_true, if_false]
    generalize m.dir.map En.name = nl at *
    go_enter Try.func15, Try.ntmps15
    go_wp2_with fail
    refine hC.mono ?_
    rintro e w ⟨rfl, rfl⟩
    go_wp2_with fail
    refine hK.mono ?_
    rintro e w1 ⟨rfl, rfl⟩
    go_wp2_with fail
    refine hS.mono ?_
    rintro e w2 ⟨v, rfl, row, b⟩
    obtain ⟨va, vc, rfl, _⟩ := row.sliceStrs
    go_wp2
    go_ret
    exact ⟨_, rfl, row, b⟩

set_option maxRecDepth 20000 in
set_option maxHeartbeats 1000000 in
theorem read_any (p : Nat) (F : Nat → Prop) (m : M) (n : ByteArray) (w : World) (h : St w p F m) (ok : m.Ok) (hs : n.size ≤ maxLen) :
    Calls Try.prog 6 #[.pointer (some ⟨p, 0, none⟩), .string n] w fun e w' => ∃ v, e = .returned (.tuple #[v, .int .i64 (m.read n).2]) ∧ Holds w' v (m.read n).1 ∧ Below w.heap.size w w' := by
  obtain ⟨nb, sb, ptr, vb, vs, L, hst, rfl⟩ := h
  have hFi := find_at hst ok n hs
  by_cases h1 : m.first n true = 0
  · obtain ⟨hd, hg, e0, hf, hpl⟩ := M.first_true h1
    rw [fileB_some h1, h1, hpl] at hFi
    simp only [ptrO] at hFi
    have he := (findE_some hf).1
    have hr : m.read n = ((m.fl e0.f).now, 0) := by unfold M.read; rw [h1, hpl]; rfl
    rw [hr]
    have hFl := hst.file e0.f (hst.dl e0 he)
    have HW : Hid (∀ w2, Below w.heap.size w w2 → w2.cell? ⟨ptr e0.f, 0, none⟩ = some (vb e0.f) ∧ Calls Try.prog 25 #[vb e0.f] w2 fun e w' => ∃ v, e = .returned v ∧ Holds w' v (m.fl e0.f).now ∧ Below w2.heap.size w2 w') := fun w2 b => by
      have h2 := (hst.kept b).file e0.f (hst.dl e0 he)
      exact ⟨h2.cells.1, clone_any _ _ w2 h2.b.holds (ok.fl e0.f).1⟩
    obtain ⟨oa, oc, hvo⟩ := hFl.b.slice
    rw [hvo] at HW
    generalize (m.fl e0.f).now = ln at *
    generalize ptr e0.f = q at *
    clear hst hFl hd hg hf hvo
    go_enter Try.func6, Try.ntmps6
    go_wp2_with fail
    refine hFi.mono ?_
    rintro e w2 ⟨rfl, b2⟩
    obtain ⟨c0, hCl⟩ := HW.out w2 b2
    go_wp2_with fail
    refine hCl.mono ?_
    rintro e w3 ⟨v, rfl, hv, b3⟩
    obtain ⟨va, vc, rfl⟩ := hv.slice
    go_wp2
    go_ret2
    exact ⟨_, rfl, hv, b2.trans (b3.mono b2.size)⟩
  · have hr : m.read n = ([], m.first n true) := by unfold M.read; rw [if_pos h1]
    rw [hr]
    rw [fileB_none h1] at hFi
    simp only [ptrO] at hFi
    generalize m.first n true = er at *
    clear hst
    go_enter Try.func6, Try.ntmps6
    go_wp2_with (go_at_call 24; refine hFi.mono ?_; rintro e w2 ⟨rfl, b2⟩)
    go_ret2
    exact ⟨_, rfl, .inl ⟨rfl, rfl⟩, b2⟩

section
variable {w W : World} {p nb sb : Nat} {ptr : Nat → Nat} {vb vs : Nat → Value} {L : Nat → Prop} {m m' : M}
theorem StAt.retold (h : StAt w p nb sb ptr vb vs L m) {V : World} (hp : V.heap[p]? = some (.cells (scell m' nb sb).toArray 30 (0, 0))) (ho : ∀ k, k ≠ p → V.heap[k]? = w.heap[k]?) (hs : V.heap.size = w.heap.size) (h1 : V.os = w.os) (h2 : V.tape = w.tape) (h3 : V.output = w.output) (hd : m'.dir = m.dir) (hsu : m'.sur = m.sur) (ha : m'.all = m.all) : ∃ F', St V p F' m' ∧ Moved w V (footS p nb sb ptr vb vs L) F' :=
  ⟨_, ⟨_, _, _, _, _, _, h.turn hp ho hd hsu ha, rfl⟩, moved_turn ho h1 h2 h3 hs⟩
end

set_option maxRecDepth 20000 in
set_option maxHeartbeats 1000000 in
theorem power_any (p : Nat) (F : Nat → Prop) (m : M) (w : World) (h : St w p F m) :
    Calls Try.prog 5 #[.pointer (some ⟨p, 0, none⟩)] w fun e w' => e = .returned (.tuple #[]) ∧ ∃ F', St w' p F' m.power ∧ Moved w w' F F' := by
  obtain ⟨nb, sb, ptr, vb, vs, L, hst, rfl⟩ := h
  have hM := made_at hst
  obtain ⟨_, c1, _, _, c4, c5, _, _⟩ := hst.cells
  have f1 := hst.frozen 1
  have f4 := hst.frozen 4
  have f5 := hst.frozen 5
  have HE : Hid (∀ V : World, V.heap = (((w.setCell ⟨p, 1, none⟩ (.bool true)).setCell ⟨p, 4, none⟩ (.int .i64 0)).setCell ⟨p, 5, none⟩ (.int .i64 0)).heap → V.os = w.os → V.tape = w.tape → V.output = w.output → ∃ F', St V p F' m.power ∧ Moved w V (footS p nb sb ptr vb vs L) F') := fun V hV h1 h2 h3 => by
    refine hst.retold ?_ (fun k hk => ?_) (by rw [hV]; simp) h1 h2 h3 rfl rfl rfl
    · rw [hV]
      exact heap_set_list (i := 5) (heap_set_list (i := 4) (heap_set_list (i := 1) hst.blk (.bool true)) (.int .i64 0)) (.int .i64 0)
    · rw [hV, Below.heap_setCell _ _ _ _ hk, Below.heap_setCell _ _ _ _ hk, Below.heap_setCell _ _ _ _ hk]
  clear hst
  go_enter Try.func5, Try.ntmps5
  go_wp2_with (go_at_call 20; refine hM.mono ?_; rintro e w ⟨rfl, rfl⟩)
  go_end0
  exact ⟨rfl, HE.out _ rfl rfl rfl rfl⟩

set_option maxRecDepth 20000 in
set_option maxHeartbeats 1000000 in
theorem plan_any (p : Nat) (F : Nat → Prop) (m : M) (n k : Int) (w : World) (h : St w p F m) :
    Calls Try.prog 14 #[.pointer (some ⟨p, 0, none⟩), .int .i64 n, .int .i64 k] w fun e w' => e = .returned (.int .i64 (m.plan n k).1) ∧ ∃ F', St w' p F' (m.plan n k).2 ∧ Moved w w' F F' := by
  obtain ⟨nb, sb, ptr, vb, vs, L, hst, rfl⟩ := h
  have hC := check_at hst (.slice none 0 0) [] (.inl ⟨rfl, rfl⟩) (by simp)
  have hI : checkI m [] = if m.dark then 9 else 0 := by unfold checkI; simp
  rw [hI] at hC
  have HS : Hid (∃ F', St w p F' m ∧ Moved w w (footS p nb sb ptr vb vs L) F') := ⟨_, ⟨_, _, _, _, _, _, hst, rfl⟩, .refl _ _⟩
  cases hd : m.dark with
  | true =>
    have hF : m.plan n k = (9, m) := by unfold M.plan; rw [hd]; rfl
    rw [hF]
    rw [hd] at hC
    clear hst
    go_enter Try.func14, Try.ntmps14
    go_wp2_with (go_at_call 26; refine hC.mono ?_; rintro e w ⟨rfl, rfl⟩)
    go_ret
    exact ⟨rfl, HS.out⟩
  | false =>
    rw [hd] at hC
    by_cases hn : n < 0
    · have hF : m.plan n k = (2, m) := by unfold M.plan; rw [hd]; simp [hn]
      rw [hF]
      clear hst
      go_enter Try.func14, Try.ntmps14
      go_wp2_with (go_at_call 26; refine hC.mono ?_; rintro e w ⟨rfl, rfl⟩)
      go_ret
      exact ⟨rfl, HS.out⟩
    · have hF : m.plan n k = (0, { m with left := n, keep := k }) := by unfold M.plan; rw [hd]; simp [hn]
      rw [hF]
      obtain ⟨_, _, _, _, c4, c5, _, _⟩ := hst.cells
      have f4 := hst.frozen 4
      have f5 := hst.frozen 5
      have HE : Hid (∀ V : World, V.heap = ((w.setCell ⟨p, 4, none⟩ (.int .i64 n)).setCell ⟨p, 5, none⟩ (.int .i64 k)).heap → V.os = w.os → V.tape = w.tape → V.output = w.output → ∃ F', St V p F' { m with left := n, keep := k } ∧ Moved w V (footS p nb sb ptr vb vs L) F') := fun V hV h1 h2 h3 => by
        refine hst.retold ?_ (fun i hi => ?_) (by rw [hV]; simp) h1 h2 h3 rfl rfl rfl
        · rw [hV]
          exact heap_set_list (i := 5) (heap_set_list (i := 4) hst.blk (.int .i64 n)) (.int .i64 k)
        · rw [hV, Below.heap_setCell _ _ _ _ hi, Below.heap_setCell _ _ _ _ hi]
      clear hst
      go_enter Try.func14, Try.ntmps14
      go_wp2_with (go_at_call 26; refine hC.mono ?_; rintro e w ⟨rfl, rfl⟩)
      go_ret
      exact ⟨rfl, HE.out _ rfl rfl rfl rfl⟩

theorem fail_any (p : Nat) (F : Nat → Prop) (m : M) (k : Int) (w : World) (h : St w p F m) (ok : m.Ok) (hc : m.count ≤ 1000000) (hk : -9223372036854775808 ≤ k ∧ k < 9223372036854775808) :
    Calls Try.prog 4 #[.pointer (some ⟨p, 0, none⟩), .int .i64 k] w fun e w' => e = .returned (.tuple #[]) ∧ ∃ F', St w' p F' (m.fail k) ∧ Moved w w' F F' := by
  obtain ⟨nb, sb, ptr, vb, vs, L, hst, rfl⟩ := h
  exact fail_at hst ok hc k hk

theorem on_any (p : Nat) (F : Nat → Prop) (m : M) (w : World) (h : St w p F m) : Calls Try.prog 18 #[.pointer (some ⟨p, 0, none⟩)] w fun e w' => e = .returned (.bool (!m.dark)) ∧ w' = w := by
  obtain ⟨nb, sb, ptr, vb, vs, L, hst, rfl⟩ := h
  exact on_at hst

theorem count_any (p : Nat) (F : Nat → Prop) (m : M) (w : World) (h : St w p F m) : Calls Try.prog 17 #[.pointer (some ⟨p, 0, none⟩)] w fun e w' => e = .returned (.int .i64 (m.count : Int)) ∧ w' = w := by
  obtain ⟨nb, sb, ptr, vb, vs, L, hst, rfl⟩ := h
  exact count_at hst

theorem used_any (p : Nat) (F : Nat → Prop) (m : M) (w : World) (h : St w p F m) : Calls Try.prog 16 #[.pointer (some ⟨p, 0, none⟩)] w fun e w' => e = .returned (.int .i64 (m.used : Int)) ∧ w' = w := by
  obtain ⟨nb, sb, ptr, vb, vs, L, hst, rfl⟩ := h
  exact used_at hst

end Go.Proofs.Ytjgdmbfkondakaa
