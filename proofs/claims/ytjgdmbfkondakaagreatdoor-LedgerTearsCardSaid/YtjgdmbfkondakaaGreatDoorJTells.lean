/-
  Read, Names, Plan, Power, by their contracts; all of them at whichever store that a call made.
-/
import Derived.Test.YtjgdmbfkondakaaGreatDoorJMove
import Derived.Sort.KeysCollected
namespace Go.Proofs.YtjgdmbfkondakaaGreatDoor
open Go.RowKit Go.Maps Go.Shelf Go.Sort Go.WideShapes

theorem cb_lt : ∀ (a b : List UInt8), Lib.compareBytes a b < 0 → a < b
  | [], [], h => by simp [Lib.compareBytes] at h
  | [], _ :: _, _ => List.nil_lt_cons _ _
  | _ :: _, [], h => by simp [Lib.compareBytes] at h
  | x :: a, y :: b, h => by
    unfold Lib.compareBytes at h
    rw [List.cons_lt_cons_iff]
    by_cases h1 : x < y
    · exact .inl h1
    · rw [if_neg h1] at h
      by_cases h2 : y < x
      · rw [if_pos h2] at h; simp at h
      · rw [if_neg h2] at h
        have e : x = y := UInt8.toNat_inj.1 (by rw [UInt8.lt_iff_toNat_lt] at h1 h2; omega)
        exact .inr ⟨e, cb_lt a b h⟩
theorem keys_sorted {ptr : Nat → Nat} {l : List En} (ho : Ord cmpE l) {ss : List (List UInt8)} (hp : ss.Perm (strKeys (DofG pkl pd (ents ptr l)))) : (ss.mergeSort (fun x y => decide (x ≤ y))).map Go.Proofs.encStr = scells (l.map En.name) ∧ ss.length = l.length := by
  have h1 : (strKeys (DofG pkl pd (ents ptr l))).Perm (l.map fun e => e.name.data.toList) := by
    unfold DofG strKeys
    refine ((sorted_perm (entsG pkl pd (ents ptr l))).map _).trans ?_
    unfold entsG ents
    rw [List.map_map, List.map_map]
    exact List.Perm.refl _
  have h2 := hp.trans h1
  have h3 : (l.map fun e => e.name.data.toList).Pairwise fun a b => leB a b = true := by
    rw [List.pairwise_map]
    exact ho.imp fun {a b} h => by
      simp only [leB, decide_eq_true_eq]
      exact List.le_of_lt (cb_lt _ _ h)
  refine ⟨?_, by rw [h2.length_eq, List.length_map]⟩
  have h4 := mergeSort_of_perm h2
  rw [List.mergeSort_of_pairwise h3] at h4
  rw [show ss.mergeSort (fun x y => decide (x ≤ y)) = ss.mergeSort leB from rfl, h4]
  unfold scells
  rw [List.map_map, List.map_map]
  exact List.map_congr_left fun e _ => by simp [Go.Proofs.encStr]

theorem sorts_at (m : Nat) : AnyZ.SortsIn Tryz.prog Tryz.sortedS_ren Fence.wide m :=
  ⟨fun blk off cap ss W hH hblk hsz => callsIn_wide.2 (AnyM.slices_Sort_string Tryz.sortS blk off cap ss W hH hblk hsz),
   fun p cap W => callsIn_wide.2 (AnyM.slices_Sort_string_none Tryz.sortS p cap W)⟩
theorem keys_at (mb : Option Nat) (W : World) : Calls Tryz.prog 107 #[.map mb] W fun e w' => e = .returned (.func (.func 118) #[] #[.pointer (some ⟨W.heap.size, 0, none⟩)]) ∧ w' = W.alloc (.cells #[.map mb] 62) :=
  callsIn_wide.1 (AnyZ.keys_in Tryz.keysD Fence.wide 5 trivial rfl mb W)
set_option maxHeartbeats 1000000 in
theorem sorted_at (b : Nat) (ptr : Nat → Nat) (l : List En) (w : World) (hown : DAt w b (ents ptr l)) (ho : Ord cmpE l) (hlen : l.length ≤ 1000000) :
    Calls Tryz.prog 106 #[.func (.func 118) #[] #[.pointer (some ⟨w.heap.size, 0, none⟩)]] (w.alloc (.cells #[.map (some b)] 62)) fun e w' => ∃ v, e = .returned v ∧ Row w' v (scells (l.map En.name)) ∧ Below w.heap.size w w' := by
  have hbl := hown.lt
  have hsz : Maps.size (DofG pkl pd (ents ptr l)) = l.length := by rw [size_DofG]; simp [ents]
  have hseq : SeqGives Fence.wide 2 Tryz.prog 118 #[.pointer (some ⟨w.heap.size, 0, none⟩)] Go.Proofs.encStr (fun ss => ss.Perm (strKeys (DofG pkl pd (ents ptr l)))) (Maps.size (DofG pkl pd (ents ptr l))) (w.alloc (.cells #[.map (some b)] 62)) :=
    AnyZ.keys_gives (ρ := Tryz.keysD_ren) { Tryz.keysD with } Fence.wide _ trivial rfl (by omega) w.heap.size b _ (DofG pkl pd (ents ptr l)) _ (by simp) (cell_new w _ _) (hown.same (Below.heap_alloc _ _ b hbl))
  refine (callsIn_wide.1 (AnyZ.sorted_in Tryz.sortedS Fence.wide 5 trivial trivial trivial trivial rfl (by omega) (sorts_at _) (enters_of Tryz.func117 (by kernel_rfl) rfl) 118 #[.pointer (some ⟨w.heap.size, 0, none⟩)] trivial (enters_of Tryz.func118 (by kernel_rfl) rfl) _ _ (by rw [hsz]; unfold maxLen; omega) (by rw [hsz]; omega) _ hseq)).mono ?_
  rintro e w' ⟨v, ss, rfl, hS, hrow, _, hb⟩
  obtain ⟨h1, h2⟩ := keys_sorted ho hS
  rw [h1, h2] at hrow
  refine ⟨v, rfl, row_of_owns (base := (w.alloc (.cells #[.map (some b)] 62)).heap.size) (e := Tryz.sortedS_ren.t 26) ?_, ((Below.refl _ w).alloc (Nat.le_refl _) _).trans (hb.mono (by simp))⟩
  rw [show (scells (l.map En.name)).length = l.length by simp [scells]]
  exact hrow

set_option maxRecDepth 20000 in
set_option maxHeartbeats 1000000 in
theorem names_any (p : Nat) (F : Nat → Prop) (m : M) (w : World) (h : St w p F m) (ok : m.Ok) (hc : m.count ≤ 1000000) :
    Calls Tryz.prog 91 #[.pointer (some ⟨p, 0, none⟩)] w fun e w' => ∃ v, e = .returned v ∧ Row w' v (scells m.names) ∧ Below w.heap.size w w' := by
  obtain ⟨nb, sb, ptr, vb, vs, L, hst, rfl⟩ := h
  have hC := check_at hst (.slice none 0 0) [] (.inl ⟨rfl, rfl⟩) (by simp)
  have hI : checkI m [] = if m.dark then 9 else 0 := by unfold checkI; simp
  rw [hI] at hC
  have c6 := hst.cells.2.2.2.2.2.2.1
  have hK := keys_at (some nb) w
  have hS := sorted_at nb ptr m.dir w hst.n ok.od (by have := ok.ld; omega)
  unfold M.names
  clear hst
  cases hd : m.dark with
  | true =>
    rw [hd] at hC
    go_enter Tryz.func91, Tryz.ntmps91
    go_wp2_with (go_at_call 30; refine hC.mono ?_; rintro e w ⟨rfl, rfl⟩)
    go_ret
    exact ⟨_, rfl, .inl ⟨rfl, rfl⟩, Below.refl _ _⟩
  | false =>
    rw [hd] at hC
    simp only [Bool.false_eq_true, if_false]
    generalize m.dir.map En.name = nl at *
    go_enter Tryz.func91, Tryz.ntmps91
    go_wp2_with fail
    refine hC.mono ?_
    rintro e w ⟨rfl, rfl⟩
    go_wp2_with fail
    refine hK.mono ?_
    rintro e w1 ⟨rfl, rfl⟩
    go_wp2_with fail
    refine hS.mono ?_
    rintro e w2 ⟨v, rfl, row, b⟩
    obtain ⟨va, vc, rfl, _⟩ := row.sliceStrs
    go_wp2
    go_ret
    exact ⟨_, rfl, row, b⟩

set_option maxRecDepth 20000 in
set_option maxHeartbeats 1000000 in
theorem read_any (p : Nat) (F : Nat → Prop) (m : M) (n : ByteArray) (w : World) (h : St w p F m) (ok : m.Ok) (hs : n.size ≤ maxLen) :
    Calls Tryz.prog 26 #[.pointer (some ⟨p, 0, none⟩), .string n] w fun e w' => ∃ v, e = .returned (.tuple #[v, .int .i64 (m.read n).2]) ∧ Holds w' v (m.read n).1 ∧ Below w.heap.size w w' := by
  obtain ⟨nb, sb, ptr, vb, vs, L, hst, rfl⟩ := h
  have hFi := find_at hst ok n hs
  by_cases h1 : m.first n true = 0
  · obtain ⟨hd, hg, e0, hf, hpl⟩ := M.first_true h1
    rw [fileB_some h1, h1, hpl] at hFi
    simp only [ptrO] at hFi
    have he := (findE_some hf).1
    have hr : m.read n = ((m.fl e0.f).now, 0) := by unfold M.read; rw [h1, hpl]; rfl
    rw [hr]
    have hFl := hst.file e0.f (hst.dl e0 he)
    have HW : Hid (∀ w2, Below w.heap.size w w2 → w2.cell? ⟨ptr e0.f, 0, none⟩ = some (vb e0.f) ∧ Calls Tryz.prog 67 #[vb e0.f] w2 fun e w' => ∃ v, e = .returned v ∧ Holds w' v (m.fl e0.f).now ∧ Below w2.heap.size w2 w') := fun w2 b => by
      have h2 := (hst.kept b).file e0.f (hst.dl e0 he)
      exact ⟨h2.cells.1, clone_any _ _ w2 h2.b.holds (ok.fl e0.f).1⟩
    obtain ⟨oa, oc, hvo⟩ := hFl.b.slice
    rw [hvo] at HW
    generalize (m.fl e0.f).now = ln at *
    generalize ptr e0.f = q at *
    clear hst hFl hd hg hf hvo
    go_enter Tryz.func26, Tryz.ntmps26
    go_wp2_with fail
    refine hFi.mono ?_
    rintro e w2 ⟨rfl, b2⟩
    obtain ⟨c0, hCl⟩ := HW.out w2 b2
    go_wp2_with fail
    refine hCl.mono ?_
    rintro e w3 ⟨v, rfl, hv, b3⟩
    obtain ⟨va, vc, rfl⟩ := hv.slice
    go_wp2
    go_ret2
    exact ⟨_, rfl, hv, b2.trans (b3.mono b2.size)⟩
  · have hr : m.read n = ([], m.first n true) := by unfold M.read; rw [if_pos h1]
    rw [hr]
    rw [fileB_none h1] at hFi
    simp only [ptrO] at hFi
    generalize m.first n true = er at *
    clear hst
    go_enter Tryz.func26, Tryz.ntmps26
    go_wp2_with (go_at_call 64; refine hFi.mono ?_; rintro e w2 ⟨rfl, b2⟩)
    go_ret2
    exact ⟨_, rfl, .inl ⟨rfl, rfl⟩, b2⟩

section
variable {w W : World} {p nb sb : Nat} {ptr : Nat → Nat} {vb vs : Nat → Value} {L : Nat → Prop} {m m' : M}
theorem StAt.retold (h : StAt w p nb sb ptr vb vs L m) {V : World} (hp : V.heap[p]? = some (.cells (scell m' nb sb).toArray 66 (0, 0))) (ho : ∀ k, k ≠ p → V.heap[k]? = w.heap[k]?) (hs : V.heap.size = w.heap.size) (h1 : V.os = w.os) (h2 : V.tape = w.tape) (h3 : V.output = w.output) (hd : m'.dir = m.dir) (hsu : m'.sur = m.sur) (ha : m'.all = m.all) : ∃ F', St V p F' m' ∧ Moved w V (footS p nb sb ptr vb vs L) F' :=
  ⟨_, ⟨_, _, _, _, _, _, h.turn hp ho hd hsu ha, rfl⟩, moved_turn ho h1 h2 h3 hs⟩
end

set_option maxRecDepth 20000 in
set_option maxHeartbeats 1000000 in
theorem power_any (p : Nat) (F : Nat → Prop) (m : M) (w : World) (h : St w p F m) :
    Calls Tryz.prog 18 #[.pointer (some ⟨p, 0, none⟩)] w fun e w' => e = .returned (.tuple #[]) ∧ ∃ F', St w' p F' m.power ∧ Moved w w' F F' := by
  obtain ⟨nb, sb, ptr, vb, vs, L, hst, rfl⟩ := h
  have hM := made_at hst
  obtain ⟨_, c1, _, _, c4, c5, _, _⟩ := hst.cells
  have f1 := hst.frozen 1
  have f4 := hst.frozen 4
  have f5 := hst.frozen 5
  have HE : Hid (∀ V : World, V.heap = (((w.setCell ⟨p, 1, none⟩ (.bool true)).setCell ⟨p, 4, none⟩ (.int .i64 0)).setCell ⟨p, 5, none⟩ (.int .i64 0)).heap → V.os = w.os → V.tape = w.tape → V.output = w.output → ∃ F', St V p F' m.power ∧ Moved w V (footS p nb sb ptr vb vs L) F') := fun V hV h1 h2 h3 => by
    refine hst.retold ?_ (fun k hk => ?_) (by rw [hV]; simp) h1 h2 h3 rfl rfl rfl
    · rw [hV]
      exact heap_set_list (i := 5) (heap_set_list (i := 4) (heap_set_list (i := 1) hst.blk (.bool true)) (.int .i64 0)) (.int .i64 0)
    · rw [hV, Below.heap_setCell _ _ _ _ hk, Below.heap_setCell _ _ _ _ hk, Below.heap_setCell _ _ _ _ hk]
  clear hst
  go_enter Tryz.func18, Tryz.ntmps18
  go_wp2_with (go_at_call 53; refine hM.mono ?_; rintro e w ⟨rfl, rfl⟩)
  go_end0
  exact ⟨rfl, HE.out _ rfl rfl rfl rfl⟩

set_option maxRecDepth 20000 in
set_option maxHeartbeats 1000000 in
theorem plan_any (p : Nat) (F : Nat → Prop) (m : M) (n k : Int) (w : World) (h : St w p F m) :
    Calls Tryz.prog 12 #[.pointer (some ⟨p, 0, none⟩), .int .i64 n, .int .i64 k] w fun e w' => e = .returned (.int .i64 (m.plan n k).1) ∧ ∃ F', St w' p F' (m.plan n k).2 ∧ Moved w w' F F' := by
  obtain ⟨nb, sb, ptr, vb, vs, L, hst, rfl⟩ := h
  have hC := check_at hst (.slice none 0 0) [] (.inl ⟨rfl, rfl⟩) (by simp)
  have hI : checkI m [] = if m.dark then 9 else 0 := by unfold checkI; simp
  rw [hI] at hC
  have HS : Hid (∃ F', St w p F' m ∧ Moved w w (footS p nb sb ptr vb vs L) F') := ⟨_, ⟨_, _, _, _, _, _, hst, rfl⟩, .refl _ _⟩
  cases hd : m.dark with
  | true =>
    have hF : m.plan n k = (9, m) := by unfold M.plan; rw [hd]; rfl
    rw [hF]
    rw [hd] at hC
    clear hst
    go_enter Tryz.func12, Tryz.ntmps12
    go_wp2_with (go_at_call 30; refine hC.mono ?_; rintro e w ⟨rfl, rfl⟩)
    go_ret
    exact ⟨rfl, HS.out⟩
  | false =>
    rw [hd] at hC
    by_cases hn : n < 0
    · have hF : m.plan n k = (2, m) := by unfold M.plan; rw [hd]; simp [hn]
      rw [hF]
      clear hst
      go_enter Tryz.func12, Tryz.ntmps12
      go_wp2_with (go_at_call 30; refine hC.mono ?_; rintro e w ⟨rfl, rfl⟩)
      go_ret
      exact ⟨rfl, HS.out⟩
    · have hF : m.plan n k = (0, { m with left := n, keep := k }) := by unfold M.plan; rw [hd]; simp [hn]
      rw [hF]
      obtain ⟨_, _, _, _, c4, c5, _, _⟩ := hst.cells
      have f4 := hst.frozen 4
      have f5 := hst.frozen 5
      have HE : Hid (∀ V : World, V.heap = ((w.setCell ⟨p, 4, none⟩ (.int .i64 n)).setCell ⟨p, 5, none⟩ (.int .i64 k)).heap → V.os = w.os → V.tape = w.tape → V.output = w.output → ∃ F', St V p F' { m with left := n, keep := k } ∧ Moved w V (footS p nb sb ptr vb vs L) F') := fun V hV h1 h2 h3 => by
        refine hst.retold ?_ (fun i hi => ?_) (by rw [hV]; simp) h1 h2 h3 rfl rfl rfl
        · rw [hV]
          exact heap_set_list (i := 5) (heap_set_list (i := 4) hst.blk (.int .i64 n)) (.int .i64 k)
        · rw [hV, Below.heap_setCell _ _ _ _ hi, Below.heap_setCell _ _ _ _ hi]
      clear hst
      go_enter Tryz.func12, Tryz.ntmps12
      go_wp2_with (go_at_call 30; refine hC.mono ?_; rintro e w ⟨rfl, rfl⟩)
      go_ret
      exact ⟨rfl, HE.out _ rfl rfl rfl rfl⟩

theorem fail_any (p : Nat) (F : Nat → Prop) (m : M) (k : Int) (w : World) (h : St w p F m) (ok : m.Ok) (hc : m.count ≤ 1000000) (hk : -9223372036854775808 ≤ k ∧ k < 9223372036854775808) :
    Calls Tryz.prog 17 #[.pointer (some ⟨p, 0, none⟩), .int .i64 k] w fun e w' => e = .returned (.tuple #[]) ∧ ∃ F', St w' p F' (m.fail k) ∧ Moved w w' F F' := by
  obtain ⟨nb, sb, ptr, vb, vs, L, hst, rfl⟩ := h
  exact fail_at hst ok hc k hk

theorem on_any (p : Nat) (F : Nat → Prop) (m : M) (w : World) (h : St w p F m) : Calls Tryz.prog 16 #[.pointer (some ⟨p, 0, none⟩)] w fun e w' => e = .returned (.bool (!m.dark)) ∧ w' = w := by
  obtain ⟨nb, sb, ptr, vb, vs, L, hst, rfl⟩ := h
  exact on_at hst

end Go.Proofs.YtjgdmbfkondakaaGreatDoor

/-
  Names: its row is new.
-/
namespace Go.Proofs.YtjgdmbfkondakaaGreatDoor
open Go.RowKit Go.Maps Go.Shelf Go.Sort Go.WideShapes

/-- A row that lies behind a place of the heap. -/
def Behind (z : Nat) (v : Value) : Prop := ∀ ad n c, v = .slice (some ad) n c → z ≤ ad.block
theorem behind_owns {w : World} {base : Nat} {e : TypeId} {v : Value} {cs : List Value} (h : w.ownsRow base e 1 v cs.length cs) : Behind base v := by
  rcases h.2 with ⟨rfl, hn⟩ | ⟨g, cap, cur, rfl, hb, _, hnc, hcm, _, _⟩
  · intro ad n c e; cases e
  · intro ad n c e
    injection e with e _ _
    injection e with e
    rw [← e]
    exact hb
theorem Row.moved {Y Z : World} {F F' : Nat → Prop} {z : Nat} {v : Value} {cs : List Value} (h : Row Y v cs) (hb : Behind z v) (hF : ∀ k, F k → k < z) (mv : Moved Y Z F F') : Row Z v cs := by
  rcases h with h | ⟨a, cap, hv, h1, h2, h3⟩
  · exact .inl h
  · refine .inr ⟨a, cap, hv, h1, h2, fun j u hj => ?_⟩
    have h4 := h3 j u hj
    have h5 : (a.add j).block = a.block := Addr.block_add a j
    have h6 := World.block_lt_of_cell? _ _ h4
    rw [h5] at h6
    have h7 : z ≤ a.block := hb a _ _ hv
    have h8 := mv.block a.block h6 (fun hf => by have := hF _ hf; omega)
    rw [← h4]
    simp only [World.cell?, h5]
    rw [h8]
set_option maxHeartbeats 1000000 in
theorem sorted_new (b : Nat) (ptr : Nat → Nat) (l : List En) (w : World) (hown : DAt w b (ents ptr l)) (ho : Ord cmpE l) (hlen : l.length ≤ 1000000) :
    Calls Tryz.prog 106 #[.func (.func 118) #[] #[.pointer (some ⟨w.heap.size, 0, none⟩)]] (w.alloc (.cells #[.map (some b)] 62)) fun e w' => ∃ v, e = .returned v ∧ (Row w' v (scells (l.map En.name)) ∧ Behind w.heap.size v) ∧ Below w.heap.size w w' := by
  have hbl := hown.lt
  have hsz : Maps.size (DofG pkl pd (ents ptr l)) = l.length := by rw [size_DofG]; simp [ents]
  have hseq : SeqGives Fence.wide 2 Tryz.prog 118 #[.pointer (some ⟨w.heap.size, 0, none⟩)] Go.Proofs.encStr (fun ss => ss.Perm (strKeys (DofG pkl pd (ents ptr l)))) (Maps.size (DofG pkl pd (ents ptr l))) (w.alloc (.cells #[.map (some b)] 62)) :=
    AnyZ.keys_gives (ρ := Tryz.keysD_ren) { Tryz.keysD with } Fence.wide _ trivial rfl (by omega) w.heap.size b _ (DofG pkl pd (ents ptr l)) _ (by simp) (cell_new w _ _) (hown.same (Below.heap_alloc _ _ b hbl))
  refine (callsIn_wide.1 (AnyZ.sorted_in Tryz.sortedS Fence.wide 5 trivial trivial trivial trivial rfl (by omega) (sorts_at _) (enters_of Tryz.func117 (by kernel_rfl) rfl) 118 #[.pointer (some ⟨w.heap.size, 0, none⟩)] trivial (enters_of Tryz.func118 (by kernel_rfl) rfl) _ _ (by rw [hsz]; unfold maxLen; omega) (by rw [hsz]; omega) _ hseq)).mono ?_
  rintro e w' ⟨v, ss, rfl, hS, hrow, _, hb⟩
  obtain ⟨h1, h2⟩ := keys_sorted ho hS
  rw [h1, h2] at hrow
  have h3 : w'.ownsRow (w.alloc (.cells #[.map (some b)] 62)).heap.size (Tryz.sortedS_ren.t 26) 1 v (scells (l.map En.name)).length (scells (l.map En.name)) := by
    rw [show (scells (l.map En.name)).length = l.length by simp [scells]]
    exact hrow
  refine ⟨v, rfl, ⟨row_of_owns h3, fun ad n c e => ?_⟩, ((Below.refl _ w).alloc (Nat.le_refl _) _).trans (hb.mono (by simp))⟩
  have := behind_owns h3 ad n c e
  simp at this
  omega
set_option maxRecDepth 20000 in
set_option maxHeartbeats 1000000 in
theorem names_new (p : Nat) (F : Nat → Prop) (m : M) (w : World) (h : St w p F m) (ok : m.Ok) (hc : m.count ≤ 1000000) :
    Calls Tryz.prog 91 #[.pointer (some ⟨p, 0, none⟩)] w fun e w' => ∃ v, e = .returned v ∧ (Row w' v (scells m.names) ∧ Behind w.heap.size v) ∧ Below w.heap.size w w' := by
  obtain ⟨nb, sb, ptr, vb, vs, L, hst, rfl⟩ := h
  have hC := check_at hst (.slice none 0 0) [] (.inl ⟨rfl, rfl⟩) (by simp)
  have hI : checkI m [] = if m.dark then 9 else 0 := by unfold checkI; simp
  rw [hI] at hC
  have c6 := hst.cells.2.2.2.2.2.2.1
  have hK := keys_at (some nb) w
  have hS := sorted_new nb ptr m.dir w hst.n ok.od (by have := ok.ld; omega)
  unfold M.names
  clear hst
  cases hd : m.dark with
  | true =>
    rw [hd] at hC
    go_enter Tryz.func91, Tryz.ntmps91
    go_wp2_with (go_at_call 30; refine hC.mono ?_; rintro e w ⟨rfl, rfl⟩)
    go_ret
    exact ⟨_, rfl, ⟨.inl ⟨rfl, rfl⟩, fun ad n c e => by cases e⟩, Below.refl _ _⟩
  | false =>
    rw [hd] at hC
    simp only [Bool.false_eq_true, if_false]
    generalize m.dir.map En.name = nl at *
    go_enter Tryz.func91, Tryz.ntmps91
    go_wp2_with fail
    refine hC.mono ?_
    rintro e w ⟨rfl, rfl⟩
    go_wp2_with fail
    refine hK.mono ?_
    rintro e w1 ⟨rfl, rfl⟩
    go_wp2_with fail
    refine hS.mono ?_
    rintro e w2 ⟨v, rfl, ⟨row, hbe⟩, b⟩
    obtain ⟨va, vc, rfl, _⟩ := row.sliceStrs
    have HBe : Hid _ := hbe
    clear hbe
    go_wp2
    go_ret
    exact ⟨_, rfl, ⟨row, HBe.out⟩, b⟩
end Go.Proofs.YtjgdmbfkondakaaGreatDoor

/-
  Read tells new memory.
-/
namespace Go.Proofs.YtjgdmbfkondakaaGreatDoor
open Go.RowKit Go.Maps

set_option maxRecDepth 20000 in
theorem clone_new (x : Value) (xs : List UInt8) (w : World) (hx : Holds w x xs) (h1 : xs.length ≤ 1073741824) :
    Calls Tryz.prog 67 #[x] w fun e w' => ∃ v, e = .returned v ∧ (Holds w' v xs ∧ Behind w.heap.size v) ∧ Below w.heap.size w w' := by
  rcases hx with ⟨rfl, rfl⟩ | ⟨a, cap, rfl, h2, h3, h4⟩
  · have hq := fun W => Lib.run_eql_slice_nil (P := Tryz.prog) W 31 5 none 0 0 0 0 Tryz.underlying31
    go_enter Tryz.func67, Tryz.ntmps67
    go_wp2
    go_ret
    exact ⟨_, rfl, ⟨.inl ⟨rfl, rfl⟩, fun ad n c e => by cases e⟩, Below.refl _ _⟩
  · obtain ⟨W, fold⟩ : ∃ W, w.alloc (.cells #[] 5) = W := ⟨_, rfl⟩
    have bW : Below w.heap.size w W := by rw [← fold]; exact (Below.refl _ _).alloc (Nat.le_refl _) _
    have own : Owns W w.heap.size 5 (.slice (some ⟨w.heap.size, 0, none⟩) 0 0) [] := by rw [← fold]; exact owns_made w w.heap.size 5 #[] 0 (Nat.le_refl _) (Nat.zero_le _) rfl
    have hx : Holds W (.slice (some a) xs.length cap) xs := Holds.below (.inr ⟨a, cap, rfl, h2, h3, h4⟩) bW (Nat.le_refl _)
    have hq := fun W => Lib.run_eql_slice_nil (P := Tryz.prog) W 31 5 (some a) xs.length cap 0 0 Tryz.underlying31
    clear h2 h3 h4
    go_enter Tryz.func67, Tryz.ntmps67
    go_wp2_with (at_builtin; refine wpList_append_bytes rfl _ _ 31 5 isU8 rfl w.heap.size _ _ [] xs rfl rfl own hx (by simp; omega) bW.size ?_; intro v2 w2 own2 bel2 sz2)
    go_ret
    refine ⟨_, rfl, ⟨own2.holds, ?_⟩, bW.trans bel2⟩
    intro ad n c e
    rcases own2.2 with ⟨h, _⟩ | ⟨g, cap', cur, h, hb, _⟩
    · rw [h] at e; cases e
    · rw [h] at e
      injection e with e _ _
      injection e with e
      rw [← e]
      exact hb
set_option maxRecDepth 20000 in
set_option maxHeartbeats 1000000 in
theorem read_new (p : Nat) (F : Nat → Prop) (m : M) (n : ByteArray) (w : World) (h : St w p F m) (ok : m.Ok) (hs : n.size ≤ maxLen) :
    Calls Tryz.prog 26 #[.pointer (some ⟨p, 0, none⟩), .string n] w fun e w' => ∃ v, e = .returned (.tuple #[v, .int .i64 (m.read n).2]) ∧ (Holds w' v (m.read n).1 ∧ Behind w.heap.size v) ∧ Below w.heap.size w w' := by
  obtain ⟨nb, sb, ptr, vb, vs, L, hst, rfl⟩ := h
  have hFi := find_at hst ok n hs
  by_cases h1 : m.first n true = 0
  · obtain ⟨hd, hg, e0, hf, hpl⟩ := M.first_true h1
    rw [fileB_some h1, h1, hpl] at hFi
    simp only [ptrO] at hFi
    have he := (findE_some hf).1
    have hr : m.read n = ((m.fl e0.f).now, 0) := by unfold M.read; rw [h1, hpl]; rfl
    rw [hr]
    have hFl := hst.file e0.f (hst.dl e0 he)
    have HW : Hid (∀ w2, Below w.heap.size w w2 → w2.cell? ⟨ptr e0.f, 0, none⟩ = some (vb e0.f) ∧ Calls Tryz.prog 67 #[vb e0.f] w2 fun e w' => ∃ v, e = .returned v ∧ (Holds w' v (m.fl e0.f).now ∧ Behind w2.heap.size v) ∧ Below w2.heap.size w2 w') := fun w2 b => by
      have h2 := (hst.kept b).file e0.f (hst.dl e0 he)
      exact ⟨h2.cells.1, clone_new _ _ w2 h2.b.holds (ok.fl e0.f).1⟩
    obtain ⟨oa, oc, hvo⟩ := hFl.b.slice
    rw [hvo] at HW
    generalize (m.fl e0.f).now = ln at *
    generalize ptr e0.f = q at *
    clear hst hFl hd hg hf hvo
    go_enter Tryz.func26, Tryz.ntmps26
    go_wp2_with fail
    refine hFi.mono ?_
    rintro e w2 ⟨rfl, b2⟩
    obtain ⟨c0, hCl⟩ := HW.out w2 b2
    go_wp2_with fail
    refine hCl.mono ?_
    rintro e w3 ⟨v, rfl, ⟨hv, hbe⟩, b3⟩
    obtain ⟨va, vc, rfl⟩ := hv.slice
    have HBE : Hid (Behind w2.heap.size (.slice va ln.length vc)) := hbe
    clear hbe
    go_wp2
    go_ret2
    exact ⟨_, rfl, ⟨hv, fun ad n c e => Nat.le_trans b2.size (HBE.out ad n c e)⟩, b2.trans (b3.mono b2.size)⟩
  · have hr : m.read n = ([], m.first n true) := by unfold M.read; rw [if_pos h1]
    rw [hr]
    rw [fileB_none h1] at hFi
    simp only [ptrO] at hFi
    generalize m.first n true = er at *
    clear hst
    go_enter Tryz.func26, Tryz.ntmps26
    go_wp2_with (go_at_call 64; refine hFi.mono ?_; rintro e w2 ⟨rfl, b2⟩)
    go_ret2
    exact ⟨_, rfl, ⟨.inl ⟨rfl, rfl⟩, fun ad n c e => by cases e⟩, b2⟩
theorem holds_moved {Y Z : World} {F F' : Nat → Prop} {z : Nat} {v : Value} {l : List UInt8} (h : Holds Y v l) (hb : Behind z v) (hF : ∀ k, F k → k < z) (mv : Moved Y Z F F') : Holds Z v l := by
  rcases h with h | ⟨a, cap, rfl, h1, h2, h3⟩
  · exact .inl h
  · refine .inr ⟨a, cap, rfl, h1, h2, fun j u hj => ?_⟩
    have h4 := h3 j u hj
    have h5 : (a.add j).block = a.block := Addr.block_add a j
    have h6 := World.block_lt_of_cell? _ _ h4
    rw [h5] at h6
    have h8 := mv.block a.block h6 (fun hf => by have := hF _ hf; have := hb a _ _ rfl; omega)
    rw [← h4]
    simp only [World.cell?, h5]
    rw [h8]
end Go.Proofs.YtjgdmbfkondakaaGreatDoor
