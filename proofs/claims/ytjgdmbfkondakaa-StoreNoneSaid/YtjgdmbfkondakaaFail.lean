/-
  Fail, by its contract.
-/
import Derived.Test.YtjgdmbfkondakaaHalf
namespace Go.Proofs.Ytjgdmbfkondakaa
open Go.RowKit Go.Maps Go.Shelf Go.Sort

attribute [local go_sem] Oper.semAt_some

set_option maxRecDepth 100000 in
set_option maxHeartbeats 8000000 in
theorem fail_in (p nb sb : Nat) (ptr : Nat → Nat) (vb vs : Nat → Value) (L : Nat → Prop) (m : M) (k : Int) (w : World) (h : StAt w p nb sb ptr vb vs L m) (ok : m.Ok) (hc : m.count ≤ 1000000) (hk : -9223372036854775808 ≤ k ∧ k < 9223372036854775808) :
    CallsIn Fence.wide 3 Try.prog 4 #[.pointer (some ⟨p, 0, none⟩), .int .i64 k] w fun e w' => e = .returned (.tuple #[]) ∧ ∃ F', St w' p F' (m.fail k) ∧ Moved w w' (footS p nb sb ptr vb vs L) F' := by
  have hmm := @run_makeMap Try.prog
  obtain ⟨W2, fold⟩ : ∃ W2, (w.alloc (.cells #[.pointer (some ⟨p, 0, none⟩)] 31)).alloc (.cells #[.int .i64 k] 3) = W2 := ⟨_, rfl⟩
  have b2 : Below w.heap.size w W2 := by rw [← fold]; exact ((Below.refl _ w).alloc (Nat.le_refl _) _).alloc (by simp) _
  have s2 : W2.heap.size = w.heap.size + 2 := by rw [← fold]; simp
  have hM := made_at (h.kept b2)
  have h2 := h.kept b2
  have hp : p < w.heap.size := h.blk_lt
  have x0 : Boxed W2 w.heap.size 31 (.pointer (some ⟨p, 0, none⟩)) := by rw [← fold]; exact (Boxed.new w 31 (.pointer (some ⟨p, 0, none⟩))).alloc _
  have x1 : Boxed W2 (w.heap.size + 1) 3 (.int .i64 k) := by
    rw [← fold]
    have := Boxed.new (w.alloc (.cells #[.pointer (some ⟨p, 0, none⟩)] 31)) 3 (.int .i64 k)
    rwa [World.size_alloc] at this
  have y0 := x0.cell
  have c1 := h2.cell 1
  have f1 := h2.frozen 1
  simp only [scell, List.getElem?_cons_succ, List.getElem?_cons_zero] at c1
  obtain ⟨W3, fold3⟩ : ∃ W3, W2.setCell ⟨p, 1, none⟩ (.bool false) = W3 := ⟨_, rfl⟩
  have o3 : ∀ i, i ≠ p → W3.heap[i]? = W2.heap[i]? := fun i hi => by rw [← fold3]; exact Below.heap_setCell _ _ _ _ hi
  have s3 : W3.heap.size = w.heap.size + 2 := by rw [← fold3]; simpa using s2
  have p3 : W3.heap[p]? = some (.cells [.int .i64 m.room, .bool false, .int .i64 (m.count : Int), .int .i64 (m.need : Int), .int .i64 m.left, .int .i64 m.keep, .map (some nb), .map (some sb)].toArray 30 (0, 0)) := by
    rw [← fold3]; exact heap_set_list (i := 1) h2.blk (.bool false)
  have z0 : W3.cell? ⟨w.heap.size, 0, none⟩ = some (.pointer (some ⟨p, 0, none⟩)) := (World.cell?_of_block (a := ⟨w.heap.size, 0, none⟩) (o3 w.heap.size (by omega))).trans y0
  have d6 : W3.cell? ⟨p, 6, none⟩ = some (.map (some nb)) := by simp [World.cell?, p3]
  have d3 : W3.cell? ⟨p, 3, none⟩ = some (.int .i64 (m.need : Int)) := by simp [World.cell?, p3]
  have g6 : W3.frozen? ⟨p, 6, none⟩ = false := by simp [World.frozen?, p3]
  have g3 : W3.frozen? ⟨p, 3, none⟩ = false := by simp [World.frozen?, p3]
  have l3 : p < W3.heap.size := by omega
  have a6 : ∀ o, (W3.alloc o).cell? ⟨p, 6, none⟩ = some (.map (some nb)) := fun o => bcell d6
  have a3 : ∀ o, (W3.alloc o).cell? ⟨p, 3, none⟩ = some (.int .i64 (m.need : Int)) := fun o => bcell d3
  have a0 : ∀ o, (W3.alloc o).cell? ⟨w.heap.size, 0, none⟩ = some (.pointer (some ⟨p, 0, none⟩)) := fun o => bcell z0
  have e6 : ∀ o i, (W3.alloc o).frozen? ⟨p, i, none⟩ = false := fun o i => (World.frozen?_of_block (a := ⟨p, i, none⟩) (Below.heap_alloc W3 o p l3)).trans (by simp [World.frozen?, p3])
  obtain ⟨W4, fold4⟩ : ∃ W4, ((W3.alloc (.map #[] 0)).setCell ⟨p, 6, none⟩ (.map (some (w.heap.size + 2)))).setCell ⟨p, 3, none⟩ (.int .i64 0) = W4 := ⟨_, rfl⟩
  have o4 : ∀ i, i ≠ p → i < w.heap.size + 2 → W4.heap[i]? = W2.heap[i]? := fun i hi hl => by
    rw [← fold4, Below.heap_setCell _ _ _ _ hi, Below.heap_setCell _ _ _ _ hi, Below.heap_alloc _ _ _ (by omega), o3 i hi]
  have s4 : W4.heap.size = w.heap.size + 3 := by rw [← fold4]; simp [s3]
  have p4 : W4.heap[p]? = some (.cells (scell (m.half k []) (w.heap.size + 2) sb).toArray 30 (0, 0)) := by
    rw [← fold4]
    exact heap_set_list (i := 3) (heap_set_list (i := 6) ((Below.heap_alloc W3 _ p l3).trans p3) (.map (some (w.heap.size + 2)))) (.int .i64 0)
  have n4 : DAt W4 (w.heap.size + 2) [] := by
    have := dAt_new W3
    rw [s3] at this
    refine this.same ?_
    rw [← fold4, Below.heap_setCell _ _ _ _ (show w.heap.size + 2 ≠ p by omega), Below.heap_setCell _ _ _ _ (show w.heap.size + 2 ≠ p by omega)]
  have q7 : W4.cell? ⟨p, 7, none⟩ = some (.map (some sb)) := by simp [World.cell?, p4, scell]
  have q0 : W4.cell? ⟨w.heap.size, 0, none⟩ = some (.pointer (some ⟨p, 0, none⟩)) := (World.cell?_of_block (a := ⟨w.heap.size, 0, none⟩) (o4 w.heap.size (by omega) (by omega))).trans y0
  have hne : ¬ p = w.heap.size := by omega
  have hne2 : ¬ w.heap.size = p := by omega
  have hmx : Try.prog.follows .mixedOrders = true := by kernel_rfl
  refine callsIn_of_wp_marks Try.func4 rfl trivial ?_ rfl
  simp only [Try.ntmps4, List.size_toArray, List.length_cons, List.length_nil, Nat.reduceAdd, Nat.reduceSub, Array.replicate_succ, Array.replicate_zero, List.push_toArray, List.append_toArray, List.nil_append, List.cons_append]
  gi_wp2_with (first
    | (refine ⟨trivial, ?_⟩; gi_at_call 20; refine (callsIn_wide.2 hM).mono ?_; rintro e w' ⟨rfl, rfl⟩))
  first | (gi_region_o) | fail
  gi_wp2_with (first
    | (refine ⟨trivial, ?_⟩; gi_at_call 21; refine (callsIn_wide.2 (all_any _ _)).mono ?_; rintro e w' ⟨rfl, rfl⟩))
  have hsb : sb < w.heap.size := h.s.lt
  have H0 : FailI w p nb sb ptr vb vs L m k [] (W4.alloc (.cells #[.map (some sb)] 28)).drew [] vb vs := by
    have hold : ∀ i, i < w.heap.size + 3 → (W4.alloc (.cells #[.map (some sb)] 28)).drew.heap[i]? = W4.heap[i]? := fun i hi => Below.heap_alloc W4 _ i (by omega)
    have hw : ∀ i, i ≠ p → i < w.heap.size → (W4.alloc (.cells #[.map (some sb)] 28)).drew.heap[i]? = w.heap[i]? := fun i h1 h2 => (hold i (by omega)).trans ((o4 i h1 (by omega)).trans (b2.block i h2))
    refine ⟨rfl, by simp, List.Pairwise.nil, h.dark0 k ((hold p (by omega)).trans p4) (n4.same (hold _ (by omega))) (by omega) (fun i hi hne => hw i hne (h.lts i hi)), fun i g _ hg => hg, (hold _ (by omega)).trans ((o4 _ (by omega) (by omega)).trans x0), (hold _ (by omega)).trans ((o4 _ (by omega) (by omega)).trans x1), ?_⟩
    refine ⟨?_, ?_, ?_, by simp; omega, fun i hi hn => hw i (fun e => hn (.inl (.inl e))) hi, fun _ h => .inl h⟩
    · rw [← fold4, ← fold3]; exact b2.os
    · rw [← fold4, ← fold3]; exact b2.tape
    · rw [← fold4, ← fold3]; exact b2.output
  have hBd : (W4.alloc (.cells #[.map (some sb)] 28)).drew.cell? ⟨w.heap.size + 3, 0, none⟩ = some (.map (some sb)) := by
    have : (W4.alloc (.cells #[.map (some sb)] 28)).heap[W4.heap.size]? = _ := heap_alloc_new W4 _
    rw [s4] at this
    show (W4.alloc (.cells #[.map (some sb)] 28)).cell? _ = _
    simp [World.cell?, this]
  have hs0 : (W4.alloc (.cells #[.map (some sb)] 28)).drew.heap.size = w.heap.size + 4 := by simp [s4]
  have hseq := all_seq (3 - 1) (by decide) (w.heap.size + 3) sb (ents ptr m.sur) (ok.dlS ptr) _ hBd H0.st.s
  rename_i hQ
  generalize (W4.alloc (.cells #[.map (some sb)] 28)).drew = W0 at *
  clear fold fold3 fold4 o3 o4 p3 p4 n4 q7 q0 z0 d6 d3 g6 g3 a6 a3 a0 e6 y0 c1 f1 x0 x1 h2 hM hBd b2 s2 s3 s4 l3
  refine wpIn_range_own rfl (by decide) (gf := 41) (lb := #[.pointer (some ⟨w.heap.size + 3, 0, none⟩)]) rfl trivial (enters_of Try.func41 (by kernel_rfl) rfl)
    (b := sb) hseq (fun _ => rfl)
    (fun pre W => ∃ es vb' vs', FailI w p nb sb ptr vb vs L m k pre W es vb' vs')
    (fun pre A B row hA hg hr => by
      obtain ⟨es, vb', vs', hi⟩ := hA
      exact ⟨es, vb', vs', hi.grown hsb hg (by rw [hs0] at hr; exact hr)⟩)
    ⟨[], vb, vs, H0⟩
    (fun x => { tmps := #[.pointer (some ⟨p, 0, none⟩), .int .i64 k, .pointer (some ⟨w.heap.size, 0, none⟩), .pointer (some ⟨w.heap.size + 1, 0, none⟩), .string x.1, .pointer (some ⟨x.2, 0, none⟩), .pointer (some ⟨p, 0, none⟩), .bool true, .bool false, .pointer (some ⟨p, 0, none⟩), .pointer (some ⟨p, 0, none⟩), .pointer (some ⟨p, 1, none⟩), .pointer (some ⟨p, 0, none⟩), .pointer (some ⟨p, 0, none⟩), .map (some (w.heap.size + 2)), .pointer (some ⟨p, 0, none⟩), .pointer (some ⟨p, 6, none⟩), .pointer (some ⟨p, 0, none⟩), .pointer (some ⟨p, 3, none⟩), .pointer (some ⟨p, 0, none⟩), .pointer (some ⟨p, 0, none⟩), .pointer (some ⟨p, 7, none⟩), .map (some sb), .func (.func 41) #[] #[.pointer (some ⟨w.heap.size + 3, 0, none⟩)], .string x.1, .pointer (some ⟨x.2, 0, none⟩), undef, undef, undef, undef, undef, undef, undef], defers := [] }) ?assign ?body ?done
  case assign =>
    intro l x W K hK
    gi_wp2
    exact hK
  case body =>
    rintro l pre ⟨nm, q⟩ W ⟨es, vb', vs', hi⟩ ⟨hx, hnp⟩
    obtain ⟨e0, he, hxe⟩ := List.mem_map.1 hx
    simp only [Prod.mk.injEq] at hxe
    obtain ⟨rfl, rfl⟩ := hxe
    have hne : e0 ∉ es := fun h1 => hnp (by rw [← hi.pre]; exact List.mem_map.2 ⟨e0, h1, rfl⟩)
    have hL : (∃ e ∈ m.sur, e.f = e0.f) := ⟨e0, he, rfl⟩
    have hlt := ok.fs e0 he
    have hni : e0.f ∉ es.map En.f := fun h1 => by
      obtain ⟨e', h2, h3⟩ := List.mem_map.1 h1
      exact hne (by rw [← M.pw_one ok.ns (hi.sub e' h2) he h3]; exact h2)
    have hfl : (m.half k es).fl e0.f = m.fl e0.f := by rw [half_fl hlt, if_neg hni]
    have hfile := hi.st.file e0.f hL
    rw [hfl] at hfile
    have hFF := ffail_at (ptr e0.f) _ _ (m.fl e0.f) k W hfile (ok.fl e0.f).1 (ok.fl e0.f).2 hk
    have hnd : es.Nodup := hi.diff.imp fun {a b} hne e => hne (by rw [e])
    have hlen : es.length ≤ 1000000 := by have := nodup_le hnd hi.sub; have := ok.ls; omega
    have y0 := hi.b0.cell
    have y1 := hi.b1.cell
    have HL : Hid (∀ w1 v, FileAt w1 (ptr e0.f) v v (failF k (m.fl e0.f)) → (∀ g, v.ownBlock = some g → (vb' e0.f).ownBlock = some g ∨ (vs' e0.f).ownBlock = some g) → Moved W w1 (fun k => k = ptr e0.f) (fun k => k = ptr e0.f) →
        w1.cell? ⟨w.heap.size, 0, none⟩ = some (.pointer (some ⟨p, 0, none⟩)) ∧
        Calls Try.prog 23 #[.pointer (some ⟨p, 0, none⟩), .string e0.name, .pointer (some ⟨ptr e0.f, 0, none⟩)] w1 fun e w2 => e = .returned (.tuple #[]) ∧ KeepsFrom (w.heap.size + 4) W w2 ∧ KpW (w.heap.size + 4) sb W w2 ∧ ∃ es vb' vs', FailI w p nb sb ptr vb vs L m k (pre ++ [(e0.name, ptr e0.f)]) w2 es vb' vs') := fun w1 v hf hv mv1 => by
      have st1 := hi.st.failOne hL hlt hni hf hv mv1
      have hfb := hfile.blk
      have hneed : ({ m.half k es with all := failOn k (e0.f :: es.map En.f) m.all } : M).need ≤ 1073741840000000 := by
        have hb : ∀ i, (({ m.half k es with all := failOn k (e0.f :: es.map En.f) m.all } : M).fl i).now.length ≤ 1073741824 := fun i => by
          unfold M.fl
          by_cases h9 : i < m.all.length
          · simp only
            rw [getD_lt _ (by rw [failOn_length]; exact h9)]
            have := ok.small _ (List.getElem_mem h9)
            simp only [failOn, List.getElem_mapIdx]
            split
            · exact leftF_length this.1 this.2
            · exact this.1
          · simp only
            rw [List.getD_eq_getElem?_getD, List.getElem?_eq_none (by rw [failOn_length]; omega)]; simp [zeroFl]
        have := M.sum_le (l := es.map fun e => 16 + (({ m.half k es with all := failOn k (e0.f :: es.map En.f) m.all } : M).fl e.f).now.length) (b := 1073741840) (by
          intro x hx
          obtain ⟨e, _, rfl⟩ := List.mem_map.1 hx
          have := hb e.f
          omega)
        rw [List.length_map] at this
        show (es.map _).sum ≤ _
        have h5 : es.length * 1073741840 ≤ 1000000 * 1073741840 := Nat.mul_le_mul_right _ hlen
        omega
      refine ⟨?_, (lay_at st1 (i := e0.f) hL e0.name (by have := goodN_size (ok.gs e0 he); unfold maxLen; omega) (fun e h1 e2 => hne (by rw [← ok.os.names (hi.sub e h1) he e2]; exact h1)) (ents_dl hi.diff fun e h1 => goodN_size (ok.gs e (hi.sub e h1))) hlen hneed ?_).mono ?_⟩
      · refine (World.cell?_of_block (a := ⟨w.heap.size, 0, none⟩) (mv1.block _ hi.b0.lt fun e => ?_)).trans y0
        have h0 := hi.b0
        unfold Boxed at h0
        have e' : w.heap.size = ptr e0.f := e
        rw [e', hfb] at h0
        simp at h0
      · have := (st1.file e0.f hL).b
        unfold M.fl
        simp only
        rw [getD_lt _ (by rw [failOn_length]; exact hlt)]
        have := ok.small _ (List.getElem_mem hlt)
        simp only [failOn, List.getElem_mapIdx]
        split
        · exact leftF_length this.1 this.2
        · exact this.1
      · rintro e w2 ⟨rfl, st2, mv2⟩
        obtain ⟨r1, r2, r3⟩ := hi.one hp hsb (fun e he => h.sl e he) ok he hne hv mv1 st2 mv2
        exact ⟨rfl, r1, r2, _, _, _, r3⟩
    clear hi hfile hfl hni hnd hlen hx hnp hne hL hlt he hseq H0
    rw [hs0]
    clear hs0
    gi_wp2_with (first
      | (refine ⟨trivial, ?_⟩; gi_at_call 22; refine (CallsIn.inRound l (callsIn_wide.2 hFF)).mono ?_; rintro e w1 ⟨rfl, v, f1, v1, m1, z1⟩; obtain ⟨u0, hLay⟩ := HL.out w1 v f1 v1 m1; clear f1 v1 m1 z1)
      | (refine ⟨trivial, ?_⟩; gi_at_call 23; refine (CallsIn.inRound l (callsIn_wide.2 hLay)).mono ?_; rintro e w2 ⟨rfl, r1, r2, r3⟩))
    all_goals exact ⟨rfl, r1, r2, r3⟩
  case done =>
    rintro D xs W hD hperm ⟨es, vb', vs', hi⟩ hK
    rw [hs0] at hD
    have hi2 := hi.grown hsb (grownBy_putObj' W D (.deferred none)) (fun r e => by cases e; exact ⟨hD, _, hK, rfl⟩)
    have HE : Hid _ := hi2.done ok hperm h
    clear hi hi2 hseq H0
    gi_wp2
    refine ⟨by simp, .inl ⟨_, _, rfl, run_takeDeferred hK, ?_⟩⟩
    exact ⟨_, results_none rfl _ _ _, rfl, HE.out⟩
theorem fail_at {p nb sb : Nat} {ptr : Nat → Nat} {vb vs : Nat → Value} {L : Nat → Prop} {m : M} {w : World} (h : StAt w p nb sb ptr vb vs L m) (ok : m.Ok) (hc : m.count ≤ 1000000) (k : Int) (hk : -9223372036854775808 ≤ k ∧ k < 9223372036854775808) :
    Calls Try.prog 4 #[.pointer (some ⟨p, 0, none⟩), .int .i64 k] w fun e w' => e = .returned (.tuple #[]) ∧ ∃ F', St w' p F' (m.fail k) ∧ Moved w w' (footS p nb sb ptr vb vs L) F' :=
  callsIn_wide.1 (fail_in p nb sb ptr vb vs L m k w h ok hc hk)
end Go.Proofs.Ytjgdmbfkondakaa
