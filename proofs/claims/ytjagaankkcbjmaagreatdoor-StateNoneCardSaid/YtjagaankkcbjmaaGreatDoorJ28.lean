/-
  slices.SortFunc, slices.SortedFunc at items; Out, by its contract.
-/
import Derived.Test.YtjagaankkcbjmaaGreatDoorJ27
import Derived.Test.YtjagaankkcbjmaaGreatDoorJ8
import Derived.Test.YtjagaankkcbjmaaGreatDoorJ18
namespace Go.Proofs.YtjagaankkcbjmaaGreatDoor.K
end Go.Proofs.YtjagaankkcbjmaaGreatDoor.K
namespace Go.Proofs.YtjagaankkcbjmaaGreatDoor.F
open Go.Proofs.YtjagaankkcbjmaaGreatDoor.K
open Go.RowKit Go.Sort

instance : Inhabited It := ⟨zeroIt⟩
def cmpR (x y : It) : Int := if x.tag < y.tag then -1 else if y.tag < x.tag then 1 else 0
theorem ltR (x y : It) : ltOf cmpR x y = decide (x.tag < y.tag) := by
  unfold ltOf cmpR
  by_cases h1 : x.tag < y.tag
  · simp [h1]
  · by_cases h2 : y.tag < x.tag <;> simp [h1, h2]
theorem swoR : SWO (ltOf cmpR) where
  irrefl x := by rw [ltR]; simp
  trans x y z h1 h2 := by rw [ltR] at *; simp at *; omega
  ntrans x y z h1 h2 := by rw [ltR] at *; simp at *; omega

set_option maxHeartbeats 400000 in
theorem compare_any (x y : Nat) (W : World) : Calls Tryz.prog 167 #[.int .u64 (x : Int), .int .u64 (y : Int)] W fun e w' => e = .returned (.int .i64 (if x < y then -1 else if y < x then 1 else 0)) ∧ w' = W := by
  by_cases h1 : x < y
  · have h1' : (x : Int) < (y : Int) := by omega
    rw [if_pos h1]
    go_enter Tryz.func167, Tryz.ntmps167
    go_wp2
    all_goals go_ret
    all_goals exact ⟨rfl, rfl⟩
  · have h1' : ¬ (x : Int) < (y : Int) := by omega
    rw [if_neg h1]
    by_cases h2 : y < x
    · have h2' : (y : Int) < (x : Int) := by omega
      rw [if_pos h2]
      go_enter Tryz.func167, Tryz.ntmps167
      go_wp2
      all_goals go_ret
      all_goals exact ⟨rfl, rfl⟩
    · have h2' : ¬ (y : Int) < (x : Int) := by omega
      rw [if_neg h2]
      go_enter Tryz.func167, Tryz.ntmps167
      go_wp2
      all_goals go_ret
      all_goals exact ⟨rfl, rfl⟩

set_option maxRecDepth 10000 in
set_option maxHeartbeats 1000000 in
theorem outc_any (x y : It) (W : World) : Calls Tryz.prog 166 #[iv x, iv y] W fun e w' => e = .returned (.int .i64 (cmpR x y)) ∧ ∃ q os', w' = grow (W.drewN q) os' := by
  have hcon := fun W' => compare_any x.tag y.tag W'
  unfold cmpR
  generalize (if x.tag < y.tag then (-1 : Int) else if y.tag < x.tag then 1 else 0) = r at hcon ⊢
  go_enter Tryz.func166, Tryz.ntmps166
  go_wp2_with (go_at_call 167; refine (hcon _).mono ?_; rintro e w' ⟨rfl, rfl⟩)
  go_ret
  exact ⟨rfl, 0, _, by rw [alloc_eq_grow, alloc_eq_grow, grow_grow]; rfl⟩

theorem flatR (l : List It) : flatK icells 8 l.toArray = (cellsOf icells l).toArray := by
  have hll := cellsOf_length (enc := icells) l
  refine ext_get! (by simp [hll]) fun t ht => ?_
  have ht' : t < l.length * 8 := by simpa using ht
  rw [get_flatK _ _ _ _ (by simpa using ht')]
  have hil : t / 8 < l.length := by omega
  have hj : t % 8 < 8 := Nat.mod_lt _ (by decide)
  have hg := cellsOf_get (enc := icells) l (t / 8) (t % 8) hil hj
  rw [show t / 8 * 8 + t % 8 = t by omega] at hg
  have e : l.toArray[t / 8]! = l[t / 8] := by simp [hil]
  have hb : t < (cellsOf icells l).length := by rw [hll]; exact ht'
  have hr : (cellsOf icells l).toArray[t]! = (cellsOf icells l)[t] := by rw [getElem!_pos _ t (by simpa using hb)]; simp
  rw [hr, e]
  rw [List.getElem?_eq_getElem hb] at hg
  have hc : t % 8 < (icells l[t / 8]).length := hj
  rw [List.getElem?_eq_getElem hc] at hg
  injection hg with hg
  rw [hg]
  first
    | rw [getElem!_pos _ _ hc]
    | simp [hc]
theorem holdsR {w : World} {g : Nat} {l : List It} {T : List Value} (hg : w.heap[g]? = some (.cells (cellsOf icells l ++ T).toArray 102 (0, 0))) : HoldsK icells 8 w g 0 l.toArray := by
  intro j hj
  rw [flatR] at hj ⊢
  have hj' : j < (cellsOf icells l).length := by simpa using hj
  refine ⟨?_, frozen_of_list hg _⟩
  rw [Nat.zero_add, cell_of_list hg, List.getElem?_append_left hj', List.getElem?_eq_getElem hj', getElem!_pos _ j (by simpa using hj')]
  simp
theorem sortedWorld {w : World} {g n : Nat} {l l' : List It} {T : List Value} {os : Array Obj} (hg : w.heap[g]? = some (.cells (cellsOf icells l ++ T).toArray 102 (0, 0))) (hl : l'.length = l.length) :
    (sortWorldK icells 8 w g 0 n l'.toArray os).heap[g]? = some (.cells (cellsOf icells l' ++ T).toArray 102 (0, 0)) ∧ w.grownBy (sortWorldK icells 8 w g 0 n l'.toArray os) (some g) := by
  have hlt := (Array.getElem?_eq_some_iff.1 hg).1
  have hsz : (putRowK icells 8 (Sort.ahead w n) g 0 l'.toArray).heap.size = w.heap.size := by unfold putRowK; simp
  have hgb : (putRowK icells 8 (Sort.ahead w n) g 0 l'.toArray).heap[g]? = some (.cells (cellsOf icells l' ++ T).toArray 102 (0, 0)) := by
    unfold putRowK putRow mapBlock
    show (w.heap.modify g _)[g]? = _
    rw [Array.getElem?_modify, if_pos rfl, hg]
    simp only [Option.map_some, onCells, flatR]
    congr 2
    apply Array.ext'
    apply List.ext_getElem?
    intro k
    have e1 := cellsOf_length (enc := icells) l
    have e2 := cellsOf_length (enc := icells) l'
    unfold putCells
    simp only [Array.toList_mapIdx, List.getElem?_mapIdx, Nat.zero_le, true_and, Nat.zero_add, Nat.sub_zero, List.size_toArray, id]
    by_cases hk : k < (cellsOf icells l').length
    · have hk2 : k < (cellsOf icells l).length := by omega
      rw [List.getElem?_append_left hk2, List.getElem?_append_left hk, List.getElem?_eq_getElem hk2, List.getElem?_eq_getElem hk]
      simp [hk]
    · rw [List.getElem?_append_right (by omega), List.getElem?_append_right (by omega), e1, e2, hl]
      have hk3 : ¬ k < l.length * 8 := by omega
      cases T[k - l.length * 8]? with
      | none => rfl
      | some x => simp [hk3]
  refine ⟨?_, ?_⟩
  · unfold sortWorldK
    rw [heap_grow_old _ _ (by rw [hsz]; exact hlt)]
    exact hgb
  · refine ⟨rfl, rfl, rfl, ?_, fun k hk hne => ?_⟩
    · unfold sortWorldK
      rw [size_grow, hsz]; omega
    · unfold sortWorldK
      rw [heap_grow_old _ _ (by rw [hsz]; exact hk)]
      unfold putRowK putRow mapBlock
      show (w.heap.modify g _)[k]? = _
      rw [Array.getElem?_modify, if_neg (fun he => hne (by rw [he]))]

theorem sort_any (base : Nat) (v : Value) (l : List It) (w : World) (hown : Own8 w base v l) (hlen : l.length ≤ 1000000) :
    Calls Tryz.prog 235 #[v, .func (.func 166) #[] #[]] w fun e w' => e = .returned (.tuple #[]) ∧ ∃ l', l'.Perm l ∧ (∀ i j (hi : i < l'.length) (hj : j < l'.length), i < j → l'[i].tag ≤ l'[j].tag) ∧ Own8 w' base v l' ∧ w.grownBy w' v.ownBlock := by
  by_cases hp : 0 < l.length
  · rcases hown.split with ⟨rfl, rfl⟩ | ⟨g, c, T, rfl, hbg, hg, h1, h2, hT⟩
    · simp at hp
    · have eg : ∀ args w, (callFunc 166 args).run Tryz.prog w = .ok (.enter 166 args) w := enters_of Tryz.func166 (by kernel_rfl) rfl
      have hcon := AnyQ.slices_SortFunc Tryz.sortR 8 Tryz.isAgg102 Tryz.sizeOf102 icells (fun _ => rfl) (fun x v hv => Enc.one x v hv) cmpR swoR 166 #[] g 0 c l.toArray w eg
        (fun _ _ _ _ x y => outc_any x y _) (holdsR hg) (Array.getElem?_eq_some_iff.1 hg).1 (by simp; omega)
      change Calls Tryz.prog 235 _ _ _ at hcon
      refine hcon.mono ?_
      rintro e w' ⟨rfl, d', n, os, hperm, hsort, rfl⟩
      have hd : d' = d'.toList.toArray := by simp
      have hs : d'.toList.length = l.length := by simpa using hperm.1
      obtain ⟨hw1, hw2⟩ := sortedWorld (n := n) (l' := d'.toList) (os := os) hg hs
      rw [← hd] at hw1 hw2
      refine ⟨rfl, d'.toList, ?_, fun i j hi hj hij => ?_, ownOf_mk hbg hw1 hs.symm (by omega) h2 (by rw [hs]; exact hT), hw2⟩
      · have h3 := hperm.2.2
        have e1 : d'.extract 0 l.toArray.size = d' := by rw [← hperm.1]; simp
        rw [e1] at h3
        simpa using h3
      · have h4 := hsort i j (Nat.zero_le _) hij (by rw [hs] at hj; simpa using hj)
        rw [ltR] at h4
        have a1 : d'[i]! = d'.toList[i] := by rw [getElem!_pos _ i (by simpa using hi)]; simp
        have a2 : d'[j]! = d'.toList[j] := by rw [getElem!_pos _ j (by simpa using hj)]; simp
        rw [a1, a2] at h4
        simp at h4
        simpa using h4
  · obtain rfl : l = [] := List.eq_nil_of_length_eq_zero (by omega)
    obtain ⟨a, cap, rfl⟩ := hown.rng.slice
    have hcon := AnyF.slices_SortFunc_none Tryz.sortR a cap (.func (.func 166) #[] #[]) w
    change Calls Tryz.prog 235 _ _ _ at hcon
    refine hcon.mono ?_
    rintro e w' ⟨rfl, rfl⟩
    exact ⟨rfl, [], List.Perm.refl _, fun i j hi => by simp at hi, hown, ⟨rfl, rfl, rfl, Nat.le_refl _, fun _ _ _ => rfl⟩⟩


theorem sorted_eq {l' out : List It} (hr : Rise out) (hp : l'.Perm out) (hs : ∀ i j (hi : i < l'.length) (hj : j < l'.length), i < j → l'[i].tag ≤ l'[j].tag) : l' = out :=
  List.Perm.eq_of_pairwise (le := fun a b : It => a.tag ≤ b.tag) (fun a b ha hb h1 h2 => hr.unique (hp.mem_iff.1 ha) hb (by omega)) (List.pairwise_iff_getElem.2 hs) (hr.imp (fun h => Nat.le_of_lt h)) hp

set_option maxHeartbeats 400000 in
theorem sortedFunc_any (Bm : Nat) (mb : Option Nat) (out : List It) (hr : Rise out) (hlen : out.length ≤ 1000000) (w : World) (hBm : w.cell? ⟨Bm, 0, none⟩ = some (.map mb)) (hown : MapAt w mb out) :
    Calls Tryz.prog 164 #[.func (.func 236) #[] #[.pointer (some ⟨Bm, 0, none⟩)], .func (.func 166) #[] #[]] w fun e W' => ∃ v, e = .returned v ∧ Own8 W' w.heap.size v out ∧ Below w.heap.size w W' := by
  have hC := collect_any Bm mb out hr hlen w hBm hown
  go_enter Tryz.func164, Tryz.ntmps164
  go_wp2_with fail
  refine hC.mono ?_
  rintro e w1 ⟨v, xs, rfl, hp, own, b⟩
  have hl : xs.length ≤ 1000000 := by rw [hp.length_eq]; exact hlen
  have hS := sort_any w.heap.size v xs w1 own hl
  obtain ⟨va, vc, hva⟩ := own.rng.slice
  subst hva
  go_wp2_with fail
  refine hS.mono ?_
  rintro e w2 ⟨rfl, l2, hp2, hs2, own2, gr2⟩
  obtain rfl := sorted_eq hr (hp2.trans hp) hs2
  have bel : Below w.heap.size w w2 := own.below gr2 b b.size (Nat.le_refl _)
  go_wp2
  go_ret
  exact ⟨_, rfl, own2, bel⟩

set_option maxHeartbeats 400000 in
theorem out_map (p : Nat) (mb : Option Nat) (out : List It) (v0 v1 v2 : Value) (hr : Rise out) (hlen : out.length ≤ 1000000) (w : World) (hb : w.heap[p]? = some (.cells #[v0, v1, v2, .map mb] 238 (0, 0))) (hm : MapAt w mb out) :
    Calls Tryz.prog 83 #[.pointer (some ⟨p, 0, none⟩)] w fun e w' => ∃ v', e = .returned v' ∧ Own8 w' w.heap.size v' out ∧ Below w.heap.size w w' := by
  obtain ⟨⟨c0, c1, c2, c3⟩, _⟩ := cells4 hb
  have b1 : Below w.heap.size w (w.alloc (.cells #[.map mb] 236)) := (Below.refl _ _).alloc (Nat.le_refl _) _
  have hS := sortedFunc_any w.heap.size mb out hr hlen _ (cell_new_r w (.map mb) 236) (hm.below b1)
  clear hb
  go_enter Tryz.func83, Tryz.ntmps83
  go_wp2_with fail
  refine (values_any mb w).mono ?_
  rintro e w1 ⟨rfl, rfl⟩
  go_wp2_with fail
  refine hS.mono ?_
  rintro e w2 ⟨v, rfl, own, b⟩
  obtain ⟨va, vc, rfl⟩ := own.rng.slice
  go_wp2
  go_ret
  exact ⟨_, rfl, own.mono b1.size, b1.trans (b.mono b1.size)⟩
theorem out_any (p : Nat) (F : Nat → Prop) (s : St) (w : World) (h : Q w p F s) (ok : s.Ok) :
    Calls Tryz.prog 83 #[.pointer (some ⟨p, 0, none⟩)] w fun e w' => ∃ v', e = .returned v' ∧ Own8 w' w.heap.size v' s.out ∧ Below w.heap.size w w' := by
  obtain ⟨v, b, hq, _⟩ := h
  exact out_map p (some b) s.out _ _ _ ok.o (by have := ok.room; have := ok.m; omega) w hq.blk (.inr ⟨b, rfl, hq.out⟩)
end Go.Proofs.YtjagaankkcbjmaaGreatDoor.F

/-
  A QUEUE's PART: Queue, by its contract.
-/
namespace Go.Proofs.YtjagaankkcbjmaaGreatDoor
open Go.RowKit

theorem setRow_other14 (w : World) (g : Nat) (cs : Array Value) (k : Nat) (h : k ≠ g) : (w.setRow g cs).heap[k]? = w.heap[k]? := by
  simp only [World.setRow, Array.getElem?_modify]
  rw [if_neg (fun e => h e.symm)]
/-- A slice's value. -/
abbrev Sl := Option Addr × Nat × Nat
abbrev slv (x : Sl) : Value := .slice x.1 x.2.1 x.2.2
theorem sl_of {v : Value} {n : Nat} (h : ∃ a c, v = .slice a n c) : ∃ x : Sl, v = slv x := by
  obtain ⟨a, c, rfl⟩ := h
  exact ⟨(a, n, c), rfl⟩
/-- A queue's part. -/
structure Qp where
  name : ByteArray
  most : Int
  next : Int
  r : Sl
  o : Sl
def qpcells (x : Qp) : List Value := [.string x.name, .int .i64 x.most, .int .u64 x.next, slv x.r, slv x.o]
abbrev qpv (x : Qp) : Value := .agg #[.string x.name, .int .i64 x.most, .int .u64 x.next, slv x.r, slv x.o]
instance encQp : K.Enc qpcells 5 := ⟨fun _ => rfl, fun m u hu => by simp [qpcells] at hu; rcases hu with rfl | rfl | rfl | rfl | rfl <;> rfl, by decide⟩
def zQp : Qp := ⟨⟨#[]⟩, 0, 0, (none, 0, 0), (none, 0, 0)⟩
theorem infoQp : (Tryz.prog.info? 86).map (·.size) = some 5 := by kernel_rfl
theorem oneQp (x : Qp) : (qpcells x).toArray.all (·.oneCell') = true := by simp [qpcells, Value.oneCell']
theorem results_qp_tmp {fn : Func} {p u : Tmp} (h : fn.results = #[.cell p 86, .tmp u]) (tmps : Array Value) (w : World) (g : Nat) (x : Qp) (hp : tmps.getD p undef = .pointer (some ⟨g, 0, none⟩)) (hg : w.heap[g]? = some (.cells (qpcells x).toArray 86 (0, 0))) :
    (results fn tmps).run Tryz.prog w = .ok (.tuple #[qpv x, tmps.getD u undef]) w := by
  rw [results_cell_tmp h, hp]
  simp [asAddr, run_loadVar_row w g _ _ _ _ _ hg Tryz.underlying86 rfl infoQp, Result.andThen]
  rfl
/-- It tells this queue. -/
structure QpIs (w : World) (base : Nat) (x : Qp) (n : ByteArray) (q : F.St) : Prop where
  name : x.name = n
  most : x.most = q.most
  next : x.next = q.next
  r : F.Own8 w base (slv x.r) q.rdy
  o : F.Own8 w base (slv x.o) q.out
theorem QpIs.same {w w' : World} {base : Nat} {x : Qp} {n : ByteArray} {q : F.St} (h : QpIs w base x n q) (hr : ∀ g, (slv x.r).ownBlock = some g → w'.heap[g]? = w.heap[g]?) (ho : ∀ g, (slv x.o).ownBlock = some g → w'.heap[g]? = w.heap[g]?) : QpIs w' base x n q := ⟨h.name, h.most, h.next, h.r.same hr, h.o.same ho⟩
set_option maxRecDepth 20000 in
set_option maxHeartbeats 1000000 in
theorem queue14_some (p : Nat) (G : Nat → Prop) (s : Sm) (n : ByteArray) (q : F.St) (w : World) (h : SS w p G s) (fit : s.Fit) (hn : n.size ≤ maxLen) (hq : findQ s.qs n = some q) (ok : q.Ok) :
    Calls Tryz.prog 28 #[.pointer (some ⟨p, 0, none⟩), .string n] w fun e w' => ∃ x, e = .returned (.tuple #[qpv x, .bool true]) ∧ QpIs w' w.heap.size x n q ∧ Below w.heap.size w w' := by
  obtain ⟨W, fold⟩ : ∃ W, w.alloc (.cells #[.string ⟨#[]⟩, .int .i64 0, .int .u64 0, .slice none 0 0, .slice none 0 0] 86) = W := ⟨_, rfl⟩
  have bW : Below w.heap.size w W := by rw [← fold]; exact box_below w _
  have kW : W.heap[w.heap.size]? = some (.cells (qpcells zQp).toArray 86 (0, 0)) := by rw [← fold]; exact heap_alloc_new w _
  have hS := h.kept bW
  have hM := made14_any p G s W hS
  obtain ⟨ft, d, hs', hF⟩ := hS
  obtain ⟨c0, c1, c2, c3, c4, c5, c6, c7, c8, c9⟩ := cells10 hs'.blk
  have hl := hs'.qmap.look (hs'.dl fit) hn
  rcases hs'.queueAt fit n with ⟨h1, _⟩ | ⟨q', b, h1, h2, h3, h4⟩
  · rw [hq] at h1; cases h1
  obtain rfl : q = q' := by rw [hq] at h1; injection h1
  rw [h2] at hl
  simp only [Option.map_some, ptrO] at hl
  have hA := F.most_any b _ q W h4
  have hB := F.next_any b _ q W h4
  have hC := F.ready_any b _ q W h4 ok
  have HO : Hid (∀ V, Below W.heap.size W V → Calls Tryz.prog 83 #[.pointer (some ⟨b, 0, none⟩)] V fun e w' => ∃ v', e = .returned v' ∧ F.Own8 w' V.heap.size v' q.out ∧ Below V.heap.size V w') := fun V bV => F.out_any b _ q V (h4.same fun k hk => bV.block k (h4.lts k hk)) ok
  have H0 : Hid (Below w.heap.size w W ∧ W.heap[w.heap.size]? = some (.cells (qpcells zQp).toArray 86 (0, 0))) := ⟨bW, kW⟩
  clear hs' hF h fit hn hq ok h1 h2 h3 h4 bW kW c0 c1 c2 c3 c4 c5 c6 c8 c9
  go_enter Tryz.func28, Tryz.ntmps28
  go_wp2_with fail
  try rw [fold]
  refine hM.mono ?_
  rintro e W ⟨rfl, rfl⟩
  clear hM
  go_wp2_with fail
  refine hA.mono ?_
  rintro e W ⟨rfl, rfl⟩
  clear hA
  go_wp2_with fail
  refine hB.mono ?_
  rintro e W ⟨rfl, rfl⟩
  clear hB
  go_wp2_with fail
  refine hC.mono ?_
  rintro e w1 ⟨v1, rfl, o1, b1⟩
  clear hC
  obtain ⟨x1, rfl⟩ := sl_of o1.rng.slice
  have H1 : Hid (F.Own8 w1 W.heap.size (slv x1) q.rdy ∧ Below W.heap.size W w1) := ⟨o1, b1⟩
  have hO := HO.out w1 b1
  clear o1 b1 HO
  obtain ⟨a1, n1, k1⟩ := x1
  go_wp2_with fail
  refine hO.mono ?_
  rintro e w2 ⟨v2, rfl, o2, b2⟩
  clear hO
  obtain ⟨x2, rfl⟩ := sl_of o2.rng.slice
  have H2 : Hid (F.Own8 w2 w1.heap.size (slv x2) q.out ∧ Below w1.heap.size w1 w2) := ⟨o2, b2⟩
  clear o2 b2
  obtain ⟨a2, n2, k2⟩ := x2
  have HB : Hid (w2.heap[w.heap.size]? = some (.cells (qpcells zQp).toArray 86 (0, 0))) := (H2.out.2.block _ (Nat.lt_of_lt_of_le (Array.getElem?_eq_some_iff.1 H0.out.2).1 H1.out.2.size)).trans ((H1.out.2.block _ (Array.getElem?_eq_some_iff.1 H0.out.2).1).trans H0.out.2)
  go_wp2_with (refine wpList_store_row rfl 86 _ _ rfl w.heap.size (qpcells ⟨n, q.most, q.next, (a1, n1, k1), (a2, n2, k2)⟩).toArray rfl rfl 86 (qpcells zQp).toArray HB.out infoQp rfl (oneQp _) ?_)
  refine bodyPost_ret (results_qp_tmp rfl _ _ w.heap.size ⟨n, q.most, q.next, (a1, n1, k1), (a2, n2, k2)⟩ rfl (setRow_heap _ _ _ _ _ _ HB.out)) rfl ⟨_, rfl, ⟨rfl, rfl, rfl, ?_, ?_⟩, below_setRow (keptW (keptW H0.out.1 H1.out.2) H2.out.2) (Nat.le_refl _) _⟩
  · have h1 := H1.out.1.kept H2.out.2 (Nat.le_refl _)
    refine (h1.mono H0.out.1.size).same fun g hg => ?_
    have := (h1.lt hg).1
    have := (Array.getElem?_eq_some_iff.1 H0.out.2).1
    exact setRow_other14 _ _ _ _ (by omega)
  · refine (H2.out.1.mono (Nat.le_trans H0.out.1.size H1.out.2.size)).same fun g hg => ?_
    have := (H2.out.1.lt hg).1
    have := (Array.getElem?_eq_some_iff.1 H0.out.2).1
    have := H1.out.2.size
    exact setRow_other14 _ _ _ _ (by omega)
set_option maxRecDepth 20000 in
theorem un14_queue (q : Value) (n : ByteArray) (w : World) (h : Un14 w q) : Calls Tryz.prog 28 #[q, .string n] w fun e w' => e = .returned (.tuple #[qpv zQp, .bool false]) ∧ Below w.heap.size w w' := by
  obtain ⟨W, fold⟩ : ∃ W, w.alloc (.cells #[.string ⟨#[]⟩, .int .i64 0, .int .u64 0, .slice none 0 0, .slice none 0 0] 86) = W := ⟨_, rfl⟩
  have bW : Below w.heap.size w W := by rw [← fold]; exact box_below w _
  have kW : W.heap[w.heap.size]? = some (.cells (qpcells zQp).toArray 86 (0, 0)) := by rw [← fold]; exact heap_alloc_new w _
  have hM := un14_made q W (h.below bW)
  have H0 : Hid (Below w.heap.size w W ∧ W.heap[w.heap.size]? = some (.cells (qpcells zQp).toArray 86 (0, 0))) := ⟨bW, kW⟩
  obtain ⟨o, rfl⟩ := h.ptr
  clear h bW kW
  go_enter Tryz.func28, Tryz.ntmps28
  go_wp2_with fail
  try rw [fold]
  refine hM.mono ?_
  rintro e W ⟨rfl, rfl⟩
  clear hM
  go_wp2_with (refine wpList_store_row rfl 86 _ _ rfl w.heap.size (qpcells zQp).toArray rfl rfl 86 (qpcells zQp).toArray H0.out.2 infoQp rfl (oneQp _) ?_)
  exact bodyPost_ret (results_qp_tmp rfl _ _ w.heap.size zQp rfl (setRow_heap _ _ _ _ _ _ H0.out.2)) rfl ⟨rfl, below_setRow H0.out.1 (Nat.le_refl _) _⟩
end Go.Proofs.YtjagaankkcbjmaaGreatDoor

/-
  Good, by its contract.
-/
namespace Go.Proofs.YtjagaankkcbjmaaGreatDoor.K
end Go.Proofs.YtjagaankkcbjmaaGreatDoor.K
namespace Go.Proofs.YtjagaankkcbjmaaGreatDoor.O
open Go.Proofs.YtjagaankkcbjmaaGreatDoor.K
open Go.RowKit Go.Sort

/-- n cells alike. -/
def blank (n : Nat) (u : Value) : Array Value := ((List.range n).map fun _ => u).toArray
theorem zeroB81 (w : World) : (zeroValue 152).run Tryz.prog w = .ok (.agg (blank 81 (.bool false))) w := by kernel_rfl
theorem arr_blank (w : World) (n : Nat) (u : Value) (t : TypeId) : Arr (w.alloc (.cells (blank n u) t)) w.heap.size t n (fun _ => u) := heap_alloc_new w _

/-- Which edges were met: an array of arrays. -/
def thereF (L : List (Int × Int)) (c : Nat) : Value := .bool (decide ((((c / 9 : Nat) : Int), ((c % 9 : Nat) : Int)) ∈ L))
/-- In the midst of Good. -/
structure GoodIn (w wr : World) (S H : Int) (v : Value) (L : List (Int × Int)) : Prop where
  bel : Below w.heap.size w wr
  box : wr.heap[w.heap.size]? = some (.cells #[.int .i64 S, v, .int .i64 H] 24 (0, 0))
  arr : Arr wr (w.heap.size + 1) 152 81 (thereF L)
  ok : ∀ e ∈ L, EdgeOk S e
  nd : L.Nodup

theorem GoodIn.next {w wr wq : World} {S H : Int} {v : Value} {L : List (Int × Int)} (h : GoodIn w wr S H v L) (hb : Below wr.heap.size wr wq) : GoodIn w wq S H v L := by
  have h1 := h.arr.lt
  exact ⟨h.bel.trans (hb.mono h.bel.size), by rw [hb.block _ (by omega)]; exact h.box, h.arr.below hb h1, h.ok, h.nd⟩
theorem GoodIn.c0 {w wr : World} {S H : Int} {v : Value} {L : List (Int × Int)} (h : GoodIn w wr S H v L) : wr.cell? ⟨w.heap.size, 0, none⟩ = some (.int .i64 S) := by
  rw [cell_of_row wr w.heap.size 0 _ _ (0, 0) h.box]; rfl
theorem GoodIn.c1 {w wr : World} {S H : Int} {v : Value} {L : List (Int × Int)} (h : GoodIn w wr S H v L) : wr.cell? ⟨w.heap.size, 1, none⟩ = some v := by
  rw [cell_of_row wr w.heap.size 1 _ _ (0, 0) h.box]; rfl
theorem GoodIn.c2 {w wr : World} {S H : Int} {v : Value} {L : List (Int × Int)} (h : GoodIn w wr S H v L) : wr.cell? ⟨w.heap.size, 2, none⟩ = some (.int .i64 H) := by
  rw [cell_of_row wr w.heap.size 2 _ _ (0, 0) h.box]; rfl
theorem GoodIn.at {w wr : World} {S H : Int} {v : Value} {L : List (Int × Int)} (h : GoodIn w wr S H v L) (m n : Nat) (hm : m < 9) (hn : n < 9) : wr.cell? ⟨w.heap.size + 1, m * 9 + n, none⟩ = some (.bool (decide (((m : Int), (n : Int)) ∈ L))) := by
  rw [h.arr.cell (by omega), thereF, show (m * 9 + n) / 9 = m by omega, show (m * 9 + n) % 9 = n by omega]
theorem GoodIn.put {w wr : World} {S H : Int} {v : Value} {L : List (Int × Int)} (h : GoodIn w wr S H v L) (m n : Nat) (hn : n < 9) (hok : EdgeOk S ((m : Int), (n : Int))) (hno : ((m : Int), (n : Int)) ∉ L) :
    GoodIn w (wr.setCell ⟨w.heap.size + 1, m * 9 + n, none⟩ (.bool true)) S H v (L ++ [((m : Int), (n : Int))]) := by
  refine ⟨h.bel.setCell (Nat.le_succ _) _, ?_, ?_, ?_, ?_⟩
  · rw [heap_setCell_other _ _ _ _ (by show w.heap.size ≠ w.heap.size + 1; omega)]; exact h.box
  · refine (h.arr.set (m * 9 + n) (.bool true)).congr fun i hi => ?_
    by_cases hc : i = m * 9 + n
    · rw [if_pos hc, hc, thereF, show (m * 9 + n) / 9 = m by omega, show (m * 9 + n) % 9 = n by omega, decide_eq_true (by simp)]
    · rw [if_neg hc, thereF, thereF]
      congr 1
      rw [decide_eq_decide, List.mem_append, List.mem_singleton, Prod.mk.injEq]
      constructor
      · rintro (h | ⟨h1, h2⟩)
        · exact h
        · omega
      · exact .inl
  · intro e he
    rcases List.mem_append.1 he with he | he
    · exact h.ok e he
    · rw [List.mem_singleton.1 he]; exact hok
  · rw [List.nodup_append]
    refine ⟨h.nd, by simp, fun a ha b hb => ?_⟩
    rw [List.mem_singleton.1 hb]
    rintro rfl
    exact hno ha

set_option maxRecDepth 20000 in
set_option maxHeartbeats 2000000 in
theorem good_any (S H : Int) (v : Value) (l : List (Int × Int)) (w : World) (hr : RowOf ecells w v l) :
    Calls Tryz.prog 24 #[tv S v H] w fun e w' => e = .returned (.bool (goodB S l H)) ∧ Below w.heap.size w w' := by
  obtain ⟨a, cap, rfl⟩ := hr.slice
  obtain ⟨_, hl, hA⟩ := hr.eds
  have l63 : l.length ≤ 9223372036854775807 := by unfold maxLen at hl; omega
  clear hr hl
  by_cases hS : (1 ≤ S ∧ S ≤ 8 ∧ 0 ≤ H ∧ H ≤ 8)
  · obtain ⟨s1, s2, s3, s4⟩ := hS
    have z81 := zeroB81
    have mixed : Tryz.prog.follows .mixedOrders = true := by kernel_rfl
    have hG0 : Hid (GoodIn w ((w.alloc (.cells #[.int .i64 S, .slice a l.length cap, .int .i64 H] 24)).alloc (.cells (blank 81 (.bool false)) 152)) S H (.slice a l.length cap) []) := by
      refine ⟨((Below.refl _ _).alloc (Nat.le_refl _) _).alloc (by simp) _, ?_, ?_, (fun e he => by cases he), List.nodup_nil⟩
      · rw [Below.heap_alloc _ _ _ (by simp)]; exact heap_alloc_new w _
      · have := arr_blank (w.alloc (.cells #[.int .i64 S, .slice a l.length cap, .int .i64 H] 24)) 81 (.bool false) 152
        rw [World.size_alloc] at this
        exact this.congr fun i _ => by simp [thereF]
    go_enter Tryz.func24, Tryz.ntmps24
    go_wp2
    clear z81
    go_loopw [5, 27] (fun u5 u27 wr => ∃ k : Nat, u27 = .int .i64 k ∧ k ≤ l.length ∧ Hid (GoodIn w wr S H (.slice a l.length cap) (l.take k))) (fun u5 u27 wr => l.length - (intOf u27).toNat)
    case atStart => exact ⟨0, rfl, Nat.zero_le _, by simpa using hG0⟩
    case round =>
      obtain ⟨k, rfl, hk, hG⟩ := hrel
      clear hG0
      by_cases hlt2 : k < l.length
      · have hlt : (k : Int) < (l.length : Int) := by omega
        obtain ⟨b, off, rfl, hi⟩ := hA k hlt2
        obtain ⟨e0, e1⟩ := hi.below hG.out.bel (Nat.le_refl _)
        have hx : Hid (l.take (k + 1) = l.take k ++ [l[k]]) := List.take_succ_eq_append_getElem hlt2
        have hmem : Hid (l[k] ∈ l) := List.getElem_mem hlt2
        have hbad : Hid (l[k] ∈ l.take k → ¬ GoodT S l H) := fun hm hg => by
          have := hg.2.2
          rw [← List.take_append_drop k l, List.drop_eq_getElem_cons hlt2, List.nodup_append] at this
          exact this.2.2 _ hm l[k] List.mem_cons_self rfl
        clear hA hi
        generalize l[k] = x at *
        obtain ⟨x1, x2⟩ := x
        generalize hwq : wr.alloc (.cells #[.int .i64 x1, .int .i64 x2] 110) = wq
        have hG2 : Hid (GoodIn w wq S H (.slice (some ⟨b, off, none⟩) l.length cap) (l.take k)) := hG.out.next (by rw [← hwq]; exact (Below.refl _ _).alloc (Nat.le_refl _) _)
        have p0 : wq.cell? ⟨wr.heap.size, 0, none⟩ = some (.int .i64 x1) := by rw [← hwq, World.cell?_alloc_at _ _ _ _ rfl]; rfl
        have p1 : wq.cell? ⟨wr.heap.size, 1, none⟩ = some (.int .i64 x2) := by rw [← hwq, World.cell?_alloc_at _ _ _ _ rfl]; rfl
        have q0 := fun m os => cell_grown (World.block_lt_of_cell? _ _ p0) p0 m os
        have q1 := fun m os => cell_grown (World.block_lt_of_cell? _ _ p1) p1 m os
        have b0 := fun m os => cell_grown (World.block_lt_of_cell? _ _ hG2.out.c0) hG2.out.c0 m os
        have b1 := fun m os => cell_grown (World.block_lt_of_cell? _ _ hG2.out.c1) hG2.out.c1 m os
        have b2 := fun m os => cell_grown (World.block_lt_of_cell? _ _ hG2.out.c2) hG2.out.c2 m os
        have hfl : Hid (¬ GoodT S l H → ∀ m os, (.returned (.bool false) : Ending) = .returned (.bool (goodB S l H)) ∧ Below w.heap.size w (grow (wq.drewN m) os)) := fun hn m os => ⟨ret_bool (goodB_false hn).symm, hG2.out.bel.trans (below_grown_r _ _ _ _ hG2.out.bel.size)⟩
        have HK1 := fun W => known_any S H x1 (some ⟨b, off, none⟩) l.length cap W
        have HK2 := fun W => known_any S H x2 (some ⟨b, off, none⟩) l.length cap W
        clear p0 p1
        by_cases a1 : 1 ≤ x1 ∧ x1 ≤ S
        · by_cases a2 : 1 ≤ x2 ∧ x2 ≤ S
          · rw [decide_eq_true a1] at HK1
            rw [decide_eq_true a2] at HK2
            by_cases a3 : x1 = x2
            · subst a3
              go_wp2
              clear hwq
              refine wp_region_quiet_grown mixed (by kernel_rfl) ?_
              repeat (first | go_big_quiet_step ((go_at_call 71; first | with_reducible exact Calls.grown_of (HK1 _) | with_reducible exact Calls.grown_of (HK2 _))))
              refine wpQuiet_nil ?_
              intro _ hw'
              obtain ⟨⟨nq, osq⟩, hw''⟩ := hw'
              subst hw''
              go_wp2
              go_ret
              exact hfl.out (fun hg => (hg.2.1 _ hmem.out).2.2 rfl) _ _
            · obtain ⟨m, rfl⟩ : ∃ m : Nat, x1 = m := ⟨x1.toNat, by omega⟩
              obtain ⟨n, rfl⟩ : ∃ n : Nat, x2 = n := ⟨x2.toNat, by omega⟩
              have hm9 : m < 9 := by omega
              have hn9 : n < 9 := by omega
              have hth := hG2.out.at m n hm9 hn9
              have qt := fun m' os => cell_grown (World.block_lt_of_cell? _ _ hth) hth m' os
              have i1 : (m : Int) < 9 := by omega
              have i2 : (n : Int) < 9 := by omega
              have a4 : (((m : Int) == (n : Int)) = false) := by simpa using a3
              clear hth
              by_cases hin : ((m : Int), (n : Int)) ∈ l.take k
              · rw [decide_eq_true hin] at qt
                go_wp2
                clear hwq
                refine wp_region_quiet_grown mixed (by kernel_rfl) ?_
                repeat (first | go_big_quiet_step ((go_at_call 71; first | with_reducible exact Calls.grown_of (HK1 _) | with_reducible exact Calls.grown_of (HK2 _))))
                refine wpQuiet_nil ?_
                intro _ hw'
                obtain ⟨⟨nq, osq⟩, hw''⟩ := hw'
                subst hw''
                go_wp2
                go_ret
                exact hfl.out (hbad.out hin) _ _
              · rw [decide_eq_false hin] at qt
                go_wp2
                clear hwq
                refine wp_region_quiet_grown mixed (by kernel_rfl) ?_
                repeat (first | go_big_quiet_step ((go_at_call 71; first | with_reducible exact Calls.grown_of (HK1 _) | with_reducible exact Calls.grown_of (HK2 _))))
                refine wpQuiet_nil ?_
                intro _ hw'
                obtain ⟨⟨nq, osq⟩, hw''⟩ := hw'
                subst hw''
                go_wp2
                generalize hwz : grow (wq.drewN nq) osq = wz
                have hG3 : Hid (GoodIn w wz S H (.slice (some ⟨b, off, none⟩) l.length cap) (l.take k)) := hG2.out.next (by rw [← hwz]; exact below_grown_r _ _ _ _ (Nat.le_refl _))
                have r0 := q0 nq osq
                have r1 := q1 nq osq
                have rt := qt nq osq
                rw [hwz] at r0 r1 rt
                have rf := hG3.out.arr.free (m * 9 + n)
                clear hwz q0 q1 qt b0 b1 b2 HK1 HK2 hfl hbad hmem e0 e1
                go_region
                go_wp2
                refine ⟨⟨k + 1, by go_num, by omega, ?_⟩, by simp [intOf]; omega⟩
                rw [hx.out]
                exact (hG3.out.put m n hn9 ⟨a1, a2, a3⟩ hin).next (Below.refl _ _).drew
          · rw [decide_eq_true a1] at HK1
            rw [decide_eq_false a2] at HK2
            go_wp2
            clear hwq
            refine wp_region_quiet_grown mixed (by kernel_rfl) ?_
            repeat (first | go_big_quiet_step ((go_at_call 71; first | with_reducible exact Calls.grown_of (HK1 _) | with_reducible exact Calls.grown_of (HK2 _))))
            refine wpQuiet_nil ?_
            intro _ hw'
            obtain ⟨⟨nq, osq⟩, hw''⟩ := hw'
            subst hw''
            go_wp2
            go_ret
            exact hfl.out (fun hg => a2 (hg.2.1 _ hmem.out).2.1) _ _
        · rw [decide_eq_false a1] at HK1
          go_wp2
          clear hwq
          refine wp_region_quiet_grown mixed (by kernel_rfl) ?_
          repeat (first | go_big_quiet_step ((go_at_call 71; first | with_reducible exact Calls.grown_of (HK1 _) | with_reducible exact Calls.grown_of (HK2 _))))
          refine wpQuiet_nil ?_
          intro _ hw'
          obtain ⟨⟨nq, osq⟩, hw''⟩ := hw'
          subst hw''
          go_wp2
          go_ret
          exact hfl.out (fun hg => a1 (hg.2.1 _ hmem.out).1) _ _
      · obtain rfl : k = l.length := by omega
        go_wp2
        go_ret
        exact ⟨ret_bool (goodB_true ⟨⟨s1, s2, s3, s4⟩, by have := hG.out.ok; rwa [List.take_length] at this, by have := hG.out.nd; rwa [List.take_length] at this⟩).symm, hG.out.bel⟩
  · go_enter Tryz.func24, Tryz.ntmps24
    go_wp2
    all_goals first | (exfalso; omega) | skip
    all_goals go_ret
    all_goals exact ⟨ret_bool (goodB_false fun hg => hS hg.1).symm, (Below.refl _ _).alloc (Nat.le_refl _) _⟩
end Go.Proofs.YtjagaankkcbjmaaGreatDoor.O
