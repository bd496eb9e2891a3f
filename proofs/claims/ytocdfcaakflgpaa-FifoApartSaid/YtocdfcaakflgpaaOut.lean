/-
  slices.SortFunc, slices.SortedFunc at items; Out, by its contract.
-/
import Derived.Test.YtocdfcaakflgpaaCollect
import Derived.Test.YtocdfcaakflgpaaQueue
import Derived.Test.YtocdfcaakflgpaaShelfJ
namespace Go.Proofs.Ytocdfcaakflgpaa
open Go.RowKit Go.Sort

instance : Inhabited It := ⟨zeroIt⟩
def cmpR (x y : It) : Int := if x.tag < y.tag then -1 else if y.tag < x.tag then 1 else 0
theorem ltR (x y : It) : ltOf cmpR x y = decide (x.tag < y.tag) := by
  unfold ltOf cmpR
  by_cases h1 : x.tag < y.tag
  · simp [h1]
  · by_cases h2 : y.tag < x.tag <;> simp [h1, h2]
theorem swoR : SWO (ltOf cmpR) where
  irrefl x := by rw [ltR]; simp
  trans x y z h1 h2 := by rw [ltR] at *; simp at *; omega
  ntrans x y z h1 h2 := by rw [ltR] at *; simp at *; omega

set_option maxHeartbeats 400000 in
theorem compare_any (x y : Nat) (W : World) : Calls Try.prog 49 #[.int .u64 (x : Int), .int .u64 (y : Int)] W fun e w' => e = .returned (.int .i64 (if x < y then -1 else if y < x then 1 else 0)) ∧ w' = W := by
  by_cases h1 : x < y
  · have h1' : (x : Int) < (y : Int) := by omega
    rw [if_pos h1]
    go_enter Try.func49, Try.ntmps49
    go_wp2
    all_goals go_ret
    all_goals exact ⟨rfl, rfl⟩
  · have h1' : ¬ (x : Int) < (y : Int) := by omega
    rw [if_neg h1]
    by_cases h2 : y < x
    · have h2' : (y : Int) < (x : Int) := by omega
      rw [if_pos h2]
      go_enter Try.func49, Try.ntmps49
      go_wp2
      all_goals go_ret
      all_goals exact ⟨rfl, rfl⟩
    · have h2' : ¬ (y : Int) < (x : Int) := by omega
      rw [if_neg h2]
      go_enter Try.func49, Try.ntmps49
      go_wp2
      all_goals go_ret
      all_goals exact ⟨rfl, rfl⟩

set_option maxRecDepth 10000 in
set_option maxHeartbeats 1000000 in
theorem outc_any (x y : It) (W : World) : Calls Try.prog 48 #[iv x, iv y] W fun e w' => e = .returned (.int .i64 (cmpR x y)) ∧ ∃ q os', w' = grow (W.drewN q) os' := by
  have hcon := fun W' => compare_any x.tag y.tag W'
  unfold cmpR
  generalize (if x.tag < y.tag then (-1 : Int) else if y.tag < x.tag then 1 else 0) = r at hcon ⊢
  go_enter Try.func48, Try.ntmps48
  go_wp2_with (go_at_call 49; refine (hcon _).mono ?_; rintro e w' ⟨rfl, rfl⟩)
  go_ret
  exact ⟨rfl, 0, _, by rw [alloc_eq_grow, alloc_eq_grow, grow_grow]; rfl⟩

theorem flatR (l : List It) : flatK icells 8 l.toArray = (cellsOf icells l).toArray := by
  have hll := cellsOf_length (enc := icells) l
  refine ext_get! (by simp [hll]) fun t ht => ?_
  have ht' : t < l.length * 8 := by simpa using ht
  rw [get_flatK _ _ _ _ (by simpa using ht')]
  have hil : t / 8 < l.length := by omega
  have hj : t % 8 < 8 := Nat.mod_lt _ (by decide)
  have hg := cellsOf_get (enc := icells) l (t / 8) (t % 8) hil hj
  rw [show t / 8 * 8 + t % 8 = t by omega] at hg
  have e : l.toArray[t / 8]! = l[t / 8] := by simp [hil]
  have hb : t < (cellsOf icells l).length := by rw [hll]; exact ht'
  have hr : (cellsOf icells l).toArray[t]! = (cellsOf icells l)[t] := by rw [getElem!_pos _ t (by simpa using hb)]; simp
  rw [hr, e]
  rw [List.getElem?_eq_getElem hb] at hg
  have hc : t % 8 < (icells l[t / 8]).length := hj
  rw [List.getElem?_eq_getElem hc] at hg
  injection hg with hg
  rw [hg]
  first
    | rw [getElem!_pos _ _ hc]
    | simp [hc]
theorem holdsR {w : World} {g : Nat} {l : List It} {T : List Value} (hg : w.heap[g]? = some (.cells (cellsOf icells l ++ T).toArray 38 (0, 0))) : HoldsK icells 8 w g 0 l.toArray := by
  intro j hj
  rw [flatR] at hj ⊢
  have hj' : j < (cellsOf icells l).length := by simpa using hj
  refine ⟨?_, frozen_of_list hg _⟩
  rw [Nat.zero_add, cell_of_list hg, List.getElem?_append_left hj', List.getElem?_eq_getElem hj', getElem!_pos _ j (by simpa using hj')]
  simp
theorem sortedWorld {w : World} {g n : Nat} {l l' : List It} {T : List Value} {os : Array Obj} (hg : w.heap[g]? = some (.cells (cellsOf icells l ++ T).toArray 38 (0, 0))) (hl : l'.length = l.length) :
    (sortWorldK icells 8 w g 0 n l'.toArray os).heap[g]? = some (.cells (cellsOf icells l' ++ T).toArray 38 (0, 0)) ∧ w.grownBy (sortWorldK icells 8 w g 0 n l'.toArray os) (some g) := by
  have hlt := (Array.getElem?_eq_some_iff.1 hg).1
  have hsz : (putRowK icells 8 (Sort.ahead w n) g 0 l'.toArray).heap.size = w.heap.size := by unfold putRowK; simp
  have hgb : (putRowK icells 8 (Sort.ahead w n) g 0 l'.toArray).heap[g]? = some (.cells (cellsOf icells l' ++ T).toArray 38 (0, 0)) := by
    unfold putRowK putRow mapBlock
    show (w.heap.modify g _)[g]? = _
    rw [Array.getElem?_modify, if_pos rfl, hg]
    simp only [Option.map_some, onCells, flatR]
    congr 2
    apply Array.ext'
    apply List.ext_getElem?
    intro k
    have e1 := cellsOf_length (enc := icells) l
    have e2 := cellsOf_length (enc := icells) l'
    unfold putCells
    simp only [Array.toList_mapIdx, List.getElem?_mapIdx, Nat.zero_le, true_and, Nat.zero_add, Nat.sub_zero, List.size_toArray, id]
    by_cases hk : k < (cellsOf icells l').length
    · have hk2 : k < (cellsOf icells l).length := by omega
      rw [List.getElem?_append_left hk2, List.getElem?_append_left hk, List.getElem?_eq_getElem hk2, List.getElem?_eq_getElem hk]
      simp [hk]
    · rw [List.getElem?_append_right (by omega), List.getElem?_append_right (by omega), e1, e2, hl]
      have hk3 : ¬ k < l.length * 8 := by omega
      cases T[k - l.length * 8]? with
      | none => rfl
      | some x => simp [hk3]
  refine ⟨?_, ?_⟩
  · unfold sortWorldK
    rw [heap_grow_old _ _ (by rw [hsz]; exact hlt)]
    exact hgb
  · refine ⟨rfl, rfl, rfl, ?_, fun k hk hne => ?_⟩
    · unfold sortWorldK
      rw [size_grow, hsz]; omega
    · unfold sortWorldK
      rw [heap_grow_old _ _ (by rw [hsz]; exact hk)]
      unfold putRowK putRow mapBlock
      show (w.heap.modify g _)[k]? = _
      rw [Array.getElem?_modify, if_neg (fun he => hne (by rw [he]))]

theorem sort_any (base : Nat) (v : Value) (l : List It) (w : World) (hown : Own8 w base v l) (hlen : l.length ≤ 1000000) :
    Calls Try.prog 57 #[v, .func (.func 48) #[] #[]] w fun e w' => e = .returned (.tuple #[]) ∧ ∃ l', l'.Perm l ∧ (∀ i j (hi : i < l'.length) (hj : j < l'.length), i < j → l'[i].tag ≤ l'[j].tag) ∧ Own8 w' base v l' ∧ w.grownBy w' v.ownBlock := by
  by_cases hp : 0 < l.length
  · rcases hown.split with ⟨rfl, rfl⟩ | ⟨g, c, T, rfl, hbg, hg, h1, h2, hT⟩
    · simp at hp
    · have eg : ∀ args w, (callFunc 48 args).run Try.prog w = .ok (.enter 48 args) w := enters_of Try.func48 (by kernel_rfl) rfl
      have hcon := AnyQ.slices_SortFunc Try.sortR 8 Try.isAgg38 Try.sizeOf38 icells (fun _ => rfl) (fun x v hv => Enc.one x v hv) cmpR swoR 48 #[] g 0 c l.toArray w eg
        (fun _ _ _ _ x y => outc_any x y _) (holdsR hg) (Array.getElem?_eq_some_iff.1 hg).1 (by simp; omega)
      change Calls Try.prog 57 _ _ _ at hcon
      refine hcon.mono ?_
      rintro e w' ⟨rfl, d', n, os, hperm, hsort, rfl⟩
      have hd : d' = d'.toList.toArray := by simp
      have hs : d'.toList.length = l.length := by simpa using hperm.1
      obtain ⟨hw1, hw2⟩ := sortedWorld (n := n) (l' := d'.toList) (os := os) hg hs
      rw [← hd] at hw1 hw2
      refine ⟨rfl, d'.toList, ?_, fun i j hi hj hij => ?_, ownOf_mk hbg hw1 hs.symm (by omega) h2 (by rw [hs]; exact hT), hw2⟩
      · have h3 := hperm.2.2
        have e1 : d'.extract 0 l.toArray.size = d' := by rw [← hperm.1]; simp
        rw [e1] at h3
        simpa using h3
      · have h4 := hsort i j (Nat.zero_le _) hij (by rw [hs] at hj; simpa using hj)
        rw [ltR] at h4
        have a1 : d'[i]! = d'.toList[i] := by rw [getElem!_pos _ i (by simpa using hi)]; simp
        have a2 : d'[j]! = d'.toList[j] := by rw [getElem!_pos _ j (by simpa using hj)]; simp
        rw [a1, a2] at h4
        simp at h4
        simpa using h4
  · obtain rfl : l = [] := List.eq_nil_of_length_eq_zero (by omega)
    obtain ⟨a, cap, rfl⟩ := hown.rng.slice
    have hcon := AnyF.slices_SortFunc_none Try.sortR a cap (.func (.func 48) #[] #[]) w
    change Calls Try.prog 57 _ _ _ at hcon
    refine hcon.mono ?_
    rintro e w' ⟨rfl, rfl⟩
    exact ⟨rfl, [], List.Perm.refl _, fun i j hi => by simp at hi, hown, ⟨rfl, rfl, rfl, Nat.le_refl _, fun _ _ _ => rfl⟩⟩


theorem sorted_eq {l' out : List It} (hr : Rise out) (hp : l'.Perm out) (hs : ∀ i j (hi : i < l'.length) (hj : j < l'.length), i < j → l'[i].tag ≤ l'[j].tag) : l' = out :=
  List.Perm.eq_of_pairwise (le := fun a b : It => a.tag ≤ b.tag) (fun a b ha hb h1 h2 => hr.unique (hp.mem_iff.1 ha) hb (by omega)) (List.pairwise_iff_getElem.2 hs) (hr.imp (fun h => Nat.le_of_lt h)) hp

set_option maxHeartbeats 400000 in
theorem sortedFunc_any (Bm : Nat) (mb : Option Nat) (out : List It) (hr : Rise out) (hlen : out.length ≤ 1000000) (w : World) (hBm : w.cell? ⟨Bm, 0, none⟩ = some (.map mb)) (hown : MapAt w mb out) :
    Calls Try.prog 46 #[.func (.func 58) #[] #[.pointer (some ⟨Bm, 0, none⟩)], .func (.func 48) #[] #[]] w fun e W' => ∃ v, e = .returned v ∧ Own8 W' w.heap.size v out ∧ Below w.heap.size w W' := by
  have hC := collect_any Bm mb out hr hlen w hBm hown
  go_enter Try.func46, Try.ntmps46
  go_wp2_with fail
  refine hC.mono ?_
  rintro e w1 ⟨v, xs, rfl, hp, own, b⟩
  have hl : xs.length ≤ 1000000 := by rw [hp.length_eq]; exact hlen
  have hS := sort_any w.heap.size v xs w1 own hl
  obtain ⟨va, vc, hva⟩ := own.rng.slice
  subst hva
  go_wp2_with fail
  refine hS.mono ?_
  rintro e w2 ⟨rfl, l2, hp2, hs2, own2, gr2⟩
  obtain rfl := sorted_eq hr (hp2.trans hp) hs2
  have bel : Below w.heap.size w w2 := own.below gr2 b b.size (Nat.le_refl _)
  go_wp2
  go_ret
  exact ⟨_, rfl, own2, bel⟩

set_option maxHeartbeats 400000 in
theorem out_map (p : Nat) (mb : Option Nat) (out : List It) (v0 v1 v2 : Value) (hr : Rise out) (hlen : out.length ≤ 1000000) (w : World) (hb : w.heap[p]? = some (.cells #[v0, v1, v2, .map mb] 64 (0, 0))) (hm : MapAt w mb out) :
    Calls Try.prog 25 #[.pointer (some ⟨p, 0, none⟩)] w fun e w' => ∃ v', e = .returned v' ∧ Own8 w' w.heap.size v' out ∧ Below w.heap.size w w' := by
  obtain ⟨⟨c0, c1, c2, c3⟩, _⟩ := cells4 hb
  have b1 : Below w.heap.size w (w.alloc (.cells #[.map mb] 62)) := (Below.refl _ _).alloc (Nat.le_refl _) _
  have hS := sortedFunc_any w.heap.size mb out hr hlen _ (cell_new_r w (.map mb) 62) (hm.below b1)
  clear hb
  go_enter Try.func25, Try.ntmps25
  go_wp2_with fail
  refine (values_any mb w).mono ?_
  rintro e w1 ⟨rfl, rfl⟩
  go_wp2_with fail
  refine hS.mono ?_
  rintro e w2 ⟨v, rfl, own, b⟩
  obtain ⟨va, vc, rfl⟩ := own.rng.slice
  go_wp2
  go_ret
  exact ⟨_, rfl, own.mono b1.size, b1.trans (b.mono b1.size)⟩
theorem out_any (p : Nat) (F : Nat → Prop) (s : St) (w : World) (h : Q w p F s) (ok : s.Ok) :
    Calls Try.prog 25 #[.pointer (some ⟨p, 0, none⟩)] w fun e w' => ∃ v', e = .returned v' ∧ Own8 w' w.heap.size v' s.out ∧ Below w.heap.size w w' := by
  obtain ⟨v, b, hq, _⟩ := h
  exact out_map p (some b) s.out _ _ _ ok.o (by have := ok.room; have := ok.m; omega) w hq.blk (.inr ⟨b, rfl, hq.out⟩)
end Go.Proofs.Ytocdfcaakflgpaa
