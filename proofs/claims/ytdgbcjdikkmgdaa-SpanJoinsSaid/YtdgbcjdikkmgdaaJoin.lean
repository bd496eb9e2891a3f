/-
  PACKAGE span: Join, by its contract.
-/
import Derived.Test.YtdgbcjdikkmgdaaMelt
import Derived.Test.YtdgbcjdikkmgdaaMakes
import Derived.Test.YtdgbcjdikkmgdaaShelfJ
namespace Go.Proofs.Ytdgbcjdikkmgdaa
open Go.RowKit Go.Sort

/-- A range's two cells. -/
def encR (x : Nat × Nat) : List Value := [.int .u64 (x.1 : Int), .int .u64 (x.2 : Int)]
def cmpR (x y : Nat × Nat) : Int := if x.1 < y.1 then -1 else if y.1 < x.1 then 1 else 0
theorem ltR (x y : Nat × Nat) : ltOf cmpR x y = decide (x.1 < y.1) := by
  unfold ltOf cmpR
  by_cases h1 : x.1 < y.1
  · simp [h1]
  · by_cases h2 : y.1 < x.1 <;> simp [h1, h2]
theorem swoR : SWO (ltOf cmpR) where
  irrefl x := by rw [ltR]; simp
  trans x y z h1 h2 := by rw [ltR] at *; simp at *; omega
  ntrans x y z h1 h2 := by rw [ltR] at *; simp at *; omega

set_option maxHeartbeats 400000 in
theorem compare_any (x y : Nat) (W : World) : Calls Try.prog 40 #[.int .u64 (x : Int), .int .u64 (y : Int)] W fun e w' => e = .returned (.int .i64 (if x < y then -1 else if y < x then 1 else 0)) ∧ w' = W := by
  by_cases h1 : x < y
  · have h1' : (x : Int) < (y : Int) := by omega
    rw [if_pos h1]
    go_enter Try.func40, Try.ntmps40
    go_wp2
    all_goals go_ret
    all_goals exact ⟨rfl, rfl⟩
  · have h1' : ¬ (x : Int) < (y : Int) := by omega
    rw [if_neg h1]
    by_cases h2 : y < x
    · have h2' : (y : Int) < (x : Int) := by omega
      rw [if_pos h2]
      go_enter Try.func40, Try.ntmps40
      go_wp2
      all_goals go_ret
      all_goals exact ⟨rfl, rfl⟩
    · have h2' : ¬ (y : Int) < (x : Int) := by omega
      rw [if_neg h2]
      go_enter Try.func40, Try.ntmps40
      go_wp2
      all_goals go_ret
      all_goals exact ⟨rfl, rfl⟩

set_option maxHeartbeats 1000000 in
theorem joinc_any (x y : Nat × Nat) (W : World) : Calls Try.prog 39 #[.agg #[.int .u64 (x.1 : Int), .int .u64 (x.2 : Int)], .agg #[.int .u64 (y.1 : Int), .int .u64 (y.2 : Int)]] W fun e w' => e = .returned (.int .i64 (cmpR x y)) ∧ ∃ q os', w' = grow (W.drewN q) os' := by
  have hcon := fun W' => compare_any x.1 y.1 W'
  unfold cmpR
  generalize (if x.1 < y.1 then (-1 : Int) else if y.1 < x.1 then 1 else 0) = r at hcon ⊢
  go_enter Try.func39, Try.ntmps39
  go_wp2_with (go_at_call 40; refine (hcon _).mono ?_; rintro e w' ⟨rfl, rfl⟩)
  go_ret
  exact ⟨rfl, 0, _, by rw [alloc_eq_grow, alloc_eq_grow, grow_grow]; rfl⟩

theorem flatR (l : List (Nat × Nat)) : flatK encR 2 l.toArray = (rcells l).toArray := by
  refine ext_get! (by simp [rcells_length]) fun t ht => ?_
  have ht' : t < l.length * 2 := by simpa using ht
  rw [get_flatK _ _ _ _ (by simpa using ht')]
  obtain ⟨i, hi⟩ : ∃ i, t = i * 2 ∨ t = i * 2 + 1 := ⟨t / 2, by omega⟩
  have hil : i < l.length := by omega
  obtain ⟨g0, g1⟩ := rcells_get l i hil
  have e : l.toArray[i]! = l[i] := by simp [hil]
  have hb : t < (rcells l).length := by rw [rcells_length]; exact ht'
  have hr : (rcells l).toArray[t]! = (rcells l)[t] := by rw [getElem!_pos _ t (by simpa using hb)]; simp
  rw [hr]
  rcases hi with rfl | rfl
  · rw [show i * 2 / 2 = i by omega, show i * 2 % 2 = 0 by omega, e]
    have := (List.getElem?_eq_some_iff.1 g0).2
    rw [this]
    rfl
  · rw [show (i * 2 + 1) / 2 = i by omega, show (i * 2 + 1) % 2 = 1 by omega, e]
    have := (List.getElem?_eq_some_iff.1 g1).2
    rw [this]
    rfl
theorem holdsR {w : World} {g : Nat} {l : List (Nat × Nat)} {T : List Value} (hg : w.heap[g]? = some (.cells (rcells l ++ T).toArray 43 (0, 0))) : HoldsK encR 2 w g 0 l.toArray := by
  intro j hj
  rw [flatR] at hj ⊢
  have hj' : j < (rcells l).length := by simpa using hj
  refine ⟨?_, frozen_of_list hg _⟩
  rw [Nat.zero_add, cell_of_list hg, List.getElem?_append_left hj', List.getElem?_eq_getElem hj', getElem!_pos _ j (by simpa using hj')]
  simp
theorem sortedWorld {w : World} {g n : Nat} {l l' : List (Nat × Nat)} {T : List Value} {os : Array Obj} (hg : w.heap[g]? = some (.cells (rcells l ++ T).toArray 43 (0, 0))) (hl : l'.length = l.length) :
    (sortWorldK encR 2 w g 0 n l'.toArray os).heap[g]? = some (.cells (rcells l' ++ T).toArray 43 (0, 0)) ∧ w.grownBy (sortWorldK encR 2 w g 0 n l'.toArray os) (some g) := by
  have hlt := (Array.getElem?_eq_some_iff.1 hg).1
  have hsz : (putRowK encR 2 (Sort.ahead w n) g 0 l'.toArray).heap.size = w.heap.size := by unfold putRowK; simp
  have hgb : (putRowK encR 2 (Sort.ahead w n) g 0 l'.toArray).heap[g]? = some (.cells (rcells l' ++ T).toArray 43 (0, 0)) := by
    unfold putRowK putRow mapBlock
    show (w.heap.modify g _)[g]? = _
    rw [Array.getElem?_modify, if_pos rfl, hg]
    simp only [Option.map_some, onCells, flatR]
    congr 2
    apply Array.ext'
    apply List.ext_getElem?
    intro k
    have e1 := rcells_length l
    have e2 := rcells_length l'
    unfold putCells
    simp only [Array.toList_mapIdx, List.getElem?_mapIdx, Nat.zero_le, true_and, Nat.zero_add, Nat.sub_zero, List.size_toArray, id]
    by_cases hk : k < (rcells l').length
    · have hk2 : k < (rcells l).length := by omega
      rw [List.getElem?_append_left hk2, List.getElem?_append_left hk, List.getElem?_eq_getElem hk2, List.getElem?_eq_getElem hk]
      simp [hk]
    · rw [List.getElem?_append_right (by omega), List.getElem?_append_right (by omega), e1, e2, hl]
      have hk3 : ¬ k < l.length * 2 := by omega
      cases T[k - l.length * 2]? with
      | none => rfl
      | some x => simp [hk3]
  refine ⟨?_, ?_⟩
  · unfold sortWorldK
    rw [heap_grow_old _ _ (by rw [hsz]; exact hlt)]
    exact hgb
  · refine ⟨rfl, rfl, rfl, ?_, fun k hk hne => ?_⟩
    · unfold sortWorldK
      rw [size_grow, hsz]; omega
    · unfold sortWorldK
      rw [heap_grow_old _ _ (by rw [hsz]; exact hk)]
      unfold putRowK putRow mapBlock
      show (w.heap.modify g _)[k]? = _
      rw [Array.getElem?_modify, if_neg (fun he => hne (by rw [he]))]

theorem sort_any (base : Nat) (v : Value) (l : List (Nat × Nat)) (w : World) (hown : Own2 w base v l) (hlen : l.length ≤ 1000000) :
    Calls Try.prog 38 #[v, .func (.func 39) #[] #[]] w fun e w' => e = .returned (.tuple #[]) ∧ ∃ l', l'.Perm l ∧ (∀ i j (hi : i < l'.length) (hj : j < l'.length), i < j → l'[i].1 ≤ l'[j].1) ∧ Own2 w' base v l' ∧ w.grownBy w' v.ownBlock := by
  by_cases hp : 0 < l.length
  · rcases hown.split with ⟨rfl, rfl⟩ | ⟨g, c, T, rfl, hbg, hg, h1, h2, hT⟩
    · simp at hp
    · have eg : ∀ args w, (callFunc 39 args).run Try.prog w = .ok (.enter 39 args) w := enters_of Try.func39 (by kernel_rfl) rfl
      have hcon := AnyQ.slices_SortFunc Try.sortR 2 Try.isAgg43 Try.sizeOf43 encR (fun _ => rfl) (fun x v hv => by simp [encR] at hv; rcases hv with rfl | rfl <;> rfl) cmpR swoR 39 #[] g 0 c l.toArray w eg
        (fun _ _ _ _ x y => joinc_any x y _) (holdsR hg) (Array.getElem?_eq_some_iff.1 hg).1 (by simp; omega)
      change Calls Try.prog 38 _ _ _ at hcon
      refine hcon.mono ?_
      rintro e w' ⟨rfl, d', n, os, hperm, hsort, rfl⟩
      have hd : d' = d'.toList.toArray := by simp
      have hs : d'.toList.length = l.length := by simpa using hperm.1
      obtain ⟨hw1, hw2⟩ := sortedWorld (n := n) (l' := d'.toList) (os := os) hg hs
      rw [← hd] at hw1 hw2
      refine ⟨rfl, d'.toList, ?_, fun i j hi hj hij => ?_, own2_mk hbg hw1 hs.symm (by omega) h2 (by rw [hs]; exact hT), hw2⟩
      · have h3 := hperm.2.2
        have e1 : d'.extract 0 l.toArray.size = d' := by rw [← hperm.1]; simp
        rw [e1] at h3
        simpa using h3
      · have h4 := hsort i j (Nat.zero_le _) hij (by rw [hs] at hj; simpa using hj)
        rw [ltR] at h4
        have a1 : d'[i]! = d'.toList[i] := by rw [getElem!_pos _ i (by simpa using hi)]; simp
        have a2 : d'[j]! = d'.toList[j] := by rw [getElem!_pos _ j (by simpa using hj)]; simp
        rw [a1, a2] at h4
        simp at h4
        simpa using h4
  · obtain rfl : l = [] := List.eq_nil_of_length_eq_zero (by omega)
    obtain ⟨a, cap, rfl⟩ := hown.rng.slice
    have hcon := AnyF.slices_SortFunc_none Try.sortR a cap (.func (.func 39) #[] #[]) w
    change Calls Try.prog 38 _ _ _ at hcon
    refine hcon.mono ?_
    rintro e w' ⟨rfl, rfl⟩
    exact ⟨rfl, [], List.Perm.refl _, fun i j hi => by simp at hi, hown, ⟨rfl, rfl, rfl, Nat.le_refl _, fun _ _ _ => rfl⟩⟩

theorem rise_of_sorted : ∀ (l : List (Nat × Nat)) (b : Nat), (∀ r ∈ l, b ≤ r.1 ∧ r.1 ≤ r.2) → (∀ i j (hi : i < l.length) (hj : j < l.length), i < j → l[i].1 ≤ l[j].1) → Rise b l
  | [], _, _, _ => trivial
  | r :: t, b, h, hs => by
    refine ⟨(h r (by simp)).1, (h r (by simp)).2, rise_of_sorted t r.1 (fun q hq => ⟨?_, (h q (by simp [hq])).2⟩) (fun i j hi hj hij => by
      have := hs (i + 1) (j + 1) (by simpa using hi) (by simpa using hj) (by omega)
      simpa using this)⟩
    obtain ⟨i, hi, rfl⟩ := List.mem_iff_getElem.1 hq
    have := hs 0 (i + 1) (by simp) (by simpa using hi) (by omega)
    simpa using this

set_option maxHeartbeats 400000 in
theorem melt_none (a : Option Addr) (cap : Nat) (w : World) (h : a = none → cap = 0) (hc : cap ≤ maxLen) :
    Calls Try.prog 41 #[.slice a 0 cap] w fun e w' => e = .returned (.slice a 0 cap) ∧ w' = w := by
  have hc63 : cap ≤ 9223372036854775807 := by unfold maxLen at hc; omega
  cases a with
  | none =>
    obtain rfl := h rfl
    go_enter Try.func41, Try.ntmps41
    go_wp2
    go_rounds 1
    go_ret
    exact ⟨rfl, rfl⟩
  | some a =>
    go_enter Try.func41, Try.ntmps41
    go_wp2
    go_rounds 1
    go_ret
    exact ⟨rfl, rfl⟩

/-- melt, of rows that are empty too. -/
theorem melt_own (v : Value) (l : List (Nat × Nat)) (w : World) (hown : Own2 w 0 v l) (hr : ∀ r ∈ l, 1 ≤ r.1 ∧ r.2 < 18446744073709551616 ∧ r.1 ≤ r.2) (hlen : l.length ≤ 1000000) :
    Calls Try.prog 41 #[v] w fun e w' => ∃ v', e = .returned v' ∧ Own2 w' 0 v' (meltL l) ∧ w.grownBy w' v.ownBlock ∧ v'.ownBlock = v.ownBlock := by
  by_cases hp : 0 < l.length
  · rcases hown.split with ⟨rfl, rfl⟩ | ⟨g, c, T, rfl, _, _, _, _, _⟩
    · simp at hp
    · refine (melt_any g c l w hown hr hlen hp).mono ?_
      rintro e w' ⟨rfl, own, gr⟩
      exact ⟨_, rfl, own, gr, rfl⟩
  · obtain rfl : l = [] := List.eq_nil_of_length_eq_zero (by omega)
    rcases hown.2 with ⟨rfl, _⟩ | ⟨g, c, cur, rfl, _, hg, h1, h2, h3, h4⟩
    · refine (melt_none none 0 w (fun _ => rfl) (Nat.zero_le _)).mono ?_
      rintro e w' ⟨rfl, rfl⟩
      exact ⟨_, rfl, hown, ⟨rfl, rfl, rfl, Nat.le_refl _, fun _ _ _ => rfl⟩, rfl⟩
    · refine (melt_none (some ⟨g, 0, none⟩) c w (fun h => by cases h) h2).mono ?_
      rintro e w' ⟨rfl, rfl⟩
      exact ⟨_, rfl, hown, ⟨rfl, rfl, rfl, Nat.le_refl _, fun _ _ _ => rfl⟩, rfl⟩

theorem grown_below {w w1 w2 : World} {base : Nat} {v : Value} {l : List (Nat × Nat)} (h : RowKit.Below base w w1) (own : Own2 w1 base v l) (gr : w1.grownBy w2 v.ownBlock) (hb : base ≤ w1.heap.size) : RowKit.Below base w w2 :=
  own.below gr h hb (Nat.le_refl _)

set_option maxHeartbeats 1000000 in
theorem join_any (sa sb : Value) (la lb : List (Nat × Nat)) (w : World) (ha : Lies w sa la) (hb : Lies w sb lb) (fa : Apart 1 la ∧ Upto 18446744073709551616 la) (fb : Apart 1 lb ∧ Upto 18446744073709551616 lb) (hlen : la.length + lb.length ≤ 1000000) :
    Calls Try.prog 18 #[sa, sb] w fun e w' => ∃ B v lj, e = .returned (.pointer (some ⟨B, 0, none⟩)) ∧ SetAt w' B v lj ∧ From0 w.heap.size B v ∧ RowKit.Below w.heap.size w w' ∧ (Apart 1 lj ∧ Upto 18446744073709551616 lj) ∧ (∀ m, Mem lj m ↔ Mem la m ∨ Mem lb m) ∧ lj.length ≤ la.length + lb.length := by
  go_enter Try.func18, Try.ntmps18
  go_wp2_with fail
  refine (list_any sa la w ha).mono ?_
  rintro e w' ⟨v1, rfl, r1, rfl⟩
  go_wp2_with fail
  refine (another_any v1 la _ r1 (by omega)).mono ?_
  rintro e w2 ⟨v2, rfl, o2, b2⟩
  have hb2 := hb.below b2 (Nat.le_refl _)
  obtain ⟨a2, c2, rfl⟩ := o2.rng.slice
  go_wp2_with fail
  refine (list_any sb lb w2 hb2).mono ?_
  rintro e w'' ⟨v3, rfl, r3, rfl⟩
  obtain ⟨a3, c3, rfl⟩ := r3.slice
  go_wp2_with (at_builtin; refine wpList_append_rng rfl (.tmp 8) (.tmp 10) rfl _ _ _ la lb rfl rfl o2 r3 (by omega) b2.size ?_; intro v4 w4 o4 g4)
  have bel4 : Hid (RowKit.Below w'.heap.size w' w4) := grown_below b2 o2 g4 b2.size
  have sz4 : w'.heap.size ≤ w4.heap.size := bel4.out.size
  have len4 : (la ++ lb).length ≤ 1000000 := by rw [List.length_append]; exact hlen
  clear g4 o2 b2 hb2 r3 hb
  refine (sort_any w'.heap.size v4 (la ++ lb) w4 o4 len4).mono ?_
  rintro e w5 ⟨rfl, l5, hperm, hsort, o5, g5⟩
  have bel5 : Hid (RowKit.Below w'.heap.size w' w5) := grown_below bel4.out o4 g5 sz4
  have hr5 : ∀ r ∈ l5, 1 ≤ r.1 ∧ r.2 < 18446744073709551616 ∧ r.1 ≤ r.2 := fun r hr => by
    rcases List.mem_append.1 (hperm.mem_iff.1 hr) with h | h
    · have := fa.1.lowR h; exact ⟨this.1, fa.2 r h, this.2⟩
    · have := fb.1.lowR h; exact ⟨this.1, fb.2 r h, this.2⟩
  have len5 : l5.length ≤ 1000000 := by rw [hperm.length_eq]; exact len4
  obtain ⟨a5, c5, rfl⟩ := o5.rng.slice
  clear o4 g5
  go_wp2_with fail
  refine (melt_own _ l5 w5 (o5.mono (Nat.zero_le _)) hr5 len5).mono ?_
  rintro e w6 ⟨v6, rfl, o6, g6, ob6⟩
  have bel6 : Hid (RowKit.Below w'.heap.size w' w6) := grown_below bel5.out o5 g6 bel5.out.size
  obtain ⟨a6, c6, rfl⟩ := o6.rng.slice
  have fr6 : Hid (∀ g, (Value.slice a6 (meltL l5).length c6).ownBlock = some g → w'.heap.size ≤ g) := fun g hg => (World.ownsRow.lt o5 g (by rw [← ob6]; exact hg)).1
  have hrise := rise_of_sorted l5 1 (fun r hr => ⟨(hr5 r hr).1, (hr5 r hr).2.2⟩) hsort
  have hm := meltL_ok l5 1 hrise
  have hup := meltL_upto l5 18446744073709551616 (fun r hr => (hr5 r hr).2.1)
  have hln : (meltL l5).length ≤ la.length + lb.length := by
    have h1 := hperm.length_eq
    rw [List.length_append] at h1
    cases l5 with
    | nil => simp [meltL]
    | cons r t =>
      have h2 := meltR_length t r
      simp only [List.length_cons] at h1
      show (meltR r t).length ≤ _
      omega
  have HM : Hid ((Apart 1 (meltL l5) ∧ Upto 18446744073709551616 (meltL l5)) ∧ (∀ m, Mem (meltL l5) m ↔ Mem la m ∨ Mem lb m) ∧ (meltL l5).length ≤ la.length + lb.length) :=
    ⟨⟨hm.1, hup⟩, fun m => by rw [hm.2 m, mem_perm hperm m, mem_append], hln⟩
  clear hm hup hln hrise
  go_wp2
  go_ret
  exact ⟨w6.heap.size, _, meltL l5, rfl, setAt_new o6, ⟨bel6.out.size, fr6.out⟩, bel6.out.alloc bel6.out.size _, HM.out.1, HM.out.2.1, HM.out.2.2⟩
end Go.Proofs.Ytdgbcjdikkmgdaa
