/-
  A NUMBER COMES INTO ITS PLACE in a rising row, by exchanges (of no program); a row of ints of the call's own, told by an array.
-/
import Derived.Test.YtooaiomghbjpiaaRAdd17
import Derived.Test.YtooaiomghbjpiaaRDrop17
namespace Go.Proofs.Ytooaiomghbjpiaa
open Go.RowKit Go.Sort
set_option maxRecDepth 20000

/-- The row in block g holds these numbers. -/
def IR (W : World) (base g cap : Nat) (d : Array Int) : Prop := Own1 W base 3 (.slice (some ⟨g, 0, none⟩) d.size cap) (icells d.toList)
section
variable {W W' : World} {base g cap : Nat} {d : Array Int}
theorem IR.blk (h : IR W base g cap d) : ∃ cur, W.heap[g]? = some (.cells cur 3 (0, 0)) ∧ d.size ≤ cap ∧ cap ≤ maxLen ∧ cur.size = cap ∧ base ≤ g ∧ ∀ t, t < d.size → cur[t]? = some (.int .i64 d[t]!) := by
  have hl : (icells d.toList).length = d.size := by rw [icells_length, Array.length_toList]
  rcases h.2 with ⟨e, _⟩ | ⟨g', cap', cur, e, hb, hg, h1, h2, h3, h4⟩
  · cases e
  · injection e with e1 e2 e3
    injection e1 with e1
    injection e1 with e1
    subst e1 e3
    rw [hl] at h1 h4
    refine ⟨cur, hg, h1, h2, by simpa using h3, hb, fun t ht => ?_⟩
    have := congrArg (fun l => l[t]?) h4
    simp only [List.getElem?_take, Nat.mul_one, if_pos ht, icells, List.getElem?_map, Array.getElem?_toList] at this
    rw [this, getElem!_pos d t ht]
    simp [ht]
theorem IR.cell (h : IR W base g cap d) {t : Nat} (ht : t < d.size) : W.cell? ⟨g, t, none⟩ = some (.int .i64 d[t]!) := by
  obtain ⟨cur, hg, _, _, _, _, hc⟩ := h.blk
  simp only [World.cell?, hg]
  exact hc t ht
theorem IR.frozen (h : IR W base g cap d) (t : Nat) : W.frozen? ⟨g, t, none⟩ = false := by
  obtain ⟨cur, hg, _⟩ := h.blk
  simp [World.frozen?, hg]
theorem IR.lt (h : IR W base g cap d) : g < W.heap.size ∧ base ≤ g := by
  obtain ⟨cur, hg, _, _, _, hb, _⟩ := h.blk
  exact ⟨(Array.getElem?_eq_some_iff.1 hg).1, hb⟩
theorem IR.same (h : IR W base g cap d) (hs : W'.heap[g]? = W.heap[g]?) : IR W' base g cap d := own1_same h fun k hk => by injection hk with hk; subst hk; exact hs
theorem ir_mk {cur : Array Value} (hg : W.heap[g]? = some (.cells cur 3 (0, 0))) (h1 : d.size ≤ cap) (h2 : cap ≤ maxLen) (h3 : cur.size = cap) (hb : base ≤ g) (hc : ∀ t, t < d.size → cur[t]? = some (.int .i64 d[t]!)) : IR W base g cap d := by
  have hl : (icells d.toList).length = d.size := by rw [icells_length, Array.length_toList]
  refine ⟨by simp, .inr ⟨g, cap, cur, by rw [hl], hb, hg, by rw [hl]; exact h1, h2, by simpa using h3, ?_⟩⟩
  rw [hl, Nat.mul_one]
  apply List.ext_getElem?
  intro t
  rw [List.getElem?_take]
  by_cases ht : t < d.size
  · rw [if_pos ht, Array.getElem?_toList, hc t ht]
    simp only [icells, List.getElem?_map, Array.getElem?_toList]
    rw [getElem!_pos d t ht]
    simp [ht]
  · rw [if_neg ht, List.getElem?_eq_none (by rw [hl]; omega)]
/-- Two places exchanged. -/
theorem IR.swap (h : IR W base g cap d) {i j : Nat} (hi : i < d.size) (hj : j < d.size) : IR ((W.setCell ⟨g, i, none⟩ (.int .i64 d[j]!)).setCell ⟨g, j, none⟩ (.int .i64 d[i]!)) base g cap (swp d i j) := by
  obtain ⟨cur, hg, h1, h2, h3, hb, hc⟩ := h.blk
  have hg' : ((W.setCell ⟨g, i, none⟩ (.int .i64 d[j]!)).setCell ⟨g, j, none⟩ (.int .i64 d[i]!)).heap[g]? = some (.cells ((cur.setIfInBounds i (.int .i64 d[j]!)).setIfInBounds j (.int .i64 d[i]!)) 3 (0, 0)) := by
    simp [World.setCell, Array.getElem?_modify, hg]
  have hs : (swp d i j).size = d.size := by simp [swp]
  refine ir_mk hg' (by rw [hs]; exact h1) h2 (by simpa using h3) hb fun t ht => ?_
  rw [hs] at ht
  have hds : ∀ (e : Array Int) (k : Nat) (x : Int), k < e.size → ∀ t, t < e.size → (e.setIfInBounds k x)[t]! = if t = k then x else e[t]! := fun e k x _ t ht => by
    rw [getElem!_pos _ t (by simpa using ht), Array.getElem_setIfInBounds, getElem!_pos e t ht]
    by_cases hk : k = t
    · simp [hk]
    · rw [if_neg hk, if_neg (fun e => hk e.symm)]
  unfold swp
  rw [hds _ _ _ (by simpa using hj) _ (by simpa using ht), hds _ _ _ hi _ ht, Array.getElem?_setIfInBounds, Array.getElem?_setIfInBounds]
  by_cases e1 : t = j
  · subst e1
    rw [if_pos rfl, if_pos rfl, if_pos (by simp; omega)]
  · rw [if_neg (fun e => e1 e.symm), if_neg e1]
    by_cases e2 : t = i
    · subst e2
      rw [if_pos rfl, if_pos rfl, if_pos (by omega)]
    · rw [if_neg (fun e => e2 e.symm), if_neg e2]
      exact hc t ht
theorem IR.swapBelow (h : IR W base g cap d) {W0 : World} (hb : Below base W0 W) (i j : Nat) (x y : Value) : Below base W0 ((W.setCell ⟨g, i, none⟩ x).setCell ⟨g, j, none⟩ y) := (hb.setCell h.lt.2 _).setCell h.lt.2 _
end
/-- How the row stands while t goes down from the end: it is at j. -/
def insAt (l : List Int) (t : Int) (j : Nat) : Array Int := (l.take j ++ t :: l.drop j).toArray
theorem insAt_size (l : List Int) (t : Int) (j : Nat) (h : j ≤ l.length) : (insAt l t j).size = l.length + 1 := by
  unfold insAt
  simp [List.length_take, List.length_drop]
  omega
theorem insAt_end (l : List Int) (t : Int) : insAt l t l.length = (l ++ [t]).toArray := by
  unfold insAt
  simp
theorem insAt_get {l : List Int} {t : Int} {j i : Nat} (h : j ≤ l.length) (hi : i < l.length + 1) : (insAt l t j)[i]! = if i < j then l[i]! else if i = j then t else l[i - 1]! := by
  have hl : (l.take j ++ t :: l.drop j).length = l.length + 1 := by simp; omega
  have e : (insAt l t j)[i]! = (l.take j ++ t :: l.drop j)[i]'(by rw [hl]; exact hi) := by
    rw [getElem!_pos (insAt l t j) i (by rw [insAt_size l t j h]; exact hi)]
    rfl
  rw [e]
  by_cases h1 : i < j
  · rw [if_pos h1, List.getElem_append_left (by simp; omega), List.getElem_take, getElem!_pos l i (by omega)]
  · rw [if_neg h1, List.getElem_append_right (by simp; omega)]
    by_cases h2 : i = j
    · subst h2
      rw [if_pos rfl]
      simp [Nat.min_eq_left h]
    · rw [if_neg h2]
      obtain ⟨m, rfl⟩ : ∃ m, i = j + 1 + m := ⟨i - j - 1, by omega⟩
      have h3 : j + 1 + m - (l.take j).length = m + 1 := by simp; omega
      simp only [h3, List.getElem_cons_succ, List.getElem_drop]
      rw [getElem!_pos l (j + 1 + m - 1) (by omega)]
      congr 1
      omega
theorem insAt_here {l : List Int} {t : Int} {j : Nat} (h : j ≤ l.length) : (insAt l t j)[j]! = t := by rw [insAt_get h (by omega), if_neg (by omega), if_pos rfl]
theorem insAt_left {l : List Int} {t : Int} {j k : Nat} (h : j ≤ l.length) (hk : k < j) : (insAt l t j)[k]! = l[k]! := by rw [insAt_get h (by omega), if_pos hk]
theorem arr_ext {a b : Array Int} (h : a.size = b.size) (he : ∀ i, i < a.size → a[i]! = b[i]!) : a = b := by
  apply Array.ext h
  intro i h1 h2
  have := he i h1
  rw [getElem!_pos a i h1, getElem!_pos b i h2] at this
  exact this
theorem insAt_step {l : List Int} {t : Int} {j : Nat} (h : j + 1 ≤ l.length) : swp (insAt l t (j + 1)) (j + 1) j = insAt l t j := by
  have hs1 := insAt_size l t (j + 1) h
  have hs2 := insAt_size l t j (by omega)
  refine arr_ext (by rw [size_swpU, hs1, hs2]) fun i hi => ?_
  rw [size_swpU, hs1] at hi
  rw [insAt_get (by omega) hi]
  by_cases e1 : i = j
  · subst e1
    rw [swp_right _ _ _ (by omega), insAt_here h, if_neg (by omega), if_pos rfl]
  · by_cases e2 : i = j + 1
    · subst e2
      rw [swp_left _ _ _ (by omega) (by omega), insAt_left h (by omega), if_neg (by omega), if_neg (by omega), Nat.add_sub_cancel]
    · rw [swp_other _ _ _ _ e2 e1, insAt_get h hi]
      by_cases e3 : i < j
      · rw [if_pos e3, if_pos (by omega)]
      · rw [if_neg e3, if_neg (by omega), if_neg (by omega), if_neg (by omega)]
theorem insAt_step2 {l : List Int} {t : Int} {j : Nat} (h : j + 1 ≤ l.length) : swp (insAt l t (j + 1)) j (j + 1) = insAt l t j := by
  have hs1 := insAt_size l t (j + 1) h
  rw [← insAt_step h]
  refine arr_ext (by rw [size_swpU, size_swpU]) fun i hi => ?_
  by_cases e1 : i = j
  · subst e1
    rw [swp_right _ (i + 1) i (by omega), swp_left _ i (i + 1) (by omega) (by omega)]
  · by_cases e2 : i = j + 1
    · subst e2
      rw [swp_left _ (j + 1) j (by omega) (by omega), swp_right _ j (j + 1) (by omega)]
    · rw [swp_other _ _ _ _ e2 e1, swp_other _ _ _ _ e1 e2]
theorem insU_at {l : List Int} {t : Int} : ∀ {j : Nat}, j ≤ l.length → (∀ i (hi : i < l.length), i < j → l[i] ≤ t) → (∀ i (hi : i < l.length), j ≤ i → t < l[i]) → insU t l = l.take j ++ t :: l.drop j := by
  induction l with
  | nil => intro j _ _ _; simp [insU]
  | cons u l ih =>
    intro j hj h1 h2
    unfold insU
    cases j with
    | zero =>
      have := h2 0 (by simp) (Nat.le_refl _)
      rw [if_pos (by simpa using this)]
      rfl
    | succ j =>
      have := h1 0 (by simp) (by omega)
      rw [if_neg (by simp at this; omega)]
      rw [ih (j := j) (by simpa using hj) (fun i hi hij => h1 (i + 1) (by simpa using hi) (by omega)) (fun i hi hij => h2 (i + 1) (by simpa using hi) (by omega))]
      rfl
theorem insAt_done {l : List Int} {t : Int} {j : Nat} (hl : l.Pairwise (· ≤ ·)) (hj : j ≤ l.length) (h1 : j = 0 ∨ l[j - 1]! ≤ t) (h2 : ∀ i (hi : i < l.length), j ≤ i → t < l[i]) : insAt l t j = (insU t l).toArray := by
  unfold insAt
  rw [insU_at hj (fun i hi hij => ?_) h2]
  have h3 := h1.resolve_left (by omega)
  rw [getElem!_pos l (j - 1) (by omega)] at h3
  by_cases e : i = j - 1
  · subst e; exact h3
  · have := List.pairwise_iff_getElem.1 hl i (j - 1) hi (by omega) (by omega)
    omega
end Go.Proofs.Ytooaiomghbjpiaa

/-
  THE DOCUMENT's Clients, by its contract.
-/
namespace Go.Proofs.Ytooaiomghbjpiaa
open Go.RowKit Go.Maps Go.Sort Go.Shelf
set_option maxRecDepth 20000

theorem isI17 : Elem Try.prog 36 3 (.int .i64 0) 8 := ⟨Try.underlying36, intInfo, rfl⟩
theorem row_new (w : World) (e : TypeId) (u : Value) (n : Nat) (hn : n = w.heap.size) : Row (w.alloc (.cells #[u] e)) (.slice (some ⟨n, 0, none⟩) 1 1) [u] := by
  subst hn; exact row_one w e u
theorem clients_take {L : List Se} (ok : LOk L) {k : Nat} (hk : k < L.length) : clientsL (L.take (k + 1)) = insU L[k].c (clientsL (L.take k)) := by
  have ok1 : LOk (L.take k) := ok.sub (List.take_sublist k L)
  have hd := List.pairwise_iff_getElem.1 ok.diff
  have hn : L[k].c ∉ clientsL (L.take k) := fun hm => by
    obtain ⟨s, hs, e⟩ := mem_clientsL.1 hm
    obtain ⟨i, hi, rfl⟩ := List.mem_iff_getElem.1 hs
    rw [List.length_take] at hi
    rw [List.getElem_take] at e
    exact hd i k (by omega) hk (by omega) e
  refine List.Perm.eq_of_pairwise (le := fun a b : Int => decide (a ≤ b) = true) (fun a b _ _ h1 h2 => by simp at h1 h2; omega) (clientsL_le _) ((insU_up (clientsL_up ok1) hn).imp fun {a b} h => by simp; omega) ?_
  have h1 : ((L.take (k + 1)).map Se.c).Perm (L[k].c :: (L.take k).map Se.c) := by
    rw [List.take_succ_eq_append_getElem hk, List.map_append]
    exact List.perm_append_singleton _ _
  exact (clientsL_perm _).trans (h1.trans ((insU_perm _ _).trans ((clientsL_perm (L.take k)).cons _)).symm)
theorem ir_of {W : World} {base : Nat} {v : Value} {l : List Int} {c : Int} (h : Own1 W base 3 v (icells l ++ [.int .i64 c])) : ∃ g cap, v = .slice (some ⟨g, 0, none⟩) (l.length + 1) cap ∧ IR W base g cap (insAt l c l.length) := by
  have e : icells l ++ [.int .i64 c] = icells (l ++ [c]) := by rw [icells_append]; rfl
  rw [e] at h
  have hl : (icells (l ++ [c])).length = l.length + 1 := by rw [icells_length]; simp
  rcases h.2 with ⟨_, h2⟩ | ⟨g, cap, cur, h1, h2⟩
  · rw [hl] at h2; omega
  · rw [hl] at h1
    refine ⟨g, cap, h1, ?_⟩
    unfold IR
    rw [insAt_end]
    simp only [List.size_toArray, List.length_append, List.length_singleton]
    rw [← h1]
    exact h
theorem IR.own {W : World} {base g cap : Nat} {l : List Int} (h : IR W base g cap l.toArray) : Own1 W base 3 (.slice (some ⟨g, 0, none⟩) l.length cap) (icells l) := h
theorem IR.drewN {W : World} {base g cap : Nat} {d : Array Int} (h : IR W base g cap d) (q : Nat) : IR (W.drewN q) base g cap d := h.same rfl
set_option maxHeartbeats 4000000 in
theorem rclients_at {w : World} {p : Nat} {v : Value} {X : List Ro} (h : RdAt w p v X) (ok : LOk (X.map Ro.s)) :
    Calls Try.prog 14 #[.pointer (some ⟨p, 0, none⟩)] w fun e w' => ∃ u, e = .returned u ∧ Own1 w' w.heap.size 3 u (icells (clientsL (X.map Ro.s))) ∧ Below w.heap.size w w' := by
  obtain ⟨c0, _⟩ := h.cell
  have hr := h.row.rng
  obtain ⟨va, vc, rfl⟩ := hr.slice
  obtain ⟨_, hlm, hat⟩ := ros_at hr
  have hn32 : X.length ≤ 32 := by have := ok.few; rw [List.length_map] at this; exact this
  have HA : Hid _ := hat
  have HT : Hid (∀ k (hk : k < X.length), clientsL ((X.map Ro.s).take (k + 1)) = insU X[k].s.c (clientsL ((X.map Ro.s).take k)) ∧ (clientsL ((X.map Ro.s).take k)).length = k ∧ (clientsL ((X.map Ro.s).take k)).Pairwise (· ≤ ·)) := fun k hk => by
    have := clients_take ok (k := k) (by simpa using hk)
    refine ⟨by simpa using this, by rw [clientsL_len, List.length_take, List.length_map]; omega, (clientsL_le _).imp fun {a b} h => by simpa using h⟩
  have HZ : Hid (clientsL ((X.map Ro.s).take X.length) = clientsL (X.map Ro.s)) := by show _ = _; rw [List.take_of_length_le (by simp)]
  have hE : Elem Try.prog 36 3 (.int .i64 0) 8 := isI17
  clear hr hat h ok
  generalize hLL : X.map Ro.s = LL at *
  clear hLL
  obtain ⟨n, hn⟩ : ∃ z, X.length = z := ⟨_, rfl⟩
  rw [hn] at c0 hn32 HZ
  clear hlm
  go_enter Try.func14, Try.ntmps14
  go_wp2
  go_loopw [3, 5, 6, 12] (fun u3 _ _ u12 wr => ∃ k : Nat, u12 = .int .i64 k ∧ k ≤ n ∧ Hid (Own1 wr w.heap.size 3 u3 (icells (clientsL (LL.take k))) ∧ Below w.heap.size w wr)) (fun _ _ _ u12 _ => n - (intOf u12).toNat)
  case atStart => exact ⟨0, rfl, Nat.zero_le _, by rw [show clientsL (LL.take 0) = [] from by simp [clientsL]]; exact own1_nil _ _ _, Below.refl _ _⟩
  case round =>
    obtain ⟨k, rfl, hk, HI⟩ := hrel
    by_cases hlt : k < n
    · have hlt' : (k : Int) < (n : Int) := by omega
      have hkl : k < X.length := by omega
      obtain ⟨b, off, rfl, g0', g1', g2', g3'⟩ := HA.out k hkl
      have g0 := cell_on HI.out.2 g0'
      have g1 := cell_on HI.out.2 g1'
      have g2 := cell_on HI.out.2 g2'
      have g3 := cell_on HI.out.2 g3'
      obtain ⟨x, hx⟩ : ∃ z, X[k] = z := ⟨_, rfl⟩
      obtain ⟨t1, t2, t3⟩ := HT.out k hkl
      rw [hx] at g0 g1 g2 g3 t1
      obtain ⟨out, hout⟩ : ∃ z, clientsL (LL.take k) = z := ⟨_, rfl⟩
      rw [hout] at t1 t2 t3
      have HO : Hid (Own1 wr w.heap.size 3 u3 (icells out) ∧ Below w.heap.size w wr) := by rw [← hout]; exact HI
      obtain ⟨oa, oc, rfl⟩ : ∃ oa oc, u3 = .slice oa k oc := by
        obtain ⟨oa, oc, h⟩ := HO.out.1.row.sliceInts; rw [t2] at h; exact ⟨oa, oc, h⟩
      have HQ : Hid (clientsL (LL.take (k + 1)) = insU x.s.c out ∧ out.length = k ∧ out.Pairwise (· ≤ ·)) := ⟨t1, t2, t3⟩
      clear g0' g1' g2' g3' hx HI hout t1 t2 t3
      generalize x.s.t.length = tl at *
      generalize x.s.q = xq at *
      generalize x.s.m = xm at *
      generalize x.s.c = xc at *
      obtain ⟨W0, hW0⟩ : ∃ z, z = wr := ⟨_, rfl⟩
      subst hW0
      have HS : Hid (w.heap.size ≤ W0.heap.size) := HO.out.2.size
      go_wp2_with (at_builtin; refine wpList_append_row rfl _ _ 36 3 (.int .i64 0) 8 hE rfl w.heap.size _ _ (icells out) [.int .i64 xc] rfl rfl ?_ ?_ ?_ ?_ ?_ ?_ ?_; (exact World.ownsRow.alloc (World.ownsRow.alloc HO.out.1 _) _); (exact row_new _ _ _ _ (by simp)); (simp [Value.oneCell']); (rw [icells_length, HQ.out.2.1]; simp; omega); (rw [icells_length, HQ.out.2.1]; simp; omega); (have := HS.out; simp; omega); intro v' w4 own4 hb4 hs4; obtain ⟨g, cap, hv4, hI4⟩ := ir_of own4; rw [HQ.out.2.1] at hv4 hI4; subst hv4; have H4 : Hid (IR w4 w.heap.size g cap (insAt out xc k) ∧ Below w.heap.size w w4) := ⟨hI4, (HO.out.2.alloc HO.out.2.size _ |>.alloc (by have := HS.out; simp; omega) _).trans hb4⟩; clear own4 hb4 hs4 hI4)
      have hol := HQ.out.2.1
      go_loopw [6] (fun u6 wv => ∃ j : Nat, u6 = .int .i64 (j : Int) ∧ j ≤ k ∧ Hid (IR wv w.heap.size g cap (insAt out xc j) ∧ Below w.heap.size w wv ∧ ∀ i (hi : i < out.length), j ≤ i → xc < out[i])) (fun u6 _ => (intOf u6).toNat)
      case atStart => exact ⟨k, rfl, Nat.le_refl _, H4.out.1, H4.out.2, fun i hi h => by omega⟩
      case round =>
        obtain ⟨j, rfl, hjk, HJ⟩ := hrel
        have OUT : Hid (∀ q, (j = 0 ∨ out[j - 1]! ≤ xc) → Own1 (wr.drewN q) w.heap.size 3 (.slice (some ⟨g, 0, none⟩) (k + 1) cap) (icells (clientsL (LL.take (k + 1)))) ∧ Below w.heap.size w (wr.drewN q)) := fun q h1 => by
          have e := insAt_done HQ.out.2.2 (show j ≤ out.length by omega) h1 HJ.out.2.2
          have h2 := HJ.out.1
          rw [e] at h2
          have h3 := h2.own
          rw [insU_len, HQ.out.2.1] at h3
          rw [HQ.out.1]
          exact ⟨own1_same h3 fun _ _ => rfl, ⟨HJ.out.2.1.os, HJ.out.2.1.tape, HJ.out.2.1.output, HJ.out.2.1.size, HJ.out.2.1.block⟩⟩
        by_cases hj0 : 0 < j
        · obtain ⟨m, rfl⟩ : ∃ m, j = m + 1 := ⟨j - 1, by omega⟩
          have hj0' : (0 : Int) < (m : Int) + 1 := by omega
          have hj0d : decide ((0 : Int) < (m : Int) + 1) = true := decide_eq_true hj0'
          have hsz : (insAt out xc (m + 1)).size = k + 1 := by rw [insAt_size _ _ _ (by omega)]; omega
          obtain ⟨y, hy⟩ : ∃ y, out[m]! = y := ⟨_, rfl⟩
          have k1 : wr.cell? ⟨g, m + 1, none⟩ = some (.int .i64 xc) := by rw [← insAt_here (l := out) (t := xc) (j := m + 1) (by omega)]; exact HJ.out.1.cell (by omega)
          have k2 : wr.cell? ⟨g, m, none⟩ = some (.int .i64 y) := by rw [← hy, ← insAt_left (l := out) (t := xc) (j := m + 1) (by omega) (Nat.lt_succ_self m)]; exact HJ.out.1.cell (by omega)
          have u1 := HJ.out.1.frozen (m + 1)
          have u2 := HJ.out.1.frozen m
          have nm : (m : Int) + 1 < (k : Int) + 1 := by omega
          have HY : Hid (out[m]! = y ∧ (insAt out xc (m + 1))[m + 1]! = xc ∧ (insAt out xc (m + 1))[m]! = y) := ⟨hy, insAt_here (by omega), by rw [insAt_left (by omega) (Nat.lt_succ_self m)]; exact hy⟩
          clear hy
          by_cases hgt : xc < y
          · have HW : Hid (∀ q, IR (((wr.setCell ⟨g, m, none⟩ (.int .i64 xc)).setCell ⟨g, m + 1, none⟩ (.int .i64 y)).drewN q) w.heap.size g cap (insAt out xc m) ∧ Below w.heap.size w (((wr.setCell ⟨g, m, none⟩ (.int .i64 xc)).setCell ⟨g, m + 1, none⟩ (.int .i64 y)).drewN q) ∧ ∀ i (hi : i < out.length), m ≤ i → xc < out[i]) := fun q => by
              have h1 := HJ.out.1.swap (i := m) (j := m + 1) (by omega) (by omega)
              rw [HY.out.2.1, HY.out.2.2, insAt_step2 (by omega)] at h1
              have h2 := HJ.out.1.swapBelow HJ.out.2.1 m (m + 1) (.int .i64 xc) (.int .i64 y)
              refine ⟨h1.drewN q, ⟨h2.os, h2.tape, h2.output, h2.size, h2.block⟩, fun i hi h => ?_⟩
              by_cases e : i = m
              · subst e
                have := HY.out.1
                rw [getElem!_pos out i hi] at this
                omega
              · exact HJ.out.2.2 i hi (by omega)
            clear OUT HJ
            go_wp2
            go_quiet (fail)
            go_wp2
            go_region
            all_goals go_wp2
            all_goals go_roundw
            case rel => exact ⟨m, by go_num, by omega, HW.out _⟩
            case measure => simp [intOf]
          · have HW := fun q => OUT.out q (.inr (by rw [Nat.add_sub_cancel, HY.out.1]; omega))
            have HW2 : Hid _ := HW
            clear OUT HJ HW
            go_wp2
            go_quiet (fail)
            go_wp2
            go_roundw
            case rel => exact ⟨k + 1, by go_num, by omega, HW2.out _⟩
            case measure => simp [intOf]; omega
        · obtain rfl : j = 0 := by omega
          have HW := fun q => OUT.out q (.inl rfl)
          have HW2 : Hid _ := HW
          clear OUT HJ HW
          go_wp2
          go_quiet (fail)
          go_wp2
          go_roundw
          case rel => exact ⟨k + 1, by go_num, by omega, HW2.out _⟩
          case measure => simp [intOf]; omega
    · have hlt' : ¬ (k : Int) < (n : Int) := by omega
      obtain rfl : k = n := by omega
      have HE : Hid (Own1 wr w.heap.size 3 u3 (icells (clientsL LL)) ∧ Below w.heap.size w wr) := by rw [← HZ.out]; exact HI
      obtain ⟨oa, oc, hu⟩ := HE.out.1.row.sliceInts
      subst hu
      go_wp2
      go_ret
      exact ⟨_, rfl, HE.out.1, HE.out.2⟩
end Go.Proofs.Ytooaiomghbjpiaa

/-
  THE DOCUMENT's Forget, by its contract.
-/
namespace Go.Proofs.Ytooaiomghbjpiaa
open Go.RowKit Go.Maps Go.Sort Go.Shelf
set_option maxRecDepth 20000

theorem rdrop_any (p : Nat) (F : Nat → Prop) (L : List Se) (c : Int) (w : World) (h : Rd w p F L) (ok : LOk L) : Calls Try.prog 25 #[.pointer (some ⟨p, 0, none⟩), .int .i64 c] w fun e w' => ∃ z, e = .returned (.tuple #[z, .int .i64 (dropE L c)]) ∧ ∃ F', Rd w' p F' (cutC L c) ∧ Moved w w' F F' := by
  obtain ⟨v, X, h, rfl, rfl⟩ := h
  exact (rdrop_at h ok c).mono fun _ _ ⟨e, _, v', h1, h2⟩ => ⟨_, e, _, ⟨v', _, h1, cutR_s X c, rfl⟩, h2⟩
theorem rclients_any (p : Nat) (F : Nat → Prop) (L : List Se) (w : World) (h : Rd w p F L) (ok : LOk L) : Calls Try.prog 14 #[.pointer (some ⟨p, 0, none⟩)] w fun e w' => ∃ v, e = .returned v ∧ Own1 w' w.heap.size 3 v (icells (clientsL L)) ∧ Below w.heap.size w w' := by
  obtain ⟨v, X, h, rfl, rfl⟩ := h
  exact rclients_at h ok
theorem rFind_some (p : Nat) (F : Nat → Prop) (L : List Se) (c : Int) (w : World) (h : Rd w p F L) {s : Se} (hs : findC L c = some s) : Calls Try.prog 16 #[.pointer (some ⟨p, 0, none⟩), .int .i64 c] w fun e w' => (∃ a n k, e = .returned (.tuple #[.agg #[.int .i64 s.c, .string s.q, .int .i64 s.m, .slice a n k], .bool true])) ∧ Below w.heap.size w w' := by
  obtain ⟨v, X, h, rfl, rfl⟩ := h
  refine (rFind_at h c).mono fun e w' ⟨h1, h2⟩ => ⟨?_, h2⟩
  have hf := findR_s X c
  rw [hs] at hf
  cases hx : findR X c with
  | none => rw [hx] at hf; cases hf
  | some x =>
    rw [hx] at hf h1
    simp at hf
    subst hf
    exact ⟨x.a, _, x.c, h1⟩
/-- A desk, a row of clients, and a row of those that have gone, apart. -/
def FgR (w W : World) (p : Nat) (F0 : Nat → Prop) (u vc : Value) (cl : List Int) (L : List Se) (g : List Int) : Prop := ∃ F, Rd W p F L ∧ Moved w W F0 F ∧ Own1 W w.heap.size 3 u (icells g) ∧ Own1 W w.heap.size 3 vc (icells cl) ∧ (∀ k, u.ownBlock = some k → ¬ F k ∧ vc.ownBlock ≠ some k) ∧ ∀ k, vc.ownBlock = some k → ¬ F k
section
variable {w W : World} {p : Nat} {F0 : Nat → Prop} {u vc : Value} {cl g : List Int} {L : List Se}
theorem FgR.drop (h : FgR w W p F0 u vc cl L g) (ok : LOk L) (c : Int) : Calls Try.prog 25 #[.pointer (some ⟨p, 0, none⟩), .int .i64 c] W fun e w' => ∃ z, e = .returned (.tuple #[z, .int .i64 (dropE L c)]) ∧ FgR w w' p F0 u vc cl (cutC L c) g := by
  obtain ⟨F, h1, h2, h3, h4, h5, h6⟩ := h
  refine (rdrop_any p F L c W h1 ok).mono fun _ w' ⟨z, e, F', hd, mv⟩ => ⟨z, e, F', hd, h2.trans mv, own1_same h3 fun k hk => mv.block k (own_lt h3 hk) (h5 k hk).1, own1_same h4 fun k hk => mv.block k (own_lt h4 hk) (h6 k hk), fun k hk => ⟨fun hf => (mv.sub k hf).elim (h5 k hk).1 (fun e => by have := own_lt h3 hk; omega), (h5 k hk).2⟩, fun k hk hf => (mv.sub k hf).elim (h6 k hk) (fun e => by have := own_lt h4 hk; omega)⟩
theorem FgR.drewN (h : FgR w W p F0 u vc cl L g) (q : Nat) : FgR w (W.drewN q) p F0 u vc cl L g := by
  obtain ⟨F, h1, h2, h3, h4, h5, h6⟩ := h
  exact ⟨F, h1.same fun _ _ => rfl, ⟨h2.os, h2.tape, h2.output, h2.size, h2.block, h2.sub⟩, own1_same h3 fun _ _ => rfl, own1_same h4 fun _ _ => rfl, h5, h6⟩
theorem FgR.push (h : FgR w W p F0 u vc cl L g) {c : Int} {v' : Value} {w2 : World} (own : w2.ownsRow w.heap.size 3 1 v' (g.length + 1) (icells g ++ [.int .i64 c])) (gr : (W.alloc (.cells #[.int .i64 c] 3)).grownBy w2 u.ownBlock) (hat : v'.ownBlock = u.ownBlock ∨ v'.ownBlock = some (W.alloc (.cells #[.int .i64 c] 3)).heap.size) : FgR w w2 p F0 v' vc cl L (g ++ [c]) := by
  obtain ⟨F, h1, h2, h3, h4, h5, h6⟩ := h
  have hk : ∀ k, k < W.heap.size → u.ownBlock ≠ some k → w2.heap[k]? = W.heap[k]? := fun k hk hn => (gr.block k (by simp; omega) (fun e => hn e.symm)).trans (Below.heap_alloc _ _ k hk)
  have hs : W.heap.size ≤ w2.heap.size := by have := gr.size; simp at this; omega
  refine ⟨F, h1.same fun k hf => hk k (h1.lts k hf) (fun e => (h5 k e).1 hf), ⟨gr.os.trans h2.os, gr.tape.trans h2.tape, gr.output.trans h2.output, Nat.le_trans h2.size hs, fun k hw hn => ?_, h2.sub⟩, ?_, own1_same h4 fun k hv => hk k (own_lt h4 hv) (fun e => (h5 k e).2 hv), fun k hv => ?_, h6⟩
  · exact (hk k (Nat.lt_of_lt_of_le hw h2.size) (fun e => by have := (own1_blk h3 e).1; omega)).trans (h2.block k hw hn)
  · unfold Own1
    rw [icells_append, List.length_append, icells_length]
    exact own
  · rcases hat with h | h
    · exact h5 k (by rw [← h]; exact hv)
    · rw [h] at hv
      simp at hv
      refine ⟨fun hf => by have := h1.lts k hf; omega, fun e => by have := own_lt h4 e; omega⟩
theorem FgR.kept {W' : World} (h : FgR w W p F0 u vc cl L g) (b : Below W.heap.size W W') : FgR w W' p F0 u vc cl L g := by
  obtain ⟨F, h1, h2, h3, h4, h5, h6⟩ := h
  exact ⟨F, h1.kept b, h2.trans (Moved.of_below b), own1_same h3 fun k hk => b.block k (own_lt h3 hk), own1_same h4 fun k hk => b.block k (own_lt h4 hk), h5, h6⟩
theorem FgR.find (h : FgR w W p F0 u vc cl L g) {c : Int} {s : Se} (hs : findC L c = some s) : Calls Try.prog 16 #[.pointer (some ⟨p, 0, none⟩), .int .i64 c] W fun e w' => (∃ a n k, e = .returned (.tuple #[.agg #[.int .i64 s.c, .string s.q, .int .i64 s.m, .slice a n k], .bool true])) ∧ Below W.heap.size W w' := by
  obtain ⟨F, h1, _⟩ := h
  exact rFind_some p F L c W h1 hs
end
set_option maxHeartbeats 2000000 in
theorem rforget_any (p : Nat) (F : Nat → Prop) (L : List Se) (q : ByteArray) (w : World) (h : Rd w p F L) (ok : LOk L) :
    Calls Try.prog 29 #[.pointer (some ⟨p, 0, none⟩), .string q] w fun e w' => ∃ v, e = .returned v ∧ Own1 w' w.heap.size 3 v (icells (goneL L q)) ∧ ∃ F', Rd w' p F' (forgetL L q) ∧ Moved w w' F F' ∧ ∀ k, v.ownBlock = some k → ¬ F' k := by
  have hC := rclients_any p F L w h ok
  have hfold := fold_all q ok
  obtain ⟨cl, hcl⟩ : ∃ z, clientsL L = z := ⟨_, rfl⟩
  have hm1 : ∀ c ∈ cl, ∃ s, findC L c = some s := fun c hc => clients_find (by rw [hcl]; exact hc)
  have hm2 : ∀ c ∈ cl, 1 ≤ c ∧ c ≤ 1000 := fun c hc => clients_i64 ok (by rw [hcl]; exact hc)
  have hnd : cl.Nodup := by rw [← hcl]; exact clientsL_nodup ok
  have hlen : cl.length ≤ 32 := by rw [← hcl, clientsL_len]; exact ok.few
  rw [hcl] at hC hfold
  have H0 : Hid (Rd w p F L ∧ LOk L ∧ foldF q cl (L, []) = (forgetL L q, goneL L q) ∧ (∀ c ∈ cl, ∃ s, findC L c = some s) ∧ (∀ c ∈ cl, 1 ≤ c ∧ c ≤ 1000) ∧ cl.Nodup ∧ cl.length ≤ 32) := ⟨h, ok, hfold, hm1, hm2, hnd, hlen⟩
  obtain ⟨i0, hi0, hz0, hz1, hz2⟩ := intInfo
  clear h ok hfold hm1 hm2 hnd hcl
  go_enter Try.func29, Try.ntmps29
  go_wp2_with fail
  refine hC.mono ?_
  rintro e w1 ⟨vc, rfl, own, b1⟩
  obtain ⟨va, cap, hv⟩ := own.row.sliceInts
  have H1 : Hid (FgR w w1 p F (.slice none 0 0) vc cl L []) := ⟨F, H0.out.1.kept b1, Moved.of_below b1, own1_nil _ _ _, own, fun k hk => (by simp [Value.ownBlock] at hk), fun k hk hf => by have := H0.out.1.lts k hf; have := (own1_blk own hk).1; omega⟩
  subst hv
  obtain ⟨n, hn⟩ : ∃ z, cl.length = z := ⟨_, rfl⟩
  rw [hn] at H1 hlen ⊢
  clear hC own b1
  go_wp2
  go_loopw [5, 7, 8, 9, 13] (fun u5 _ _ _ u13 wr => ∃ (k : Nat) (Lk : List Se) (g : List Int), u13 = .int .i64 (k : Int) ∧ k ≤ n ∧ Hid (FgR w wr p F u5 (.slice va n cap) cl Lk g ∧ LOk Lk ∧ foldF q (cl.drop k) (Lk, g) = foldF q cl (L, []) ∧ (∀ c ∈ cl.drop k, ∃ s, findC Lk c = some s) ∧ g.length ≤ k)) (fun _ _ _ _ u13 _ => n - (intOf u13).toNat)
  case atStart => exact ⟨0, L, [], rfl, Nat.zero_le _, H1.out, H0.out.2.1, rfl, H0.out.2.2.2.1, Nat.le_refl _⟩
  case round =>
    obtain ⟨k, Lk, g, rfl, hk, HI⟩ := hrel
    clear H1
    obtain ⟨ua, uc, hu⟩ : ∃ a c, u5 = .slice a g.length c := by
      obtain ⟨_, _, _, h, _⟩ := HI.out.1
      exact h.row.sliceInts
    obtain ⟨ng, hng⟩ : ∃ z, g.length = z := ⟨_, rfl⟩
    rw [hng] at hu
    subst hu
    by_cases hlt : k < n
    · have hlt' : (k : Int) < (n : Int) := by omega
      have hkl : k < cl.length := by omega
      obtain ⟨c, hc⟩ : ∃ c, cl[k] = c := ⟨_, rfl⟩
      have hcm : c ∈ cl := by rw [← hc]; exact List.getElem_mem hkl
      have hdr : cl.drop k = c :: cl.drop (k + 1) := by rw [List.drop_eq_getElem_cons hkl, hc]
      obtain ⟨s, hs⟩ := HI.out.2.2.2.1 c (by rw [hdr]; exact List.mem_cons_self)
      have hcb := H0.out.2.2.2.2.1 c hcm
      obtain ⟨b, off, cap', hv, hc1, hc2, hcs⟩ := (show Row wr (.slice va n cap) (icells cl) from by obtain ⟨_, _, _, _, h, _⟩ := HI.out.1; exact h.row).atInts (by omega)
      have hcc : wr.cell? ⟨b, off + k, none⟩ = some (.int .i64 c) := by rw [hcs k hkl, hc]
      rw [hn] at hv hc1
      injection hv with hv1 _ hv2
      subst hv1 hv2
      have hne : ∀ x ∈ cl.drop (k + 1), x ≠ c := fun x hx e => by
        have h9 : (cl.drop k).Nodup := H0.out.2.2.2.2.2.1.sublist (List.drop_sublist k cl)
        rw [hdr] at h9
        exact (List.nodup_cons.1 h9).1 (e ▸ hx)
      have hst : foldF q (cl.drop (k + 1)) (stepF q (Lk, g) c) = foldF q cl (L, []) := by rw [← HI.out.2.2.1, hdr]; rfl
      have hany : (findC Lk c).any (wantB q) = wantB q s := by rw [hs]; rfl
      have hW : (s.q.toList == q.toList) = wantB q s := txt_dec _ _
      have hFi := HI.out.1.find hs
      have HK : Hid (∀ w2 o, Below wr.heap.size wr w2 → FgR w (w2.alloc o) p F (.slice ua ng uc) (.slice (some ⟨b, off, none⟩) n cap) cl Lk g) := fun w2 o b => HI.out.1.kept (b.trans ((Below.refl _ w2).alloc b.size o))
      have HD : Hid (∀ Y, FgR w Y p F (.slice ua ng uc) (.slice (some ⟨b, off, none⟩) n cap) cl Lk g → Calls Try.prog 25 #[.pointer (some ⟨p, 0, none⟩), .int .i64 c] Y fun e w' => ∃ z, e = .returned (.tuple #[z, .int .i64 (dropE Lk c)]) ∧ FgR w w' p F (.slice ua ng uc) (.slice (some ⟨b, off, none⟩) n cap) cl (cutC Lk c) g) := fun Y h => h.drop HI.out.2.1 c
      have HS : Hid (∀ x ∈ cl.drop (k + 1), ∃ s, findC (stepF q (Lk, g) c).1 x = some s) := fun x hx => by rw [stepF_find (hne x hx)]; exact HI.out.2.2.2.1 x (by rw [hdr]; exact List.mem_cons_of_mem _ hx)
      have HT : Hid (foldF q (cl.drop (k + 1)) (stepF q (Lk, g) c) = foldF q cl (L, []) ∧ LOk (stepF q (Lk, g) c).1 ∧ stepF q (Lk, g) c = if wantB q s then (cutC Lk c, g ++ [c]) else (Lk, g)) := ⟨hst, HI.out.2.1.step q c, by unfold stepF; rw [hany]⟩
      have HG : Hid (g.length = ng ∧ g.length ≤ k) := ⟨hng, HI.out.2.2.2.2⟩
      clear hcm hdr hs hcb hst hany hne hc hcs hng
      generalize wantB q s = B at *
      cases B with
      | false =>
        go_wp2_with fail
        refine hFi.mono ?_
        rintro e w1b ⟨⟨xa, xn, xk, rfl⟩, b2⟩
        have HF0 := fun o => HK.out w1b o b2
        have HF2 : Hid (∀ o, FgR w (w1b.alloc o) p F (.slice ua ng uc) (.slice (some ⟨b, off, none⟩) n cap) cl Lk g) := HF0
        clear b2 hFi HF0
        go_wp2
        go_roundw
        case rel =>
          have e := HT.out.2.2
          rw [if_neg (by simp)] at e
          rw [e] at HT HS
          exact ⟨k + 1, Lk, g, by go_num, by omega, HF2.out _, HI.out.2.1, HT.out.1, HS.out, by have := HG.out.2; omega⟩
        case measure => simp [intOf]; omega
      | true =>
        go_wp2_with fail
        refine hFi.mono ?_
        rintro e w1b ⟨⟨xa, xn, xk, rfl⟩, b2⟩
        have HF0 := fun o => HK.out w1b o b2
        have HF2 : Hid (∀ o, FgR w (w1b.alloc o) p F (.slice ua ng uc) (.slice (some ⟨b, off, none⟩) n cap) cl Lk g) := HF0
        clear b2 hFi HF0
        go_wp2_with fail
        refine (HD.out _ (HF2.out _)).mono ?_
        rintro e w2 ⟨z, rfl, hf⟩
        have HF : Hid (FgR w w2 p F (.slice ua ng uc) (.slice (some ⟨b, off, none⟩) n cap) cl (cutC Lk c) g) := hf
        have hal : w2.ownsRow w.heap.size 3 1 (.slice ua ng uc) ng (icells g) := by
          obtain ⟨_, _, _, h3, _⟩ := hf
          have := h3
          unfold Own1 at this
          rw [icells_length, HG.out.1] at this
          exact this
        have hbw : w.heap.size ≤ w2.heap.size := by obtain ⟨_, _, h, _⟩ := hf; exact h.size
        have hal2 := hal.alloc (.cells #[.int .i64 c] 3)
        clear HD hf hal
        go_wp2_with (at_builtin; refine wpList_append_own_at _ rfl _ _ 36 rfl w.heap.size 3 i0 (.int .i64 0) 1 8 Try.underlying36 hi0 hz0 hz1 hz2 rfl (by decide) _ _ (icells g) rfl hal2 ⟨w2.heap.size, 0, none⟩ 1 1 [.int .i64 c] rfl rfl (cell_one_new _ _ _) (by simp [Value.oneCell']) (by have := HG.out; unfold maxLen; omega) (by have := HG.out; omega) (by simp; omega) ?_; intro v5 w6 own6 gr6 _ at6)
        go_roundw
        case rel =>
          have e := HT.out.2.2
          rw [if_pos trivial] at e
          rw [e] at HT HS
          exact ⟨k + 1, cutC Lk c, g ++ [c], by go_num, by omega, HF.out.push (by rw [HG.out.1]; exact own6) gr6 at6, HT.out.2.1, HT.out.1, HS.out, by have := HG.out.2; simp; omega⟩
        case measure => simp [intOf]; omega
    · have hlt' : ¬ (k : Int) < (n : Int) := by omega
      have HE : Hid (Lk = forgetL L q ∧ g = goneL L q) := by
        have h9 := HI.out.2.2.1
        rw [List.drop_eq_nil_of_le (by omega), H0.out.2.2.1] at h9
        injection h9 with h1 h2
        exact ⟨h1, h2⟩
      go_wp2
      go_ret
      obtain ⟨e1, e2⟩ := HE.out
      obtain ⟨F', h1, h2, h3, h4, h5, h6⟩ := HI.out.1
      rw [e1] at h1
      rw [e2] at h3
      exact ⟨_, rfl, h3, F', h1, h2, fun k hk => (h5 k hk).1⟩
end Go.Proofs.Ytooaiomghbjpiaa
