/-
  SORTING TAGS: a row of tags of the call's own, told by an array; two of its places exchanged; cmp.Less; the insertion sort.
-/
import Derived.Test.YtooaiomghbjpiaaKeys17
import Derived.Test.YtooaiomghbjpiaaMem17
import Derived.Sort.LotA
import Derived.CellFam
import Derived.BigGuard
import Derived.BigCall
namespace Go.Proofs.Ytooaiomghbjpiaa
open Go.RowKit Go.Sort
set_option maxRecDepth 20000

/-- The row in block g holds these numbers. -/
def UR (W : World) (base g cap : Nat) (d : Array Int) : Prop := Own1 W base 31 (.slice (some ⟨g, 0, none⟩) d.size cap) (ucells d.toList)
def ltU (x y : Int) : Bool := decide (x < y)
section
variable {W W' : World} {base g cap : Nat} {d : Array Int}
theorem UR.blk (h : UR W base g cap d) : ∃ cur, W.heap[g]? = some (.cells cur 31 (0, 0)) ∧ d.size ≤ cap ∧ cap ≤ maxLen ∧ cur.size = cap ∧ base ≤ g ∧ ∀ t, t < d.size → cur[t]? = some (.int .u64 d[t]!) := by
  have hl : (ucells d.toList).length = d.size := by rw [ucells_length, Array.length_toList]
  rcases h.2 with ⟨e, _⟩ | ⟨g', cap', cur, e, hb, hg, h1, h2, h3, h4⟩
  · cases e
  · injection e with e1 e2 e3
    injection e1 with e1
    injection e1 with e1
    subst e1 e3
    rw [hl] at h1 h4
    refine ⟨cur, hg, h1, h2, by simpa using h3, hb, fun t ht => ?_⟩
    have := congrArg (fun l => l[t]?) h4
    simp only [List.getElem?_take, Nat.mul_one, if_pos ht, ucells, List.getElem?_map, Array.getElem?_toList] at this
    rw [this, getElem!_pos d t ht]
    simp [ht]
theorem UR.cell (h : UR W base g cap d) {t : Nat} (ht : t < d.size) : W.cell? ⟨g, t, none⟩ = some (.int .u64 d[t]!) := by
  obtain ⟨cur, hg, _, _, _, _, hc⟩ := h.blk
  simp only [World.cell?, hg]
  exact hc t ht
theorem UR.frozen (h : UR W base g cap d) (t : Nat) : W.frozen? ⟨g, t, none⟩ = false := by
  obtain ⟨cur, hg, _⟩ := h.blk
  simp [World.frozen?, hg]
theorem UR.lt (h : UR W base g cap d) : g < W.heap.size ∧ base ≤ g := by
  obtain ⟨cur, hg, _, _, _, hb, _⟩ := h.blk
  exact ⟨(Array.getElem?_eq_some_iff.1 hg).1, hb⟩
theorem UR.same (h : UR W base g cap d) (hs : W'.heap[g]? = W.heap[g]?) : UR W' base g cap d := own1_same h fun k hk => by injection hk with hk; subst hk; exact hs
theorem ur_mk {cur : Array Value} (hg : W.heap[g]? = some (.cells cur 31 (0, 0))) (h1 : d.size ≤ cap) (h2 : cap ≤ maxLen) (h3 : cur.size = cap) (hb : base ≤ g) (hc : ∀ t, t < d.size → cur[t]? = some (.int .u64 d[t]!)) : UR W base g cap d := by
  have hl : (ucells d.toList).length = d.size := by rw [ucells_length, Array.length_toList]
  refine ⟨by simp, .inr ⟨g, cap, cur, by rw [hl], hb, hg, by rw [hl]; exact h1, h2, by simpa using h3, ?_⟩⟩
  rw [hl, Nat.mul_one]
  apply List.ext_getElem?
  intro t
  rw [List.getElem?_take]
  by_cases ht : t < d.size
  · rw [if_pos ht, Array.getElem?_toList, hc t ht]
    simp only [ucells, List.getElem?_map, Array.getElem?_toList]
    rw [getElem!_pos d t ht]
    simp [ht]
  · rw [if_neg ht, List.getElem?_eq_none (by rw [hl]; omega)]
/-- Two places exchanged. -/
theorem UR.swap (h : UR W base g cap d) {i j : Nat} (hi : i < d.size) (hj : j < d.size) : UR ((W.setCell ⟨g, i, none⟩ (.int .u64 d[j]!)).setCell ⟨g, j, none⟩ (.int .u64 d[i]!)) base g cap (swp d i j) := by
  obtain ⟨cur, hg, h1, h2, h3, hb, hc⟩ := h.blk
  have hg' : ((W.setCell ⟨g, i, none⟩ (.int .u64 d[j]!)).setCell ⟨g, j, none⟩ (.int .u64 d[i]!)).heap[g]? = some (.cells ((cur.setIfInBounds i (.int .u64 d[j]!)).setIfInBounds j (.int .u64 d[i]!)) 31 (0, 0)) := by
    simp [World.setCell, Array.getElem?_modify, hg]
  have hs : (swp d i j).size = d.size := by simp [swp]
  refine ur_mk hg' (by rw [hs]; exact h1) h2 (by simpa using h3) hb fun t ht => ?_
  rw [hs] at ht
  have hds : ∀ (e : Array Int) (k : Nat) (x : Int), k < e.size → ∀ t, t < e.size → (e.setIfInBounds k x)[t]! = if t = k then x else e[t]! := fun e k x _ t ht => by
    rw [getElem!_pos _ t (by simpa using ht), Array.getElem_setIfInBounds, getElem!_pos e t ht]
    by_cases hk : k = t
    · simp [hk]
    · rw [if_neg hk, if_neg (fun e => hk e.symm)]
  unfold swp
  rw [hds _ _ _ (by simpa using hj) _ (by simpa using ht), hds _ _ _ hi _ ht, Array.getElem?_setIfInBounds, Array.getElem?_setIfInBounds]
  by_cases e1 : t = j
  · subst e1
    rw [if_pos rfl, if_pos rfl, if_pos (by simp; omega)]
  · rw [if_neg (fun e => e1 e.symm), if_neg e1]
    by_cases e2 : t = i
    · subst e2
      rw [if_pos rfl, if_pos rfl, if_pos (by omega)]
    · rw [if_neg (fun e => e2 e.symm), if_neg e2]
      exact hc t ht
theorem UR.swapBelow (h : UR W base g cap d) {W0 : World} (hb : Below base W0 W) (i j : Nat) (x y : Value) : Below base W0 ((W.setCell ⟨g, i, none⟩ x).setCell ⟨g, j, none⟩ y) := (hb.setCell h.lt.2 _).setCell h.lt.2 _
end
theorem size_swpU (d : Array Int) (i j : Nat) : (swp d i j).size = d.size := by simp [swp]
theorem isNaN_u (x : Int) (w : World) : Calls Try.prog 97 #[.int .u64 x] w fun e w' => e = .returned (.bool false) ∧ w' = w := by
  go_enter Try.func97, Try.ntmps97
  go_wp2
  go_ret
  exact ⟨ret_bool (by simp), rfl⟩
theorem less_u (x y : Int) (w : World) : Calls Try.prog 90 #[.int .u64 x, .int .u64 y] w fun e w' => e = .returned (.bool (ltU x y)) ∧ w' = w := by
  go_enter Try.func90, Try.ntmps90
  go_wp2_with (go_at_call 97; refine (isNaN_u _ _).mono ?_; rintro e w ⟨rfl, rfl⟩)
  go_ret
  exact ⟨rfl, rfl⟩
theorem inner_go (a j : Nat) (d : Array Int) (hj : a < j + 1) (hl : ltU d[j + 1]! d[j]! = true) : insInner ltU a (j + 1) d = insInner ltU a j (swp d (j + 1) j) := by
  rw [insInner]
  simp [hj, hl]
theorem inner_stop (a j : Nat) (d : Array Int) (h : ¬ a < j ∨ ltU d[j]! d[j - 1]! = false) : insInner ltU a j d = d := by
  cases j with
  | zero => rw [insInner]
  | succ k =>
    rw [insInner]
    simp only [Nat.add_sub_cancel] at h
    rcases h with h | h
    · simp [show ¬ k + 1 > a by omega]
    · simp [h]
end Go.Proofs.Ytooaiomghbjpiaa
