/-
  AN INBOX INTO WHICH NUMBERS COME, each with its own message, of no program but for memory: what came in is told by what is held.
-/
import Derived.Test.YtkdjpleedaldcaaDoorLives21
import Derived.Test.YtkdjpleedaldcaaDoorFacts21
import Derived.Deep.RegionLaw
namespace Go.Proofs.YtkdjpleedaldcaaDoor
open Go.RowKit Go.Maps


/-- Block b is an array of n cells. -/
def Arr (w : World) (b : Nat) (t : TypeId) (n : Nat) (f : Nat → Value) : Prop := w.heap[b]? = some (.cells ((List.range n).map f).toArray t (0, 0))

theorem Arr.cell {w : World} {b : Nat} {t : TypeId} {n : Nat} {f : Nat → Value} (h : Arr w b t n f) {i : Nat} (hi : i < n) : w.cell? ⟨b, i, none⟩ = some (f i) := by
  rw [cell_of_row w b i _ t (0, 0) h]
  simp [hi]

theorem Arr.free {w : World} {b : Nat} {t : TypeId} {n : Nat} {f : Nat → Value} (h : Arr w b t n f) (i : Nat) : w.frozen? ⟨b, i, none⟩ = false := by
  have : w.heap[b]? = some (.cells ((List.range n).map f).toArray t (0, 0)) := h
  simp [World.frozen?, this]

theorem Arr.set {w : World} {b : Nat} {t : TypeId} {n : Nat} {f : Nat → Value} (h : Arr w b t n f) (k : Nat) (v : Value) : Arr (w.setCell ⟨b, k, none⟩ v) b t n (fun i => if i = k then v else f i) := by
  have h1 := heap_setCell_same w b k _ t v h
  unfold Arr
  rw [h1]
  congr 2
  apply Array.ext'
  apply List.ext_getElem?
  intro i
  simp only [Array.toList_setIfInBounds, List.getElem?_set, List.getElem?_map, List.length_map, List.length_range]
  by_cases hi : k = i
  · subst hi
    by_cases hn : k < n
    · simp [hn]
    · simp [hn]
  · rw [if_neg hi]
    by_cases hn : i < n
    · simp only [List.getElem?_range hn, Option.map_some]
      rw [if_neg (fun h : i = k => hi h.symm)]
    · simp [hn]

theorem Arr.lt {w : World} {b : Nat} {t : TypeId} {n : Nat} {f : Nat → Value} (h : Arr w b t n f) : b < w.heap.size := (Array.getElem?_eq_some_iff.1 h).1

theorem Arr.go {w w' : World} {b : Nat} {t : TypeId} {n : Nat} {f : Nat → Value} (h : Arr w b t n f) (hb : Below w.heap.size w w') : Arr w' b t n f := (hb.block b h.lt).trans h

theorem Arr.congr {w : World} {b : Nat} {t : TypeId} {n : Nat} {f g : Nat → Value} (h : Arr w b t n f) (hg : ∀ i, i < n → g i = f i) : Arr w b t n g := by
  unfold Arr
  rw [show (List.range n).map g = (List.range n).map f from List.map_congr_left fun i hi => hg i (by simpa using hi)]
  exact h

def blank (n : Nat) (u : Value) : Array Value := ((List.range n).map fun _ => u).toArray


/-- What came in. -/
def inI (m : Ib) (j : Nat) : Bool := decide (j < m.n) || (m.h (j - m.n)).isSome

/-- Each number with its own message, below 300. -/
structure Own3 (m : Ib) : Prop where
  ok : m.Ok
  n3 : m.n ≤ 300
  mes : ∀ i x, m.h i = some x → x = msgM ((m.n + i : Nat) : Int) ∧ m.n + i < 300

theorem own3_new {s : Nat} (h1 : 1 ≤ s) (h2 : s ≤ 32) : Own3 (newI s) := ⟨newI_ok h1 h2, by show 0 ≤ 300; omega, fun i x h => by cases h⟩

theorem inI_new (s j : Nat) : inI (newI s) j = false := by simp [inI, newI]

theorem far3 {m : Ib} (h : Own3 m) {n : Nat} (hn : n < 300) : farI m.n n = (n : Int) - m.n := by
  have := h.n3
  unfold farI; omega

theorem own3_may {m : Ib} (h : Own3 m) {n : Nat} (hn : n < 300) (hm : mayT m n = true) : m.n ≤ n ∧ m.h (n - m.n) = none ∧ inI m n = false ∧ takeM m n (msgM n) = putI m (n - m.n) (msgM n) := by
  obtain ⟨h0, h1, h2⟩ := mayT_in hm
  rw [far3 h hn] at h0 h1 h2
  have e : ((n : Int) - m.n).toNat = n - m.n := by omega
  rw [e] at h2
  refine ⟨by omega, h2, ?_, ?_⟩
  · unfold inI
    rw [h2, decide_eq_false (by omega)]
    rfl
  · unfold takeM
    rw [if_pos hm, far3 h hn, e]

theorem own3_put {m : Ib} (h : Own3 m) {n : Nat} (hn : n < 300) (hm : mayT m n = true) : Own3 (takeM m n (msgM n)) ∧ ∀ j, inI (takeM m n (msgM n)) j = if j = n then true else inI m j := by
  obtain ⟨h1, h2, _, h4⟩ := own3_may h hn hm
  have hok := takeM_ok h.ok n (msgM n)
  rw [h4] at hok ⊢
  refine ⟨⟨hok, h.n3, fun i x hx => ?_⟩, fun j => ?_⟩
  · have hx' : (if i = n - m.n then some (msgM n) else m.h i) = some x := hx
    show x = msgM ((m.n + i : Nat) : Int) ∧ m.n + i < 300
    by_cases hi : i = n - m.n
    · rw [if_pos hi] at hx'
      injection hx' with hx'
      have : m.n + i = n := by omega
      rw [this]
      exact ⟨hx'.symm, hn⟩
    · rw [if_neg hi] at hx'
      exact h.mes i x hx'
  · unfold inI
    show (decide (j < m.n) || (if j - m.n = n - m.n then some (msgM n) else m.h (j - m.n)).isSome) = _
    by_cases hj : j = n
    · subst hj
      rw [if_pos rfl, if_pos rfl]
      simp
    · rw [if_neg hj]
      by_cases hjn : j < m.n
      · rw [decide_eq_true hjn]; rfl
      · rw [if_neg (by omega)]

theorem own3_pop {m : Ib} (h : Own3 m) (hh : (m.h 0).isSome = true) : m.n < 300 ∧ (m.h 0).getD zM = msgM m.n ∧ inI m m.n = true ∧ Own3 (popM m) ∧ (popM m).n = m.n + 1 ∧ ∀ j, inI (popM m) j = inI m j := by
  obtain ⟨x, hx⟩ := Option.isSome_iff_exists.1 hh
  obtain ⟨h1, h2⟩ := h.mes 0 x hx
  have hok := popM_ok h.ok
  have e : popM m = ⟨m.s, (m.n + 1) % 65536, fun i => m.h (i + 1)⟩ := by unfold popM; rw [if_pos hh]
  have hn : (m.n + 1) % 65536 = m.n + 1 := by omega
  rw [hn] at e
  rw [e] at hok ⊢
  refine ⟨by omega, by rw [hx]; exact h1, ?_, ⟨hok, by show m.n + 1 ≤ 300; omega, fun i y hy => ?_⟩, rfl, fun j => ?_⟩
  · unfold inI
    rw [Nat.sub_self, hh, Bool.or_true]
  · have := h.mes (i + 1) y hy
    show y = msgM ((m.n + 1 + i : Nat) : Int) ∧ m.n + 1 + i < 300
    rw [show m.n + 1 + i = m.n + (i + 1) by omega]
    exact this
  · unfold inI
    show (decide (j < m.n + 1) || (m.h (j - (m.n + 1) + 1)).isSome) = _
    rcases Nat.lt_trichotomy j m.n with hj | hj | hj
    · rw [decide_eq_true hj, decide_eq_true (by omega)]; rfl
    · subst hj
      rw [decide_eq_true (show m.n < m.n + 1 by omega), Nat.sub_self, hh]
      simp
    · rw [decide_eq_false (by omega), decide_eq_false (by omega), show j - (m.n + 1) + 1 = j - m.n by omega]

theorem own3_end {m : Ib} (hh : (m.h 0).isSome = false) : inI m m.n = false := by
  unfold inI
  rw [Nat.sub_self, hh, decide_eq_false (by omega)]
  rfl


theorem Li.set {B p q : Nat} {w0 w : World} {m : Ib} (h : Li B w0 w p m) (hB : B ≤ q) (hq : q ≠ p) {c : Array Value} {t : TypeId} {fz : Nat × Nat} (hc : w.heap[q]? = some (.cells c t fz)) (k : Nat) (v : Value) : Li B w0 (w.setCell ⟨q, k, none⟩ v) p m := by
  obtain ⟨b, h1, h2⟩ := h.at
  have hqb : b ≠ q := fun e => h1.map.noCells (e ▸ hc)
  exact ⟨⟨b, h1.same (Below.heap_setCell _ _ _ _ (fun e => hq e.symm)) (Below.heap_setCell _ _ _ _ hqb), h2⟩, h.ok, h.low, h.bel.setCell (p := ⟨q, k, none⟩) hB _⟩

section

variable {B p q : Nat} {w0 w : World} {m : Ib}

end

end Go.Proofs.YtkdjpleedaldcaaDoor
