/-
  THE CLOSURE that gathers contents, by its contract; lists of lists of bytes in memory.
-/
import Derived.Test.YtopacoghnofliaaDoorROpen
import Derived.Test.YtopacoghnofliaaDoorRow
namespace Go.Proofs.YtopacoghnofliaaDoor
open Go.RowKit


/-- Each of the slices cs is a row of bytes of the call's own, of the bytes that ls tells. -/
def OwnsAll (w : World) (base : Nat) (cs : List Value) (ls : List (List UInt8)) : Prop :=
  cs.length = ls.length ∧ ∀ (j : Nat) (v : Value) (l : List UInt8), cs[j]? = some v → ls[j]? = some l → Owns w base 5 v l


theorem ownsAll_nil (w : World) (base : Nat) : OwnsAll w base [] [] := ⟨rfl, fun j v l h => by simp at h⟩

theorem OwnsAll.snoc {w : World} {base : Nat} {cs : List Value} {ls : List (List UInt8)} {c : Value} {l : List UInt8} (h : OwnsAll w base cs ls) (hc : Owns w base 5 c l) : OwnsAll w base (cs ++ [c]) (ls ++ [l]) := by
  refine ⟨by simp [h.1], fun j v x hv hx => ?_⟩
  by_cases hj : j < cs.length
  · rw [List.getElem?_append_left hj] at hv
    rw [List.getElem?_append_left (by rw [← h.1]; exact hj)] at hx
    exact h.2 j v x hv hx
  · rw [List.getElem?_append_right (by omega)] at hv
    rw [List.getElem?_append_right (by rw [← h.1]; omega)] at hx
    have h1 := (List.getElem?_eq_some_iff.1 hv).1
    have h0 : j - cs.length = 0 := by simpa using h1
    rw [h0] at hv
    rw [← h.1, h0] at hx
    simp at hv hx
    subst hv hx
    exact hc

theorem OwnsAll.kept {w w' : World} {b B : Nat} {cs : List Value} {ls : List (List UInt8)} (h : OwnsAll w b cs ls) (hb : Below B w w') (hB : w.heap.size ≤ B) : OwnsAll w' b cs ls :=
  ⟨h.1, fun j v l hv hl => (h.2 j v l hv hl).kept hb hB⟩

/-- A row of bytes lies elsewhere than a row of rows. -/
theorem Owns.keptRow {w w' : World} {b b' : Nat} {c v : Value} {l : List UInt8} {cs : List Value} (h : Owns w b 5 c l) (hv : Own1 w b' 34 v cs) (hg : w.grownBy w' v.ownBlock) : Owns w' b 5 c l := by
  refine World.ownsRow.kept h hg ?_
  rcases h.2 with ⟨rfl, _⟩ | ⟨g, cap, cur, rfl, _, hgg, _⟩
  · exact .inl rfl
  · right
    rcases hv.2 with ⟨rfl, _⟩ | ⟨g2, cap2, cur2, rfl, _, hgg2, _⟩
    · simp [Value.ownBlock]
    · intro he
      simp only [Value.ownBlock, Option.some.injEq] at he
      subst he
      rw [hgg] at hgg2
      simp at hgg2

theorem OwnsAll.keptRow {w w' : World} {b b' : Nat} {v : Value} {cs vs : List Value} {ls : List (List UInt8)} (h : OwnsAll w b cs ls) (hv : Own1 w b' 34 v vs) (hg : w.grownBy w' v.ownBlock) : OwnsAll w' b cs ls :=
  ⟨h.1, fun j u l hu hl => (h.2 j u l hu hl).keptRow hv hg⟩


theorem cell1 {w : World} {b : Nat} {u : Value} {t : TypeId} (h : w.heap[b]? = some (.cells #[u] t (0, 0))) : w.cell? ⟨b, 0, none⟩ = some u := by simp [World.cell?, h]

theorem free1 {w : World} {b : Nat} {u : Value} {t : TypeId} (h : w.heap[b]? = some (.cells #[u] t (0, 0))) : w.frozen? ⟨b, 0, none⟩ = false := by simp [World.frozen?, h]

theorem set1 {w : World} {b : Nat} {u : Value} {t : TypeId} (u' : Value) (h : w.heap[b]? = some (.cells #[u] t (0, 0))) : (w.setCell ⟨b, 0, none⟩ u').heap[b]? = some (.cells #[u'] t (0, 0)) := by
  have := heap_setCell_same w b 0 #[u] t u' h
  simpa using this

theorem Own1.below2 {w w' : World} {b : Nat} {e : TypeId} {v : Value} {cs : List Value} (h : Own1 w b e v cs) (hb : ∀ k, b ≤ k → w'.heap[k]? = w.heap[k]?) : Own1 w' b e v cs := by
  refine ⟨h.1, ?_⟩
  rcases h.2 with hn | ⟨g, cap, cur, hv, hbg, hg, rest⟩
  · exact .inl hn
  · exact .inr ⟨g, cap, cur, hv, hbg, by rw [hb g hbg]; exact hg, rest⟩

theorem Owns.below2 {w w' : World} {b : Nat} {e : TypeId} {v : Value} {l : List UInt8} (h : Owns w b e v l) (hb : ∀ k, b ≤ k → w'.heap[k]? = w.heap[k]?) : Owns w' b e v l := by
  refine ⟨h.1, ?_⟩
  rcases h.2 with hn | ⟨g, cap, cur, hv, hbg, hg, rest⟩
  · exact .inl hn
  · exact .inr ⟨g, cap, cur, hv, hbg, by rw [hb g hbg]; exact hg, rest⟩

theorem own_slice {w : World} {b n : Nat} {e : TypeId} {v : Value} {xs : List Value} (h : w.ownsRow b e 1 v n xs) : ∃ a c, v = .slice a n c := by
  rcases h.2 with ⟨rfl, rfl⟩ | ⟨g, cap, cur, rfl, _⟩
  · exact ⟨_, _, rfl⟩
  · exact ⟨_, _, rfl⟩

end Go.Proofs.YtopacoghnofliaaDoor
