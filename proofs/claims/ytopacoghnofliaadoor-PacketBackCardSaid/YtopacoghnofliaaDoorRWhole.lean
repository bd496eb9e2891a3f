/-
  THE WALK of the document's Whole.
-/
import Derived.Test.YtopacoghnofliaaDoorWhole
namespace Go.Proofs.YtopacoghnofliaaDoor
open Go.RowKit


theorem own1_one (w : World) (c : Value) : ∀ j u, [c][j]? = some u → (w.alloc (.cells #[c] 34)).cell? ((⟨w.heap.size, 0, none⟩ : Addr).add j) = some u := by
  intro j u hj
  have hr := row_one w 34 c
  rcases hr with ⟨h, _⟩ | ⟨a, c, h, _, _, hh⟩
  · cases h
  · injection h with h _ _
    injection h with h
    subst h
    exact hh j u hj


/-- So far, in memory. -/
structure Far (w wr : World) (bs : List UInt8) (n : Nat) (v : Value) (cs : List Value) (ls : List (List UInt8)) : Prop where
  own : Own1 wr w.heap.size 34 v cs
  all : OwnsAll wr w.heap.size cs ls
  f : SoFar bs n ls
  bel : Below w.heap.size w wr


theorem Own1.kept {w w' : World} {b B : Nat} {e : TypeId} {v : Value} {cs : List Value} (h : Own1 w b e v cs) (hb : Below B w w') (hB : w.heap.size ≤ B) : Own1 w' b e v cs := by
  refine ⟨h.1, ?_⟩
  rcases h.2 with hn | ⟨g, cap, cur, hv, hbg, hg, rest⟩
  · exact .inl hn
  · refine .inr ⟨g, cap, cur, hv, hbg, ?_, rest⟩
    rw [hb.block g (by have := (Array.getElem?_eq_some_iff.1 hg).1; omega)]
    exact hg

theorem Far.kept {w wr w1 : World} {bs : List UInt8} {n : Nat} {v : Value} {cs : List Value} {ls : List (List UInt8)} (h : Far w wr bs n v cs ls) (hb : Below wr.heap.size wr w1) : Far w w1 bs n v cs ls :=
  ⟨h.own.kept hb (Nat.le_refl _), h.all.kept hb (Nat.le_refl _), h.f, h.bel.trans (hb.mono h.bel.size)⟩

theorem Far.step {w w1 w2 : World} {bs : List UInt8} {n : Nat} {v v' c : Value} {cs : List Value} {ls : List (List UInt8)} (h : Far w w1 bs n v cs ls) (he : errO (bs.drop n) = 0) (hc : Owns w1 w.heap.size 5 c (contO (bs.drop n)))
    (hg : (w1.alloc (.cells #[c] 34)).grownBy w2 v.ownBlock) (own2 : w2.ownsRow w.heap.size 34 1 v' (cs.length + 1) (cs ++ [c])) : Far w w2 bs (n + sizeO (bs.drop n)) v' (cs ++ [c]) (ls ++ [contO (bs.drop n)]) := by
  have hsz := h.bel.size
  have bel : Below w1.heap.size w1 (w1.alloc (.cells #[c] 34)) := (Below.refl _ _).alloc (Nat.le_refl _) _
  have hv0 : Own1 (w1.alloc (.cells #[c] 34)) w.heap.size 34 v cs := World.ownsRow.alloc h.own _
  refine ⟨by unfold Own1; rw [List.length_append]; exact own2, ?_, h.f.step he, ?_⟩
  · exact ((h.all.kept bel (Nat.le_refl _)).keptRow hv0 hg).snoc ((hc.kept bel (Nat.le_refl _)).keptRow hv0 hg)
  · exact (h.bel.alloc hsz _).grown hg (by simp; omega) (fun k hk => (hv0.lt k hk).1)

end Go.Proofs.YtopacoghnofliaaDoor
