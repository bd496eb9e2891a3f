/-
  ROWS OF ACTS beside a reader.
-/
import Derived.Test.YticbhpnpopmodaaDoorRdRead
import Derived.Test.YticbhpnpopmodaaDoorSlabs
namespace Go.Proofs.YticbhpnpopmodaaDoor
open Go.RowKit

instance encA : K.Enc xcells 17 := ⟨fun _ => rfl, fun a u hu => by simp [xcells] at hu; rcases hu with rfl | rfl | rfl | rfl | rfl | rfl | rfl | rfl | rfl | rfl | rfl | rfl | rfl | rfl | rfl | rfl | rfl <;> rfl, by decide⟩
abbrev OwnA (w : World) (base : Nat) (v : Value) (l : List Ax) : Prop := K.OwnOf xcells 17 32 w base v l
theorem actInfo : ∃ i, Tryd.prog.info? 32 = some i ∧ i.zero = some (av (zA 0)) ∧ i.size = 17 ∧ i.bytes = 200 := by
  have hinfo : (Tryd.prog.info? 32).map (fun i => (i.zero, i.size, i.bytes)) = some (some (av (zA 0)), 17, 200) := by kernel_rfl
  cases h : Tryd.prog.info? 32 with
  | none => rw [h] at hinfo; simp at hinfo
  | some i =>
    rw [h] at hinfo
    simp only [Option.map_some, Option.some.injEq, Prod.mk.injEq] at hinfo
    exact ⟨i, rfl, hinfo.1, hinfo.2.1, hinfo.2.2⟩
/-- A reader stays as it is, if all up to its own block does. -/
theorem Rd.upto {T : TypeId} {w V : World} {p : Nat} {s : Option (List UInt8)} (h : Rd T w p s) (hV : ∀ k, k ≤ p → V.heap[k]? = w.heap[k]?) : Rd T V p s := by
  obtain ⟨a, n, c, tn, l, blk, hh, hl, hs, lo⟩ := h
  refine ⟨a, n, c, tn, l, (hV p (Nat.le_refl _)).trans blk, ?_, hl, hs, lo⟩
  rcases hh with h | ⟨ad, cap, hv, h1, h2, h3⟩
  · exact .inl h
  · refine .inr ⟨ad, cap, hv, h1, h2, fun j u hj => ?_⟩
    have hc := h3 j u hj
    have hp : 0 < l.length := by
      have := (List.getElem?_eq_some_iff.1 hj).1
      rw [bcells_length] at this
      omega
    injection hv with ha
    have hb := lo hp ad ha
    rw [World.cell?_of_block (w := w) (a := ad.add j) (hV _ (by rw [Addr.block_add]; omega))]
    exact hc
/-- A reader and a row of acts. -/
structure MIn (T : TypeId) (w U : World) (p : Nat) (s : Option (List UInt8)) (v : Value) (l : List Ax) : Prop where
  tab : Tab U
  kinds : Kinds U
  rd : Rd T U p s
  own : OwnA U (p + 1) v l
  bel : Below w.heap.size w U
  wp : w.heap.size ≤ p
  wt : 1 < w.heap.size
  wk : 0 < w.heap.size
theorem MIn.bar {T : TypeId} {w U V : World} {p : Nat} {s s' : Option (List UInt8)} {v : Value} {l : List Ax} (h : MIn T w U p s v l) (hr : Rd T V p s') (hb : Bar p U V) : MIn T w V p s' v l :=
  ⟨h.tab.bar h.rd hb, h.kinds.bar h.rd hb, hr, h.own.same fun g hg => hb.block g (h.own.lt hg).2 (by have := (h.own.lt hg).1; omega), hb.below h.bel h.wp h.bel.size, h.wp, h.wt, h.wk⟩
theorem MIn.go {T : TypeId} {w U V : World} {p : Nat} {s : Option (List UInt8)} {v : Value} {l : List Ax} (h : MIn T w U p s v l) (hb : Below U.heap.size U V) : MIn T w V p s v l :=
  ⟨h.tab.below hb h.tab.pos, h.kinds.below hb, h.rd.kept hb, h.own.kept hb (Nat.le_refl _), keptW h.bel hb, h.wp, h.wt, h.wk⟩
theorem MIn.put {T : TypeId} {w U V : World} {p : Nat} {s : Option (List UInt8)} {v v' : Value} {l l' : List Ax} (h : MIn T w U p s v l) (ho : OwnA V (p + 1) v' l') (hg : U.grownBy V v.ownBlock) : MIn T w V p s v' l' := by
  have hp := h.rd.lt
  have hV : ∀ k, k ≤ p → V.heap[k]? = U.heap[k]? := fun k hk => hg.block k (by omega) (fun e => by have := (h.own.lt e.symm).1; omega)
  have hw := h.wp
  refine ⟨fun j u hj => ?_, fun j u hj => ?_, h.rd.upto hV, ho, ?_, h.wp, h.wt, h.wk⟩
  · exact (World.cell?_of_block (w := U) (a := ⟨1, j, none⟩) (hV _ (by have := h.wt; show 1 ≤ p; omega))).trans (h.tab j u hj)
  · exact (World.cell?_of_block (w := U) (a := ⟨0, j, none⟩) (hV _ (by have := h.wk; show 0 ≤ p; omega))).trans (h.kinds j u hj)
  · exact h.bel.trans ⟨hg.os, hg.tape, hg.output, hg.size, fun k hk => hV k (by omega)⟩
/-- How ReadMany ends. -/
def ManyPost (w : World) (bs : List UInt8) (e : Ending) (w' : World) : Prop := ∃ v', e = .returned (.tuple #[v', .int .i64 (errOf (readL bs))]) ∧ OwnA w' w.heap.size v' ((readL bs).getD []) ∧ Below w.heap.size w w'
theorem many_none {w w' : World} {bs : List UInt8} (h : readL bs = none) (hb : Below w.heap.size w w') : ManyPost w bs (.returned (.tuple #[.slice none 0 0, .int .i64 7])) w' :=
  ⟨.slice none 0 0, by rw [h]; rfl, by rw [h]; exact K.ownOf_nil w' _, hb⟩
theorem readL_big {bs : List UInt8} {n : Nat} {s : Option (List UInt8)} (h : Aft (some bs) (numP 2) n s) (hn : 60000 < n) : readL bs = none := by
  unfold readL manyP bindP
  unfold Aft at h
  rw [Option.bind_some] at h
  cases hp : numP 2 bs with
  | none => rfl
  | some r =>
    rw [hp] at h
    obtain ⟨h1, _⟩ := h
    simp only [Option.bind_some]
    rw [← h1]
    cases hq : itemsP n r.2 with
    | none => rfl
    | some q =>
      obtain ⟨l, t⟩ := q
      have := itemsP_len n r.2 l t hq
      cases t with
      | nil => simp only; rw [if_neg (by omega)]
      | cons c t => rfl
/-- An item is none: so is all. -/
theorem readL_torn {bs : List UInt8} {n i : Nat} {s0 : Option (List UInt8)} (h0 : Aft (some bs) (numP 2) n s0) (hi : i ≤ n) (h : s0.bind (itemsP i) = none) : readL bs = none := by
  have h2 := itemsP_torn i s0 h (n - i)
  rw [show i + (n - i) = n by omega] at h2
  have h3 : Aft s0 (itemsP n) [] none := by unfold Aft; rw [h2]
  rw [readL_aft h0 h3, if_neg (by simp)]
theorem items_none {s0 s s2 : Option (List UInt8)} {i : Nat} {l : List Ax} {q : List UInt8} (h : Aft s0 (itemsP i) l s) (hp : Aft s pieceP q s2) (hq : readA q = none) : s0.bind (itemsP (i + 1)) = none := by
  have h1 : Aft s itemP (zA 0) none := by
    have h2 : Aft s2 (ofP (readA q)) (zA 0) none := by
      rw [hq]
      unfold Aft
      cases s2 <;> rfl
    exact Aft.bind (Q := fun p => ofP (readA p)) hp h2
  have h3 : Aft s0 (itemsP (i + 1)) (l ++ [zA 0]) none := Aft.bind (Q := fun l => bindP itemP fun a => pureP (l ++ [a])) h (Aft.out (fun a => l ++ [a]) h1)
  unfold Aft at h3
  cases hb : s0.bind (itemsP (i + 1)) with
  | none => rfl
  | some r => rw [hb] at h3; exact absurd h3.2 (by simp)
theorem items_some {s0 s s2 : Option (List UInt8)} {i : Nat} {l : List Ax} {q : List UInt8} {z : Ax} (h : Aft s0 (itemsP i) l s) (hp : Aft s pieceP q s2) (hq : readA q = some z) : Aft s0 (itemsP (i + 1)) (l ++ [z]) s2 := by
  have h1 : Aft s itemP z s2 := by
    have h2 : Aft s2 (ofP (readA q)) z s2 := by rw [hq]; exact aft_pure s2 z
    exact Aft.bind (Q := fun p => ofP (readA p)) hp h2
  exact Aft.bind (Q := fun l => bindP itemP fun a => pureP (l ++ [a])) h (Aft.out (fun a => l ++ [a]) h1)
end Go.Proofs.YticbhpnpopmodaaDoor
