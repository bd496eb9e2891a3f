/-
  A READER IN MEMORY: of no program but for its block; what is kept while it goes along bytes.
-/
import Derived.Test.YtopacoghnofliaaDoorParse13
import Derived.Test.YtopacoghnofliaaDoorOnly2
namespace Go.Proofs.YtopacoghnofliaaDoor
open Go.RowKit


/-- Nothing but the block p has changed of what was there. -/
structure Bar (p : Nat) (w w' : World) : Prop where
  os : w'.os = w.os
  tape : w'.tape = w.tape
  output : w'.output = w.output
  size : w.heap.size ≤ w'.heap.size
  block : ∀ k, k < w.heap.size → k ≠ p → w'.heap[k]? = w.heap[k]?

theorem Bar.refl (p : Nat) (w : World) : Bar p w w := ⟨rfl, rfl, rfl, Nat.le_refl _, fun _ _ _ => rfl⟩

theorem Bar.trans {p : Nat} {a b c : World} (h : Bar p a b) (k : Bar p b c) : Bar p a c :=
  ⟨k.os.trans h.os, k.tape.trans h.tape, k.output.trans h.output, Nat.le_trans h.size k.size, fun i hi hn => (k.block i (Nat.lt_of_lt_of_le hi h.size) hn).trans (h.block i hi hn)⟩

theorem Bar.of {p : Nat} {w w' : World} (h : Below w.heap.size w w') : Bar p w w' := ⟨h.os, h.tape, h.output, h.size, fun k hk _ => h.block k hk⟩

theorem setCell_size (w : World) (a : Addr) (v : Value) : (w.setCell a v).heap.size = w.heap.size := by
  have := (Below.refl (w.heap.size) w)
  simp [World.setCell]
  first | done | (split <;> simp)

theorem Bar.set (p : Nat) (w : World) (j : Nat) (v : Value) : Bar p w (w.setCell ⟨p, j, none⟩ v) := by
  have h := (Below.refl p w).setCell (p := ⟨p, j, none⟩) (Nat.le_refl _) v
  exact ⟨h.os, h.tape, h.output, h.size, fun k _ hn => Below.heap_setCell _ _ _ _ hn⟩

theorem Bar.cell {p : Nat} {w w' : World} (h : Bar p w w') {b j : Nat} {v : Value} (hc : w.cell? ⟨b, j, none⟩ = some v) (hb : b ≠ p) : w'.cell? ⟨b, j, none⟩ = some v :=
  (World.cell?_of_block (w := w) (a := ⟨b, j, none⟩) (h.block b (World.block_lt_of_cell? w _ hc) hb)).trans hc

/-- What lies below n stays, if the reader lies beyond. -/
theorem Bar.below {p n : Nat} {w0 w w' : World} (h : Bar p w w') (h0 : Below n w0 w) (hn : n ≤ p) (hs : n ≤ w.heap.size) : Below n w0 w' :=
  h0.trans ⟨h.os, h.tape, h.output, h.size, fun k hk => h.block k (by omega) (by omega)⟩

/-- What a reader has left, if it is not torn. -/
def left (tn : Bool) (l : List UInt8) : Option (List UInt8) := if tn = true then none else some l

/-- The bytes that a slice has lie below p. -/
def Lo (a : Option Addr) (l : List UInt8) (p : Nat) : Prop := 0 < l.length → ∀ ad, a = some ad → ad.block < p

/-- A reader. -/
def Rd (T : TypeId) (w : World) (p : Nat) (s : Option (List UInt8)) : Prop :=
  ∃ a n c tn l, w.heap[p]? = some (.cells #[.slice a n c, .bool tn] T (0, 0)) ∧ Holds w (.slice a n c) l ∧ l.length ≤ 100000 ∧ s = left tn l ∧ Lo a l p

theorem rd_apart {w : World} {p : Nat} {A : Addr} {a : Option Addr} {n c : Nat} {tn : Bool} {T : TypeId} {k : IntKind} {x : Int} (h : w.heap[p]? = some (.cells #[.slice a n c, .bool tn] T (0, 0))) (hc : w.cell? A = some (.int k x)) : A.block ≠ p := by
  intro e
  obtain ⟨b, j, sp⟩ := A
  obtain rfl : b = p := e
  obtain rfl : sp = none := by simpa using World.cell?_spot hc
  simp only [World.cell?] at hc
  rw [h] at hc
  match j with
  | 0 => simp at hc
  | 1 => simp at hc
  | j + 2 => simp at hc

theorem Rd.apart {T : TypeId} {w : World} {p b j : Nat} {s : Option (List UInt8)} {k : IntKind} {x : Int} (h : Rd T w p s) (hc : w.cell? ⟨b, j, none⟩ = some (.int k x)) : b ≠ p := by
  obtain ⟨a, n, c, tn, l, blk, _⟩ := h
  exact rd_apart (A := ⟨b, j, none⟩) blk hc

theorem Holds.bar {p : Nat} {w w' : World} {v : Value} {bs : List UInt8} (h : Holds w v bs) (hb : Bar p w w') {a : Option Addr} {n c : Nat} {tn : Bool} {T : TypeId} (hp : w.heap[p]? = some (.cells #[.slice a n c, .bool tn] T (0, 0))) : Holds w' v bs := by
  rcases h with h | ⟨a, cap, hv, h1, h2, h3⟩
  · exact .inl h
  · refine .inr ⟨a, cap, hv, h1, h2, fun j u hj => ?_⟩
    have hc := h3 j u hj
    have hlt := World.block_lt_of_cell? w _ hc
    obtain ⟨k, x, rfl⟩ : ∃ k x, u = .int k x := by
      simp only [bcells, List.getElem?_map, Option.map_eq_some_iff] at hj
      obtain ⟨b, _, rfl⟩ := hj
      exact ⟨_, _, rfl⟩
    have hne : (a.add j).block ≠ p := rd_apart hp hc
    rw [World.cell?_of_block (w := w) (a := a.add j) (hb.block _ hlt hne)]
    exact hc

theorem Rd.lt {T : TypeId} {w : World} {p : Nat} {s : Option (List UInt8)} (h : Rd T w p s) : p < w.heap.size := by
  obtain ⟨a, n, c, tn, l, blk, _⟩ := h
  exact (Array.getElem?_eq_some_iff.1 blk).1

theorem Rd.kept {T : TypeId} {w w' : World} {p : Nat} {s : Option (List UInt8)} (h : Rd T w p s) (hb : Below w.heap.size w w') : Rd T w' p s := by
  have hl := h.lt
  obtain ⟨a, n, c, tn, l, blk, hh, hs⟩ := h
  exact ⟨a, n, c, tn, l, (hb.block p hl).trans blk, hh.below hb (Nat.le_refl _), hs⟩

theorem Tab.bar {T : TypeId} {p : Nat} {w w' : World} {s : Option (List UInt8)} (h : Tab w) (hr : Rd T w p s) (hb : Bar p w w') : Tab w' := by
  intro j u hj
  have hc := h j u hj
  have h0 := h 0 (.int .i64 1) rfl
  exact hb.cell hc (hr.apart h0)

/-- A reader that a call makes. -/
theorem rd_new (T : TypeId) (w : World) (v : Value) (bs : List UInt8) (h : Holds w v bs) (hl : bs.length ≤ 100000) : Rd T (w.alloc (.cells #[v, .bool false] T)) w.heap.size (some bs) := by
  have hb := box_below w (.cells #[v, .bool false] T)
  obtain ⟨a, c, rfl⟩ := h.slice
  refine ⟨a, _, c, false, bs, heap_alloc_new w _, h.below hb (Nat.le_refl _), hl, rfl, fun hp ad he => ?_⟩
  subst he
  obtain ⟨b, off, cap, hv, _, _, hcell⟩ := h.at hp
  injection hv with hv
  injection hv with hv
  rw [hv]
  exact World.block_lt_of_cell? w _ (hcell 0 hp)

set_option maxRecDepth 20000 in
/-- 'v[k:]', 'v[:k]'. -/
theorem holds_from {w : World} {v : Value} {l : List UInt8} (h : Holds w v l) (i : Nat) (hi : i ≤ l.length) (i' : Int) (hi' : i' = i) :
    ∃ a cap, (∀ W, (Instr.slice 34 v (some (.int .i64 i')) none none).run Tryd.prog W = .ok (.slice a (l.length - i) cap) W) ∧ Holds w (.slice a (l.length - i) cap) (l.drop i) ∧ (∀ a0 n0 c0 p, v = .slice a0 n0 c0 → Lo a0 l p → Lo a (l.drop i) p) := by
  subst hi'
  obtain ⟨inf, hinf, hz, hsz, hby⟩ := isU8W.info
  have hel : Tryd.prog.elem 34 = 5 := by simp [Program.elem, isU8W.ht]
  have hso : ∀ W, (sizeOf (Tryd.prog.elem 34)).run Tryd.prog W = .ok 1 W := fun W => by
    rw [hel]
    simp [sizeOf, typeInfo, hinf, hsz]
  have hut : Tryd.prog.underlying 34 = some (.slice (Tryd.prog.elem 34)) := by rw [hel]; exact isU8W.ht
  rcases h with ⟨rfl, rfl⟩ | ⟨ad, cap, rfl, h1, h2, h3⟩
  · have : i = 0 := by simpa using hi
    subst this
    refine ⟨none, 0, fun W => ?_, .inl ⟨rfl, rfl⟩, fun _ _ _ _ _ _ _ ad he => by cases he⟩
    rw [run_slice_l W 34 none 0 0 hut .i64 (0 : Nat) (by omega) (by simp)]
    simp [hso, Result.andThen, sliced]
  · refine ⟨some (if cap = i then ad else ad.add i), cap - i, fun W => ?_, ?_, fun a0 n0 c0 p hv hlo hp ad' he => ?_⟩
    rotate_right
    · injection hv with hv
      injection he with he
      have hq := hlo (by rw [List.length_drop] at hp; omega) ad hv.symm
      rw [← he]
      split
      · exact hq
      · rw [Addr.block_add]; exact hq
    · rw [run_slice_l W 34 (some ad) l.length cap hut .i64 i (by omega) (by omega)]
      simp [hso, Result.andThen, sliced]
      split <;> rfl
    · refine .inr ⟨_, _, by rw [List.length_drop], by rw [List.length_drop]; omega, by omega, fun j u hj => ?_⟩
      rw [bcells, List.map_drop, List.getElem?_drop] at hj
      have hlt := (List.getElem?_eq_some_iff.1 hj).1
      rw [List.length_map] at hlt
      rw [if_neg (by omega)]
      have := h3 (i + j) u hj
      rw [← this]
      congr 1
      have hadd : (ad.add i).add j = ad.add (i + j) := by
        unfold Addr.add
        by_cases hi0 : i = 0 <;> by_cases hj0 : j = 0 <;> simp [hi0, hj0]
        omega
      exact hadd

set_option maxRecDepth 20000 in
theorem holds_to {w : World} {v : Value} {l : List UInt8} (h : Holds w v l) (i : Nat) (hi : i ≤ l.length) (i' : Int) (hi' : i' = i) :
    ∃ a cap, (∀ W, (Instr.slice 34 v none (some (.int .i64 i')) none).run Tryd.prog W = .ok (.slice a i cap) W) ∧ Holds w (.slice a i cap) (l.take i) ∧ (∀ a0 n0 c0 p, v = .slice a0 n0 c0 → Lo a0 l p → Lo a (l.take i) p) := by
  subst hi'
  obtain ⟨inf, hinf, hz, hsz, hby⟩ := isU8W.info
  have hel : Tryd.prog.elem 34 = 5 := by simp [Program.elem, isU8W.ht]
  have hso : ∀ W, (sizeOf (Tryd.prog.elem 34)).run Tryd.prog W = .ok 1 W := fun W => by
    rw [hel]
    simp [sizeOf, typeInfo, hinf, hsz]
  have hut : Tryd.prog.underlying 34 = some (.slice (Tryd.prog.elem 34)) := by rw [hel]; exact isU8W.ht
  rcases h with ⟨rfl, rfl⟩ | ⟨ad, cap, rfl, h1, h2, h3⟩
  · have : i = 0 := by simpa using hi
    subst this
    refine ⟨none, 0, fun W => ?_, .inl ⟨rfl, rfl⟩, fun _ _ _ _ _ _ _ ad he => by cases he⟩
    rw [run_slice_h W 34 none 0 0 hut .i64 (0 : Nat) (by omega) (by simp)]
    simp [hso, Result.andThen, sliced]
  · refine ⟨some (if cap = 0 then ad else ad.add 0), cap, fun W => ?_, ?_, fun a0 n0 c0 p hv hlo hp ad' he => ?_⟩
    rotate_right
    · injection hv with hv
      injection he with he
      have hq := hlo (by rw [List.length_take] at hp; omega) ad hv.symm
      rw [← he]
      split
      · exact hq
      · rw [Addr.block_add]; exact hq
    · rw [run_slice_h W 34 (some ad) l.length cap hut .i64 i (by omega) (by omega)]
      simp [hso, Result.andThen, sliced]
      split <;> rfl
    · have hl : (l.take i).length = i := by simp; omega
      refine .inr ⟨_, _, by rw [hl], by omega, h2, fun j u hj => ?_⟩
      have hj2 : (bcells l)[j]? = some u := by
        simp only [bcells, List.map_take, List.getElem?_take] at hj
        split at hj
        · exact hj
        · cases hj
      rw [← h3 j u hj2]
      congr 1
      have : (if cap = 0 then ad else ad.add 0) = ad := by
        unfold Addr.add
        split <;> simp
      rw [this]

end Go.Proofs.YtopacoghnofliaaDoor
