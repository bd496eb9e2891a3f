/-
  A READER BESIDE BOXES: what is kept.
-/
import Derived.Test.YtopacoghnofliaaDoorRdr
import Derived.Test.YtopacoghnofliaaDoorGoodA
namespace Go.Proofs.YtopacoghnofliaaDoor
open Go.RowKit


/-- Nothing but two blocks has changed of what was there. -/
structure Bar2 (p q : Nat) (w w' : World) : Prop where
  os : w'.os = w.os
  tape : w'.tape = w.tape
  output : w'.output = w.output
  size : w.heap.size ≤ w'.heap.size
  block : ∀ k, k < w.heap.size → k ≠ p → k ≠ q → w'.heap[k]? = w.heap[k]?

theorem Bar2.refl (p q : Nat) (w : World) : Bar2 p q w w := ⟨rfl, rfl, rfl, Nat.le_refl _, fun _ _ _ _ => rfl⟩

theorem Bar2.trans {p q : Nat} {a b c : World} (h : Bar2 p q a b) (k : Bar2 p q b c) : Bar2 p q a c :=
  ⟨k.os.trans h.os, k.tape.trans h.tape, k.output.trans h.output, Nat.le_trans h.size k.size, fun i hi hp hq => (k.block i (Nat.lt_of_lt_of_le hi h.size) hp hq).trans (h.block i hi hp hq)⟩

theorem Bar.two {p q : Nat} {w w' : World} (h : Bar p w w') : Bar2 p q w w' := ⟨h.os, h.tape, h.output, h.size, fun k hk hp _ => h.block k hk hp⟩

theorem Bar.two' {p q : Nat} {w w' : World} (h : Bar q w w') : Bar2 p q w w' := ⟨h.os, h.tape, h.output, h.size, fun k hk _ hq => h.block k hk hq⟩

theorem Bar2.set {p q : Nat} {w w' : World} (h : Bar2 p q w w') (j : Nat) (v : Value) : Bar2 p q w (w'.setCell ⟨q, j, none⟩ v) := h.trans (Bar.set q w' j v).two'

/-- A box that is new: what is done to it is no matter. -/
theorem Bar2.one {p q : Nat} {w w' : World} (h : Bar2 p q w w') (hq : w.heap.size ≤ q) : Bar p w w' := ⟨h.os, h.tape, h.output, h.size, fun k hk hp => h.block k hk hp (by omega)⟩

theorem Bar.setNew {p g : Nat} {w w' : World} (h : Bar p w w') (hg : w.heap.size ≤ g) (j : Nat) (v : Value) : Bar p w (w'.setCell ⟨g, j, none⟩ v) := by
  have b := Bar.set g w' j v
  exact ⟨b.os.trans h.os, b.tape.trans h.tape, b.output.trans h.output, Nat.le_trans h.size b.size, fun k hk hp => (b.block k (Nat.lt_of_lt_of_le hk h.size) (by omega)).trans (h.block k hk hp)⟩

theorem Bar.alloc {p : Nat} {w w' : World} (h : Bar p w w') (o : Obj) : Bar p w (w'.alloc o) := h.trans (Bar.of (box_below w' o))

theorem Bar.from {p : Nat} {w w' w'' : World} (h : Below w.heap.size w w') (k : Bar p w' w'') : Bar p w w'' := (Bar.of h).trans k

/-- Cells that hold no byte. -/
def NoBytes (C : List Value) : Prop := ∀ v ∈ C, ∀ x, v ≠ .int .u8 x

theorem noBytes_act (z : Ax) : NoBytes (xcells z) := by
  intro v hv x e
  subst e
  simp [xcells] at hv

theorem bytes_apart {w : World} {g : Nat} {C : List Value} {t : TypeId} {A : Addr} {x : Int} (h : w.heap[g]? = some (.cells C.toArray t (0, 0))) (hC : NoBytes C) (hc : w.cell? A = some (.int .u8 x)) : A.block ≠ g := by
  intro e
  obtain ⟨b, j, sp⟩ := A
  obtain rfl : b = g := e
  obtain rfl : sp = none := by simpa using World.cell?_spot hc
  simp only [World.cell?] at hc
  rw [h] at hc
  have hj : C[j]? = some (.int .u8 x) := by simpa using hc
  exact hC _ (List.mem_of_getElem? hj) x rfl

theorem Holds.only {g : Nat} {w U : World} {v : Value} {bs : List UInt8} {C : List Value} {t : TypeId} (h : Holds w v bs) (hg : w.heap[g]? = some (.cells C.toArray t (0, 0))) (hC : NoBytes C) (hU : ∀ k, k < w.heap.size → k ≠ g → U.heap[k]? = w.heap[k]?) : Holds U v bs := by
  rcases h with h | ⟨a, cap, hv, h1, h2, h3⟩
  · exact .inl h
  · refine .inr ⟨a, cap, hv, h1, h2, fun j u hj => ?_⟩
    have hc := h3 j u hj
    obtain ⟨x, rfl⟩ : ∃ x, u = .int .u8 x := by
      simp only [bcells, List.getElem?_map, Option.map_eq_some_iff] at hj
      obtain ⟨b, _, rfl⟩ := hj
      exact ⟨_, rfl⟩
    rw [World.cell?_of_block (w := w) (a := a.add j) (hU _ (World.block_lt_of_cell? w _ hc) (bytes_apart hg hC hc))]
    exact hc

/-- A reader stays as it is, if nothing but another box is changed. -/
theorem Rd.only {T : TypeId} {g p : Nat} {w U : World} {s : Option (List UInt8)} {C : List Value} {t : TypeId} (h : Rd T w p s) (hg : w.heap[g]? = some (.cells C.toArray t (0, 0))) (hC : NoBytes C) (hne : p ≠ g) (hU : ∀ k, k < w.heap.size → k ≠ g → U.heap[k]? = w.heap[k]?) : Rd T U p s := by
  have hl := h.lt
  obtain ⟨a, n, c, tn, l, blk, hh, hs⟩ := h
  exact ⟨a, n, c, tn, l, (hU p hl hne).trans blk, hh.only hg hC hU, hs⟩

theorem Rd.set {T : TypeId} {g p : Nat} {w : World} {s : Option (List UInt8)} {C : List Value} {t : TypeId} (h : Rd T w p s) (hg : w.heap[g]? = some (.cells C.toArray t (0, 0))) (hC : NoBytes C) (hne : p ≠ g) (j : Nat) (v : Value) : Rd T (w.setCell ⟨g, j, none⟩ v) p s :=
  h.only hg hC hne fun _ _ hk => Below.heap_setCell _ _ _ _ hk

theorem Tab.two {T : TypeId} {p q : Nat} {w w' : World} {s : Option (List UInt8)} (h : Tab w) (hr : Rd T w p s) (hb : Bar2 p q w w') (hq : 1 ≠ q) : Tab w' := by
  intro j u hj
  have hc := h j u hj
  have h0 := h 0 (.int .i64 1) rfl
  exact (World.cell?_of_block (w := w) (a := ⟨1, j, none⟩) (hb.block _ (World.block_lt_of_cell? w _ hc) (hr.apart h0) hq)).trans hc

/-- A box beside a reader. -/
theorem Bar.box {p g : Nat} {w w' : World} {C : List Value} {t : TypeId} (h : Bar p w w') (hg : w.heap[g]? = some (.cells C.toArray t (0, 0))) (hne : g ≠ p) : w'.heap[g]? = some (.cells C.toArray t (0, 0)) :=
  (h.block g (Array.getElem?_eq_some_iff.1 hg).1 hne).trans hg

/-- How what reads a message ends. -/
def MsgPost (T : TypeId) (p : Nat) (s : Option (List UInt8)) (w : World) (e : Ending) (w' : World) : Prop :=
  ∃ (m : Ms) (s' : Option (List UInt8)), e = .returned (mv m) ∧ m.Fits ∧ Aft s msgP m s' ∧ Rd T w' p s' ∧ Bar p w w'

theorem wrap_num {n k : Nat} (h : n < 256 ^ k) (hk : k ≤ 2) : IntKind.i64.wrap (n : Int) = (n : Int) := by
  have : n < 65536 := Nat.lt_of_lt_of_le h (Nat.pow_le_pow_right (by decide) hk)
  rw [IntKind.wrap_i64]
  omega

theorem num_le {n k : Nat} (h : n < 256 ^ k) (hk : k ≤ 2) : n < 65536 := Nat.lt_of_lt_of_le h (Nat.pow_le_pow_right (by decide) hk)

theorem short_max {t : ByteArray} (h : t.size < 65536) : t.size ≤ maxLen := by unfold maxLen; omega

end Go.Proofs.YtopacoghnofliaaDoor
