/-
  A READER IN MEMORY: of no program but for its block; what is kept while it goes along bytes.
-/
import Derived.Test.YtdbgojmjjkidbaaGreatDoorJParse13
import Derived.Test.YtdbgojmjjkidbaaGreatDoorJOnly
import Derived.Test.YtdbgojmjjkidbaaGreatDoorJTexts13
import Derived.Test.YtdbgojmjjkidbaaGreatDoorJRows19
import Derived.Deep.RegionLaw
import Derived.Deep.RegionWith
namespace Go.Proofs.YtdbgojmjjkidbaaGreatDoor
open Go.RowKit


/-- Nothing but the block p has changed of what was there. -/
structure Bar (p : Nat) (w w' : World) : Prop where
  os : w'.os = w.os
  tape : w'.tape = w.tape
  output : w'.output = w.output
  size : w.heap.size ≤ w'.heap.size
  block : ∀ k, k < w.heap.size → k ≠ p → w'.heap[k]? = w.heap[k]?

theorem Bar.refl (p : Nat) (w : World) : Bar p w w := ⟨rfl, rfl, rfl, Nat.le_refl _, fun _ _ _ => rfl⟩

theorem Bar.trans {p : Nat} {a b c : World} (h : Bar p a b) (k : Bar p b c) : Bar p a c :=
  ⟨k.os.trans h.os, k.tape.trans h.tape, k.output.trans h.output, Nat.le_trans h.size k.size, fun i hi hn => (k.block i (Nat.lt_of_lt_of_le hi h.size) hn).trans (h.block i hi hn)⟩

theorem Bar.of {p : Nat} {w w' : World} (h : Below w.heap.size w w') : Bar p w w' := ⟨h.os, h.tape, h.output, h.size, fun k hk _ => h.block k hk⟩

theorem setCell_size (w : World) (a : Addr) (v : Value) : (w.setCell a v).heap.size = w.heap.size := by
  have := (Below.refl (w.heap.size) w)
  simp [World.setCell]
  first | done | (split <;> simp)

theorem Bar.set (p : Nat) (w : World) (j : Nat) (v : Value) : Bar p w (w.setCell ⟨p, j, none⟩ v) := by
  have h := (Below.refl p w).setCell (p := ⟨p, j, none⟩) (Nat.le_refl _) v
  exact ⟨h.os, h.tape, h.output, h.size, fun k _ hn => Below.heap_setCell _ _ _ _ hn⟩

theorem Bar.cell {p : Nat} {w w' : World} (h : Bar p w w') {b j : Nat} {v : Value} (hc : w.cell? ⟨b, j, none⟩ = some v) (hb : b ≠ p) : w'.cell? ⟨b, j, none⟩ = some v :=
  (World.cell?_of_block (w := w) (a := ⟨b, j, none⟩) (h.block b (World.block_lt_of_cell? w _ hc) hb)).trans hc

/-- What lies below n stays, if the reader lies beyond. -/
theorem Bar.below {p n : Nat} {w0 w w' : World} (h : Bar p w w') (h0 : Below n w0 w) (hn : n ≤ p) (hs : n ≤ w.heap.size) : Below n w0 w' :=
  h0.trans ⟨h.os, h.tape, h.output, h.size, fun k hk => h.block k (by omega) (by omega)⟩

/-- What a reader has left, if it is not torn. -/
def left (tn : Bool) (l : List UInt8) : Option (List UInt8) := if tn = true then none else some l

/-- The bytes that a slice has lie below p. -/
def Lo (a : Option Addr) (l : List UInt8) (p : Nat) : Prop := 0 < l.length → ∀ ad, a = some ad → ad.block < p

/-- A reader. -/
def Rd (T : TypeId) (w : World) (p : Nat) (s : Option (List UInt8)) : Prop :=
  ∃ a n c tn l, w.heap[p]? = some (.cells #[.slice a n c, .bool tn] T (0, 0)) ∧ Holds w (.slice a n c) l ∧ l.length ≤ 100000 ∧ s = left tn l ∧ Lo a l p

theorem rd_apart {w : World} {p : Nat} {A : Addr} {a : Option Addr} {n c : Nat} {tn : Bool} {T : TypeId} {k : IntKind} {x : Int} (h : w.heap[p]? = some (.cells #[.slice a n c, .bool tn] T (0, 0))) (hc : w.cell? A = some (.int k x)) : A.block ≠ p := by
  intro e
  obtain ⟨b, j, sp⟩ := A
  obtain rfl : b = p := e
  obtain rfl : sp = none := by simpa using World.cell?_spot hc
  simp only [World.cell?] at hc
  rw [h] at hc
  match j with
  | 0 => simp at hc
  | 1 => simp at hc
  | j + 2 => simp at hc

theorem Rd.apart {T : TypeId} {w : World} {p b j : Nat} {s : Option (List UInt8)} {k : IntKind} {x : Int} (h : Rd T w p s) (hc : w.cell? ⟨b, j, none⟩ = some (.int k x)) : b ≠ p := by
  obtain ⟨a, n, c, tn, l, blk, _⟩ := h
  exact rd_apart (A := ⟨b, j, none⟩) blk hc

theorem Holds.bar {p : Nat} {w w' : World} {v : Value} {bs : List UInt8} (h : Holds w v bs) (hb : Bar p w w') {a : Option Addr} {n c : Nat} {tn : Bool} {T : TypeId} (hp : w.heap[p]? = some (.cells #[.slice a n c, .bool tn] T (0, 0))) : Holds w' v bs := by
  rcases h with h | ⟨a, cap, hv, h1, h2, h3⟩
  · exact .inl h
  · refine .inr ⟨a, cap, hv, h1, h2, fun j u hj => ?_⟩
    have hc := h3 j u hj
    have hlt := World.block_lt_of_cell? w _ hc
    obtain ⟨k, x, rfl⟩ : ∃ k x, u = .int k x := by
      simp only [bcells, List.getElem?_map, Option.map_eq_some_iff] at hj
      obtain ⟨b, _, rfl⟩ := hj
      exact ⟨_, _, rfl⟩
    have hne : (a.add j).block ≠ p := rd_apart hp hc
    rw [World.cell?_of_block (w := w) (a := a.add j) (hb.block _ hlt hne)]
    exact hc

theorem Rd.lt {T : TypeId} {w : World} {p : Nat} {s : Option (List UInt8)} (h : Rd T w p s) : p < w.heap.size := by
  obtain ⟨a, n, c, tn, l, blk, _⟩ := h
  exact (Array.getElem?_eq_some_iff.1 blk).1

theorem Rd.kept {T : TypeId} {w w' : World} {p : Nat} {s : Option (List UInt8)} (h : Rd T w p s) (hb : Below w.heap.size w w') : Rd T w' p s := by
  have hl := h.lt
  obtain ⟨a, n, c, tn, l, blk, hh, hs⟩ := h
  exact ⟨a, n, c, tn, l, (hb.block p hl).trans blk, hh.below hb (Nat.le_refl _), hs⟩

theorem Tab.bar {T : TypeId} {p : Nat} {w w' : World} {s : Option (List UInt8)} (h : Tab w) (hr : Rd T w p s) (hb : Bar p w w') : Tab w' := by
  intro j u hj
  have hc := h j u hj
  have h0 := h 0 (.int .i64 1) rfl
  exact hb.cell hc (hr.apart h0)

/-- A reader that a call makes. -/
theorem rd_new (T : TypeId) (w : World) (v : Value) (bs : List UInt8) (h : Holds w v bs) (hl : bs.length ≤ 100000) : Rd T (w.alloc (.cells #[v, .bool false] T)) w.heap.size (some bs) := by
  have hb := box_below w (.cells #[v, .bool false] T)
  obtain ⟨a, c, rfl⟩ := h.slice
  refine ⟨a, _, c, false, bs, heap_alloc_new w _, h.below hb (Nat.le_refl _), hl, rfl, fun hp ad he => ?_⟩
  subst he
  obtain ⟨b, off, cap, hv, _, _, hcell⟩ := h.at hp
  injection hv with hv
  injection hv with hv
  rw [hv]
  exact World.block_lt_of_cell? w _ (hcell 0 hp)

set_option maxRecDepth 20000 in
/-- 'v[k:]', 'v[:k]'. -/
theorem holds_from {w : World} {v : Value} {l : List UInt8} (h : Holds w v l) (i : Nat) (hi : i ≤ l.length) (i' : Int) (hi' : i' = i) :
    ∃ a cap, (∀ W, (Instr.slice 78 v (some (.int .i64 i')) none none).run Tryz.prog W = .ok (.slice a (l.length - i) cap) W) ∧ Holds w (.slice a (l.length - i) cap) (l.drop i) ∧ (∀ a0 n0 c0 p, v = .slice a0 n0 c0 → Lo a0 l p → Lo a (l.drop i) p) := by
  subst hi'
  obtain ⟨inf, hinf, hz, hsz, hby⟩ := isU8W.info
  have hel : Tryz.prog.elem 78 = 5 := by simp [Program.elem, isU8W.ht]
  have hso : ∀ W, (sizeOf (Tryz.prog.elem 78)).run Tryz.prog W = .ok 1 W := fun W => by
    rw [hel]
    simp [sizeOf, typeInfo, hinf, hsz]
  have hut : Tryz.prog.underlying 78 = some (.slice (Tryz.prog.elem 78)) := by rw [hel]; exact isU8W.ht
  rcases h with ⟨rfl, rfl⟩ | ⟨ad, cap, rfl, h1, h2, h3⟩
  · have : i = 0 := by simpa using hi
    subst this
    refine ⟨none, 0, fun W => ?_, .inl ⟨rfl, rfl⟩, fun _ _ _ _ _ _ _ ad he => by cases he⟩
    rw [run_slice_l W 78 none 0 0 hut .i64 (0 : Nat) (by omega) (by simp)]
    simp [hso, Result.andThen, sliced]
  · refine ⟨some (if cap = i then ad else ad.add i), cap - i, fun W => ?_, ?_, fun a0 n0 c0 p hv hlo hp ad' he => ?_⟩
    rotate_right
    · injection hv with hv
      injection he with he
      have hq := hlo (by rw [List.length_drop] at hp; omega) ad hv.symm
      rw [← he]
      split
      · exact hq
      · rw [Addr.block_add]; exact hq
    · rw [run_slice_l W 78 (some ad) l.length cap hut .i64 i (by omega) (by omega)]
      simp [hso, Result.andThen, sliced]
      split <;> rfl
    · refine .inr ⟨_, _, by rw [List.length_drop], by rw [List.length_drop]; omega, by omega, fun j u hj => ?_⟩
      rw [bcells, List.map_drop, List.getElem?_drop] at hj
      have hlt := (List.getElem?_eq_some_iff.1 hj).1
      rw [List.length_map] at hlt
      rw [if_neg (by omega)]
      have := h3 (i + j) u hj
      rw [← this]
      congr 1
      have hadd : (ad.add i).add j = ad.add (i + j) := by
        unfold Addr.add
        by_cases hi0 : i = 0 <;> by_cases hj0 : j = 0 <;> simp [hi0, hj0]
        omega
      exact hadd

set_option maxRecDepth 20000 in
theorem holds_to {w : World} {v : Value} {l : List UInt8} (h : Holds w v l) (i : Nat) (hi : i ≤ l.length) (i' : Int) (hi' : i' = i) :
    ∃ a cap, (∀ W, (Instr.slice 78 v none (some (.int .i64 i')) none).run Tryz.prog W = .ok (.slice a i cap) W) ∧ Holds w (.slice a i cap) (l.take i) ∧ (∀ a0 n0 c0 p, v = .slice a0 n0 c0 → Lo a0 l p → Lo a (l.take i) p) := by
  subst hi'
  obtain ⟨inf, hinf, hz, hsz, hby⟩ := isU8W.info
  have hel : Tryz.prog.elem 78 = 5 := by simp [Program.elem, isU8W.ht]
  have hso : ∀ W, (sizeOf (Tryz.prog.elem 78)).run Tryz.prog W = .ok 1 W := fun W => by
    rw [hel]
    simp [sizeOf, typeInfo, hinf, hsz]
  have hut : Tryz.prog.underlying 78 = some (.slice (Tryz.prog.elem 78)) := by rw [hel]; exact isU8W.ht
  rcases h with ⟨rfl, rfl⟩ | ⟨ad, cap, rfl, h1, h2, h3⟩
  · have : i = 0 := by simpa using hi
    subst this
    refine ⟨none, 0, fun W => ?_, .inl ⟨rfl, rfl⟩, fun _ _ _ _ _ _ _ ad he => by cases he⟩
    rw [run_slice_h W 78 none 0 0 hut .i64 (0 : Nat) (by omega) (by simp)]
    simp [hso, Result.andThen, sliced]
  · refine ⟨some (if cap = 0 then ad else ad.add 0), cap, fun W => ?_, ?_, fun a0 n0 c0 p hv hlo hp ad' he => ?_⟩
    rotate_right
    · injection hv with hv
      injection he with he
      have hq := hlo (by rw [List.length_take] at hp; omega) ad hv.symm
      rw [← he]
      split
      · exact hq
      · rw [Addr.block_add]; exact hq
    · rw [run_slice_h W 78 (some ad) l.length cap hut .i64 i (by omega) (by omega)]
      simp [hso, Result.andThen, sliced]
      split <;> rfl
    · have hl : (l.take i).length = i := by simp; omega
      refine .inr ⟨_, _, by rw [hl], by omega, h2, fun j u hj => ?_⟩
      have hj2 : (bcells l)[j]? = some u := by
        simp only [bcells, List.map_take, List.getElem?_take] at hj
        split at hj
        · exact hj
        · cases hj
      rw [← h3 j u hj2]
      congr 1
      have : (if cap = 0 then ad else ad.add 0) = ad := by
        unfold Addr.add
        split <;> simp
      rw [this]

end Go.Proofs.YtdbgojmjjkidbaaGreatDoor

/-
  THE READER: number, piece, text, yes, by their contracts.
-/
namespace Go.Proofs.YtdbgojmjjkidbaaGreatDoor
open Go.RowKit


/-- How a reader's call ends. -/
def NumPost (T : TypeId) (p k : Nat) (s : Option (List UInt8)) (w : World) (e : Ending) (w' : World) : Prop :=
  ∃ (n : Nat) (s' : Option (List UInt8)), e = .returned (.int .u64 (n : Int)) ∧ n < 256 ^ k ∧ Aft s (numP k) n s' ∧ Rd T w' p s' ∧ Bar p w w'

def PiecePost (T : TypeId) (p : Nat) (s : Option (List UInt8)) (w : World) (e : Ending) (w' : World) : Prop :=
  ∃ (v : Value) (q : List UInt8) (s' : Option (List UInt8)), e = .returned v ∧ Holds w' v q ∧ q.length < 65536 ∧ (∃ a0 n0 c0, v = .slice a0 n0 c0 ∧ Lo a0 q p) ∧ Aft s pieceP q s' ∧ Rd T w' p s' ∧ Bar p w w'

def TextPost (T : TypeId) (p : Nat) (s : Option (List UInt8)) (w : World) (e : Ending) (w' : World) : Prop :=
  ∃ (t : ByteArray) (s' : Option (List UInt8)), e = .returned (.string t) ∧ t.size < 65536 ∧ Aft s textP t s' ∧ Rd T w' p s' ∧ Bar p w w'

def YesPost (T : TypeId) (p : Nat) (s : Option (List UInt8)) (w : World) (e : Ending) (w' : World) : Prop :=
  ∃ (b : Bool) (s' : Option (List UInt8)), e = .returned (.bool b) ∧ Aft s yesP b s' ∧ Rd T w' p s' ∧ Bar p w w'

theorem numP_some {k : Nat} {l : List UInt8} (h : k ≤ l.length) : numP k l = some (getN (l.take k), l.drop k) := by unfold numP; rw [if_pos h]

theorem numP_none {k : Nat} {l : List UInt8} (h : ¬ k ≤ l.length) : numP k l = none := by unfold numP; rw [if_neg h]

theorem aft_num {k : Nat} {l : List UInt8} {tn : Bool} (h : k ≤ l.length) : Aft (left tn l) (numP k) (getN (l.take k)) (left tn (l.drop k)) := by
  unfold Aft left
  cases tn
  · simp [numP_some h]
  · simp

theorem aft_nonum {k x : Nat} {l : List UInt8} {tn : Bool} (h : ¬ k ≤ l.length) : Aft (left tn l) (numP k) x none := by
  unfold Aft left
  cases tn
  · simp [numP_none h]
  · simp

theorem getN_bound (l : List UInt8) (k : Nat) (h : k ≤ l.length) (h8 : k ≤ 8) : getN (l.take k) < 18446744073709551616 :=
  Nat.lt_of_lt_of_le (getN_lt l k h) (Nat.pow_le_pow_right (by decide) h8)

set_option maxRecDepth 20000 in
theorem num_any (p k : Nat) (s : Option (List UInt8)) (w : World) (ht : Tab w) (hg : goodB k = true) (h8 : k ≤ 8) (hr : Rd 144 w p s) :
    Calls Tryz.prog 117 #[.pointer (some ⟨p, 0, none⟩), .int .i64 (k : Int)] w (NumPost 144 p k s w) := by
  obtain ⟨a, n, c, tn, l, blk, hh, hl, rfl, lo⟩ := hr
  have LO : Hid (Lo a l p) := lo
  clear lo
  have c0 : w.cell? ⟨p, 0, none⟩ = some (.slice a n c) := by simp only [World.cell?]; rw [blk]; rfl
  have f0 : w.frozen? ⟨p, 0, none⟩ = false := frozen_of_row w p 0 _ _ blk
  have f1 : w.frozen? ⟨p, 1, none⟩ = false := frozen_of_row w p 1 _ _ blk
  have c1 : w.cell? ⟨p, 1, none⟩ = some (.bool tn) := by simp only [World.cell?]; rw [blk]; rfl
  obtain rfl : n = l.length := by obtain ⟨_, _, hv⟩ := hh.slice; injection hv
  by_cases hk : k ≤ l.length
  · have hG := get_good _ l k w ht hh hg hk
    obtain ⟨a', c', hs1, hh', hlo⟩ := holds_from hh k hk (k : Int) rfl
    have LO1 : Hid (Lo a' (l.drop k) p) := hlo _ _ _ p rfl LO.out
    clear hlo
    have HN : Hid (getN (l.take k) < 256 ^ k ∧ Aft (left tn l) (numP k) (getN (l.take k)) (left tn (l.drop k))) := ⟨getN_lt l k hk, aft_num hk⟩
    have HB : Hid (w.heap[p]? = some (.cells #[.slice a l.length c, .bool tn] 144 (0, 0)) ∧ Holds w (.slice a' (l.length - k) c') (l.drop k) ∧ (l.drop k).length ≤ 100000) := ⟨blk, hh', by rw [List.length_drop]; omega⟩
    obtain ⟨m, hm⟩ : ∃ z, l.length - k = z := ⟨_, rfl⟩
    rw [hm] at hs1 HB
    obtain ⟨x, hx⟩ : ∃ z, getN (l.take k) = z := ⟨_, rfl⟩
    rw [hx] at hG HN
    clear hh hh' blk hl hk hg ht hm hx
    go_enter Tryz.func117, Tryz.ntmps117
    go_wp2_with fail
    refine hG.mono ?_
    rintro e w ⟨rfl, rfl⟩
    clear hG
    go_wp2
    go_ret
    refine ⟨x, _, rfl, HN.out.1, HN.out.2, ?_, Bar.set _ _ _ _⟩
    exact ⟨a', m, c', tn, l.drop k, heap_setCell_same _ _ _ _ _ _ HB.out.1, HB.out.2.1.bar (Bar.set _ _ _ _) HB.out.1, HB.out.2.2, rfl, LO1.out⟩
  · have hG := get_bad _ l (k : Int) w ht hh (by unfold getB; rw [hg]; simp; omega)
    have HN : Hid (Aft (left tn l) (numP k) 0 none) := aft_nonum hk
    have HB : Hid (w.heap[p]? = some (.cells #[.slice a l.length c, .bool tn] 144 (0, 0)) ∧ Holds w (.slice a l.length c) l ∧ l.length ≤ 100000) := ⟨blk, hh, hl⟩
    clear hh blk hl hk hg ht
    go_enter Tryz.func117, Tryz.ntmps117
    go_wp2_with fail
    refine hG.mono ?_
    rintro e w ⟨rfl, rfl⟩
    clear hG
    go_wp2
    go_ret
    refine ⟨0, none, rfl, Nat.pow_pos (by decide), HN.out, ?_, Bar.set _ _ _ _⟩
    exact ⟨a, _, c, true, l, heap_setCell_same _ _ _ _ _ _ HB.out.1, HB.out.2.1.bar (Bar.set _ _ _ _) HB.out.1, HB.out.2.2, rfl, LO.out⟩

/-- .. as the calls are written. -/
theorem num1_any (p : Nat) (s : Option (List UInt8)) (w : World) (ht : Tab w) (hr : Rd 144 w p s) :
    Calls Tryz.prog 117 #[.pointer (some ⟨p, 0, none⟩), .int .i64 1] w (NumPost 144 p 1 s w) := num_any p 1 s w ht rfl (by decide) hr

theorem num2_any (p : Nat) (s : Option (List UInt8)) (w : World) (ht : Tab w) (hr : Rd 144 w p s) :
    Calls Tryz.prog 117 #[.pointer (some ⟨p, 0, none⟩), .int .i64 2] w (NumPost 144 p 2 s w) := num_any p 2 s w ht rfl (by decide) hr

theorem num8_any (p : Nat) (s : Option (List UInt8)) (w : World) (ht : Tab w) (hr : Rd 144 w p s) :
    Calls Tryz.prog 117 #[.pointer (some ⟨p, 0, none⟩), .int .i64 8] w (NumPost 144 p 8 s w) := num_any p 8 s w ht rfl (by decide) hr

theorem aft_cut {n : Nat} {l : List UInt8} {tn : Bool} (h : n ≤ l.length) : Aft (left tn l) (headP n) (l.take n) (left tn (l.drop n)) := by
  unfold Aft headP left
  cases tn
  · simp [h]
  · simp

theorem aft_nocut {n : Nat} {l x : List UInt8} {tn : Bool} (h : ¬ n ≤ l.length) : Aft (left tn l) (headP n) x none := by
  unfold Aft headP left
  cases tn
  · simp [h]
  · simp

theorem wrap_small {n : Nat} (h : n < 65536) : IntKind.i64.wrap (n : Int) = (n : Int) := by
  rw [IntKind.wrap_i64]
  omega

set_option maxRecDepth 20000 in
theorem piece_any (p : Nat) (s : Option (List UInt8)) (w : World) (ht : Tab w) (hr : Rd 144 w p s) :
    Calls Tryz.prog 127 #[.pointer (some ⟨p, 0, none⟩)] w (PiecePost 144 p s w) := by
  have hN := num2_any p s w ht hr
  go_enter Tryz.func127, Tryz.ntmps127
  go_wp2_with fail
  refine hN.mono ?_
  rintro e w1 ⟨n, s1, rfl, hn, haft, hr1, bar1⟩
  clear hN
  have hn : n < 65536 := Nat.lt_of_lt_of_le hn (by decide)
  obtain ⟨a, m, c, tn, l, blk, hh, hl, rfl, lo⟩ := hr1
  have LO : Hid (Lo a l p) := lo
  clear lo
  have c0 : w1.cell? ⟨p, 0, none⟩ = some (.slice a m c) := by simp only [World.cell?]; rw [blk]; rfl
  have f0 : w1.frozen? ⟨p, 0, none⟩ = false := frozen_of_row w1 p 0 _ _ blk
  have f1 : w1.frozen? ⟨p, 1, none⟩ = false := frozen_of_row w1 p 1 _ _ blk
  have c1 : w1.cell? ⟨p, 1, none⟩ = some (.bool tn) := by simp only [World.cell?]; rw [blk]; rfl
  obtain rfl : m = l.length := by obtain ⟨_, _, hv⟩ := hh.slice; injection hv
  have hw := wrap_small hn
  by_cases hk : n ≤ l.length
  · have hk' : ¬ (l.length : Int) < (n : Int) := by omega
    obtain ⟨a', c', hs1, hh', hlo⟩ := holds_from hh n hk (n : Int) rfl
    have LO1 : Hid (Lo a' (l.drop n) p) := hlo _ _ _ p rfl LO.out
    clear hlo
    obtain ⟨a2, c2, hs2, hh2, hlo⟩ := holds_to hh n hk (n : Int) rfl
    have LO2 : Hid (Lo a2 (l.take n) p) := hlo _ _ _ p rfl LO.out
    clear hlo
    have HN : Hid (n < 65536 ∧ Aft s (numP 2) n (left tn l) ∧ Aft (left tn l) (headP n) (l.take n) (left tn (l.drop n))) := ⟨hn, haft, aft_cut hk⟩
    have HB : Hid (w1.heap[p]? = some (.cells #[.slice a l.length c, .bool tn] 144 (0, 0)) ∧ Holds w1 (.slice a' (l.length - n) c') (l.drop n) ∧ (l.drop n).length ≤ 100000 ∧ Holds w1 (.slice a2 n c2) (l.take n) ∧ (l.take n).length = n ∧ Bar p w w1) := ⟨blk, hh', by rw [List.length_drop]; omega, hh2, by simp; omega, bar1⟩
    obtain ⟨m, hm⟩ : ∃ z, l.length - n = z := ⟨_, rfl⟩
    rw [hm] at hs1 HB
    clear hh hh' hh2 blk hl hk haft hm hn bar1
    go_wp2
    go_ret
    refine ⟨_, l.take n, _, rfl, HB.out.2.2.2.1.bar (Bar.set _ _ _ _) HB.out.1, by rw [HB.out.2.2.2.2.1]; exact HN.out.1, ⟨_, _, _, rfl, LO2.out⟩, HN.out.2.1.bind HN.out.2.2, ?_, HB.out.2.2.2.2.2.trans (Bar.set _ _ _ _)⟩
    exact ⟨a', m, c', tn, l.drop n, heap_setCell_same _ _ _ _ _ _ HB.out.1, HB.out.2.1.bar (Bar.set _ _ _ _) HB.out.1, HB.out.2.2.1, rfl, LO1.out⟩
  · have hk' : (l.length : Int) < (n : Int) := by omega
    have HN : Hid (Aft s (numP 2) n (left tn l) ∧ Aft (left tn l) (headP n) [] none) := ⟨haft, aft_nocut hk⟩
    have HB : Hid (w1.heap[p]? = some (.cells #[.slice a l.length c, .bool tn] 144 (0, 0)) ∧ Holds w1 (.slice a l.length c) l ∧ l.length ≤ 100000 ∧ Bar p w w1) := ⟨blk, hh, hl, bar1⟩
    clear hh blk hl hk haft hn bar1
    go_wp2
    go_ret
    refine ⟨_, [], none, rfl, .inl ⟨rfl, rfl⟩, by simp, ⟨_, _, _, rfl, fun h => absurd h (by simp)⟩, HN.out.1.bind HN.out.2, ?_, HB.out.2.2.2.trans (Bar.set _ _ _ _)⟩
    exact ⟨a, _, c, true, l, heap_setCell_same _ _ _ _ _ _ HB.out.1, HB.out.2.1.bar (Bar.set _ _ _ _) HB.out.1, HB.out.2.2.1, rfl, LO.out⟩

theorem str_size (q : List UInt8) : (str q).size = q.length := by rw [← txt_length, txt_str]

set_option maxRecDepth 20000 in
theorem text_any (p : Nat) (s : Option (List UInt8)) (w : World) (ht : Tab w) (hr : Rd 144 w p s) :
    Calls Tryz.prog 118 #[.pointer (some ⟨p, 0, none⟩)] w (TextPost 144 p s w) := by
  have hN := piece_any p s w ht hr
  go_enter Tryz.func118, Tryz.ntmps118
  go_wp2_with fail
  refine hN.mono ?_
  rintro e w1 ⟨v, q, s1, rfl, hq, hql, hlo, haft, hr1, bar1⟩
  clear hlo
  clear hN
  have kx := run_string_of hq 78 9 5 Tryz.underlying78 Tryz.underlying5 Tryz.underlying9
  have HN : Hid (q.length < 65536 ∧ Aft s pieceP q s1 ∧ Rd 144 w1 p s1 ∧ Bar p w w1) := ⟨hql, haft, hr1, bar1⟩
  clear hq hql haft hr1 bar1
  go_wp2
  go_ret
  exact ⟨str q, s1, rfl, by rw [str_size]; exact HN.out.1, HN.out.2.1.out str, HN.out.2.2.1, HN.out.2.2.2⟩

theorem aft_one {n : Nat} {l : List UInt8} {tn : Bool} (h : n ≤ 1) : Aft (left tn l) (oneP n) (decide (n = 1)) (left tn l) := by
  unfold Aft oneP left
  cases tn
  · simp [h, pureP]
  · simp

theorem aft_noone {n : Nat} {l : List UInt8} {tn x : Bool} (h : ¬ n ≤ 1) : Aft (left tn l) (oneP n) x none := by
  unfold Aft oneP left
  cases tn
  · simp [h, noneP]
  · simp

end Go.Proofs.YtdbgojmjjkidbaaGreatDoor

/-
  Good, by its contract.
-/
namespace Go.Proofs.YtdbgojmjjkidbaaGreatDoor
open Go.RowKit


theorem lettersL_ascii {k : Int} {l : List UInt8} (h : lettersL k = some l) : ∀ c ∈ l, c.toNat < 128 := by
  unfold lettersL at h
  have st : ∀ (i : Int) (x : List UInt8) (o : Option (List UInt8)), (∀ c ∈ x, c.toNat < 128) → (if k = i then some x else o) = some l → (∀ c ∈ l, c.toNat < 128) ∨ o = some l := by
    intro i x o hx he
    by_cases hk : k = i
    · rw [if_pos hk] at he
      obtain rfl := Option.some.inj he
      exact .inl hx
    · rw [if_neg hk] at he
      exact .inr he
  rcases st _ _ _ (by decide) h with h | h
  · exact h
  rcases st _ _ _ (by decide) h with h | h
  · exact h
  rcases st _ _ _ (by decide) h with h | h
  · exact h
  rcases st _ _ _ (by decide) h with h | h
  · exact h
  rcases st _ _ _ (by decide) h with h | h
  · exact h
  rcases st _ _ _ (by decide) h with h | h
  · exact h
  rcases st _ _ _ (by decide) h with h | h
  · exact h
  rcases st _ _ _ (by decide) h with h | h
  · exact h
  rcases st _ _ _ (by decide) h with h | h
  · exact h
  rcases st _ _ _ (by decide) h with h | h
  · exact h
  rcases st _ _ _ (by decide) h with h | h
  · exact h
  rcases st _ _ _ (by decide) h with h | h
  · exact h
  exact absurd h (by simp)

theorem lettersS_txt {k : Int} {l : List UInt8} (h : lettersL k = some l) : txt (lettersS k) = l := by
  unfold lettersS
  rw [h]
  simp [txt]

/-- The cells of an act in a box. -/
theorem cells17 {w : World} {p : Nat} {t : TypeId} {a : Ax} (h : w.heap[p]? = some (.cells (xcells a).toArray t (0, 0))) : w.cell? ⟨p, 0, none⟩ = some (.int .i64 a.kind) ∧ w.cell? ⟨p, 1, none⟩ = some (.string a.name) ∧ w.cell? ⟨p, 2, none⟩ = some (.int .i64 a.n) ∧ w.cell? ⟨p, 3, none⟩ = some (.int .u64 a.tag) ∧ w.cell? ⟨p, 4, none⟩ = some (.int .i64 a.to) ∧ w.cell? ⟨p, 5, none⟩ = some (.string a.xn) ∧ w.cell? ⟨p, 6, none⟩ = some (.int .i64 a.xk) ∧ w.cell? ⟨p, 7, none⟩ = some (.bool a.xf) ∧ w.cell? ⟨p, 8, none⟩ = some (.string a.be) ∧ w.cell? ⟨p, 9, none⟩ = some (.string a.bq) ∧ w.cell? ⟨p, 10, none⟩ = some (.string a.bp) ∧ w.cell? ⟨p, 11, none⟩ = some (.int .i64 a.m.origin) ∧ w.cell? ⟨p, 12, none⟩ = some (.int .u64 a.m.seq) ∧ w.cell? ⟨p, 13, none⟩ = some (.int .i64 a.m.hop) ∧ w.cell? ⟨p, 14, none⟩ = some (.string a.m.ex) ∧ w.cell? ⟨p, 15, none⟩ = some (.string a.m.key) ∧ w.cell? ⟨p, 16, none⟩ = some (.string a.m.body) :=
  ⟨box_at h rfl, box_at h rfl, box_at h rfl, box_at h rfl, box_at h rfl, box_at h rfl, box_at h rfl, box_at h rfl, box_at h rfl, box_at h rfl, box_at h rfl, box_at h rfl, box_at h rfl, box_at h rfl, box_at h rfl, box_at h rfl, box_at h rfl⟩

theorem iterAt_other {w : World} {q : Nat} {s : ByteArray} {pos k : Nat} (hk : k ≠ q) : (w.iterAt q s pos).heap[k]? = w.heap[k]? := by
  unfold World.iterAt
  simp only
  rw [Array.getElem?_setIfInBounds_ne (fun e => hk e.symm)]

theorem iterAt_below {w0 w : World} {n q : Nat} {s : ByteArray} {pos : Nat} (hb : Below n w0 w) (hq : n ≤ q) : Below n w0 (w.iterAt q s pos) :=
  ⟨hb.os, hb.tape, hb.output, by simp [World.iterAt]; exact hb.size, fun k hk => (iterAt_other (by omega)).trans (hb.block k hk)⟩

end Go.Proofs.YtdbgojmjjkidbaaGreatDoor

/-
  A READER BESIDE BOXES: what is kept.
-/
namespace Go.Proofs.YtdbgojmjjkidbaaGreatDoor
open Go.RowKit


/-- Nothing but two blocks has changed of what was there. -/
structure Bar2 (p q : Nat) (w w' : World) : Prop where
  os : w'.os = w.os
  tape : w'.tape = w.tape
  output : w'.output = w.output
  size : w.heap.size ≤ w'.heap.size
  block : ∀ k, k < w.heap.size → k ≠ p → k ≠ q → w'.heap[k]? = w.heap[k]?

theorem Bar2.refl (p q : Nat) (w : World) : Bar2 p q w w := ⟨rfl, rfl, rfl, Nat.le_refl _, fun _ _ _ _ => rfl⟩

theorem Bar2.trans {p q : Nat} {a b c : World} (h : Bar2 p q a b) (k : Bar2 p q b c) : Bar2 p q a c :=
  ⟨k.os.trans h.os, k.tape.trans h.tape, k.output.trans h.output, Nat.le_trans h.size k.size, fun i hi hp hq => (k.block i (Nat.lt_of_lt_of_le hi h.size) hp hq).trans (h.block i hi hp hq)⟩

theorem Bar.two {p q : Nat} {w w' : World} (h : Bar p w w') : Bar2 p q w w' := ⟨h.os, h.tape, h.output, h.size, fun k hk hp _ => h.block k hk hp⟩

theorem Bar.two' {p q : Nat} {w w' : World} (h : Bar q w w') : Bar2 p q w w' := ⟨h.os, h.tape, h.output, h.size, fun k hk _ hq => h.block k hk hq⟩

theorem Bar2.set {p q : Nat} {w w' : World} (h : Bar2 p q w w') (j : Nat) (v : Value) : Bar2 p q w (w'.setCell ⟨q, j, none⟩ v) := h.trans (Bar.set q w' j v).two'

/-- A box that is new: what is done to it is no matter. -/
theorem Bar2.one {p q : Nat} {w w' : World} (h : Bar2 p q w w') (hq : w.heap.size ≤ q) : Bar p w w' := ⟨h.os, h.tape, h.output, h.size, fun k hk hp => h.block k hk hp (by omega)⟩

theorem Bar.setNew {p g : Nat} {w w' : World} (h : Bar p w w') (hg : w.heap.size ≤ g) (j : Nat) (v : Value) : Bar p w (w'.setCell ⟨g, j, none⟩ v) := by
  have b := Bar.set g w' j v
  exact ⟨b.os.trans h.os, b.tape.trans h.tape, b.output.trans h.output, Nat.le_trans h.size b.size, fun k hk hp => (b.block k (Nat.lt_of_lt_of_le hk h.size) (by omega)).trans (h.block k hk hp)⟩

theorem Bar.alloc {p : Nat} {w w' : World} (h : Bar p w w') (o : Obj) : Bar p w (w'.alloc o) := h.trans (Bar.of (box_below w' o))

theorem Bar.from {p : Nat} {w w' w'' : World} (h : Below w.heap.size w w') (k : Bar p w' w'') : Bar p w w'' := (Bar.of h).trans k

/-- Cells that hold no byte. -/
def NoBytes (C : List Value) : Prop := ∀ v ∈ C, ∀ x, v ≠ .int .u8 x

theorem noBytes_act (z : Ax) : NoBytes (xcells z) := by
  intro v hv x e
  subst e
  simp [xcells] at hv

theorem bytes_apart {w : World} {g : Nat} {C : List Value} {t : TypeId} {A : Addr} {x : Int} (h : w.heap[g]? = some (.cells C.toArray t (0, 0))) (hC : NoBytes C) (hc : w.cell? A = some (.int .u8 x)) : A.block ≠ g := by
  intro e
  obtain ⟨b, j, sp⟩ := A
  obtain rfl : b = g := e
  obtain rfl : sp = none := by simpa using World.cell?_spot hc
  simp only [World.cell?] at hc
  rw [h] at hc
  have hj : C[j]? = some (.int .u8 x) := by simpa using hc
  exact hC _ (List.mem_of_getElem? hj) x rfl

theorem Holds.only {g : Nat} {w U : World} {v : Value} {bs : List UInt8} {C : List Value} {t : TypeId} (h : Holds w v bs) (hg : w.heap[g]? = some (.cells C.toArray t (0, 0))) (hC : NoBytes C) (hU : ∀ k, k < w.heap.size → k ≠ g → U.heap[k]? = w.heap[k]?) : Holds U v bs := by
  rcases h with h | ⟨a, cap, hv, h1, h2, h3⟩
  · exact .inl h
  · refine .inr ⟨a, cap, hv, h1, h2, fun j u hj => ?_⟩
    have hc := h3 j u hj
    obtain ⟨x, rfl⟩ : ∃ x, u = .int .u8 x := by
      simp only [bcells, List.getElem?_map, Option.map_eq_some_iff] at hj
      obtain ⟨b, _, rfl⟩ := hj
      exact ⟨_, rfl⟩
    rw [World.cell?_of_block (w := w) (a := a.add j) (hU _ (World.block_lt_of_cell? w _ hc) (bytes_apart hg hC hc))]
    exact hc

/-- A reader stays as it is, if nothing but another box is changed. -/
theorem Rd.only {T : TypeId} {g p : Nat} {w U : World} {s : Option (List UInt8)} {C : List Value} {t : TypeId} (h : Rd T w p s) (hg : w.heap[g]? = some (.cells C.toArray t (0, 0))) (hC : NoBytes C) (hne : p ≠ g) (hU : ∀ k, k < w.heap.size → k ≠ g → U.heap[k]? = w.heap[k]?) : Rd T U p s := by
  have hl := h.lt
  obtain ⟨a, n, c, tn, l, blk, hh, hs⟩ := h
  exact ⟨a, n, c, tn, l, (hU p hl hne).trans blk, hh.only hg hC hU, hs⟩

theorem Rd.set {T : TypeId} {g p : Nat} {w : World} {s : Option (List UInt8)} {C : List Value} {t : TypeId} (h : Rd T w p s) (hg : w.heap[g]? = some (.cells C.toArray t (0, 0))) (hC : NoBytes C) (hne : p ≠ g) (j : Nat) (v : Value) : Rd T (w.setCell ⟨g, j, none⟩ v) p s :=
  h.only hg hC hne fun _ _ hk => Below.heap_setCell _ _ _ _ hk

theorem Tab.two {T : TypeId} {p q : Nat} {w w' : World} {s : Option (List UInt8)} (h : Tab w) (hr : Rd T w p s) (hb : Bar2 p q w w') (hq : 1 ≠ q) : Tab w' := by
  intro j u hj
  have hc := h j u hj
  have h0 := h 0 (.int .i64 1) rfl
  exact (World.cell?_of_block (w := w) (a := ⟨1, j, none⟩) (hb.block _ (World.block_lt_of_cell? w _ hc) (hr.apart h0) hq)).trans hc

/-- A box beside a reader. -/
theorem Bar.box {p g : Nat} {w w' : World} {C : List Value} {t : TypeId} (h : Bar p w w') (hg : w.heap[g]? = some (.cells C.toArray t (0, 0))) (hne : g ≠ p) : w'.heap[g]? = some (.cells C.toArray t (0, 0)) :=
  (h.block g (Array.getElem?_eq_some_iff.1 hg).1 hne).trans hg

/-- How what reads a message ends. -/
def MsgPost (T : TypeId) (p : Nat) (s : Option (List UInt8)) (w : World) (e : Ending) (w' : World) : Prop :=
  ∃ (m : Ms) (s' : Option (List UInt8)), e = .returned (mv m) ∧ m.Fits ∧ Aft s msgP m s' ∧ Rd T w' p s' ∧ Bar p w w'

theorem wrap_num {n k : Nat} (h : n < 256 ^ k) (hk : k ≤ 2) : IntKind.i64.wrap (n : Int) = (n : Int) := by
  have : n < 65536 := Nat.lt_of_lt_of_le h (Nat.pow_le_pow_right (by decide) hk)
  rw [IntKind.wrap_i64]
  omega

theorem num_le {n k : Nat} (h : n < 256 ^ k) (hk : k ≤ 2) : n < 65536 := Nat.lt_of_lt_of_le h (Nat.pow_le_pow_right (by decide) hk)

theorem short_max {t : ByteArray} (h : t.size < 65536) : t.size ≤ maxLen := by unfold maxLen; omega

end Go.Proofs.YtdbgojmjjkidbaaGreatDoor
