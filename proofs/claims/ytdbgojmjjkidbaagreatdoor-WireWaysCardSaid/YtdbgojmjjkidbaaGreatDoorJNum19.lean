/-
  A READER OF TWO BOXES: what is left, and whether it is torn; unpacked's closure 'number', by its contract.
-/
import Derived.Test.YtdbgojmjjkidbaaGreatDoorJGood19
import Derived.Test.YtdbgojmjjkidbaaGreatDoorJTakes13
import Derived.BigRegion
import Derived.Deep.RegionHeld3
import Derived.Laws.EntriesVeiled
namespace Go.Proofs.YtdbgojmjjkidbaaGreatDoor
open Go.RowKit


/-- A reader: its bytes in the box A, its flag in the box B. -/
def R2 (w : World) (A B : Nat) (s : Option (List UInt8)) : Prop :=
  ∃ a n c tn l, w.heap[A]? = some (.cells [.slice a n c].toArray 78 (0, 0)) ∧ w.heap[B]? = some (.cells [.bool tn].toArray 4 (0, 0)) ∧ Holds w (.slice a n c) l ∧ l.length ≤ 100000 ∧ s = left tn l

theorem noInts_slice {a : Option Addr} {n c : Nat} : ∀ v ∈ [Value.slice a n c], ∀ k x, v ≠ .int k x := fun v hv k x e => by
  subst e; simp at hv

theorem noInts_bool {b : Bool} : ∀ v ∈ [Value.bool b], ∀ k x, v ≠ .int k x := fun v hv k x e => by
  subst e; simp at hv

theorem ints_apart {w : World} {g : Nat} {C : List Value} {t : TypeId} {D : Addr} {k : IntKind} {x : Int} (h : w.heap[g]? = some (.cells C.toArray t (0, 0))) (hC : ∀ v ∈ C, ∀ k x, v ≠ .int k x) (hc : w.cell? D = some (.int k x)) : D.block ≠ g := by
  intro e
  obtain ⟨b, j, sp⟩ := D
  obtain rfl : b = g := e
  obtain rfl : sp = none := by simpa using World.cell?_spot hc
  simp only [World.cell?] at hc
  rw [h] at hc
  have hj : C[j]? = some (.int k x) := by simpa using hc
  exact hC _ (List.mem_of_getElem? hj) k x rfl

theorem Holds.bar2 {A B : Nat} {w w' : World} {v : Value} {bs : List UInt8} (h : Holds w v bs) (hb : Bar2 A B w w') {C D : List Value} {t u : TypeId} (hA : w.heap[A]? = some (.cells C.toArray t (0, 0))) (hB : w.heap[B]? = some (.cells D.toArray u (0, 0))) (hC : ∀ v ∈ C, ∀ k x, v ≠ .int k x) (hD : ∀ v ∈ D, ∀ k x, v ≠ .int k x) : Holds w' v bs := by
  rcases h with h | ⟨a, cap, hv, h1, h2, h3⟩
  · exact .inl h
  · refine .inr ⟨a, cap, hv, h1, h2, fun j u hj => ?_⟩
    have hc := h3 j u hj
    have hlt := World.block_lt_of_cell? w _ hc
    obtain ⟨k, x, rfl⟩ : ∃ k x, u = .int k x := by
      simp only [bcells, List.getElem?_map, Option.map_eq_some_iff] at hj
      obtain ⟨b, _, rfl⟩ := hj
      exact ⟨_, _, rfl⟩
    rw [World.cell?_of_block (w := w) (a := a.add j) (hb.block _ hlt (ints_apart hA hC hc) (ints_apart hB hD hc))]
    exact hc

theorem R2.kept {w w' : World} {A B : Nat} {s : Option (List UInt8)} (h : R2 w A B s) (hb : Below w.heap.size w w') : R2 w' A B s := by
  obtain ⟨a, n, c, tn, l, hA, hB, hh, hl, hs⟩ := h
  exact ⟨a, n, c, tn, l, (hb.block A (Array.getElem?_eq_some_iff.1 hA).1).trans hA, (hb.block B (Array.getElem?_eq_some_iff.1 hB).1).trans hB, hh.below hb (Nat.le_refl _), hl, hs⟩

theorem Tab.r2 {w w' : World} {A B : Nat} {s : Option (List UInt8)} (h : Tab w) (hr : R2 w A B s) (hb : Bar2 A B w w') : Tab w' := by
  obtain ⟨a, n, c, tn, l, hA, hB, _⟩ := hr
  intro j u hj
  have hc := h j u hj
  have h0 := h 0 (.int .i64 1) rfl
  exact (World.cell?_of_block (w := w) (a := ⟨1, j, none⟩) (hb.block _ (World.block_lt_of_cell? w _ hc) (ints_apart (D := ⟨1, 0, none⟩) hA noInts_slice h0) (ints_apart (D := ⟨1, 0, none⟩) hB noInts_bool h0))).trans hc

theorem R2.ne {w : World} {A B : Nat} {s : Option (List UInt8)} (h : R2 w A B s) : A ≠ B := by
  obtain ⟨a, n, c, tn, l, hA, hB, _⟩ := h
  intro e
  rw [e, hB] at hA
  simp at hA

theorem Bar2.setA {A B : Nat} {w : World} (j : Nat) (v : Value) : Bar2 A B w (w.setCell ⟨A, j, none⟩ v) := (Bar.set A w j v).two

theorem Bar2.setB {A B : Nat} {w : World} (j : Nat) (v : Value) : Bar2 A B w (w.setCell ⟨B, j, none⟩ v) := (Bar.set B w j v).two'

def Num2Post (A B k : Nat) (s : Option (List UInt8)) (w : World) (e : Ending) (w' : World) : Prop :=
  ∃ (n : Nat) (s' : Option (List UInt8)), e = .returned (.int .u64 (n : Int)) ∧ n < 256 ^ k ∧ Aft s (numP k) n s' ∧ R2 w' A B s' ∧ Bar2 A B w w'

set_option maxRecDepth 20000 in
theorem number_any (A B k : Nat) (s : Option (List UInt8)) (w : World) (ht : Tab w) (hg : goodB k = true) (h8 : k ≤ 8) (hr : R2 w A B s) :
    Calls Tryz.prog 88 #[.int .i64 (k : Int), .pointer (some ⟨A, 0, none⟩), .pointer (some ⟨B, 0, none⟩)] w (Num2Post A B k s w) := by
  have hne := hr.ne
  obtain ⟨a, n, c, tn, l, hA, hB, hh, hl, rfl⟩ := hr
  have c0 : w.cell? ⟨A, 0, none⟩ = some (.slice a n c) := box_at hA rfl
  have f0 := box_free hA 0
  have c1 : w.cell? ⟨B, 0, none⟩ = some (.bool tn) := box_at hB rfl
  have f1 := box_free hB 0
  obtain rfl : n = l.length := by obtain ⟨_, _, hv⟩ := hh.slice; injection hv
  have hne2 : ¬ B = A := fun e => hne e.symm
  by_cases hk : k ≤ l.length
  · have hG := get_good _ l k w ht hh hg hk
    obtain ⟨a', c', hs1, hh', _⟩ := holds_from hh k hk (k : Int) rfl
    have HN : Hid (getN (l.take k) < 256 ^ k ∧ Aft (left tn l) (numP k) (getN (l.take k)) (left tn (l.drop k))) := ⟨getN_lt l k hk, aft_num hk⟩
    have HB : Hid (w.heap[A]? = some (.cells [.slice a l.length c].toArray 78 (0, 0)) ∧ w.heap[B]? = some (.cells [.bool tn].toArray 4 (0, 0)) ∧ Holds w (.slice a' (l.length - k) c') (l.drop k) ∧ (l.drop k).length ≤ 100000) := ⟨hA, hB, hh', by rw [List.length_drop]; omega⟩
    obtain ⟨m, hm⟩ : ∃ z, l.length - k = z := ⟨_, rfl⟩
    rw [hm] at hs1 HB
    obtain ⟨x, hx⟩ : ∃ z, getN (l.take k) = z := ⟨_, rfl⟩
    rw [hx] at hG HN
    clear hh hh' hA hB hl hk hg ht hm hx
    go_enter Tryz.func88, Tryz.ntmps88
    go_wp2_with fail
    refine hG.mono ?_
    rintro e w ⟨rfl, rfl⟩
    clear hG
    go_wp2
    go_ret
    refine ⟨x, _, rfl, HN.out.1, HN.out.2, ?_, Bar2.setA _ _⟩
    exact ⟨a', m, c', tn, l.drop k, set_list HB.out.1 _, (Below.heap_setCell _ _ _ _ hne2).trans HB.out.2.1, HB.out.2.2.1.bar2 (Bar2.setA _ _) HB.out.1 HB.out.2.1 noInts_slice noInts_bool, HB.out.2.2.2, rfl⟩
  · have hG := get_bad _ l (k : Int) w ht hh (by unfold getB; rw [hg]; simp; omega)
    have HN : Hid (Aft (left tn l) (numP k) 0 none) := aft_nonum hk
    have HB : Hid (w.heap[A]? = some (.cells [.slice a l.length c].toArray 78 (0, 0)) ∧ w.heap[B]? = some (.cells [.bool tn].toArray 4 (0, 0)) ∧ Holds w (.slice a l.length c) l ∧ l.length ≤ 100000) := ⟨hA, hB, hh, hl⟩
    clear hh hA hB hl hk hg ht
    go_enter Tryz.func88, Tryz.ntmps88
    go_wp2_with fail
    refine hG.mono ?_
    rintro e w ⟨rfl, rfl⟩
    clear hG
    go_wp2
    go_ret
    refine ⟨0, none, rfl, Nat.pow_pos (by decide), HN.out, ?_, Bar2.setB _ _⟩
    exact ⟨a, _, c, true, l, (Below.heap_setCell _ _ _ _ hne).trans HB.out.1, set_list HB.out.2.1 _, HB.out.2.2.1.bar2 (Bar2.setB _ _) HB.out.1 HB.out.2.1 noInts_slice noInts_bool, HB.out.2.2.2, rfl⟩

end Go.Proofs.YtdbgojmjjkidbaaGreatDoor

/-
  unpacked's closure 'rest', by its contract.
-/
namespace Go.Proofs.YtdbgojmjjkidbaaGreatDoor
open Go.RowKit


/-- What a reader in state s makes by P of a packet that ends the bytes. -/
def outP (s : Option (List UInt8)) (P : Prs Pk) : Option Pk := match s.bind P with
  | some (p, []) => if goodP p = true then some p else none
  | _ => none

theorem outP_none (P : Prs Pk) : outP none P = none := rfl

theorem readC_out (c : List UInt8) : readC c = outP (some c) pakP := rfl

theorem outP_bind {α : Type} {s s' : Option (List UInt8)} {P : Prs α} {Q : α → Prs Pk} {x : α} (h : Aft s P x s') : outP s (bindP P Q) = outP s' (Q x) := by
  unfold Aft at h
  cases s with
  | none =>
    simp only [Option.bind_none] at h
    subst h
    rfl
  | some l =>
    simp only [Option.bind_some] at h
    cases hp : P l with
    | none =>
      rw [hp] at h
      simp only at h
      subst h
      unfold outP bindP
      simp [hp]
    | some r =>
      rw [hp] at h
      obtain ⟨rfl, rfl⟩ := h
      unfold outP bindP
      simp [hp]

theorem outP_pure (s : Option (List UInt8)) (p : Pk) : outP s (pureP p) = if (decide (s = some []) && goodP p) = true then some p else none := by
  cases s with
  | none => rfl
  | some l =>
    cases l with
    | nil => simp [outP, pureP]
    | cons x l => simp [outP, pureP]

theorem noBytes_pk (p : Pk) : NoBytes (pcells p) := by
  intro v hv x e
  subst e
  simp [pcells] at hv

theorem R2.only {g A B : Nat} {w U : World} {s : Option (List UInt8)} {C : List Value} {t : TypeId} (h : R2 w A B s) (hg : w.heap[g]? = some (.cells C.toArray t (0, 0))) (hC : NoBytes C) (h1 : A ≠ g) (h2 : B ≠ g) (hU : ∀ k, k < w.heap.size → k ≠ g → U.heap[k]? = w.heap[k]?) : R2 U A B s := by
  obtain ⟨a, n, c, tn, l, hA, hB, hh, hl, hs⟩ := h
  exact ⟨a, n, c, tn, l, (hU A (Array.getElem?_eq_some_iff.1 hA).1 h1).trans hA, (hU B (Array.getElem?_eq_some_iff.1 hB).1 h2).trans hB, hh.only hg hC hU, hl, hs⟩

theorem Bar2.below {p q n : Nat} {w0 w w' : World} (h : Bar2 p q w w') (h0 : Below n w0 w) (hp : n ≤ p) (hq : n ≤ q) (hs : n ≤ w.heap.size) : Below n w0 w' :=
  h0.trans ⟨h.os, h.tape, h.output, h.size, fun k hk => h.block k (by omega) (by omega) (by omega)⟩

abbrev fnV (A B : Nat) : Value := .func (.func 88) #[] #[.pointer (some ⟨A, 0, none⟩), .pointer (some ⟨B, 0, none⟩)]

/-- Nothing but three blocks has changed of what was there. -/
structure Bar3 (p q r : Nat) (w w' : World) : Prop where
  os : w'.os = w.os
  tape : w'.tape = w.tape
  output : w'.output = w.output
  size : w.heap.size ≤ w'.heap.size
  block : ∀ k, k < w.heap.size → k ≠ p → k ≠ q → k ≠ r → w'.heap[k]? = w.heap[k]?

theorem Bar3.trans {p q r : Nat} {a b c : World} (h : Bar3 p q r a b) (k : Bar3 p q r b c) : Bar3 p q r a c :=
  ⟨k.os.trans h.os, k.tape.trans h.tape, k.output.trans h.output, Nat.le_trans h.size k.size, fun i hi hp hq hr => (k.block i (Nat.lt_of_lt_of_le hi h.size) hp hq hr).trans (h.block i hi hp hq hr)⟩

theorem Bar2.three {p q r : Nat} {w w' : World} (h : Bar2 p q w w') : Bar3 p q r w w' := ⟨h.os, h.tape, h.output, h.size, fun k hk hp hq _ => h.block k hk hp hq⟩

theorem Bar3.of {p q r : Nat} {w w' : World} (h : Below w.heap.size w w') : Bar3 p q r w w' := ⟨h.os, h.tape, h.output, h.size, fun k hk _ _ _ => h.block k hk⟩

theorem Bar3.setP {p q r : Nat} {w : World} (j : Nat) (v : Value) : Bar3 p q r w (w.setCell ⟨r, j, none⟩ v) := by
  have b := Bar.set r w j v
  exact ⟨b.os, b.tape, b.output, b.size, fun k hk _ _ hr => b.block k hk hr⟩

theorem Bar3.below {p q r n : Nat} {w0 w w' : World} (h : Bar3 p q r w w') (h0 : Below n w0 w) (hp : n ≤ p) (hq : n ≤ q) (hr : n ≤ r) (hs : n ≤ w.heap.size) : Below n w0 w' :=
  h0.trans ⟨h.os, h.tape, h.output, h.size, fun k hk => h.block k (by omega) (by omega) (by omega) (by omega)⟩

theorem info1f : (Tryz.prog.info? 116).map (·.size) = some 1 := by kernel_rfl

/-- A reader beside the box of a packet and that of the closure. -/
structure Rs (w0 U : World) (P F A B : Nat) (p : Pk) (s : Option (List UInt8)) : Prop where
  tab : Tab U
  r : R2 U A B s
  hP : U.heap[P]? = some (.cells (pcells p).toArray 35 (0, 0))
  hF : U.heap[F]? = some (.cells [fnV A B].toArray 116 (0, 0))
  bar : Bar3 A B P w0 U
  AP : A ≠ P
  BP : B ≠ P
  FA : F ≠ A
  FB : F ≠ B
  FP : F ≠ P
  TP : 1 ≠ P

theorem Rs.go {w0 U V : World} {P F A B : Nat} {p : Pk} {s s' : Option (List UInt8)} (h : Rs w0 U P F A B p s) (hr : R2 V A B s') (hb : Bar2 A B U V) : Rs w0 V P F A B p s' :=
  ⟨h.tab.r2 h.r hb, hr, (hb.block P (Array.getElem?_eq_some_iff.1 h.hP).1 (Ne.symm h.AP) (Ne.symm h.BP)).trans h.hP, (hb.block F (Array.getElem?_eq_some_iff.1 h.hF).1 h.FA h.FB).trans h.hF, h.bar.trans hb.three, h.AP, h.BP, h.FA, h.FB, h.FP, h.TP⟩

theorem Rs.kept {w0 U V : World} {P F A B : Nat} {p : Pk} {s : Option (List UInt8)} (h : Rs w0 U P F A B p s) (hb : Below U.heap.size U V) : Rs w0 V P F A B p s :=
  ⟨h.tab.below hb h.tab.pos, h.r.kept hb, (hb.block P (Array.getElem?_eq_some_iff.1 h.hP).1).trans h.hP, (hb.block F (Array.getElem?_eq_some_iff.1 h.hF).1).trans h.hF, h.bar.trans (Bar3.of hb), h.AP, h.BP, h.FA, h.FB, h.FP, h.TP⟩

theorem Rs.set {w0 U : World} {P F A B : Nat} {p p' : Pk} {s : Option (List UInt8)} (h : Rs w0 U P F A B p s) (j : Nat) (v : Value) (hz : (pcells p).set j v = pcells p') : Rs w0 (U.setCell ⟨P, j, none⟩ v) P F A B p' s := by
  have hU : ∀ k, k < U.heap.size → k ≠ P → (U.setCell ⟨P, j, none⟩ v).heap[k]? = U.heap[k]? := fun _ _ hk => Below.heap_setCell _ _ _ _ hk
  refine ⟨fun i u hi => ?_, h.r.only h.hP (noBytes_pk p) h.AP h.BP hU, by rw [← hz]; exact set_list h.hP v, (Below.heap_setCell _ _ _ _ h.FP).trans h.hF, h.bar.trans (Bar3.setP j v), h.AP, h.BP, h.FA, h.FB, h.FP, h.TP⟩
  have hc := h.tab i u hi
  exact (World.cell?_of_block (w := U) (a := ⟨1, i, none⟩) (hU _ (World.block_lt_of_cell? U _ hc) h.TP)).trans hc

theorem Rs.msg {w0 U : World} {P F A B : Nat} {p : Pk} {s : Option (List UInt8)} (h : Rs w0 U P F A B p s) (m : Ms) : Rs w0 ((((((U.setCell ⟨P, 6, none⟩ (.int .i64 m.origin)).setCell ⟨P, 7, none⟩ (.int .u64 m.seq)).setCell ⟨P, 8, none⟩ (.int .i64 m.hop)).setCell ⟨P, 9, none⟩ (.string m.ex)).setCell ⟨P, 10, none⟩ (.string m.key)).setCell ⟨P, 11, none⟩ (.string m.body)) P F A B { p with m := m } s :=
  (((((h.set (p' := { p with m := { p.m with origin := m.origin } }) 6 (.int .i64 m.origin) rfl).set (p' := { p with m := { p.m with origin := m.origin, seq := m.seq } }) 7 (.int .u64 m.seq) rfl).set (p' := { p with m := { p.m with origin := m.origin, seq := m.seq, hop := m.hop } }) 8 (.int .i64 m.hop) rfl).set (p' := { p with m := { p.m with origin := m.origin, seq := m.seq, hop := m.hop, ex := m.ex } }) 9 (.string m.ex) rfl).set (p' := { p with m := { p.m with origin := m.origin, seq := m.seq, hop := m.hop, ex := m.ex, key := m.key } }) 10 (.string m.key) rfl).set (p' := { p with m := m }) 11 (.string m.body) rfl

theorem msg_other {U : World} {P k : Nat} (m : Ms) (hk : k ≠ P) : ((((((U.setCell ⟨P, 6, none⟩ (.int .i64 m.origin)).setCell ⟨P, 7, none⟩ (.int .u64 m.seq)).setCell ⟨P, 8, none⟩ (.int .i64 m.hop)).setCell ⟨P, 9, none⟩ (.string m.ex)).setCell ⟨P, 10, none⟩ (.string m.key)).setCell ⟨P, 11, none⟩ (.string m.body)).heap[k]? = U.heap[k]? := by
  rw [Below.heap_setCell _ _ _ _ hk, Below.heap_setCell _ _ _ _ hk, Below.heap_setCell _ _ _ _ hk, Below.heap_setCell _ _ _ _ hk, Below.heap_setCell _ _ _ _ hk, Below.heap_setCell _ _ _ _ hk]

/-- What is left, cut from n on. -/
theorem Rs.cut {w0 U : World} {P F A B : Nat} {p : Pk} {a : Option Addr} {c a' : _} {N : Nat} {c' : Nat} {tn : Bool} {l : List UInt8} (h : Rs w0 U P F A B p (left tn l)) (hA : U.heap[A]? = some (.cells [.slice a l.length c].toArray 78 (0, 0))) (hB : U.heap[B]? = some (.cells [.bool tn].toArray 4 (0, 0))) (hl : l.length ≤ 100000) (hh : Holds U (.slice a' (l.length - N) c') (l.drop N)) :
    Rs w0 (U.setCell ⟨A, 0, none⟩ (.slice a' (l.length - N) c')) P F A B p (left tn (l.drop N)) := by
  have hne := h.r.ne
  exact h.go ⟨a', l.length - N, c', tn, l.drop N, set_list hA _, (Below.heap_setCell _ _ _ _ (Ne.symm hne)).trans hB, hh.bar2 (Bar2.setA 0 _) hA hB noInts_slice noInts_bool, by rw [List.length_drop]; omega, rfl⟩ (Bar2.setA 0 _)

theorem zM_fits19' : zM.Fits := ⟨⟨by decide, by decide⟩, ⟨by decide, by decide⟩, ⟨by decide, by decide⟩, by decide, by decide, by decide⟩

theorem msgP_seq {l r : List UInt8} {m : Ms} (h : msgP l = some (m, r)) : 0 ≤ m.seq ∧ m.seq < 18446744073709551616 := by
  simp only [msgP, bindP, Option.bind_eq_some_iff, Prod.exists] at h
  obtain ⟨o, l1, _, q, l2, h2, _, _, _, _, _, _, _, _, _, _, _, _, h6⟩ := h
  have hq : q < 256 ^ 8 := by
    unfold numP at h2
    split at h2
    · rename_i hk
      simp only [Option.some.injEq, Prod.mk.injEq] at h2
      rw [← h2.1]
      exact getN_lt l1 8 hk
    · exact absurd h2 (by simp)
  simp only [pureP, Option.some.injEq, Prod.mk.injEq] at h6
  rw [← h6.1]
  exact ⟨by show (0 : Int) ≤ (q : Int); omega, by show (q : Int) < _; omega⟩

theorem readM_some {l : List UInt8} {m : Ms} {n : Nat} (h : readM l = some (m, n)) : ∃ r, msgP l = some (m, r) ∧ goodM m = true ∧ n = l.length - r.length ∧ r.length ≤ l.length := by
  unfold readM at h
  cases hp : msgP l with
  | none => rw [hp] at h; exact absurd h (by simp)
  | some x =>
    obtain ⟨m', r⟩ := x
    rw [hp] at h
    simp only at h
    split at h
    · rename_i hg
      simp only [Option.some.injEq, Prod.mk.injEq] at h
      obtain ⟨rfl, rfl⟩ := h
      exact ⟨r, rfl, hg, rfl, shr_msg _ _ _ hp⟩
    · exact absurd h (by simp)

theorem readM_fits (l : List UInt8) : (msgOf (readM l)).Fits ∧ sizeOf' (readM l) ≤ l.length := by
  cases h : readM l with
  | none => exact ⟨zM_fits19', Nat.zero_le _⟩
  | some x =>
    obtain ⟨m, n⟩ := x
    obtain ⟨r, h1, h2, h3, h4⟩ := readM_some h
    obtain ⟨g1, g2, g3, g4, g5, g6⟩ := goodM_tells h2
    have hs := msgP_seq h1
    refine ⟨⟨?_, hs, ?_, ?_, ?_, ?_⟩, ?_⟩
    · show -9223372036854775808 ≤ m.origin ∧ m.origin < _; omega
    · show -9223372036854775808 ≤ m.hop ∧ m.hop < _; omega
    · show m.ex.size ≤ maxLen; unfold maxLen; omega
    · show m.key.size ≤ maxLen; unfold maxLen; omega
    · show m.body.size ≤ maxLen; unfold maxLen; omega
    · show n ≤ l.length; omega

theorem zM_bad : goodM zM = false := by decide

/-- What is told of a data packet behind its number. -/
theorem data_out (l : List UInt8) (p : Ms → Pk) (hp : ∀ m, goodM m = false → goodP (p m) = false) :
    outP (some l) (bindP msgP fun m => pureP (p m)) = if (decide (l.drop (sizeOf' (readM l)) = []) && goodP (p (msgOf (readM l)))) = true then some (p (msgOf (readM l))) else none := by
  cases h : readM l with
  | none =>
    have h0 : goodP (p (msgOf none)) = false := hp _ zM_bad
    rw [h0, Bool.and_false]
    unfold outP bindP
    simp only [Option.bind_some]
    cases hm : msgP l with
    | none => rfl
    | some x =>
      obtain ⟨m, r⟩ := x
      have hg : goodM m = false := by
        cases hg : goodM m with
        | false => rfl
        | true => exact absurd h (by unfold readM; rw [hm]; simp [hg])
      cases r with
      | nil => simp [pureP, hp m hg]
      | cons y r => simp [pureP]
  | some x =>
    obtain ⟨m, n⟩ := x
    obtain ⟨r, h1, h2, h3, h4⟩ := readM_some h
    show outP (some l) _ = if (decide (l.drop n = []) && goodP (p m)) = true then some (p m) else none
    have hd : decide (l.drop n = []) = decide (r = []) := by
      have e : (l.drop n).length = r.length := by rw [List.length_drop]; omega
      congr 1
      refine propext ⟨fun hh => ?_, fun hh => ?_⟩
      · exact List.eq_nil_of_length_eq_zero (by rw [← e, hh]; rfl)
      · exact List.eq_nil_of_length_eq_zero (by rw [e, hh]; rfl)
    rw [hd]
    unfold outP bindP
    simp only [Option.bind_some, h1]
    cases r with
    | nil => simp [pureP]
    | cons y r => simp [pureP]

def RestPost (w0 : World) (P F A B : Nat) (k f d e : Nat) (s : Option (List UInt8)) (x : Ending) (U : World) : Prop :=
  ∃ (p' : Pk) (wh : Bool) (s' : Option (List UInt8)), x = .returned (.bool wh) ∧ Rs w0 U P F A B p' s' ∧ p'.Fits ∧ (if (wh && goodP p') = true then some p' else none) = outP s (restP k f d e)

theorem zM_fits19 : zM.Fits := ⟨⟨by decide, by decide⟩, ⟨by decide, by decide⟩, ⟨by decide, by decide⟩, by decide, by decide, by decide⟩

theorem zP_fits {k f d e : Nat} (hk : k < 256) (hf : f < 256) (hd : d < 256) (he : e < 18446744073709551616) : (zP k f d e).Fits :=
  ⟨⟨by show _ ≤ (k : Int); omega, by show (k : Int) < _; omega⟩, ⟨by show _ ≤ (f : Int); omega, by show (f : Int) < _; omega⟩, ⟨by show _ ≤ (d : Int); omega, by show (d : Int) < _; omega⟩, ⟨by show _ ≤ (e : Int); omega, by show (e : Int) < _; omega⟩, ⟨by show (0 : Int) ≤ 0; omega, by show (0 : Int) < _; omega⟩, ⟨by show (0 : Int) ≤ 0; omega, by show (0 : Int) < _; omega⟩, zM_fits19⟩

theorem wrap16 {n : Nat} (h : n < 65536) : IntKind.u16.wrap (n : Int) = (n : Int) := by rw [IntKind.wrap_u16]; omega

set_option maxRecDepth 20000 in
set_option maxHeartbeats 4000000 in
theorem rest_any (w0 U : World) (P F A B k f d e : Nat) (s : Option (List UInt8)) (hk : k < 256) (hf : f < 256) (hd : d < 256) (he : e < 18446744073709551616) (h : Rs w0 U P F A B (zP k f d e) s) :
    Calls Tryz.prog 89 #[.pointer (some ⟨P, 0, none⟩), .pointer (some ⟨F, 0, none⟩), .pointer (some ⟨A, 0, none⟩), .pointer (some ⟨B, 0, none⟩)] U (RestPost w0 P F A B k f d e s) := by
  have HF : Hid (zP k f d e).Fits := zP_fits hk hf hd he
  have H : Hid (Rs w0 U P F A B (zP k f d e) s) := h
  clear h hf hd he hk
  have y0 : U.cell? ⟨P, 0, none⟩ = some (.int .i64 (k : Int)) := box_at H.out.hP rfl
  by_cases h3 : k = 3
  · have q3 : ((k : Int) == 3) = true := by rw [h3]; rfl
    have HR : Hid (restP k f d e = (bindP (numP 2) fun n => bindP msgP fun m => pureP ⟨k, f, d, e, n, 0, m⟩) ∧ k = 3) := ⟨by unfold restP; rw [if_pos h3], h3⟩
    clear h3
    have cF : U.cell? ⟨F, 0, none⟩ = some (fnV A B) := box_at H.out.hF rfl
    have hN := number_any A B 2 s U H.out.tab rfl (by decide) H.out.r
    go_enter Tryz.func89, Tryz.ntmps89
    go_wp2_with fail
    refine hN.mono ?_
    rintro x u1 ⟨n1, s1, rfl, l1, a1, r1, b1⟩
    have H1 : Hid (Rs w0 u1 P F A B (zP k f d e) s1) := H.out.go r1 b1
    have HA1 : Hid (Aft s (numP 2) n1 s1 ∧ n1 < 65536) := ⟨a1, l1⟩
    have wr := wrap16 (n := n1) l1
    clear hN l1 a1 r1 b1 y0 cF
    have y4 : u1.cell? ⟨P, 4, none⟩ = some (.int .u16 0) := box_at H1.out.hP rfl
    have f4 := box_free H1.out.hP 4
    obtain ⟨u2, hu2⟩ : ∃ X, u1.setCell ⟨P, 4, none⟩ (.int .u16 (n1 : Int)) = X := ⟨_, rfl⟩
    have H2 : Hid (Rs w0 u2 P F A B { zP k f d e with num := (n1 : Int) } s1) := by
      have := H1.out.set (p' := { zP k f d e with num := (n1 : Int) }) 4 (.int .u16 (n1 : Int)) rfl
      rw [hu2] at this
      exact this
    obtain ⟨a, m, c, tn, l, hA, hB, hh, hl, hs⟩ := H2.out.r
    have hm : m = l.length := by obtain ⟨_, _, hv⟩ := hh.slice; injection hv
    rw [hm] at hA hh
    have cA : u2.cell? ⟨A, 0, none⟩ = some (.slice a l.length c) := box_at hA rfl
    have hM := readM_any (.slice a l.length c) l u2 H2.out.tab hh hl
    obtain ⟨MM, hMM⟩ : ∃ z, msgOf (readM l) = z := ⟨_, rfl⟩
    obtain ⟨N, hN2⟩ : ∃ z, sizeOf' (readM l) = z := ⟨_, rfl⟩
    have hft := readM_fits l
    rw [hMM, hN2] at hM hft
    have HM : Hid (msgOf (readM l) = MM ∧ sizeOf' (readM l) = N ∧ MM.Fits ∧ N ≤ l.length) := ⟨hMM, hN2, hft.1, hft.2⟩
    have HS : Hid (s1 = left tn l) := hs
    have H2A : Hid (u2.heap[A]? = some (.cells [.slice a l.length c].toArray 78 (0, 0)) ∧ u2.heap[B]? = some (.cells [.bool tn].toArray 4 (0, 0)) ∧ Holds u2 (.slice a l.length c) l ∧ l.length ≤ 100000) := ⟨hA, hB, hh, hl⟩
    clear hA hB hh hl hs hm hMM hN2 hft
    go_wp2_with fail
    try rw [hu2]
    refine hM.mono ?_
    rintro x u3 ⟨rfl, b3⟩
    obtain ⟨u4, hu4⟩ : ∃ X, u3.alloc (.cells #[.int .i64 MM.origin, .int .u64 MM.seq, .int .i64 MM.hop, .string MM.ex, .string MM.key, .string MM.body] 33) = X := ⟨_, rfl⟩
    have b4 : Below u3.heap.size u3 u4 := by rw [← hu4]; exact box_below u3 _
    have m4 : u4.heap[u3.heap.size]? = some (.cells (mcells MM).toArray 33 (0, 0)) := by rw [← hu4]; exact heap_alloc_new u3 _
    have b24 := keptW b3 b4
    have H4 : Hid (Rs w0 u4 P F A B { zP k f d e with num := (n1 : Int) } s1) := H2.out.kept b24
    have H4A : Hid (u4.heap[A]? = some (.cells [.slice a l.length c].toArray 78 (0, 0)) ∧ u4.heap[B]? = some (.cells [.bool tn].toArray 4 (0, 0)) ∧ Holds u4 (.slice a l.length c) l ∧ l.length ≤ 100000) := ⟨(b24.block _ (Array.getElem?_eq_some_iff.1 H2A.out.1).1).trans H2A.out.1, (b24.block _ (Array.getElem?_eq_some_iff.1 H2A.out.2.1).1).trans H2A.out.2.1, H2A.out.2.2.1.below b24 (Nat.le_refl _), H2A.out.2.2.2⟩
    obtain ⟨ac, cc, hs1, hh', _⟩ := holds_from H4A.out.2.2.1 N HM.out.2.2.2 (N : Int) rfl
    have hL : Hid (Holds u4 (.slice ac (l.length - N) cc) (l.drop N)) := hh'
    obtain ⟨LN, hLN⟩ : ∃ z, l.length - N = z := ⟨_, rfl⟩
    have HLN : Hid (l.length - N = LN) := hLN
    rw [hLN] at hs1
    obtain ⟨g0, g1, g2, g3, g4, g5⟩ := cells6 m4
    obtain ⟨d0, d1, d2, d3, d4, d5, d6, d7, d8, d9, d10, d11⟩ := cells12 H4.out.hP
    have fP := fun j => box_free H4.out.hP j
    have cA4 : u4.cell? ⟨A, 0, none⟩ = some (.slice a l.length c) := box_at H4A.out.1 rfl
    have fA := box_free H4A.out.1 0
    have ne1 : ¬ A = P := H4.out.AP
    have ne2 : ¬ P = A := fun e => H4.out.AP e.symm
    have ne3 : ¬ u3.heap.size = P := by have := (Array.getElem?_eq_some_iff.1 H2.out.hP).1; have := b3.size; omega
    have ne4 : ¬ u3.heap.size = A := by have := (Array.getElem?_eq_some_iff.1 H2A.out.1).1; have := b3.size; omega
    clear hM b3 b4 m4 b24 hh' hLN cA y4 f4
    go_wp2
    go_region
    obtain ⟨u5, hu5⟩ : ∃ X, (((((u4.setCell ⟨P, 6, none⟩ (.int .i64 MM.origin)).setCell ⟨P, 7, none⟩ (.int .u64 MM.seq)).setCell ⟨P, 8, none⟩ (.int .i64 MM.hop)).setCell ⟨P, 9, none⟩ (.string MM.ex)).setCell ⟨P, 10, none⟩ (.string MM.key)).setCell ⟨P, 11, none⟩ (.string MM.body) = X := ⟨_, rfl⟩
    have H5 : Rs w0 u5 P F A B { zP k f d e with num := (n1 : Int), m := MM } s1 := by
      have := H4.out.msg MM
      rw [hu5] at this
      exact this
    have hA5 : u5.heap[A]? = some (.cells [.slice a l.length c].toArray 78 (0, 0)) := by rw [← hu5, msg_other MM H4.out.AP]; exact H4A.out.1
    have hB5 : u5.heap[B]? = some (.cells [.bool tn].toArray 4 (0, 0)) := by rw [← hu5, msg_other MM H4.out.BP]; exact H4A.out.2.1
    have hh5 : Holds u5 (.slice ac (l.length - N) cc) (l.drop N) := hL.out.only H4.out.hP (noBytes_pk _) (fun k _ hk => by rw [← hu5]; exact msg_other MM hk)
    rw [HS.out] at H5
    have H6 := (H5.cut hA5 hB5 H4A.out.2.2.2 hh5).kept (drew_below _)
    have hA6 : (u5.setCell ⟨A, 0, none⟩ (.slice ac (l.length - N) cc)).drew.heap[A]? = some (.cells [.slice ac (l.length - N) cc].toArray 78 (0, 0)) := set_list hA5 _
    have hB6 : (u5.setCell ⟨A, 0, none⟩ (.slice ac (l.length - N) cc)).drew.heap[B]? = some (.cells [.bool tn].toArray 4 (0, 0)) := (Below.heap_setCell _ _ _ _ (Ne.symm H4.out.r.ne)).trans hB5
    rw [HLN.out] at H6 hA6 hB6
    rw [hu5]
    obtain ⟨u6, hu6⟩ : ∃ X, (u5.setCell ⟨A, 0, none⟩ (.slice ac LN cc)).drew = X := ⟨_, rfl⟩
    rw [hu6] at H6 hA6 hB6 ⊢
    have HQ : Hid (({ zP k f d e with num := (n1 : Int), m := MM } : Pk).Fits) := { HF.out with n := ⟨by show (0 : Int) ≤ (n1 : Int); omega, by have := HA1.out.2; show (n1 : Int) < _; omega⟩, m := HM.out.2.2.1 }
    have H6' : Hid (Rs w0 u6 P F A B { zP k f d e with num := (n1 : Int), m := MM } (left tn (l.drop N))) := H6
    have HLd : Hid ((l.drop N).length = LN) := by show _ = _; rw [List.length_drop]; exact HLN.out
    have HO : Hid (outP s (restP k f d e) = outP s1 (bindP msgP fun m => pureP ({ zP k f d e with num := (n1 : Int), m := m } : Pk))) := by
      show _ = _
      rw [HR.out.1, outP_bind HA1.out.1]
      rfl
    have HB : Hid (∀ m, goodM m = false → goodP ({ zP k f d e with num := (n1 : Int), m := m } : Pk) = false) := fun m hm => by
      have : kindB ({ zP k f d e with num := (n1 : Int), m := m } : Pk) = false := by
        unfold kindB
        have h3 : ({ zP k f d e with num := (n1 : Int), m := m } : Pk).kind = 3 := by show (k : Int) = 3; have := HR.out.2; omega
        rw [if_neg (by omega), if_neg (by omega), if_pos h3]
        show (_ && (goodM m && _)) = false
        rw [hm]
        simp
      unfold goodP
      rw [this, Bool.and_false]
    have c0 : u6.cell? ⟨A, 0, none⟩ = some (.slice ac LN cc) := box_at hA6 rfl
    have c1 : u6.cell? ⟨B, 0, none⟩ = some (.bool tn) := box_at hB6 rfl
    clear H5 hA5 hB5 hh5 H6 hA6 hB6 g0 g1 g2 g3 g4 g5 d0 d1 d2 d3 d4 d5 d6 d7 d8 d9 d10 d11 fP cA4 fA hs1 hu5 hu6
    cases tn
    · obtain ⟨z, hz⟩ : ∃ z, decide (l.drop N = []) = z := ⟨_, rfl⟩
      have hl0 : ((LN : Int) == 0) = z := by
        rw [← hz, ← HLd.out]
        cases l.drop N <;> simp; omega
      have HZ : Hid (decide (l.drop N = []) = z) := hz
      clear hz
      go_wp2
      go_ret
      refine ⟨{ zP k f d e with num := (n1 : Int), m := MM }, z, left false (l.drop N), rfl, H6'.out, HQ.out, ?_⟩
      have hd := data_out l (fun m => ({ zP k f d e with num := (n1 : Int), m := m } : Pk)) HB.out
      rw [HM.out.1, HM.out.2.1, HZ.out] at hd
      rw [HO.out, HS.out]
      exact hd.symm
    · go_wp2
      go_ret
      refine ⟨{ zP k f d e with num := (n1 : Int), m := MM }, false, left true (l.drop N), rfl, H6'.out, HQ.out, ?_⟩
      rw [HO.out, HS.out]
      rfl
  by_cases h4 : k = 4
  · have q3 : ((k : Int) == 3) = false := by rw [h4]; rfl
    have q4 : ((k : Int) == 4) = true := by rw [h4]; rfl
    have HR : Hid (restP k f d e = bindP (numP 2) fun n => bindP (numP 8) fun x => pureP ⟨k, f, d, e, n, x, zM⟩) := by show restP k f d e = _; unfold restP; rw [if_neg h3, if_pos h4]
    clear h3 h4
    have cF : U.cell? ⟨F, 0, none⟩ = some (fnV A B) := box_at H.out.hF rfl
    have hN := number_any A B 2 s U H.out.tab rfl (by decide) H.out.r
    go_enter Tryz.func89, Tryz.ntmps89
    go_wp2_with fail
    refine hN.mono ?_
    rintro x u1 ⟨n1, s1, rfl, l1, a1, r1, b1⟩
    have H1 : Hid (Rs w0 u1 P F A B (zP k f d e) s1) := H.out.go r1 b1
    have HA1 : Hid (Aft s (numP 2) n1 s1 ∧ n1 < 65536) := ⟨a1, l1⟩
    have wr := wrap16 (n := n1) l1
    clear hN l1 a1 r1 b1 y0 cF
    have y4 : u1.cell? ⟨P, 4, none⟩ = some (.int .u16 0) := box_at H1.out.hP rfl
    have f4 := box_free H1.out.hP 4
    obtain ⟨u2, hu2⟩ : ∃ X, u1.setCell ⟨P, 4, none⟩ (.int .u16 (n1 : Int)) = X := ⟨_, rfl⟩
    have H2 : Hid (Rs w0 u2 P F A B { zP k f d e with num := (n1 : Int) } s1) := by
      have := H1.out.set (p' := { zP k f d e with num := (n1 : Int) }) 4 (.int .u16 (n1 : Int)) rfl
      rw [hu2] at this
      exact this
    have cF1 : u1.cell? ⟨F, 0, none⟩ = some (fnV A B) := box_at H1.out.hF rfl
    have cF : u2.cell? ⟨F, 0, none⟩ = some (fnV A B) := box_at H2.out.hF rfl
    have hN := number_any A B 8 s1 u2 H2.out.tab rfl (by decide) H2.out.r
    go_wp2_with fail
    try rw [hu2]
    refine hN.mono ?_
    rintro x u3 ⟨n3, s3, rfl, l3, a3, r3, b3⟩
    have H3 : Hid (Rs w0 u3 P F A B { zP k f d e with num := (n1 : Int) } s3) := H2.out.go r3 b3
    have HA3 : Hid (Aft s1 (numP 8) n3 s3 ∧ n3 < 18446744073709551616) := ⟨a3, l3⟩
    clear hN l3 a3 r3 b3 y4 f4 cF1 cF
    have y5 : u3.cell? ⟨P, 5, none⟩ = some (.int .u64 0) := box_at H3.out.hP rfl
    have f5 := box_free H3.out.hP 5
    obtain ⟨u4, hu4⟩ : ∃ X, u3.setCell ⟨P, 5, none⟩ (.int .u64 (n3 : Int)) = X := ⟨_, rfl⟩
    have H4 : Hid (Rs w0 u4 P F A B { zP k f d e with num := (n1 : Int), mask := (n3 : Int) } s3) := by
      have := H3.out.set (p' := { zP k f d e with num := (n1 : Int), mask := (n3 : Int) }) 5 (.int .u64 (n3 : Int)) rfl
      rw [hu4] at this
      exact this
    have HQ : Hid (({ zP k f d e with num := (n1 : Int), mask := (n3 : Int) } : Pk).Fits) := { HF.out with n := ⟨by show (0 : Int) ≤ (n1 : Int); omega, by have := HA1.out.2; show (n1 : Int) < _; omega⟩, x := ⟨by show (0 : Int) ≤ (n3 : Int); omega, by have := HA3.out.2; show (n3 : Int) < _; omega⟩ }
    have HO : Hid (outP s (restP k f d e) = outP s3 (pureP { zP k f d e with num := (n1 : Int), mask := (n3 : Int) })) := by
      show _ = _
      rw [HR.out, outP_bind HA1.out.1, outP_bind HA3.out.1]
      rfl
    have HX : Hid (u3.setCell ⟨P, 5, none⟩ (.int .u64 (n3 : Int)) = u4) := hu4
    obtain ⟨a, m, c, tn, l, hA, hB, hh, hl, hs⟩ := H4.out.r
    have hm : m = l.length := by obtain ⟨_, _, hv⟩ := hh.slice; injection hv
    rw [hm] at hA
    have HS : Hid (s3 = left tn l) := hs
    have c0 : u4.cell? ⟨A, 0, none⟩ = some (.slice a l.length c) := box_at hA rfl
    have c1 : u4.cell? ⟨B, 0, none⟩ = some (.bool tn) := box_at hB rfl
    clear hA hB hh hl hs hm
    cases tn
    · obtain ⟨z, hz⟩ : ∃ z, decide (l = []) = z := ⟨_, rfl⟩
      have hl0 : ((l.length : Int) == 0) = z := by rw [← hz]; cases l <;> simp; omega
      have HZ : Hid (decide (l = []) = z) := hz
      clear hz
      go_wp2
      go_ret
      refine ⟨{ zP k f d e with num := (n1 : Int), mask := (n3 : Int) }, z, s3, rfl, H4.out, HQ.out, ?_⟩
      rw [HO.out, outP_pure, HS.out, ← HZ.out]
      simp [left]
    · go_wp2
      go_ret
      refine ⟨{ zP k f d e with num := (n1 : Int), mask := (n3 : Int) }, false, s3, rfl, H4.out, HQ.out, ?_⟩
      rw [HO.out, HS.out]
      rfl
  · have q3 : ((k : Int) == 3) = false := by rw [beq_eq_false_iff_ne]; omega
    have q4 : ((k : Int) == 4) = false := by rw [beq_eq_false_iff_ne]; omega
    have HR : Hid (restP k f d e = pureP (zP k f d e)) := by show restP k f d e = _; unfold restP; rw [if_neg h3, if_neg h4]
    clear h3 h4
    obtain ⟨a, m, c, tn, l, hA, hB, hh, hl, hs⟩ := H.out.r
    have hm : m = l.length := by obtain ⟨_, _, hv⟩ := hh.slice; injection hv
    rw [hm] at hA
    have HS : Hid (s = left tn l) := hs
    have c0 : U.cell? ⟨A, 0, none⟩ = some (.slice a l.length c) := box_at hA rfl
    have c1 : U.cell? ⟨B, 0, none⟩ = some (.bool tn) := box_at hB rfl
    clear hA hB hh hl hs hm
    cases tn
    · obtain ⟨z, hz⟩ : ∃ z, decide (l = []) = z := ⟨_, rfl⟩
      have hl0 : ((l.length : Int) == 0) = z := by rw [← hz]; cases l <;> simp; omega
      have HZ : Hid (decide (l = []) = z) := hz
      clear hz
      go_enter Tryz.func89, Tryz.ntmps89
      go_wp2
      go_ret
      refine ⟨zP k f d e, z, s, rfl, H.out, HF.out, ?_⟩
      rw [HR.out, outP_pure, HS.out, ← HZ.out]
      simp [left]
    · go_enter Tryz.func89, Tryz.ntmps89
      go_wp2
      go_ret
      refine ⟨zP k f d e, false, s, rfl, H.out, HF.out, ?_⟩
      rw [HS.out]
      rfl

end Go.Proofs.YtdbgojmjjkidbaaGreatDoor

/-
  unpacked, by its contract.
-/
namespace Go.Proofs.YtdbgojmjjkidbaaGreatDoor
open Go.RowKit


/-- A reader beside the box of the closure. -/
structure Rn (w0 U : World) (F A B : Nat) (s : Option (List UInt8)) : Prop where
  tab : Tab U
  r : R2 U A B s
  hF : U.heap[F]? = some (.cells [fnV A B].toArray 116 (0, 0))
  bar : Bar2 A B w0 U
  FA : F ≠ A
  FB : F ≠ B

theorem Rn.go {w0 U V : World} {F A B : Nat} {s s' : Option (List UInt8)} (h : Rn w0 U F A B s) (hr : R2 V A B s') (hb : Bar2 A B U V) : Rn w0 V F A B s' :=
  ⟨h.tab.r2 h.r hb, hr, (hb.block F (Array.getElem?_eq_some_iff.1 h.hF).1 h.FA h.FB).trans h.hF, h.bar.trans hb, h.FA, h.FB⟩

theorem Bar2.of {p q : Nat} {w w' : World} (h : Below w.heap.size w w') : Bar2 p q w w' := ⟨h.os, h.tape, h.output, h.size, fun k hk _ _ => h.block k hk⟩

theorem Rn.kept {w0 U V : World} {F A B : Nat} {s : Option (List UInt8)} (h : Rn w0 U F A B s) (hb : Below U.heap.size U V) : Rn w0 V F A B s :=
  ⟨h.tab.below hb h.tab.pos, h.r.kept hb, (hb.block F (Array.getElem?_eq_some_iff.1 h.hF).1).trans h.hF, h.bar.trans (Bar2.of hb), h.FA, h.FB⟩

/-- .. and a new box of a packet. -/
theorem Rn.box {w0 U V : World} {F A B : Nat} {s : Option (List UInt8)} {p : Pk} (h : Rn w0 U F A B s) (hb : Below U.heap.size U V) (hP : V.heap[U.heap.size]? = some (.cells (pcells p).toArray 35 (0, 0))) : Rs w0 V U.heap.size F A B p s := by
  have hlt := h.r
  obtain ⟨a, m, c, tn, l, hA, hB, _⟩ := hlt
  have k := h.kept hb
  have lA := (Array.getElem?_eq_some_iff.1 hA).1
  have lB := (Array.getElem?_eq_some_iff.1 hB).1
  have lF := (Array.getElem?_eq_some_iff.1 h.hF).1
  have lT := h.tab.pos
  exact ⟨k.tab, k.r, hP, k.hF, k.bar.three, by omega, by omega, h.FA, h.FB, by omega, by omega⟩

theorem Rs.row {w0 U : World} {P F A B : Nat} {p : Pk} {s : Option (List UInt8)} (h : Rs w0 U P F A B p s) (p' : Pk) : Rs w0 (U.setRow P (pcells p').toArray) P F A B p' s := by
  have hU : ∀ k, k < U.heap.size → k ≠ P → (U.setRow P (pcells p').toArray).heap[k]? = U.heap[k]? := fun k _ hk => setRow_other _ _ _ _ hk
  refine ⟨fun i u hi => ?_, h.r.only h.hP (noBytes_pk p) h.AP h.BP hU, setRow_heap _ _ _ _ _ _ h.hP, (setRow_other _ _ _ _ h.FP).trans h.hF, h.bar.trans ⟨rfl, rfl, rfl, by simp [World.setRow], fun k hk _ _ hr => hU k hk hr⟩, h.AP, h.BP, h.FA, h.FB, h.FP, h.TP⟩
  have hc := h.tab i u hi
  exact (World.cell?_of_block (w := U) (a := ⟨1, i, none⟩) (hU _ (World.block_lt_of_cell? U _ hc) h.TP)).trans hc

/-- How unpacked ends. -/
def UnPost (w : World) (c : List UInt8) (e : Ending) (w' : World) : Prop := ∃ (p : Pk) (wh : Bool), e = .returned (.tuple #[pv p, .bool wh]) ∧ p.Fits ∧ (if (wh && goodP p) = true then some p else none) = readC c ∧ Below w.heap.size w w'

theorem results_pk_tmp {fn : Func} {q u : Tmp} (h : fn.results = #[.cell q 35, .tmp u]) (tmps : Array Value) (w : World) (g : Nat) (p : Pk) (hp : tmps.getD q undef = .pointer (some ⟨g, 0, none⟩)) (hg : w.heap[g]? = some (.cells (pcells p).toArray 35 (0, 0))) :
    (results fn tmps).run Tryz.prog w = .ok (.tuple #[pv p, tmps.getD u undef]) w := by
  rw [results_cell_tmp h, hp]
  simp [asAddr, run_loadVar_row w g _ _ _ _ _ hg Tryz.underlying35 rfl info12, Result.andThen]
  rfl

set_option maxRecDepth 20000 in
set_option maxHeartbeats 4000000 in
theorem unpacked_any (v : Value) (bs : List UInt8) (w : World) (ht : Tab w) (hv : Holds w v bs) (hl : bs.length ≤ 100000) :
    Calls Tryz.prog 67 #[v] w (UnPost w bs) := by
  obtain ⟨a0, c0, rfl⟩ := hv.slice
  obtain ⟨W1, f1⟩ : ∃ X, w.alloc (.cells #[.slice a0 bs.length c0] 78) = X := ⟨_, rfl⟩
  obtain ⟨W2, f2⟩ : ∃ X, W1.alloc (.cells #[.int .i64 0, .int .i64 0, .int .i64 0, .int .u64 0, .int .u16 0, .int .u64 0, .int .i64 0, .int .u64 0, .int .i64 0, .string ⟨#[]⟩, .string ⟨#[]⟩, .string ⟨#[]⟩] 35) = X := ⟨_, rfl⟩
  obtain ⟨W3z, f3z⟩ : ∃ X, W2.alloc (.cells #[.bool false] 4) = X := ⟨_, rfl⟩
  obtain ⟨W3, f3⟩ : ∃ X, W3z.setCell ⟨W2.heap.size, 0, none⟩ (.bool false) = X := ⟨_, rfl⟩
  obtain ⟨W4z, f4z⟩ : ∃ X, W3.alloc (.cells #[.nilFunc] 116) = X := ⟨_, rfl⟩
  obtain ⟨W4, f4⟩ : ∃ X, W4z.setCell ⟨W3.heap.size, 0, none⟩ (fnV w.heap.size W2.heap.size) = X := ⟨_, rfl⟩
  have z1 : W1.heap.size = w.heap.size + 1 := by rw [← f1]; exact World.size_alloc _ _
  have z2 : W2.heap.size = W1.heap.size + 1 := by rw [← f2]; exact World.size_alloc _ _
  have z3 : W3.heap.size = W2.heap.size + 1 := by rw [← f3, setCell_size, ← f3z]; exact World.size_alloc _ _
  have b1 : Below w.heap.size w W1 := by rw [← f1]; exact box_below w _
  have b2 : Below W1.heap.size W1 W2 := by rw [← f2]; exact box_below W1 _
  have b3z : Below W2.heap.size W2 W3z := by rw [← f3z]; exact box_below W2 _
  have b3 : Below W2.heap.size W2 W3 := by rw [← f3]; exact b3z.setCell (p := ⟨W2.heap.size, 0, none⟩) (Nat.le_refl _) _
  have b4z : Below W3.heap.size W3 W4z := by rw [← f4z]; exact box_below W3 _
  have b4 : Below W3.heap.size W3 W4 := by rw [← f4]; exact b4z.setCell (p := ⟨W3.heap.size, 0, none⟩) (Nat.le_refl _) _
  have hA : W1.heap[w.heap.size]? = some (.cells [.slice a0 bs.length c0].toArray 78 (0, 0)) := by rw [← f1]; exact heap_alloc_new w _
  have hR : W2.heap[W1.heap.size]? = some (.cells (pcells nilP).toArray 35 (0, 0)) := by rw [← f2]; exact heap_alloc_new W1 _
  have hBz : W3z.heap[W2.heap.size]? = some (.cells [.bool false].toArray 4 (0, 0)) := by rw [← f3z]; exact heap_alloc_new W2 _
  have hB : W3.heap[W2.heap.size]? = some (.cells [.bool false].toArray 4 (0, 0)) := by rw [← f3]; exact set_list hBz _
  have k3z : W3z.cell? ⟨W2.heap.size, 0, none⟩ = some (.bool false) := box_at hBz rfl
  have k3f := box_free hBz 0
  have hFz : W4z.heap[W3.heap.size]? = some (.cells [.nilFunc].toArray 116 (0, 0)) := by rw [← f4z]; exact heap_alloc_new W3 _
  have hF : W4.heap[W3.heap.size]? = some (.cells [fnV w.heap.size W2.heap.size].toArray 116 (0, 0)) := by rw [← f4]; exact set_list hFz _
  have k4z : W4z.cell? ⟨W3.heap.size, 0, none⟩ = some .nilFunc := box_at hFz rfl
  have k4f := box_free hFz 0
  have b14 : Below W1.heap.size W1 W4 := keptW (keptW b2 b3) b4
  have b04 : Below w.heap.size w W4 := keptW b1 b14
  have hA4 := (b14.block _ (Array.getElem?_eq_some_iff.1 hA).1).trans hA
  have hR4 := ((keptW b3 b4).block _ (Array.getElem?_eq_some_iff.1 hR).1).trans hR
  have hB4 := (b4.block _ (Array.getElem?_eq_some_iff.1 hB).1).trans hB
  have HN : Hid (Rn W4 W4 W3.heap.size w.heap.size W2.heap.size (some bs)) := ⟨ht.below b04 ht.pos, ⟨a0, _, c0, false, bs, hA4, hB4, hv.below b04 (Nat.le_refl _), hl, rfl⟩, hF, Bar2.refl _ _ _, by omega, by omega⟩
  have HR : Hid (W4.heap[W1.heap.size]? = some (.cells (pcells nilP).toArray 35 (0, 0)) ∧ W1.heap.size = w.heap.size + 1 ∧ W2.heap.size = w.heap.size + 2 ∧ W3.heap.size = w.heap.size + 3 ∧ W1.heap.size < W4.heap.size ∧ Below w.heap.size w W4) := ⟨hR4, z1, by omega, by omega, (Array.getElem?_eq_some_iff.1 hR4).1, b04⟩
  clear ht hv hl z1 z2 z3 b1 b2 b3 b3z b4 b4z hBz hFz hA hR hB hF b14 b04 hA4 hR4 hB4
  go_enter Tryz.func67, Tryz.ntmps67
  go_wp2
  try rw [f1]
  try rw [f2]
  try rw [f3]
  try rw [f4]
  refine wp_region_noPanic ?_
  refine wp_region_held_drew (S := fun U => U.cell? ⟨W3.heap.size, 0, none⟩ = some (fnV w.heap.size W2.heap.size)) (by kernel_rfl) (box_at (HN.out.kept (drew_below W4)).hF rfl) (fun hHeld => ?_)
  refine wpAnyH_take (i := 0) (v := fnV w.heap.size W2.heap.size) (by simp only [List.getElem?_toArray, List.getElem?_cons_zero]; rfl) (by kernel_rfl) (by kernel_rfl) (by kernel_rfl) (fun _ _ _ h => h) (Or.inl ⟨by rfl, (by intro wq hSq; clear hHeld; go_simp)⟩) (by assumption) ?_
  try simp only [Act.put, List.setIfInBounds_toArray, List.set_cons_zero, List.set_cons_succ]
  refine wpAnyH_take (i := 3) (v := fnV w.heap.size W2.heap.size) (by simp only [List.getElem?_toArray, List.getElem?_cons_succ, List.getElem?_cons_zero]; rfl) (by kernel_rfl) (by kernel_rfl) (by kernel_rfl) (fun _ _ _ h => h) (Or.inl ⟨by rfl, (by intro wq hSq; clear hHeld; go_simp)⟩) (by assumption) ?_
  try simp only [Act.put, List.setIfInBounds_toArray, List.set_cons_zero, List.set_cons_succ]
  refine wpAnyH_take (i := 6) (v := fnV w.heap.size W2.heap.size) (by simp only [List.getElem?_toArray, List.getElem?_cons_succ, List.getElem?_cons_zero]; rfl) (by kernel_rfl) (by kernel_rfl) (by kernel_rfl) (fun _ _ _ h => h) (Or.inl ⟨by rfl, (by intro wq hSq; clear hHeld; go_simp)⟩) (by assumption) ?_
  try simp only [Act.put, List.setIfInBounds_toArray, List.set_cons_zero, List.set_cons_succ]
  refine wpAnyH_take (i := 9) (v := fnV w.heap.size W2.heap.size) (by simp only [List.getElem?_toArray, List.getElem?_cons_succ, List.getElem?_cons_zero]; rfl) (by kernel_rfl) (by kernel_rfl) (by kernel_rfl) (fun _ _ _ h => h) (Or.inl ⟨by rfl, (by intro wq hSq; clear hHeld; go_simp)⟩) (by assumption) ?_
  try simp only [Act.put, List.setIfInBounds_toArray, List.set_cons_zero, List.set_cons_succ]
  refine wpAnyH_ready (rs := [1, 12]) (by kernel_rfl) (by simp) ?_
  refine AllReadyH.cons rfl (fun KK hK => ?_) ?_
  · skip
    have HS : Hid _ := hHeld
    clear HS hHeld
    go_simp
    refine (number_any w.heap.size W2.heap.size 1 (some bs) _ (HN.out.kept (drew_below W4)).tab rfl (by decide) (HN.out.kept (drew_below W4)).r).mono ?_
    rintro e u1 ⟨n1, s1, rfl, l1, q1, r1, b1⟩
    have N1 : Hid (Rn W4 u1 W3.heap.size w.heap.size W2.heap.size s1) := (HN.out.kept (drew_below W4)).go r1 b1
    have Q1 : Hid (Aft (some bs) (numP 1) n1 s1 ∧ n1 < 256 ^ 1) := ⟨q1, l1⟩
    have wr1 := wrap_num l1 (by decide)
    clear l1 q1 r1 b1
    try dsimp only
    refine hK.out _ _ (box_at N1.out.hF rfl) (fun hHeld => ?_)
    clear hK KK
    try simp only [Act.put, List.setIfInBounds_toArray, List.set_cons_zero, List.set_cons_succ]
    refine wpAnyH_take (i := 2) (v := .int .i64 (n1 : Int)) (by simp only [List.getElem?_toArray, List.getElem?_cons_succ, List.getElem?_cons_zero]; rfl) (by kernel_rfl) (by kernel_rfl) (by kernel_rfl) (fun _ _ _ h => h) (Or.inl ⟨by rfl, (by intro wq hSq; clear hSq hHeld; go_simp)⟩) (by assumption) ?_
    try simp only [Act.put, List.setIfInBounds_toArray, List.set_cons_zero, List.set_cons_succ]
    refine wpAnyH_ready (rs := [4, 12]) (by kernel_rfl) (by simp) ?_
    refine AllReadyH.cons rfl (fun KK hK => ?_) ?_
    · skip
      have HS : Hid _ := hHeld
      clear HS hHeld
      go_simp
      refine (number_any w.heap.size W2.heap.size 1 s1 _ N1.out.tab rfl (by decide) N1.out.r).mono ?_
      rintro e u2 ⟨n2, s2, rfl, l2, q2, r2, b2⟩
      have N2 : Hid (Rn W4 u2 W3.heap.size w.heap.size W2.heap.size s2) := N1.out.go r2 b2
      have Q2 : Hid (Aft s1 (numP 1) n2 s2 ∧ n2 < 256 ^ 1) := ⟨q2, l2⟩
      have wr2 := wrap_num l2 (by decide)
      clear l2 q2 r2 b2
      try dsimp only
      refine hK.out _ _ (box_at N2.out.hF rfl) (fun hHeld => ?_)
      clear hK KK
      try simp only [Act.put, List.setIfInBounds_toArray, List.set_cons_zero, List.set_cons_succ]
      refine wpAnyH_take (i := 5) (v := .int .i64 (n2 : Int)) (by simp only [List.getElem?_toArray, List.getElem?_cons_succ, List.getElem?_cons_zero]; rfl) (by kernel_rfl) (by kernel_rfl) (by kernel_rfl) (fun _ _ _ h => h) (Or.inl ⟨by rfl, (by intro wq hSq; clear hSq hHeld; go_simp)⟩) (by assumption) ?_
      try simp only [Act.put, List.setIfInBounds_toArray, List.set_cons_zero, List.set_cons_succ]
      refine wpAnyH_ready (rs := [7, 12]) (by kernel_rfl) (by simp) ?_
      refine AllReadyH.cons rfl (fun KK hK => ?_) ?_
      · skip
        have HS : Hid _ := hHeld
        clear HS hHeld
        go_simp
        refine (number_any w.heap.size W2.heap.size 1 s2 _ N2.out.tab rfl (by decide) N2.out.r).mono ?_
        rintro e u3 ⟨n3, s3, rfl, l3, q3, r3, b3⟩
        have N3 : Hid (Rn W4 u3 W3.heap.size w.heap.size W2.heap.size s3) := N2.out.go r3 b3
        have Q3 : Hid (Aft s2 (numP 1) n3 s3 ∧ n3 < 256 ^ 1) := ⟨q3, l3⟩
        have wr3 := wrap_num l3 (by decide)
        clear l3 q3 r3 b3
        try dsimp only
        refine hK.out _ _ (box_at N3.out.hF rfl) (fun hHeld => ?_)
        clear hK KK
        try simp only [Act.put, List.setIfInBounds_toArray, List.set_cons_zero, List.set_cons_succ]
        refine wpAnyH_take (i := 8) (v := .int .i64 (n3 : Int)) (by simp only [List.getElem?_toArray, List.getElem?_cons_succ, List.getElem?_cons_zero]; rfl) (by kernel_rfl) (by kernel_rfl) (by kernel_rfl) (fun _ _ _ h => h) (Or.inl ⟨by rfl, (by intro wq hSq; clear hSq hHeld; go_simp)⟩) (by assumption) ?_
        try simp only [Act.put, List.setIfInBounds_toArray, List.set_cons_zero, List.set_cons_succ]
        refine wpAnyH_ready (rs := [10, 12]) (by kernel_rfl) (by simp) ?_
        refine AllReadyH.cons rfl (fun KK hK => ?_) ?_
        · skip
          have HS : Hid _ := hHeld
          clear HS hHeld
          go_simp
          refine (number_any w.heap.size W2.heap.size 8 s3 _ N3.out.tab rfl (by decide) N3.out.r).mono ?_
          rintro e u4 ⟨n4, s4, rfl, l4, q4, r4, b4⟩
          have N4 : Hid (Rn W4 u4 W3.heap.size w.heap.size W2.heap.size s4) := N3.out.go r4 b4
          have Q4 : Hid (Aft s3 (numP 8) n4 s4 ∧ n4 < 256 ^ 8) := ⟨q4, l4⟩
          clear l4 q4 r4 b4
          try dsimp only
          refine hK.out _ _ (box_at N4.out.hF rfl) (fun hHeld => ?_)
          clear hK KK
          try simp only [Act.put, List.setIfInBounds_toArray, List.set_cons_zero, List.set_cons_succ]
          refine wpAnyH_take (i := 11) (v := .agg #[.int .i64 (n1 : Int), .int .i64 (n2 : Int), .int .i64 (n3 : Int), .int .u64 (n4 : Int), .int .u16 0, .int .u64 0, .int .i64 0, .int .u64 0, .int .i64 0, .string ⟨#[]⟩, .string ⟨#[]⟩, .string ⟨#[]⟩]) (by simp only [List.getElem?_toArray, List.getElem?_cons_succ, List.getElem?_cons_zero]; rfl) (by kernel_rfl) (by kernel_rfl) (by kernel_rfl) (fun _ _ _ h => h) (Or.inl ⟨by rfl, (by intro wq hSq; clear hSq hHeld; go_simp)⟩) (by assumption) ?_
          try simp only [Act.put, List.setIfInBounds_toArray, List.set_cons_zero, List.set_cons_succ]
          refine wpAnyH_ready (rs := [12]) (by kernel_rfl) (by simp) ?_
          refine AllReadyH.cons rfl (fun KK hK => ?_) AllReadyH.nil
          have HS : Hid _ := hHeld
          clear HS hHeld
          go_simp
          obtain ⟨V4, fV4⟩ : ∃ X, (u4).alloc (.cells #[.int .i64 0, .int .i64 0, .int .i64 0, .int .u64 0, .int .u16 0, .int .u64 0, .int .i64 0, .int .u64 0, .int .i64 0, .string ⟨#[]⟩, .string ⟨#[]⟩, .string ⟨#[]⟩] 35) = X := ⟨_, rfl⟩
          have hM4 : Rs W4 V4 (u4).heap.size W3.heap.size w.heap.size W2.heap.size nilP s4 := N4.out.box (by rw [← fV4]; exact box_below _ _) (by rw [← fV4]; exact heap_alloc_new _ _)
          obtain ⟨Pb, hPb⟩ : ∃ z, (u4).heap.size = z := ⟨_, rfl⟩
          have hPw : w.heap.size ≤ Pb ∧ W4.heap.size ≤ Pb := by rw [← hPb]; have h1 := HR.out; have h2 := N4.out.bar.size; have h3 := h1.2.2.2.2.2.size; omega
          have M4 : Hid (Rs W4 V4 Pb W3.heap.size w.heap.size W2.heap.size nilP s4) := by
            have h := hM4
            rw [hPb] at h
            exact h
          try rw [fV4]
          try rw [hPb]
          clear hM4 fV4
          refine hK.out _ _ (box_at M4.out.hF rfl) (fun hHeld => ?_)
          clear hK KK
          try simp only [Act.put, List.setIfInBounds_toArray, List.set_cons_zero, List.set_cons_succ]
          refine wpAnyH_ready (rs := [13]) (by kernel_rfl) (by simp) ?_
          refine AllReadyH.cons rfl (fun KK hK => ?_) AllReadyH.nil
          clear hHeld
          rw [if_pos (by simp [Region.wanted])]
          refine wp_store_row 35 _ _ rfl Pb (pcells (zP n1 n2 n3 n4)).toArray rfl rfl 35 (pcells nilP).toArray M4.out.hP info12 rfl (one12 _) ?_
          have M9 : Hid (Rs W4 _ Pb W3.heap.size w.heap.size W2.heap.size (zP n1 n2 n3 n4) s4) := M4.out.row (zP n1 n2 n3 n4)
          refine hK.out _ _ (box_at M9.out.hF rfl) (fun hHeld => ?_)
          clear hK KK
          dsimp only [Act.put]
          refine wpAnyH_done (by kernel_rfl) ?_ _
          refine NoPanic.normal ?_
          clear hHeld
          obtain ⟨U9, hU9⟩ : ∃ X, World.setRow V4 Pb (pcells (zP n1 n2 n3 n4)).toArray = X := ⟨_, rfl⟩
          rw [hU9] at M9 ⊢
          have hU := rest_any W4 U9 Pb W3.heap.size w.heap.size W2.heap.size n1 n2 n3 n4 s4 (Nat.lt_of_lt_of_le Q1.out.2 (by decide)) (Nat.lt_of_lt_of_le Q2.out.2 (by decide)) (Nat.lt_of_lt_of_le Q3.out.2 (by decide)) (Nat.lt_of_lt_of_le Q4.out.2 (by decide)) M9.out
          have HO : Hid (readC bs = outP s4 (restP n1 n2 n3 n4)) := by
            show _ = _
            rw [readC_out]
            unfold pakP
            rw [outP_bind Q1.out.1, outP_bind Q2.out.1, outP_bind Q3.out.1, outP_bind Q4.out.1]
          simp only [List.getElem_toArray, List.getElem_cons_succ, List.getElem_cons_zero]
          go_wp2_with fail
          refine hU.mono ?_
          rintro e U10 ⟨p', wh, s', rfl, R10, F10, O10⟩
          clear hU
          have hR10 := (R10.bar.block W1.heap.size HR.out.2.2.2.2.1 (by have := HR.out; omega) (by have := HR.out; omega) (by have := hPw; have := HR.out; omega)).trans HR.out.1
          have HX : Hid (U10.heap[Pb]? = some (.cells (pcells p').toArray 35 (0, 0)) ∧ U10.heap[W1.heap.size]? = some (.cells (pcells nilP).toArray 35 (0, 0)) ∧ p'.Fits ∧ (if (wh && goodP p') = true then some p' else none) = readC bs ∧ Below w.heap.size w U10) := ⟨R10.hP, hR10, F10, O10.trans HO.out.symm, R10.bar.below HR.out.2.2.2.2.2 (Nat.le_refl _) (by have := HR.out; omega) hPw.1 HR.out.2.2.2.2.2.size⟩
          clear R10 F10 O10 hR10 M9
          go_wp2_with (first | refine wpList_load_row rfl 35 _ rfl Pb rfl 35 (pcells p').toArray (0, 0) _ HX.out.1 Tryz.underlying35 rfl info12 ?_ | refine wpList_store_row rfl 35 _ _ rfl W1.heap.size (pcells p').toArray rfl rfl 35 (pcells nilP).toArray HX.out.2.1 info12 rfl (one12 p') ?_)
          refine bodyPost_ret (results_pk_tmp rfl _ _ W1.heap.size p' rfl (setRow_heap _ _ _ _ _ _ HX.out.2.1)) rfl ⟨p', wh, rfl, HX.out.2.2.1, HX.out.2.2.2.1, below_setRow HX.out.2.2.2.2 (by have := HR.out; omega) _⟩
        refine AllReadyH.cons rfl (fun KK hK => ?_) AllReadyH.nil
        have HS : Hid _ := hHeld
        clear HS hHeld
        go_simp
        obtain ⟨V3, fV3⟩ : ∃ X, (u3).alloc (.cells #[.int .i64 0, .int .i64 0, .int .i64 0, .int .u64 0, .int .u16 0, .int .u64 0, .int .i64 0, .int .u64 0, .int .i64 0, .string ⟨#[]⟩, .string ⟨#[]⟩, .string ⟨#[]⟩] 35) = X := ⟨_, rfl⟩
        have hM3 : Rs W4 V3 (u3).heap.size W3.heap.size w.heap.size W2.heap.size nilP s3 := N3.out.box (by rw [← fV3]; exact box_below _ _) (by rw [← fV3]; exact heap_alloc_new _ _)
        obtain ⟨Pb, hPb⟩ : ∃ z, (u3).heap.size = z := ⟨_, rfl⟩
        have hPw : w.heap.size ≤ Pb ∧ W4.heap.size ≤ Pb := by rw [← hPb]; have h1 := HR.out; have h2 := N3.out.bar.size; have h3 := h1.2.2.2.2.2.size; omega
        have M3 : Hid (Rs W4 V3 Pb W3.heap.size w.heap.size W2.heap.size nilP s3) := by
          have h := hM3
          rw [hPb] at h
          exact h
        try rw [fV3]
        try rw [hPb]
        clear hM3 fV3
        refine hK.out _ _ (box_at M3.out.hF rfl) (fun hHeld => ?_)
        clear hK KK
        try simp only [Act.put, List.setIfInBounds_toArray, List.set_cons_zero, List.set_cons_succ]
        refine wpAnyH_ready (rs := [10]) (by kernel_rfl) (by simp) ?_
        refine AllReadyH.cons rfl (fun KK hK => ?_) AllReadyH.nil
        have HS : Hid _ := hHeld
        clear HS hHeld
        go_simp
        refine (number_any w.heap.size W2.heap.size 8 s3 _ M3.out.tab rfl (by decide) M3.out.r).mono ?_
        rintro e u4 ⟨n4, s4, rfl, l4, q4, r4, b4⟩
        have M4 : Hid (Rs W4 u4 Pb W3.heap.size w.heap.size W2.heap.size nilP s4) := M3.out.go r4 b4
        have Q4 : Hid (Aft s3 (numP 8) n4 s4 ∧ n4 < 256 ^ 8) := ⟨q4, l4⟩
        clear l4 q4 r4 b4
        try dsimp only
        refine hK.out _ _ (box_at M4.out.hF rfl) (fun hHeld => ?_)
        clear hK KK
        try simp only [Act.put, List.setIfInBounds_toArray, List.set_cons_zero, List.set_cons_succ]
        refine wpAnyH_take (i := 11) (v := .agg #[.int .i64 (n1 : Int), .int .i64 (n2 : Int), .int .i64 (n3 : Int), .int .u64 (n4 : Int), .int .u16 0, .int .u64 0, .int .i64 0, .int .u64 0, .int .i64 0, .string ⟨#[]⟩, .string ⟨#[]⟩, .string ⟨#[]⟩]) (by simp only [List.getElem?_toArray, List.getElem?_cons_succ, List.getElem?_cons_zero]; rfl) (by kernel_rfl) (by kernel_rfl) (by kernel_rfl) (fun _ _ _ h => h) (Or.inl ⟨by rfl, (by intro wq hSq; clear hSq hHeld; go_simp)⟩) (by assumption) ?_
        try simp only [Act.put, List.setIfInBounds_toArray, List.set_cons_zero, List.set_cons_succ]
        refine wpAnyH_ready (rs := [13]) (by kernel_rfl) (by simp) ?_
        refine AllReadyH.cons rfl (fun KK hK => ?_) AllReadyH.nil
        clear hHeld
        rw [if_pos (by simp [Region.wanted])]
        refine wp_store_row 35 _ _ rfl Pb (pcells (zP n1 n2 n3 n4)).toArray rfl rfl 35 (pcells nilP).toArray M4.out.hP info12 rfl (one12 _) ?_
        have M9 : Hid (Rs W4 _ Pb W3.heap.size w.heap.size W2.heap.size (zP n1 n2 n3 n4) s4) := M4.out.row (zP n1 n2 n3 n4)
        refine hK.out _ _ (box_at M9.out.hF rfl) (fun hHeld => ?_)
        clear hK KK
        dsimp only [Act.put]
        refine wpAnyH_done (by kernel_rfl) ?_ _
        refine NoPanic.normal ?_
        clear hHeld
        obtain ⟨U9, hU9⟩ : ∃ X, World.setRow u4 Pb (pcells (zP n1 n2 n3 n4)).toArray = X := ⟨_, rfl⟩
        rw [hU9] at M9 ⊢
        have hU := rest_any W4 U9 Pb W3.heap.size w.heap.size W2.heap.size n1 n2 n3 n4 s4 (Nat.lt_of_lt_of_le Q1.out.2 (by decide)) (Nat.lt_of_lt_of_le Q2.out.2 (by decide)) (Nat.lt_of_lt_of_le Q3.out.2 (by decide)) (Nat.lt_of_lt_of_le Q4.out.2 (by decide)) M9.out
        have HO : Hid (readC bs = outP s4 (restP n1 n2 n3 n4)) := by
          show _ = _
          rw [readC_out]
          unfold pakP
          rw [outP_bind Q1.out.1, outP_bind Q2.out.1, outP_bind Q3.out.1, outP_bind Q4.out.1]
        simp only [List.getElem_toArray, List.getElem_cons_succ, List.getElem_cons_zero]
        go_wp2_with fail
        refine hU.mono ?_
        rintro e U10 ⟨p', wh, s', rfl, R10, F10, O10⟩
        clear hU
        have hR10 := (R10.bar.block W1.heap.size HR.out.2.2.2.2.1 (by have := HR.out; omega) (by have := HR.out; omega) (by have := hPw; have := HR.out; omega)).trans HR.out.1
        have HX : Hid (U10.heap[Pb]? = some (.cells (pcells p').toArray 35 (0, 0)) ∧ U10.heap[W1.heap.size]? = some (.cells (pcells nilP).toArray 35 (0, 0)) ∧ p'.Fits ∧ (if (wh && goodP p') = true then some p' else none) = readC bs ∧ Below w.heap.size w U10) := ⟨R10.hP, hR10, F10, O10.trans HO.out.symm, R10.bar.below HR.out.2.2.2.2.2 (Nat.le_refl _) (by have := HR.out; omega) hPw.1 HR.out.2.2.2.2.2.size⟩
        clear R10 F10 O10 hR10 M9
        go_wp2_with (first | refine wpList_load_row rfl 35 _ rfl Pb rfl 35 (pcells p').toArray (0, 0) _ HX.out.1 Tryz.underlying35 rfl info12 ?_ | refine wpList_store_row rfl 35 _ _ rfl W1.heap.size (pcells p').toArray rfl rfl 35 (pcells nilP).toArray HX.out.2.1 info12 rfl (one12 p') ?_)
        refine bodyPost_ret (results_pk_tmp rfl _ _ W1.heap.size p' rfl (setRow_heap _ _ _ _ _ _ HX.out.2.1)) rfl ⟨p', wh, rfl, HX.out.2.2.1, HX.out.2.2.2.1, below_setRow HX.out.2.2.2.2 (by have := HR.out; omega) _⟩
      refine AllReadyH.cons rfl (fun KK hK => ?_) AllReadyH.nil
      have HS : Hid _ := hHeld
      clear HS hHeld
      go_simp
      obtain ⟨V2, fV2⟩ : ∃ X, (u2).alloc (.cells #[.int .i64 0, .int .i64 0, .int .i64 0, .int .u64 0, .int .u16 0, .int .u64 0, .int .i64 0, .int .u64 0, .int .i64 0, .string ⟨#[]⟩, .string ⟨#[]⟩, .string ⟨#[]⟩] 35) = X := ⟨_, rfl⟩
      have hM2 : Rs W4 V2 (u2).heap.size W3.heap.size w.heap.size W2.heap.size nilP s2 := N2.out.box (by rw [← fV2]; exact box_below _ _) (by rw [← fV2]; exact heap_alloc_new _ _)
      obtain ⟨Pb, hPb⟩ : ∃ z, (u2).heap.size = z := ⟨_, rfl⟩
      have hPw : w.heap.size ≤ Pb ∧ W4.heap.size ≤ Pb := by rw [← hPb]; have h1 := HR.out; have h2 := N2.out.bar.size; have h3 := h1.2.2.2.2.2.size; omega
      have M2 : Hid (Rs W4 V2 Pb W3.heap.size w.heap.size W2.heap.size nilP s2) := by
        have h := hM2
        rw [hPb] at h
        exact h
      try rw [fV2]
      try rw [hPb]
      clear hM2 fV2
      refine hK.out _ _ (box_at M2.out.hF rfl) (fun hHeld => ?_)
      clear hK KK
      try simp only [Act.put, List.setIfInBounds_toArray, List.set_cons_zero, List.set_cons_succ]
      refine wpAnyH_ready (rs := [7]) (by kernel_rfl) (by simp) ?_
      refine AllReadyH.cons rfl (fun KK hK => ?_) AllReadyH.nil
      have HS : Hid _ := hHeld
      clear HS hHeld
      go_simp
      refine (number_any w.heap.size W2.heap.size 1 s2 _ M2.out.tab rfl (by decide) M2.out.r).mono ?_
      rintro e u3 ⟨n3, s3, rfl, l3, q3, r3, b3⟩
      have M3 : Hid (Rs W4 u3 Pb W3.heap.size w.heap.size W2.heap.size nilP s3) := M2.out.go r3 b3
      have Q3 : Hid (Aft s2 (numP 1) n3 s3 ∧ n3 < 256 ^ 1) := ⟨q3, l3⟩
      have wr3 := wrap_num l3 (by decide)
      clear l3 q3 r3 b3
      try dsimp only
      refine hK.out _ _ (box_at M3.out.hF rfl) (fun hHeld => ?_)
      clear hK KK
      try simp only [Act.put, List.setIfInBounds_toArray, List.set_cons_zero, List.set_cons_succ]
      refine wpAnyH_take (i := 8) (v := .int .i64 (n3 : Int)) (by simp only [List.getElem?_toArray, List.getElem?_cons_succ, List.getElem?_cons_zero]; rfl) (by kernel_rfl) (by kernel_rfl) (by kernel_rfl) (fun _ _ _ h => h) (Or.inl ⟨by rfl, (by intro wq hSq; clear hSq hHeld; go_simp)⟩) (by assumption) ?_
      try simp only [Act.put, List.setIfInBounds_toArray, List.set_cons_zero, List.set_cons_succ]
      refine wpAnyH_ready (rs := [10]) (by kernel_rfl) (by simp) ?_
      refine AllReadyH.cons rfl (fun KK hK => ?_) AllReadyH.nil
      have HS : Hid _ := hHeld
      clear HS hHeld
      go_simp
      refine (number_any w.heap.size W2.heap.size 8 s3 _ M3.out.tab rfl (by decide) M3.out.r).mono ?_
      rintro e u4 ⟨n4, s4, rfl, l4, q4, r4, b4⟩
      have M4 : Hid (Rs W4 u4 Pb W3.heap.size w.heap.size W2.heap.size nilP s4) := M3.out.go r4 b4
      have Q4 : Hid (Aft s3 (numP 8) n4 s4 ∧ n4 < 256 ^ 8) := ⟨q4, l4⟩
      clear l4 q4 r4 b4
      try dsimp only
      refine hK.out _ _ (box_at M4.out.hF rfl) (fun hHeld => ?_)
      clear hK KK
      try simp only [Act.put, List.setIfInBounds_toArray, List.set_cons_zero, List.set_cons_succ]
      refine wpAnyH_take (i := 11) (v := .agg #[.int .i64 (n1 : Int), .int .i64 (n2 : Int), .int .i64 (n3 : Int), .int .u64 (n4 : Int), .int .u16 0, .int .u64 0, .int .i64 0, .int .u64 0, .int .i64 0, .string ⟨#[]⟩, .string ⟨#[]⟩, .string ⟨#[]⟩]) (by simp only [List.getElem?_toArray, List.getElem?_cons_succ, List.getElem?_cons_zero]; rfl) (by kernel_rfl) (by kernel_rfl) (by kernel_rfl) (fun _ _ _ h => h) (Or.inl ⟨by rfl, (by intro wq hSq; clear hSq hHeld; go_simp)⟩) (by assumption) ?_
      try simp only [Act.put, List.setIfInBounds_toArray, List.set_cons_zero, List.set_cons_succ]
      refine wpAnyH_ready (rs := [13]) (by kernel_rfl) (by simp) ?_
      refine AllReadyH.cons rfl (fun KK hK => ?_) AllReadyH.nil
      clear hHeld
      rw [if_pos (by simp [Region.wanted])]
      refine wp_store_row 35 _ _ rfl Pb (pcells (zP n1 n2 n3 n4)).toArray rfl rfl 35 (pcells nilP).toArray M4.out.hP info12 rfl (one12 _) ?_
      have M9 : Hid (Rs W4 _ Pb W3.heap.size w.heap.size W2.heap.size (zP n1 n2 n3 n4) s4) := M4.out.row (zP n1 n2 n3 n4)
      refine hK.out _ _ (box_at M9.out.hF rfl) (fun hHeld => ?_)
      clear hK KK
      dsimp only [Act.put]
      refine wpAnyH_done (by kernel_rfl) ?_ _
      refine NoPanic.normal ?_
      clear hHeld
      obtain ⟨U9, hU9⟩ : ∃ X, World.setRow u4 Pb (pcells (zP n1 n2 n3 n4)).toArray = X := ⟨_, rfl⟩
      rw [hU9] at M9 ⊢
      have hU := rest_any W4 U9 Pb W3.heap.size w.heap.size W2.heap.size n1 n2 n3 n4 s4 (Nat.lt_of_lt_of_le Q1.out.2 (by decide)) (Nat.lt_of_lt_of_le Q2.out.2 (by decide)) (Nat.lt_of_lt_of_le Q3.out.2 (by decide)) (Nat.lt_of_lt_of_le Q4.out.2 (by decide)) M9.out
      have HO : Hid (readC bs = outP s4 (restP n1 n2 n3 n4)) := by
        show _ = _
        rw [readC_out]
        unfold pakP
        rw [outP_bind Q1.out.1, outP_bind Q2.out.1, outP_bind Q3.out.1, outP_bind Q4.out.1]
      simp only [List.getElem_toArray, List.getElem_cons_succ, List.getElem_cons_zero]
      go_wp2_with fail
      refine hU.mono ?_
      rintro e U10 ⟨p', wh, s', rfl, R10, F10, O10⟩
      clear hU
      have hR10 := (R10.bar.block W1.heap.size HR.out.2.2.2.2.1 (by have := HR.out; omega) (by have := HR.out; omega) (by have := hPw; have := HR.out; omega)).trans HR.out.1
      have HX : Hid (U10.heap[Pb]? = some (.cells (pcells p').toArray 35 (0, 0)) ∧ U10.heap[W1.heap.size]? = some (.cells (pcells nilP).toArray 35 (0, 0)) ∧ p'.Fits ∧ (if (wh && goodP p') = true then some p' else none) = readC bs ∧ Below w.heap.size w U10) := ⟨R10.hP, hR10, F10, O10.trans HO.out.symm, R10.bar.below HR.out.2.2.2.2.2 (Nat.le_refl _) (by have := HR.out; omega) hPw.1 HR.out.2.2.2.2.2.size⟩
      clear R10 F10 O10 hR10 M9
      go_wp2_with (first | refine wpList_load_row rfl 35 _ rfl Pb rfl 35 (pcells p').toArray (0, 0) _ HX.out.1 Tryz.underlying35 rfl info12 ?_ | refine wpList_store_row rfl 35 _ _ rfl W1.heap.size (pcells p').toArray rfl rfl 35 (pcells nilP).toArray HX.out.2.1 info12 rfl (one12 p') ?_)
      refine bodyPost_ret (results_pk_tmp rfl _ _ W1.heap.size p' rfl (setRow_heap _ _ _ _ _ _ HX.out.2.1)) rfl ⟨p', wh, rfl, HX.out.2.2.1, HX.out.2.2.2.1, below_setRow HX.out.2.2.2.2 (by have := HR.out; omega) _⟩
    refine AllReadyH.cons rfl (fun KK hK => ?_) AllReadyH.nil
    have HS : Hid _ := hHeld
    clear HS hHeld
    go_simp
    obtain ⟨V1, fV1⟩ : ∃ X, (u1).alloc (.cells #[.int .i64 0, .int .i64 0, .int .i64 0, .int .u64 0, .int .u16 0, .int .u64 0, .int .i64 0, .int .u64 0, .int .i64 0, .string ⟨#[]⟩, .string ⟨#[]⟩, .string ⟨#[]⟩] 35) = X := ⟨_, rfl⟩
    have hM1 : Rs W4 V1 (u1).heap.size W3.heap.size w.heap.size W2.heap.size nilP s1 := N1.out.box (by rw [← fV1]; exact box_below _ _) (by rw [← fV1]; exact heap_alloc_new _ _)
    obtain ⟨Pb, hPb⟩ : ∃ z, (u1).heap.size = z := ⟨_, rfl⟩
    have hPw : w.heap.size ≤ Pb ∧ W4.heap.size ≤ Pb := by rw [← hPb]; have h1 := HR.out; have h2 := N1.out.bar.size; have h3 := h1.2.2.2.2.2.size; omega
    have M1 : Hid (Rs W4 V1 Pb W3.heap.size w.heap.size W2.heap.size nilP s1) := by
      have h := hM1
      rw [hPb] at h
      exact h
    try rw [fV1]
    try rw [hPb]
    clear hM1 fV1
    refine hK.out _ _ (box_at M1.out.hF rfl) (fun hHeld => ?_)
    clear hK KK
    try simp only [Act.put, List.setIfInBounds_toArray, List.set_cons_zero, List.set_cons_succ]
    refine wpAnyH_ready (rs := [4]) (by kernel_rfl) (by simp) ?_
    refine AllReadyH.cons rfl (fun KK hK => ?_) AllReadyH.nil
    have HS : Hid _ := hHeld
    clear HS hHeld
    go_simp
    refine (number_any w.heap.size W2.heap.size 1 s1 _ M1.out.tab rfl (by decide) M1.out.r).mono ?_
    rintro e u2 ⟨n2, s2, rfl, l2, q2, r2, b2⟩
    have M2 : Hid (Rs W4 u2 Pb W3.heap.size w.heap.size W2.heap.size nilP s2) := M1.out.go r2 b2
    have Q2 : Hid (Aft s1 (numP 1) n2 s2 ∧ n2 < 256 ^ 1) := ⟨q2, l2⟩
    have wr2 := wrap_num l2 (by decide)
    clear l2 q2 r2 b2
    try dsimp only
    refine hK.out _ _ (box_at M2.out.hF rfl) (fun hHeld => ?_)
    clear hK KK
    try simp only [Act.put, List.setIfInBounds_toArray, List.set_cons_zero, List.set_cons_succ]
    refine wpAnyH_take (i := 5) (v := .int .i64 (n2 : Int)) (by simp only [List.getElem?_toArray, List.getElem?_cons_succ, List.getElem?_cons_zero]; rfl) (by kernel_rfl) (by kernel_rfl) (by kernel_rfl) (fun _ _ _ h => h) (Or.inl ⟨by rfl, (by intro wq hSq; clear hSq hHeld; go_simp)⟩) (by assumption) ?_
    try simp only [Act.put, List.setIfInBounds_toArray, List.set_cons_zero, List.set_cons_succ]
    refine wpAnyH_ready (rs := [7]) (by kernel_rfl) (by simp) ?_
    refine AllReadyH.cons rfl (fun KK hK => ?_) AllReadyH.nil
    have HS : Hid _ := hHeld
    clear HS hHeld
    go_simp
    refine (number_any w.heap.size W2.heap.size 1 s2 _ M2.out.tab rfl (by decide) M2.out.r).mono ?_
    rintro e u3 ⟨n3, s3, rfl, l3, q3, r3, b3⟩
    have M3 : Hid (Rs W4 u3 Pb W3.heap.size w.heap.size W2.heap.size nilP s3) := M2.out.go r3 b3
    have Q3 : Hid (Aft s2 (numP 1) n3 s3 ∧ n3 < 256 ^ 1) := ⟨q3, l3⟩
    have wr3 := wrap_num l3 (by decide)
    clear l3 q3 r3 b3
    try dsimp only
    refine hK.out _ _ (box_at M3.out.hF rfl) (fun hHeld => ?_)
    clear hK KK
    try simp only [Act.put, List.setIfInBounds_toArray, List.set_cons_zero, List.set_cons_succ]
    refine wpAnyH_take (i := 8) (v := .int .i64 (n3 : Int)) (by simp only [List.getElem?_toArray, List.getElem?_cons_succ, List.getElem?_cons_zero]; rfl) (by kernel_rfl) (by kernel_rfl) (by kernel_rfl) (fun _ _ _ h => h) (Or.inl ⟨by rfl, (by intro wq hSq; clear hSq hHeld; go_simp)⟩) (by assumption) ?_
    try simp only [Act.put, List.setIfInBounds_toArray, List.set_cons_zero, List.set_cons_succ]
    refine wpAnyH_ready (rs := [10]) (by kernel_rfl) (by simp) ?_
    refine AllReadyH.cons rfl (fun KK hK => ?_) AllReadyH.nil
    have HS : Hid _ := hHeld
    clear HS hHeld
    go_simp
    refine (number_any w.heap.size W2.heap.size 8 s3 _ M3.out.tab rfl (by decide) M3.out.r).mono ?_
    rintro e u4 ⟨n4, s4, rfl, l4, q4, r4, b4⟩
    have M4 : Hid (Rs W4 u4 Pb W3.heap.size w.heap.size W2.heap.size nilP s4) := M3.out.go r4 b4
    have Q4 : Hid (Aft s3 (numP 8) n4 s4 ∧ n4 < 256 ^ 8) := ⟨q4, l4⟩
    clear l4 q4 r4 b4
    try dsimp only
    refine hK.out _ _ (box_at M4.out.hF rfl) (fun hHeld => ?_)
    clear hK KK
    try simp only [Act.put, List.setIfInBounds_toArray, List.set_cons_zero, List.set_cons_succ]
    refine wpAnyH_take (i := 11) (v := .agg #[.int .i64 (n1 : Int), .int .i64 (n2 : Int), .int .i64 (n3 : Int), .int .u64 (n4 : Int), .int .u16 0, .int .u64 0, .int .i64 0, .int .u64 0, .int .i64 0, .string ⟨#[]⟩, .string ⟨#[]⟩, .string ⟨#[]⟩]) (by simp only [List.getElem?_toArray, List.getElem?_cons_succ, List.getElem?_cons_zero]; rfl) (by kernel_rfl) (by kernel_rfl) (by kernel_rfl) (fun _ _ _ h => h) (Or.inl ⟨by rfl, (by intro wq hSq; clear hSq hHeld; go_simp)⟩) (by assumption) ?_
    try simp only [Act.put, List.setIfInBounds_toArray, List.set_cons_zero, List.set_cons_succ]
    refine wpAnyH_ready (rs := [13]) (by kernel_rfl) (by simp) ?_
    refine AllReadyH.cons rfl (fun KK hK => ?_) AllReadyH.nil
    clear hHeld
    rw [if_pos (by simp [Region.wanted])]
    refine wp_store_row 35 _ _ rfl Pb (pcells (zP n1 n2 n3 n4)).toArray rfl rfl 35 (pcells nilP).toArray M4.out.hP info12 rfl (one12 _) ?_
    have M9 : Hid (Rs W4 _ Pb W3.heap.size w.heap.size W2.heap.size (zP n1 n2 n3 n4) s4) := M4.out.row (zP n1 n2 n3 n4)
    refine hK.out _ _ (box_at M9.out.hF rfl) (fun hHeld => ?_)
    clear hK KK
    dsimp only [Act.put]
    refine wpAnyH_done (by kernel_rfl) ?_ _
    refine NoPanic.normal ?_
    clear hHeld
    obtain ⟨U9, hU9⟩ : ∃ X, World.setRow u4 Pb (pcells (zP n1 n2 n3 n4)).toArray = X := ⟨_, rfl⟩
    rw [hU9] at M9 ⊢
    have hU := rest_any W4 U9 Pb W3.heap.size w.heap.size W2.heap.size n1 n2 n3 n4 s4 (Nat.lt_of_lt_of_le Q1.out.2 (by decide)) (Nat.lt_of_lt_of_le Q2.out.2 (by decide)) (Nat.lt_of_lt_of_le Q3.out.2 (by decide)) (Nat.lt_of_lt_of_le Q4.out.2 (by decide)) M9.out
    have HO : Hid (readC bs = outP s4 (restP n1 n2 n3 n4)) := by
      show _ = _
      rw [readC_out]
      unfold pakP
      rw [outP_bind Q1.out.1, outP_bind Q2.out.1, outP_bind Q3.out.1, outP_bind Q4.out.1]
    simp only [List.getElem_toArray, List.getElem_cons_succ, List.getElem_cons_zero]
    go_wp2_with fail
    refine hU.mono ?_
    rintro e U10 ⟨p', wh, s', rfl, R10, F10, O10⟩
    clear hU
    have hR10 := (R10.bar.block W1.heap.size HR.out.2.2.2.2.1 (by have := HR.out; omega) (by have := HR.out; omega) (by have := hPw; have := HR.out; omega)).trans HR.out.1
    have HX : Hid (U10.heap[Pb]? = some (.cells (pcells p').toArray 35 (0, 0)) ∧ U10.heap[W1.heap.size]? = some (.cells (pcells nilP).toArray 35 (0, 0)) ∧ p'.Fits ∧ (if (wh && goodP p') = true then some p' else none) = readC bs ∧ Below w.heap.size w U10) := ⟨R10.hP, hR10, F10, O10.trans HO.out.symm, R10.bar.below HR.out.2.2.2.2.2 (Nat.le_refl _) (by have := HR.out; omega) hPw.1 HR.out.2.2.2.2.2.size⟩
    clear R10 F10 O10 hR10 M9
    go_wp2_with (first | refine wpList_load_row rfl 35 _ rfl Pb rfl 35 (pcells p').toArray (0, 0) _ HX.out.1 Tryz.underlying35 rfl info12 ?_ | refine wpList_store_row rfl 35 _ _ rfl W1.heap.size (pcells p').toArray rfl rfl 35 (pcells nilP).toArray HX.out.2.1 info12 rfl (one12 p') ?_)
    refine bodyPost_ret (results_pk_tmp rfl _ _ W1.heap.size p' rfl (setRow_heap _ _ _ _ _ _ HX.out.2.1)) rfl ⟨p', wh, rfl, HX.out.2.2.1, HX.out.2.2.2.1, below_setRow HX.out.2.2.2.2 (by have := HR.out; omega) _⟩
  refine AllReadyH.cons rfl (fun KK hK => ?_) AllReadyH.nil
  have HS : Hid _ := hHeld
  clear HS hHeld
  go_simp
  obtain ⟨V0, fV0⟩ : ∃ X, (W4.alloc (.cells #[.int .i64 0, .int .i64 0, .int .i64 0, .int .u64 0, .int .u16 0, .int .u64 0, .int .i64 0, .int .u64 0, .int .i64 0, .string ⟨#[]⟩, .string ⟨#[]⟩, .string ⟨#[]⟩] 35)).drew = X := ⟨_, rfl⟩
  have hM0 : Rs W4 V0 W4.heap.size W3.heap.size w.heap.size W2.heap.size nilP (some bs) := by
    have h := (HN.out.box (V := W4.alloc (.cells #[.int .i64 0, .int .i64 0, .int .i64 0, .int .u64 0, .int .u16 0, .int .u64 0, .int .i64 0, .int .u64 0, .int .i64 0, .string ⟨#[]⟩, .string ⟨#[]⟩, .string ⟨#[]⟩] 35)) (p := nilP) (box_below _ _) (heap_alloc_new _ _)).kept (drew_below _)
    rw [fV0] at h
    exact h
  obtain ⟨Pb, hPb⟩ : ∃ z, (W4).heap.size = z := ⟨_, rfl⟩
  have hPw : w.heap.size ≤ Pb ∧ W4.heap.size ≤ Pb := by rw [← hPb]; have h1 := HR.out; have h2 := (HN.out.kept (drew_below W4)).bar.size; have h3 := h1.2.2.2.2.2.size; omega
  have M0 : Hid (Rs W4 V0 Pb W3.heap.size w.heap.size W2.heap.size nilP (some bs)) := by
    have h := hM0
    rw [hPb] at h
    exact h
  try rw [fV0]
  try rw [hPb]
  clear hM0 fV0
  refine hK.out _ _ (box_at M0.out.hF rfl) (fun hHeld => ?_)
  clear hK KK
  try simp only [Act.put, List.setIfInBounds_toArray, List.set_cons_zero, List.set_cons_succ]
  refine wpAnyH_ready (rs := [1]) (by kernel_rfl) (by simp) ?_
  refine AllReadyH.cons rfl (fun KK hK => ?_) AllReadyH.nil
  have HS : Hid _ := hHeld
  clear HS hHeld
  go_simp
  refine (number_any w.heap.size W2.heap.size 1 (some bs) _ M0.out.tab rfl (by decide) M0.out.r).mono ?_
  rintro e u1 ⟨n1, s1, rfl, l1, q1, r1, b1⟩
  have M1 : Hid (Rs W4 u1 Pb W3.heap.size w.heap.size W2.heap.size nilP s1) := M0.out.go r1 b1
  have Q1 : Hid (Aft (some bs) (numP 1) n1 s1 ∧ n1 < 256 ^ 1) := ⟨q1, l1⟩
  have wr1 := wrap_num l1 (by decide)
  clear l1 q1 r1 b1
  try dsimp only
  refine hK.out _ _ (box_at M1.out.hF rfl) (fun hHeld => ?_)
  clear hK KK
  try simp only [Act.put, List.setIfInBounds_toArray, List.set_cons_zero, List.set_cons_succ]
  refine wpAnyH_take (i := 2) (v := .int .i64 (n1 : Int)) (by simp only [List.getElem?_toArray, List.getElem?_cons_succ, List.getElem?_cons_zero]; rfl) (by kernel_rfl) (by kernel_rfl) (by kernel_rfl) (fun _ _ _ h => h) (Or.inl ⟨by rfl, (by intro wq hSq; clear hSq hHeld; go_simp)⟩) (by assumption) ?_
  try simp only [Act.put, List.setIfInBounds_toArray, List.set_cons_zero, List.set_cons_succ]
  refine wpAnyH_ready (rs := [4]) (by kernel_rfl) (by simp) ?_
  refine AllReadyH.cons rfl (fun KK hK => ?_) AllReadyH.nil
  have HS : Hid _ := hHeld
  clear HS hHeld
  go_simp
  refine (number_any w.heap.size W2.heap.size 1 s1 _ M1.out.tab rfl (by decide) M1.out.r).mono ?_
  rintro e u2 ⟨n2, s2, rfl, l2, q2, r2, b2⟩
  have M2 : Hid (Rs W4 u2 Pb W3.heap.size w.heap.size W2.heap.size nilP s2) := M1.out.go r2 b2
  have Q2 : Hid (Aft s1 (numP 1) n2 s2 ∧ n2 < 256 ^ 1) := ⟨q2, l2⟩
  have wr2 := wrap_num l2 (by decide)
  clear l2 q2 r2 b2
  try dsimp only
  refine hK.out _ _ (box_at M2.out.hF rfl) (fun hHeld => ?_)
  clear hK KK
  try simp only [Act.put, List.setIfInBounds_toArray, List.set_cons_zero, List.set_cons_succ]
  refine wpAnyH_take (i := 5) (v := .int .i64 (n2 : Int)) (by simp only [List.getElem?_toArray, List.getElem?_cons_succ, List.getElem?_cons_zero]; rfl) (by kernel_rfl) (by kernel_rfl) (by kernel_rfl) (fun _ _ _ h => h) (Or.inl ⟨by rfl, (by intro wq hSq; clear hSq hHeld; go_simp)⟩) (by assumption) ?_
  try simp only [Act.put, List.setIfInBounds_toArray, List.set_cons_zero, List.set_cons_succ]
  refine wpAnyH_ready (rs := [7]) (by kernel_rfl) (by simp) ?_
  refine AllReadyH.cons rfl (fun KK hK => ?_) AllReadyH.nil
  have HS : Hid _ := hHeld
  clear HS hHeld
  go_simp
  refine (number_any w.heap.size W2.heap.size 1 s2 _ M2.out.tab rfl (by decide) M2.out.r).mono ?_
  rintro e u3 ⟨n3, s3, rfl, l3, q3, r3, b3⟩
  have M3 : Hid (Rs W4 u3 Pb W3.heap.size w.heap.size W2.heap.size nilP s3) := M2.out.go r3 b3
  have Q3 : Hid (Aft s2 (numP 1) n3 s3 ∧ n3 < 256 ^ 1) := ⟨q3, l3⟩
  have wr3 := wrap_num l3 (by decide)
  clear l3 q3 r3 b3
  try dsimp only
  refine hK.out _ _ (box_at M3.out.hF rfl) (fun hHeld => ?_)
  clear hK KK
  try simp only [Act.put, List.setIfInBounds_toArray, List.set_cons_zero, List.set_cons_succ]
  refine wpAnyH_take (i := 8) (v := .int .i64 (n3 : Int)) (by simp only [List.getElem?_toArray, List.getElem?_cons_succ, List.getElem?_cons_zero]; rfl) (by kernel_rfl) (by kernel_rfl) (by kernel_rfl) (fun _ _ _ h => h) (Or.inl ⟨by rfl, (by intro wq hSq; clear hSq hHeld; go_simp)⟩) (by assumption) ?_
  try simp only [Act.put, List.setIfInBounds_toArray, List.set_cons_zero, List.set_cons_succ]
  refine wpAnyH_ready (rs := [10]) (by kernel_rfl) (by simp) ?_
  refine AllReadyH.cons rfl (fun KK hK => ?_) AllReadyH.nil
  have HS : Hid _ := hHeld
  clear HS hHeld
  go_simp
  refine (number_any w.heap.size W2.heap.size 8 s3 _ M3.out.tab rfl (by decide) M3.out.r).mono ?_
  rintro e u4 ⟨n4, s4, rfl, l4, q4, r4, b4⟩
  have M4 : Hid (Rs W4 u4 Pb W3.heap.size w.heap.size W2.heap.size nilP s4) := M3.out.go r4 b4
  have Q4 : Hid (Aft s3 (numP 8) n4 s4 ∧ n4 < 256 ^ 8) := ⟨q4, l4⟩
  clear l4 q4 r4 b4
  try dsimp only
  refine hK.out _ _ (box_at M4.out.hF rfl) (fun hHeld => ?_)
  clear hK KK
  try simp only [Act.put, List.setIfInBounds_toArray, List.set_cons_zero, List.set_cons_succ]
  refine wpAnyH_take (i := 11) (v := .agg #[.int .i64 (n1 : Int), .int .i64 (n2 : Int), .int .i64 (n3 : Int), .int .u64 (n4 : Int), .int .u16 0, .int .u64 0, .int .i64 0, .int .u64 0, .int .i64 0, .string ⟨#[]⟩, .string ⟨#[]⟩, .string ⟨#[]⟩]) (by simp only [List.getElem?_toArray, List.getElem?_cons_succ, List.getElem?_cons_zero]; rfl) (by kernel_rfl) (by kernel_rfl) (by kernel_rfl) (fun _ _ _ h => h) (Or.inl ⟨by rfl, (by intro wq hSq; clear hSq hHeld; go_simp)⟩) (by assumption) ?_
  try simp only [Act.put, List.setIfInBounds_toArray, List.set_cons_zero, List.set_cons_succ]
  refine wpAnyH_ready (rs := [13]) (by kernel_rfl) (by simp) ?_
  refine AllReadyH.cons rfl (fun KK hK => ?_) AllReadyH.nil
  clear hHeld
  rw [if_pos (by simp [Region.wanted])]
  refine wp_store_row 35 _ _ rfl Pb (pcells (zP n1 n2 n3 n4)).toArray rfl rfl 35 (pcells nilP).toArray M4.out.hP info12 rfl (one12 _) ?_
  have M9 : Hid (Rs W4 _ Pb W3.heap.size w.heap.size W2.heap.size (zP n1 n2 n3 n4) s4) := M4.out.row (zP n1 n2 n3 n4)
  refine hK.out _ _ (box_at M9.out.hF rfl) (fun hHeld => ?_)
  clear hK KK
  dsimp only [Act.put]
  refine wpAnyH_done (by kernel_rfl) ?_ _
  refine NoPanic.normal ?_
  clear hHeld
  obtain ⟨U9, hU9⟩ : ∃ X, World.setRow u4 Pb (pcells (zP n1 n2 n3 n4)).toArray = X := ⟨_, rfl⟩
  rw [hU9] at M9 ⊢
  have hU := rest_any W4 U9 Pb W3.heap.size w.heap.size W2.heap.size n1 n2 n3 n4 s4 (Nat.lt_of_lt_of_le Q1.out.2 (by decide)) (Nat.lt_of_lt_of_le Q2.out.2 (by decide)) (Nat.lt_of_lt_of_le Q3.out.2 (by decide)) (Nat.lt_of_lt_of_le Q4.out.2 (by decide)) M9.out
  have HO : Hid (readC bs = outP s4 (restP n1 n2 n3 n4)) := by
    show _ = _
    rw [readC_out]
    unfold pakP
    rw [outP_bind Q1.out.1, outP_bind Q2.out.1, outP_bind Q3.out.1, outP_bind Q4.out.1]
  simp only [List.getElem_toArray, List.getElem_cons_succ, List.getElem_cons_zero]
  go_wp2_with fail
  refine hU.mono ?_
  rintro e U10 ⟨p', wh, s', rfl, R10, F10, O10⟩
  clear hU
  have hR10 := (R10.bar.block W1.heap.size HR.out.2.2.2.2.1 (by have := HR.out; omega) (by have := HR.out; omega) (by have := hPw; have := HR.out; omega)).trans HR.out.1
  have HX : Hid (U10.heap[Pb]? = some (.cells (pcells p').toArray 35 (0, 0)) ∧ U10.heap[W1.heap.size]? = some (.cells (pcells nilP).toArray 35 (0, 0)) ∧ p'.Fits ∧ (if (wh && goodP p') = true then some p' else none) = readC bs ∧ Below w.heap.size w U10) := ⟨R10.hP, hR10, F10, O10.trans HO.out.symm, R10.bar.below HR.out.2.2.2.2.2 (Nat.le_refl _) (by have := HR.out; omega) hPw.1 HR.out.2.2.2.2.2.size⟩
  clear R10 F10 O10 hR10 M9
  go_wp2_with (first | refine wpList_load_row rfl 35 _ rfl Pb rfl 35 (pcells p').toArray (0, 0) _ HX.out.1 Tryz.underlying35 rfl info12 ?_ | refine wpList_store_row rfl 35 _ _ rfl W1.heap.size (pcells p').toArray rfl rfl 35 (pcells nilP).toArray HX.out.2.1 info12 rfl (one12 p') ?_)
  refine bodyPost_ret (results_pk_tmp rfl _ _ W1.heap.size p' rfl (setRow_heap _ _ _ _ _ _ HX.out.2.1)) rfl ⟨p', wh, rfl, HX.out.2.2.1, HX.out.2.2.2.1, below_setRow HX.out.2.2.2.2 (by have := HR.out; omega) _⟩

end Go.Proofs.YtdbgojmjjkidbaaGreatDoor
