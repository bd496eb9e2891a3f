/-
  A STORE of the call's own behind a failure, by what it tells.
-/
import Derived.Test.YtjgdmbfkondakaaGreatDoorJLives12
namespace Go.Proofs.YtjgdmbfkondakaaGreatDoor
open Go.RowKit

section
variable {w wr : World} {p : Nat} {F : Nat → Prop} {m : M} {chk : List UInt8} {sure waits : List (List UInt8)} {mk : Option (List UInt8)} {N C : Nat}
theorem Told.light (h : Told chk sure waits mk N C m) (hN : N ≤ 1000000) : Light m := fun i => by have := (h.2.1 i).1; omega
theorem Sv.open (h : Sv w wr p F m) (t : Told chk sure waits mk N C m) (he : Env w) (hN : N ≤ 1000000) (hC : C ≤ 60000) (part : Int) (hp : 1 ≤ part ∧ part ≤ 1048576) :
    Calls Tryz.prog 11 #[.pointer (some ⟨p, 0, none⟩), .int .i64 part] wr fun e w' => ∃ qv cv rv r, e = .returned (.tuple #[qv, cv, rv, .int .i64 r]) ∧ (r = 0 ∨ r = 9) ∧ ∃ F' m', Sv w w' p F' m' ∧ Moved wr w' F F' ∧ Told chk sure waits mk N (C + 2) m'.power ∧ m'.Ok := by
  have hc := t.2.2.1
  refine (open_at h.st t.ok.1 t.ok.2 (t.light hN) (by omega) (h.env he) (h.six he) part).mono ?_
  rintro e w' ho
  rcases t.open (by omega) part hp with ⟨l', m', d, rs, e0, g1, g2, g3⟩ | ⟨_, l', m', c', r', e0, g2, g3⟩
  · rw [e0] at ho
    rcases ho with ⟨hz, _⟩ | ⟨_, q', V', F', cv, rv, base, rfl, k1, k2, _⟩
    · exact absurd rfl hz
    · exact ⟨_, cv, rv, 0, rfl, .inl rfl, F', m', h.to k1.st (moved_in k2), moved_in k2, g2, g3⟩
  · rw [e0] at ho
    rcases ho with ⟨_, rfl, F', k1, k2⟩ | ⟨hz, _⟩
    · exact ⟨_, _, _, 9, rfl, .inr rfl, F', m', h.to k1 k2, k2, g2, g3⟩
    · exact absurd (show (9 : Int) = 0 from hz) (by decide)
theorem Sv.open0 (h : Sv w wr p F m) (t : Told chk sure waits mk N C m) (hl : m.left = 0) (he : Env w) (hN : N ≤ 1000000) (hC : C ≤ 60000) (part : Int) (hp : 1 ≤ part ∧ part ≤ 1048576) :
    Calls Tryz.prog 11 #[.pointer (some ⟨p, 0, none⟩), .int .i64 part] wr fun e w' => ∃ q cv rv base d rs, e = .returned (.tuple #[.pointer (some ⟨q, 0, none⟩), cv, rv, .int .i64 0]) ∧ Behd chk sure waits mk d rs ∧ Holds w' cv d ∧ Recs w' base rv rs ∧ ∃ F', Moved wr w' F F' ∧ Below w.heap.size w w' := by
  have hc := t.2.2.1
  refine (open_at h.st t.ok.1 t.ok.2 (t.light hN) (by omega) (h.env he) (h.six he) part).mono ?_
  rintro e w' ho
  rcases t.open (by omega) part hp with ⟨l', m', d, rs, e0, g1, g2, g3⟩ | ⟨hn, _⟩
  · rw [e0] at ho
    rcases ho with ⟨hz, _⟩ | ⟨_, q', V', F', cv, rv, base, rfl, k1, k2, k3, _, k5, _⟩
    · exact absurd rfl hz
    · exact ⟨q', cv, rv, base, d, rs, rfl, g1, k3, k5, F', moved_in k2, (h.to k1.st (moved_in k2)).bel⟩
  · exact absurd hl hn
end
theorem Rz.sub {w wr : World} {G F : Nat → Prop} {sv tv : Value} {sure waits : List (List UInt8)} (h : Rz w wr G sv tv sure waits) (hs : ∀ k, F k → G k) : Rz w wr F sv tv sure waits := ⟨h.s, h.t, fun g hg hk => h.ns g hg (hs g hk), fun g hg hk => h.nt g hg (hs g hk), h.ap⟩
theorem empty_grown {V V' : World} {T : TypeId} (gr : (V.alloc (.cells #[] T)).grownBy V' (Value.slice (some ⟨V.heap.size, 0, none⟩) 0 0).ownBlock) : Below V.heap.size V V' :=
  (K.ownOf_empty (enc := bvc) (K := 1) (T := T) V V.heap.size (Nat.le_refl _)).below gr ((Below.refl _ _).alloc (Nat.le_refl _) _) (by simp) (Nat.le_refl _)
/-- The beginning of a row. -/
theorem Rw.take {w : World} {a : Option Addr} {n c : Nat} {ls : List (List UInt8)} (h : Rw w (.slice a n c) ls) (k : Nat) (hk : k ≤ ls.length) : Rw w (.slice a k c) (ls.take k) := by
  obtain ⟨cs, h1, h2, h3⟩ := h
  refine ⟨cs.take k, ?_, by simp; omega, fun j u x hu hx => ?_⟩
  · rcases h1 with ⟨e, rfl⟩ | ⟨ad, cap, e, q1, q2, q3⟩
    · injection e with e1 e2 e3
      subst e1 e2 e3
      have : k = 0 := by simp at h2; omega
      subst this
      exact .inl ⟨rfl, by simp⟩
    · injection e with e1 e2 e3
      subst e1 e2 e3
      refine .inr ⟨ad, c, by simp; omega, by simp; omega, q2, fun j u hu => ?_⟩
      rw [List.getElem?_take] at hu
      split at hu
      · exact q3 j u hu
      · cases hu
  · rw [List.getElem?_take] at hu hx
    split at hu
    · rename_i hj
      rw [if_pos hj] at hx
      exact h3 j u x hu hx
    · cases hu
end Go.Proofs.YtjgdmbfkondakaaGreatDoor
