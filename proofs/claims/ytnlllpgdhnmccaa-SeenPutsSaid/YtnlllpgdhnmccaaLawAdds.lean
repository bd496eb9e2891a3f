/-
  THE LAW SpanAdds.
-/
import Derived.Test.YtnlllpgdhnmccaaLives
namespace Go.Proofs.Ytnlllpgdhnmccaa
open Go.RowKit

/-- In w the slice v holds just these numbers. -/
def Nums (w : World) (v : Value) (l : List Nat) : Prop :=
  (v = .slice none 0 0 ∧ l = []) ∨ ∃ a cap, v = .slice (some a) l.length cap ∧ l.length ≤ cap ∧ cap ≤ maxLen ∧ ∀ i (h : i < l.length), w.cell? (a.add i) = some (.int .u64 (l[i] : Int))
theorem Nums.slice {w : World} {v : Value} {l : List Nat} (h : Nums w v l) : ∃ a cap, v = .slice a l.length cap ∧ l.length ≤ 9223372036854775807 := by
  rcases h with ⟨rfl, rfl⟩ | ⟨a, cap, rfl, h1, h2, _⟩
  · exact ⟨_, _, rfl, by simp⟩
  · exact ⟨_, _, rfl, by unfold maxLen at h2; omega⟩
theorem Nums.at {w : World} {a : Option Addr} {cap : Nat} {l : List Nat} (h : Nums w (.slice a l.length cap) l) (i : Nat) (hi : i < l.length) : ∃ b off, a = some ⟨b, off, none⟩ ∧ w.cell? ⟨b, off + i, none⟩ = some (.int .u64 (l[i] : Int)) := by
  rcases h with ⟨_, rfl⟩ | ⟨a', cap', hv, _, _, h3⟩
  · simp at hi
  · injection hv with hv1 _ _
    subst hv1
    obtain ⟨b, off, spot⟩ := a'
    have h0 := h3 i hi
    have hspot : spot = none := by simpa [Addr.add] using World.cell?_spot (h3 0 (by omega))
    subst hspot
    refine ⟨b, off, rfl, ?_⟩
    rw [← Go.WideShapes.add_plain]
    exact h0

/-- The document's Add and the program's tell the same ranges. -/
theorem put_eq_add {l : List (Nat × Nat)} {n : Nat} (h : Apart 1 l) (hn : ¬ (n = 0 ∨ Mem l n)) : putL l (n, n) = addL l n := by
  have h0 : n ≠ 0 := fun h0 => hn (.inl h0)
  obtain ⟨a1, a2, _⟩ := addL_ok h h0 (fun hm => hn (.inr hm))
  obtain ⟨p1, p2⟩ := putL_ok l (n, n) 1 h (by show 1 ≤ n; omega) (Nat.le_refl _)
  refine p1.unique a1 fun m => ?_
  rw [p2 m, a2 m]
  constructor
  · rintro (h | ⟨h1, h2⟩)
    · exact .inl h
    · exact .inr (Nat.le_antisymm h2 h1)
  · rintro (h | rfl)
    · exact .inl h
    · exact .inr ⟨Nat.le_refl _, Nat.le_refl _⟩
theorem addS_length {l : List (Nat × Nat)} {n : Nat} (h : Apart 1 l) : (addS l n).length ≤ l.length + 1 := by
  by_cases hh : n = 0 ∨ Mem l n
  · rw [addS_no hh]; omega
  · rw [addS_yes hh, ← put_eq_add h hh]; exact putL_length _ _

/-- A row of ranges keeps while a set is added to, whose row it is not. -/
theorem Own2.turned {w1 w2 : World} {b B : Nat} {lv v : Value} {l k : List (Nat × Nat)} (h : Own2 w1 b lv l) (hs : SetAt w1 B v k) (t : Turned w1 w2 B v) (hne : ∀ g, lv.ownBlock = some g → v.ownBlock ≠ some g) : Own2 w2 b lv l := by
  refine h.same fun g hg => t.block g (World.ownsRow.lt h g hg).2 (fun he => ?_) (hne g hg)
  subst he
  rcases h.2 with ⟨rfl, _⟩ | ⟨g', cap, cur, rfl, _, hgg, _⟩
  · simp [Value.ownBlock] at hg
  · simp only [Value.ownBlock, Option.some.injEq] at hg
    subst hg
    have := hs.blk
    rw [hgg] at this
    simp at this

end Go.Proofs.Ytnlllpgdhnmccaa
