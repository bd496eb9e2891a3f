/-
  THE WALK of 'lives'; the law SealBytes.
-/
import Derived.Test.YtpdmcodnnhbchaaDoorFacts
namespace Go.Proofs.YtpdmcodnnhbchaaDoor
open Go.RowKit

/-- What was made on the way lies beyond: the table is as it was, whatever lay lies as it lay. -/
structure Since (w w' : World) : Prop where
  old : Tab w
  bel : Below w.heap.size w w'
theorem Since.refl {w : World} (h : Tab w) : Since w w := ⟨h, Below.refl _ _⟩
theorem Since.tab {w w1 : World} (h : Since w w1) : Tab w1 := h.old.below h.bel h.old.pos
theorem Since.size {w w1 : World} (h : Since w w1) : w.heap.size ≤ w1.heap.size := h.bel.size
theorem Since.go {w w1 w2 : World} (h : Since w w1) (b : Below w1.heap.size w1 w2) : Since w w2 := ⟨h.old, h.bel.trans (b.mono h.bel.size)⟩
theorem Since.go' {w w1 w2 : World} {base : Nat} (h : Since w w1) (b : Below base w1 w2) (hb : w.heap.size ≤ base) : Since w w2 := ⟨h.old, h.bel.trans (b.mono hb)⟩
theorem Since.alloc {w w1 : World} (h : Since w w1) (o : Obj) : Since w (w1.alloc o) := ⟨h.old, h.bel.alloc h.bel.size o⟩

set_option maxHeartbeats 400000 in
theorem lives_any (w : World) (ht : Tab w) :
    Calls Tryd.prog 9 #[] w fun e w' => e = .returned (.bool true) ∧ Below w.heap.size w w' := by
  have hl0 := sealL_length [] (by simp)
  have hl1 := sealL_length [1] (by simp)
  have lc := lives_c
  have ls := lives_s
  have HL : Hid ((sealL []).length = 8 ∧ (sealL [1]).length = 9 ∧ wholeC (sealL [] ++ (sealL [1] ++ [7])) = [[], [1]] ∧ wholeS (sealL [] ++ (sealL [1] ++ [7])) = 17) := ⟨hl0, hl1, lc, ls⟩
  clear hl0 hl1 lc ls
  go_enter Tryd.func9, Tryd.ntmps9
  go_wp2_with fail
  refine (seal_any _ [] _ ht (.inl ⟨rfl, rfl⟩)).mono ?_
  rintro e w1 ⟨v1, rfl, own1, b1⟩
  have s1 := (Since.refl ht).go b1
  obtain ⟨a1, c1, hv1⟩ := own1.holds.slice
  rw [HL.out.1] at hv1
  subst hv1
  go_wp2_with (at_builtin; refine wpList_append_bytes rfl (.tmp 6) (.tmp 7) 22 5 isU8 rfl w1.heap.size _ _ [] (sealL []) rfl rfl (owns_new _ _ _ [] (Nat.le_refl _) (by simp)) (own1.holds.below ((Below.refl _ _).alloc (Nat.le_refl _) _) (Nat.le_refl _)) (by simp [HL.out.1]) (by simp) ?_; intro v2 w2 own2 b2 z2)
  have s2 := (s1.alloc (.cells #[] 5)).go' b2 s1.size
  have hone := owns_new w2 w2.heap.size 5 [1] (Nat.le_refl _) (by simp [maxLen])
  refine (seal_any _ [1] _ (s2.alloc _).tab hone.holds).mono ?_
  rintro e w3 ⟨v3, rfl, own3, b3⟩
  have s3 := (s2.alloc (.cells #[.int .u8 1] 5)).go b3
  have own2' : Owns w3 w1.heap.size 5 v2 (sealL []) := (Owns.kept own2 ((Below.refl w2.heap.size w2).alloc (Nat.le_refl _) _) (Nat.le_refl _)).kept b3 (Nat.le_refl _)
  have z3 : w1.heap.size ≤ w3.heap.size := by have := b3.size; simp at this; omega
  go_wp2_with (first
    | (at_builtin; refine wpList_append_bytes rfl (.tmp 8) (.tmp 10) 22 5 isU8 rfl w1.heap.size _ _ (sealL []) (sealL [1]) rfl rfl own2' own3.holds (by simp [HL.out.1, HL.out.2.1]) z3 ?_; intro v4 w4 own4 b4 z4)
    | (at_builtin; refine wpList_append_bytes rfl (.tmp 11) (.tmp 12) 22 5 isU8 rfl w1.heap.size _ _ (sealL [] ++ sealL [1]) [7] rfl rfl (World.ownsRow.alloc own4 _) (owns_new _ w4.heap.size _ [7] (Nat.le_refl _) (by simp [maxLen])).holds (by simp [HL.out.1, HL.out.2.1]) (by simp; omega) ?_; intro v5 w5 own5 b5 z5))
  rw [List.append_assoc] at own5
  have s5 := ((s3.go' b4 s1.size).alloc (.cells #[.int .u8 7] 5)).go' b5 s1.size
  refine (whole_any _ _ _ s5.tab own5.holds (by simp [HL.out.1, HL.out.2.1])).mono ?_
  rintro e w6 ⟨v6, cs6, he6, row6, all6, b6⟩
  rw [HL.out.2.2.2] at he6
  rw [HL.out.2.2.1] at all6
  have hcs : cs6.length = 2 := all6.1
  obtain ⟨a6, c6, hv6⟩ := row6.slice
  rw [hcs] at hv6
  subst hv6 he6
  go_wp2
  go_ret
  exact ⟨rfl, (s5.go b6).bel⟩
end Go.Proofs.YtpdmcodnnhbchaaDoor
