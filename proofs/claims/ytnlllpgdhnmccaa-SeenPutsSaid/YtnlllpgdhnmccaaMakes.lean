/-
  PACKAGE span: what makes a row or a set anew: another, Ranges, Copy, New.
-/
import Derived.Test.YtnlllpgdhnmccaaSets
namespace Go.Proofs.Ytnlllpgdhnmccaa
open Go.RowKit

/-- A set that a call made: its block, its row of the call's own. -/
structure SetAt (w : World) (B : Nat) (v : Value) (l : List (Nat × Nat)) : Prop where
  blk : w.heap[B]? = some (.cells #[.bool true, v] 80 (0, 0))
  own : Own2 w 0 v l
theorem SetAt.lies {w : World} {B : Nat} {v : Value} {l : List (Nat × Nat)} (h : SetAt w B v l) : Lies w (.pointer (some ⟨B, 0, none⟩)) l := .inr ⟨B, true, v, rfl, h.blk, h.own.rng⟩
theorem SetAt.lt {w : World} {B : Nat} {v : Value} {l : List (Nat × Nat)} (h : SetAt w B v l) : B < w.heap.size := (Array.getElem?_eq_some_iff.1 h.blk).1
theorem SetAt.ne {w : World} {B : Nat} {v : Value} {l : List (Nat × Nat)} (h : SetAt w B v l) : v.ownBlock ≠ some B := by
  rcases h.own.2 with ⟨rfl, _⟩ | ⟨g, cap, cur, rfl, _, hg, _⟩
  · simp [Value.ownBlock]
  · intro he
    simp only [Value.ownBlock, Option.some.injEq] at he
    subst he
    rw [h.blk] at hg
    simp at hg
theorem SetAt.kept {w w' : World} {B C : Nat} {v : Value} {l : List (Nat × Nat)} (h : SetAt w B v l) (hb : Below C w w') (hC : w.heap.size ≤ C) : SetAt w' B v l :=
  ⟨by rw [hb.block B (by have := h.lt; omega)]; exact h.blk, h.own.kept hb hC⟩
/-- .. whatever else changes, as long as its own blocks do not. -/
theorem SetAt.same {w w' : World} {B : Nat} {v : Value} {l : List (Nat × Nat)} (h : SetAt w B v l) (hB : w'.heap[B]? = w.heap[B]?) (hs : ∀ g, v.ownBlock = some g → w'.heap[g]? = w.heap[g]?) : SetAt w' B v l :=
  ⟨by rw [hB]; exact h.blk, h.own.same hs⟩
/-- A set's blocks lie from base on. -/
def From0 (base B : Nat) (v : Value) : Prop := base ≤ B ∧ ∀ g, v.ownBlock = some g → base ≤ g

set_option maxHeartbeats 400000 in
theorem another_any (v : Value) (l : List (Nat × Nat)) (w : World) (hr : Rng w v l) (hlen : l.length ≤ 1000000) :
    Calls Try.prog 52 #[v] w fun e w' => ∃ v', e = .returned v' ∧ Own2 w' w.heap.size v' l ∧ Below w.heap.size w w' := by
  by_cases hp : 0 < l.length
  · obtain ⟨b, off, cap, rfl, h1, h2, hc⟩ := hr.at hp
    obtain ⟨i, hi, hz, hsz, hby⟩ := rngInfo
    have hne : ¬ ((l.length : Int) = 0) := by omega
    have hl1 := rcells_length l
    have HC : Hid (∀ j u, (rcells l)[j]? = some u → w.cell? ((⟨b, off, none⟩ : Addr).add j) = some u) := fun j u hj => by rw [Addr.add_lit]; exact hc j u hj
    clear hc hr
    go_enter Try.func52, Try.ntmps52
    go_wp2_with (at_builtin; refine wpList_append_grows _ rfl (.tmp 7) (.tmp 8) 30 rfl 76 i _ 2 16 Try.underlying30 hi hz hsz hby rfl (by decide) _ 0 0 [] rfl (fun _ => ⟨rfl, rfl⟩) rfl (fun _ _ j u hj => by simp at hj) ⟨b, off, none⟩ l.length cap (rcells l) rfl hl1 HC.out (rcells_one l) (by omega) (by unfold maxLen; omega) (by omega) ?_; intro v' w' own' grown'; obtain ⟨va, vc, hva⟩ : ∃ a c, v' = .slice a l.length c := (by rcases own'.2 with ⟨_, h0⟩ | ⟨g, c, cur, h, _⟩; exact absurd h0 (by omega); exact ⟨_, _, by rw [h, Nat.zero_add]⟩); subst hva)
    all_goals go_ret
    all_goals (refine ⟨_, rfl, ?_, ⟨grown'.os, grown'.tape, grown'.output, grown'.size, fun k hk => grown'.block k hk (by simp)⟩⟩; unfold Own2; rw [Nat.zero_add] at own'; exact own')
  · obtain rfl : l = [] := List.eq_nil_of_length_eq_zero (by omega)
    obtain ⟨a, cap, rfl⟩ := hr.slice
    simp only [List.length_nil]
    go_enter Try.func52, Try.ntmps52
    go_wp2
    go_ret
    exact ⟨_, rfl, own2_nil _ _, Below.refl _ _⟩

set_option maxHeartbeats 400000 in
theorem ranges_any (s : Value) (l : List (Nat × Nat)) (w : World) (hs : Lies w s l) (hlen : l.length ≤ 1000000) :
    Calls Try.prog 41 #[s] w fun e w' => ∃ v', e = .returned v' ∧ Own2 w' w.heap.size v' l ∧ Below w.heap.size w w' := by
  go_enter Try.func41, Try.ntmps41
  go_wp2_with fail
  refine (list_any s l w hs).mono ?_
  rintro e w' ⟨v, rfl, hr, rfl⟩
  go_wp2_with fail
  refine (another_any v l _ hr hlen).mono ?_
  rintro e w2 ⟨v', rfl, own, b⟩
  obtain ⟨va, vc, rfl⟩ := own.rng.slice
  go_wp2
  go_ret
  exact ⟨_, rfl, own, b⟩

theorem setAt_new {w : World} {v : Value} {l : List (Nat × Nat)} (h : Own2 w 0 v l) : SetAt (w.alloc (.cells #[.bool true, v] 80)) w.heap.size v l := ⟨heap_alloc_new w _, h.alloc _⟩

set_option maxHeartbeats 400000 in
theorem copy_any (s : Value) (l : List (Nat × Nat)) (w : World) (hs : Lies w s l) (hlen : l.length ≤ 1000000) :
    Calls Try.prog 40 #[s] w fun e w' => ∃ B v, e = .returned (.pointer (some ⟨B, 0, none⟩)) ∧ SetAt w' B v l ∧ From0 w.heap.size B v ∧ Below w.heap.size w w' := by
  go_enter Try.func40, Try.ntmps40
  go_wp2_with fail
  refine (list_any s l w hs).mono ?_
  rintro e w' ⟨v, rfl, hr, rfl⟩
  go_wp2_with fail
  refine (another_any v l _ hr hlen).mono ?_
  rintro e w2 ⟨v', rfl, own, b⟩
  obtain ⟨va, vc, rfl⟩ := own.rng.slice
  go_wp2
  go_ret
  exact ⟨_, _, rfl, setAt_new (own.mono (Nat.zero_le _)), ⟨b.size, fun g hg => (World.ownsRow.lt own g hg).1⟩, b.alloc b.size _⟩

set_option maxHeartbeats 400000 in
theorem new_any (w : World) :
    Calls Try.prog 24 #[] w fun e w' => e = .returned (.pointer (some ⟨w.heap.size, 0, none⟩)) ∧ SetAt w' w.heap.size (.slice none 0 0) [] ∧ w' = w.alloc (.cells #[.bool true, .slice none 0 0] 80) := by
  go_enter Try.func24, Try.ntmps24
  go_wp2
  go_ret
  exact ⟨rfl, setAt_new (own2_nil _ _), rfl⟩
end Go.Proofs.Ytnlllpgdhnmccaa
