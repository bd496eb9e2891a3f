/-
  THE DOCUMENT's first, Plan, Power, by their contracts.
-/
import Derived.Test.YtndinjekocgjhaaRNeed
namespace Go.Proofs.Ytndinjekocgjhaa
open Go.RowKit

theorem posE_find (l : List En) (n : ByteArray) : (posE l n < 0 ∧ findE l n = none) ∨ ∃ i, ∃ hi : i < l.length, posE l n = (i : Int) ∧ findE l n = some l[i] := by
  cases h : l.findIdx? (fun e => decide (e.name = n)) with
  | none =>
    refine .inl ⟨by unfold posE; rw [h]; decide, ?_⟩
    unfold findE
    rw [List.find?_eq_none]
    intro x hx
    have := List.findIdx?_eq_none_iff.1 h x hx
    simpa using this
  | some i =>
    obtain ⟨hi, h1, h2⟩ := List.findIdx?_eq_some_iff_getElem.1 h
    refine .inr ⟨i, hi, by unfold posE; rw [h], ?_⟩
    unfold findE
    rw [List.find?_eq_some_iff_getElem]
    exact ⟨h1, i, hi, rfl, fun j hj => by simpa using h2 j hj⟩
section
variable {w : World} {p : Nat} {A D S : Value} {L : List Rf} {kp : Int} {m : M}
set_option maxRecDepth 20000 in
set_option maxHeartbeats 1000000 in
theorem rfirst_at (h : RAt w p A D S L kp m) (n : ByteArray) (b : Bool) (hs : n.size ≤ maxLen) :
    Calls Try.prog 59 #[.pointer (some ⟨p, 0, none⟩), .string n, .bool b] w fun e w' => e = .returned (.int .i64 (m.first n b)) ∧ Below w.heap.size w w' := by
  obtain ⟨_, _, _, _, c4, _, _, _⟩ := h.cells
  have hF := rfind_at h n
  have hG := rgood_any n w hs
  unfold M.first
  clear h
  cases hd : m.dark with
  | true =>
    rw [hd] at c4
    clear hF hG
    go_enter Try.func59, Try.ntmps59
    go_wp2
    go_ret
    exact ⟨rfl, Below.refl _ _⟩
  | false =>
    rw [hd] at c4
    simp only [Bool.false_eq_true, if_false]
    cases hg : goodN n with
    | false =>
      rw [hg] at hG
      clear hF
      go_enter Try.func59, Try.ntmps59
      go_wp2_with (go_at_call 67; refine hG.mono ?_; rintro e w ⟨rfl, rfl⟩)
      go_ret
      exact ⟨rfl, Below.refl _ _⟩
    | true =>
      rw [hg] at hG
      simp only [Bool.true_eq_false, if_false]
      cases b with
      | false =>
        clear hF
        go_enter Try.func59, Try.ntmps59
        go_wp2_with (go_at_call 67; refine hG.mono ?_; rintro e w ⟨rfl, rfl⟩)
        go_ret
        exact ⟨rfl, Below.refl _ _⟩
      | true =>
        rcases posE_find m.dir n with ⟨h1, h2⟩ | ⟨i, hi, h1, h2⟩
        · rw [h2]
          generalize posE m.dir n = z at *
          go_enter Try.func59, Try.ntmps59
          go_wp2_with (first
            | (go_at_call 67; refine hG.mono ?_; rintro e w ⟨rfl, rfl⟩)
            | (go_at_call 60; refine hF.mono ?_; rintro e w4 ⟨rfl, b4⟩))
          go_ret
          exact ⟨rfl, b4⟩
        · rw [h2]
          rw [h1] at hF
          have h3 : ¬ (i : Int) < 0 := by omega
          go_enter Try.func59, Try.ntmps59
          go_wp2_with (first
            | (go_at_call 67; refine hG.mono ?_; rintro e w ⟨rfl, rfl⟩)
            | (go_at_call 60; refine hF.mono ?_; rintro e w4 ⟨rfl, b4⟩))
          go_ret
          exact ⟨rfl, b4⟩
end
end Go.Proofs.Ytndinjekocgjhaa
