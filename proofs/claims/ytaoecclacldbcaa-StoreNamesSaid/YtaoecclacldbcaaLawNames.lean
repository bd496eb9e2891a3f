/-
  THE LAW StoreNames.
-/
import Derived.Test.YtaoecclacldbcaaLives
namespace Go.Proofs.Ytaoecclacldbcaa
open Go.RowKit

set_option maxRecDepth 20000 in
theorem names_law (s : ByteArray) (w : World) (hs : s.size ≤ maxLen) : Calls Try.prog 4 #[.string s] w fun e w' => e = .returned (.bool true) ∧ Below w.heap.size w w' := by
  have hG := good_any s w hs
  have hR := rgood_any s w hs
  have hL := lives_any w
  unfold maxLen at hs
  by_cases h1 : 1000 < s.size
  · have h1' : (1000 : Int) < (s.size : Int) := by omega
    go_enter Try.func4, Try.ntmps4
    go_wp2
    go_ret
    exact ⟨rfl, Below.refl _ _⟩
  · have h1' : ¬ (1000 : Int) < (s.size : Int) := by omega
    generalize goodN s = g at *
    go_enter Try.func4, Try.ntmps4
    go_wp2_with (first
      | (go_at_call 21; refine hG.mono ?_; rintro e w ⟨rfl, rfl⟩)
      | (go_at_call 22; refine hR.mono ?_; rintro e w ⟨rfl, rfl⟩)
      | (go_at_call 12; refine hL.mono ?_; rintro e w1 ⟨rfl, b1⟩))
    go_ret
    exact ⟨rfl, b1⟩
end Go.Proofs.Ytaoecclacldbcaa
