/-
  WHAT THE DOCUMENT's Fail LEAVES OF A FILE is what the model says. Of no program.
-/
import Derived.Test.YtndinjekocgjhaaModel
namespace Go.Proofs.Ytndinjekocgjhaa
open Go.RowKit

/-- Are the sure bytes the first ones? -/
def sureFirst (x : Fl) : Bool := decide (x.sure.length ≤ x.now.length ∧ x.now.take x.sure.length = x.sure)
theorem sureFirst_pre (x : Fl) : sureFirst x = x.sure.isPrefixOf x.now := by
  unfold sureFirst
  rw [Bool.eq_iff_iff, decide_eq_true_eq, List.isPrefixOf_iff_prefix]
  constructor
  · rintro ⟨_, h⟩
    rw [← h]
    exact List.take_prefix _ _
  · intro h
    exact ⟨h.length_le, (List.prefix_iff_eq_take.1 h).symm⟩
/-- How many bytes are left then. -/
def leftN (k : Int) (x : Fl) : Nat := x.sure.length + min k.toNat (x.now.length - x.sure.length)
theorem leftF_first {k : Int} {x : Fl} (h : sureFirst x = true) : leftF k x = x.now.take (leftN k x) := by
  rw [sureFirst_pre] at h
  unfold leftF leftN
  rw [if_pos h]
theorem leftF_else {k : Int} {x : Fl} (h : sureFirst x = false) : leftF k x = x.sure := by
  rw [sureFirst_pre] at h
  unfold leftF
  rw [if_neg (by rw [h]; decide)]
theorem leftN_le {k : Int} {x : Fl} (h : sureFirst x = true) : leftN k x ≤ x.now.length := by
  unfold sureFirst at h
  rw [decide_eq_true_eq] at h
  unfold leftN
  omega
/-- The document's own way to that number. -/
theorem leftN_doc (k : Int) {x : Fl} (h : sureFirst x = true) : (leftN k x : Int) = if 0 < (if (x.now.length : Int) - x.sure.length < k then (x.now.length : Int) - x.sure.length else k) then (x.sure.length : Int) + (if (x.now.length : Int) - x.sure.length < k then (x.now.length : Int) - x.sure.length else k) else (x.sure.length : Int) := by
  unfold sureFirst at h
  rw [decide_eq_true_eq] at h
  unfold leftN
  split <;> split at * <;> omega
end Go.Proofs.Ytndinjekocgjhaa
