/-
  ACTS IN MEMORY.
-/
import Derived.Test.YtkdjpleedaldcaaNone21
import Derived.Test.YtkdjpleedaldcaaStructs
namespace Go.Proofs.Ytkdjpleedaldcaa
open Go.RowKit

instance : Enc acells 8 where
  len _ := rfl
  one r u hu := by
    simp only [acells, List.mem_cons, List.not_mem_nil, or_false] at hu
    rcases hu with rfl | rfl | rfl | rfl | rfl | rfl | rfl | rfl <;> rfl
  pos := by decide
end Go.Proofs.Ytkdjpleedaldcaa
