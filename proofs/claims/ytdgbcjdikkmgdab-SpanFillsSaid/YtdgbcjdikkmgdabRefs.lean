/-
  THE DOCUMENT's ANSWERS that only read, by their contracts.
-/
import Derived.Test.YtdgbcjdikkmgdabPairs
import Derived.Test.YtdgbcjdikkmgdabPuts
import Derived.Laws.StructEq
namespace Go.Proofs.Ytdgbcjdikkmgdab
open Go.RowKit

theorem topL_at {l : List (Nat × Nat)} {k : Nat} (hk : l.length = k + 1) : topL l = (l[k]'(by omega)).2 := by
  have h : l.getLast? = some (l[k]'(by omega)) := by
    rw [List.getLast?_eq_getElem?, show l.length - 1 = k by omega, List.getElem?_eq_getElem (by omega)]
  unfold topL
  rw [h]
theorem lowL_at {l : List (Nat × Nat)} (hp : 0 < l.length) : lowL l = if l[0].1 = 1 then l[0].2 else 0 := by
  cases l with
  | nil => simp at hp
  | cons r t => rfl

theorem gapsL_succ (l : List (Nat × Nat)) (k : Nat) (h : k < l.length) : gapsL (l.take (k + 1)) = gapsL (l.take k) + if l[k].1 = 1 then 0 else 1 := by
  unfold gapsL
  rw [List.take_succ_eq_append_getElem h, List.countP_append]
  by_cases h1 : l[k].1 = 1 <;> simp [h1]

theorem memB_succ (l : List (Nat × Nat)) (k n : Nat) (h : k < l.length) : memB (l.take (k + 1)) n = (memB (l.take k) n || (decide (l[k].1 ≤ n) && decide (n ≤ l[k].2))) := by
  unfold memB
  rw [List.take_succ_eq_append_getElem h, List.any_append]
  simp
theorem memB_of_take {l : List (Nat × Nat)} {k n : Nat} (h : k < l.length) (h1 : l[k].1 ≤ n) (h2 : n ≤ l[k].2) : memB l n = true := by
  rw [memB_iff]
  exact ⟨l[k], List.getElem_mem h, h1, h2⟩

end Go.Proofs.Ytdgbcjdikkmgdab
