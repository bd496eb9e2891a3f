/-
  THE CALL OF A LETTER: a method value, by its contract.
-/
import Derived.Test.YteimdolckhpndaaDoorMem13b
namespace Go.Proofs.YteimdolckhpndaaDoor
open Go.RowKit

/-- The method of a letter. -/
def tk (c : UInt8) : Nat := if c = 110 then 74 else if c = 100 ∨ c = 99 then 75 else if c = 116 then 76 else if c = 115 then 77 else if c = 120 then 78 else if c = 98 then 79 else 80
def lettersAll : List UInt8 := [110, 100, 99, 116, 115, 120, 98, 109]
theorem lettersL_in {k : Int} {l : List UInt8} (h : lettersL k = some l) : ∀ c ∈ l, c ∈ lettersAll := by
  unfold lettersL at h
  have st : ∀ (i : Int) (x : List UInt8) (o : Option (List UInt8)), (∀ c ∈ x, c ∈ lettersAll) → (if k = i then some x else o) = some l → (∀ c ∈ l, c ∈ lettersAll) ∨ o = some l := by
    intro i x o hx he
    by_cases hk : k = i
    · rw [if_pos hk] at he
      obtain rfl := Option.some.inj he
      exact .inl hx
    · rw [if_neg hk] at he
      exact .inr he
  rcases st _ _ _ (by decide) h with h | h
  · exact h
  rcases st _ _ _ (by decide) h with h | h
  · exact h
  rcases st _ _ _ (by decide) h with h | h
  · exact h
  rcases st _ _ _ (by decide) h with h | h
  · exact h
  rcases st _ _ _ (by decide) h with h | h
  · exact h
  rcases st _ _ _ (by decide) h with h | h
  · exact h
  rcases st _ _ _ (by decide) h with h | h
  · exact h
  rcases st _ _ _ (by decide) h with h | h
  · exact h
  rcases st _ _ _ (by decide) h with h | h
  · exact h
  rcases st _ _ _ (by decide) h with h | h
  · exact h
  rcases st _ _ _ (by decide) h with h | h
  · exact h
  rcases st _ _ _ (by decide) h with h | h
  · exact h
  exact absurd h (by simp)
set_option maxRecDepth 20000 in
theorem call_any (p : Nat) (c : UInt8) (hc : c ∈ lettersAll) (w : World) :
    Calls Tryd.prog 64 #[.pointer (some ⟨p, 0, none⟩), .int .i32 (c.toNat : Int)] w fun e w' => e = .returned (.func (.func (tk c)) #[.pointer (some ⟨p, 0, none⟩)] #[]) ∧ w' = w := by
  simp only [lettersAll, List.mem_cons, List.not_mem_nil, or_false] at hc
  rcases hc with rfl | rfl | rfl | rfl | rfl | rfl | rfl | rfl
  all_goals
    go_enter Tryd.func64, Tryd.ntmps64
    go_wp2
    go_ret
    exact ⟨rfl, rfl⟩
/-- .. one letter more. -/
theorem takesP_snoc (c : UInt8) : ∀ (cs : List UInt8) (z : Ax), takesP (cs ++ [c]) z = bindP (takesP cs z) fun z => takeP z c
  | [], z => by
    funext l
    simp only [List.nil_append, takesP, bindP, pureP, Option.bind_some]
    cases takeP z c l with
    | none => rfl
    | some r => rfl
  | d :: cs, z => by
    funext l
    simp only [List.cons_append, takesP, bindP]
    cases takeP z d l with
    | none => rfl
    | some r =>
      simp only [Option.bind_some]
      rw [takesP_snoc c cs r.1]
      rfl
end Go.Proofs.YteimdolckhpndaaDoor
