/-
  WHO IS NEXT IN TURN, of no program: the line behind so many rounds.
-/
import Derived.Test.YtooaiomghbjpiaaDesk17
namespace Go.Proofs.Ytooaiomghbjpiaa

instance : DecidableEq Se := fun a b => decidable_of_iff (a.c = b.c ∧ a.q = b.q ∧ a.m = b.m ∧ a.t = b.t) ⟨fun h => by cases a; cases b; simp at h; simp [h], fun h => by rw [h]; exact ⟨rfl, rfl, rfl, rfl⟩⟩
/-- A client that was given n messages, one a round. -/
def seatT (k r c n : Nat) : Se := ⟨(c : Int), ⟨#[113]⟩, (r : Int), (List.range n).map fun j => ((j * k + c : Nat) : Int)⟩
/-- The line within round j, where i is next. -/
def lineT (k r j i : Nat) : List Se := ((List.range (k + 1 - i)).map fun x => seatT k r (i + x) j) ++ ((List.range (i - 1)).map fun x => seatT k r (x + 1) (j + 1))
set_option maxRecDepth 100000 in
theorem turn_adds : ∀ k, k < 9 → ∀ r, r < 9 → 1 ≤ r → ∀ m, m < k → addE ((List.range m).map fun x => seatT k r (x + 1) 0) ((m : Int) + 1) ⟨#[113]⟩ (r : Int) = 0 ∧ addL ((List.range m).map fun x => seatT k r (x + 1) 0) ((m : Int) + 1) ⟨#[113]⟩ (r : Int) = (List.range (m + 1)).map fun x => seatT k r (x + 1) 0 := by decide +kernel
instance : DecidableEq (Option Se) := fun a b => match a, b with
  | none, none => isTrue rfl
  | none, some _ => isFalse (by simp)
  | some _, none => isFalse (by simp)
  | some x, some y => if h : x = y then isTrue (by rw [h]) else isFalse (by simpa using h)
set_option maxRecDepth 100000 in
theorem turn_next1 : ∀ k, k < 9 → ∀ r, r < 9 → ∀ j, j < r → ∀ i, i < k → nextC (lineT k r j (i + 1)) ⟨#[113]⟩ = some (seatT k r (i + 1) j) := by decide +kernel
set_option maxRecDepth 100000 in
theorem turn_next2 : ∀ k, k < 9 → ∀ r, r < 9 → ∀ j, j < r → ∀ i, i < k → tookE (lineT k r j (i + 1)) ((i : Int) + 1) ((j * k + i + 1 : Nat) : Int) = 0 := by decide +kernel
set_option maxRecDepth 100000 in
theorem turn_next3 : ∀ k, k < 9 → ∀ r, r < 9 → ∀ j, j < r → ∀ i, i < k → tookL (lineT k r j (i + 1)) ((i : Int) + 1) ((j * k + i + 1 : Nat) : Int) = lineT k r j (i + 2) := by decide +kernel
set_option maxRecDepth 100000 in
theorem turn_over1 : ∀ k, k < 9 → ∀ r, r < 9 → nextC (lineT k r r 1) ⟨#[113]⟩ = none := by decide +kernel
set_option maxRecDepth 100000 in
theorem turn_over2 : ∀ k, k < 9 → 1 ≤ k → ∀ r, r < 9 → findC (lineT k r r 1) 1 = some (seatT k r 1 r) := by decide +kernel
set_option maxRecDepth 100000 in
theorem turn_over3 : ∀ k, k < 9 → 1 ≤ k → ∀ r, r < 9 → (cutC (lineT k r r 1) 1).length + 1 = k ∧ dropE (lineT k r r 1) 1 = 0 := by decide +kernel
theorem turn_round (k r j : Nat) : lineT k r j (k + 1) = lineT k r (j + 1) 1 := by
  unfold lineT
  rw [Nat.sub_self, Nat.add_sub_cancel, Nat.sub_self]
  simp [Nat.add_comm]
theorem turn_start (k r : Nat) : ((List.range k).map fun x => seatT k r (x + 1) 0) = lineT k r 0 1 := by
  unfold lineT
  rw [Nat.sub_self, Nat.add_sub_cancel]
  simp [Nat.add_comm]
theorem turn_few {k r j i : Nat} (hj : j ≤ 8) {s : Se} (h : s ∈ lineT k r j i) : s.t.length ≤ 9 := by
  unfold lineT at h
  rcases List.mem_append.1 h with h | h
  · obtain ⟨x, _, rfl⟩ := List.mem_map.1 h
    simp [seatT]; omega
  · obtain ⟨x, _, rfl⟩ := List.mem_map.1 h
    simp [seatT]; omega
end Go.Proofs.Ytooaiomghbjpiaa
