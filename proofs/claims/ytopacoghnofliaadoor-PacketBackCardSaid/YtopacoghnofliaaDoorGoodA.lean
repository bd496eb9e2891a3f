/-
  Good, by its contract.
-/
import Derived.Test.YtopacoghnofliaaDoorOnly2
import Derived.Test.YtopacoghnofliaaDoorRMsgs
import Derived.Test.YtopacoghnofliaaDoorEq13
import Derived.Deep.RegionLaw
import Derived.Deep.RegionWith
namespace Go.Proofs.YtopacoghnofliaaDoor
open Go.RowKit


theorem lettersL_ascii {k : Int} {l : List UInt8} (h : lettersL k = some l) : ∀ c ∈ l, c.toNat < 128 := by
  unfold lettersL at h
  have st : ∀ (i : Int) (x : List UInt8) (o : Option (List UInt8)), (∀ c ∈ x, c.toNat < 128) → (if k = i then some x else o) = some l → (∀ c ∈ l, c.toNat < 128) ∨ o = some l := by
    intro i x o hx he
    by_cases hk : k = i
    · rw [if_pos hk] at he
      obtain rfl := Option.some.inj he
      exact .inl hx
    · rw [if_neg hk] at he
      exact .inr he
  rcases st _ _ _ (by decide) h with h | h
  · exact h
  rcases st _ _ _ (by decide) h with h | h
  · exact h
  rcases st _ _ _ (by decide) h with h | h
  · exact h
  rcases st _ _ _ (by decide) h with h | h
  · exact h
  rcases st _ _ _ (by decide) h with h | h
  · exact h
  rcases st _ _ _ (by decide) h with h | h
  · exact h
  rcases st _ _ _ (by decide) h with h | h
  · exact h
  rcases st _ _ _ (by decide) h with h | h
  · exact h
  rcases st _ _ _ (by decide) h with h | h
  · exact h
  rcases st _ _ _ (by decide) h with h | h
  · exact h
  rcases st _ _ _ (by decide) h with h | h
  · exact h
  rcases st _ _ _ (by decide) h with h | h
  · exact h
  exact absurd h (by simp)

theorem lettersS_txt {k : Int} {l : List UInt8} (h : lettersL k = some l) : txt (lettersS k) = l := by
  unfold lettersS
  rw [h]
  simp [txt]

/-- The cells of an act in a box. -/
theorem cells17 {w : World} {p : Nat} {t : TypeId} {a : Ax} (h : w.heap[p]? = some (.cells (xcells a).toArray t (0, 0))) : w.cell? ⟨p, 0, none⟩ = some (.int .i64 a.kind) ∧ w.cell? ⟨p, 1, none⟩ = some (.string a.name) ∧ w.cell? ⟨p, 2, none⟩ = some (.int .i64 a.n) ∧ w.cell? ⟨p, 3, none⟩ = some (.int .u64 a.tag) ∧ w.cell? ⟨p, 4, none⟩ = some (.int .i64 a.to) ∧ w.cell? ⟨p, 5, none⟩ = some (.string a.xn) ∧ w.cell? ⟨p, 6, none⟩ = some (.int .i64 a.xk) ∧ w.cell? ⟨p, 7, none⟩ = some (.bool a.xf) ∧ w.cell? ⟨p, 8, none⟩ = some (.string a.be) ∧ w.cell? ⟨p, 9, none⟩ = some (.string a.bq) ∧ w.cell? ⟨p, 10, none⟩ = some (.string a.bp) ∧ w.cell? ⟨p, 11, none⟩ = some (.int .i64 a.m.origin) ∧ w.cell? ⟨p, 12, none⟩ = some (.int .u64 a.m.seq) ∧ w.cell? ⟨p, 13, none⟩ = some (.int .i64 a.m.hop) ∧ w.cell? ⟨p, 14, none⟩ = some (.string a.m.ex) ∧ w.cell? ⟨p, 15, none⟩ = some (.string a.m.key) ∧ w.cell? ⟨p, 16, none⟩ = some (.string a.m.body) :=
  ⟨box_at h rfl, box_at h rfl, box_at h rfl, box_at h rfl, box_at h rfl, box_at h rfl, box_at h rfl, box_at h rfl, box_at h rfl, box_at h rfl, box_at h rfl, box_at h rfl, box_at h rfl, box_at h rfl, box_at h rfl, box_at h rfl, box_at h rfl⟩

theorem iterAt_other {w : World} {q : Nat} {s : ByteArray} {pos k : Nat} (hk : k ≠ q) : (w.iterAt q s pos).heap[k]? = w.heap[k]? := by
  unfold World.iterAt
  simp only
  rw [Array.getElem?_setIfInBounds_ne (fun e => hk e.symm)]

theorem iterAt_below {w0 w : World} {n q : Nat} {s : ByteArray} {pos : Nat} (hb : Below n w0 w) (hq : n ≤ q) : Below n w0 (w.iterAt q s pos) :=
  ⟨hb.os, hb.tape, hb.output, by simp [World.iterAt]; exact hb.size, fun k hk => (iterAt_other (by omega)).trans (hb.block k hk)⟩

end Go.Proofs.YtopacoghnofliaaDoor
