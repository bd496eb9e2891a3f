/-
  Same, Lend, Kept, Texts, by their contracts.
-/
import Derived.Test.YtjgdmbfkondakaaTells
import Derived.RegionTactic
import Derived.Outline
namespace Go.Proofs.Ytjgdmbfkondakaa
open Go.RowKit

/-- Bytes that are there lie at plain addresses. -/
theorem Holds.at {w : World} {v : Value} {bs : List UInt8} (h : Holds w v bs) (hp : 0 < bs.length) :
    ∃ b off cap, v = .slice (some ⟨b, off, none⟩) bs.length cap ∧ bs.length ≤ cap ∧ cap ≤ maxLen ∧ ∀ j (hj : j < bs.length), w.cell? ⟨b, off + j, none⟩ = some (.int .u8 (bs[j].toNat : Int)) := by
  rcases h with ⟨rfl, rfl⟩ | ⟨a, cap, rfl, h1, h2, h3⟩
  · simp at hp
  · obtain ⟨b, off, spot⟩ := a
    have h0 := h3 0 (.int .u8 (bs[0].toNat : Int)) (by simp [bcells, hp])
    have hspot : spot = none := by simpa [Addr.add] using World.cell?_spot h0
    subst hspot
    refine ⟨b, off, cap, rfl, h1, h2, fun j hj => ?_⟩
    rw [← Go.WideShapes.add_plain]
    exact h3 j _ (by simp [bcells, hj])

end Go.Proofs.Ytjgdmbfkondakaa
