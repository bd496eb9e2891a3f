/-
  Ranges of a book, by its contract.
-/
import Derived.Test.YtjagaankkcbjmaaGreatDoorJ19
namespace Go.Proofs.YtjagaankkcbjmaaGreatDoor.S
open Go.RowKit

set_option maxHeartbeats 400000 in
theorem branges_any (b : Value) (f : Nat → List (Nat × Nat)) (o : Int) (w : World) (h : Told w b f) (hlen : (ofF f o).length ≤ 1000000) :
    Calls Tryz.prog 61 #[b, .int .i64 o] w fun e w' => ∃ v', e = .returned v' ∧ Own2 w' w.heap.size v' (ofF f o) ∧ Below w.heap.size w w' := by
  have hO := of_any b f o w h
  generalize ofF f o = l at hO hlen ⊢
  obtain ⟨q, rfl⟩ := h.ptr
  go_enter Tryz.func61, Tryz.ntmps61
  go_wp2_with fail
  refine hO.mono ?_
  rintro e w ⟨s, rfl, hl, rfl⟩
  obtain ⟨q2, rfl⟩ := hl.ptr
  go_wp2_with fail
  refine (ranges_any _ l _ hl hlen).mono ?_
  rintro e w2 ⟨v', rfl, own, b⟩
  obtain ⟨va, vc, rfl⟩ := own.rng.slice
  go_wp2
  go_ret
  exact ⟨_, rfl, own, b⟩
end Go.Proofs.YtjagaankkcbjmaaGreatDoor.S
