/-
  WHAT THE CARD OF BindUndoes NEEDS BESIDES: how long a slice of acts that came in can be.
-/
import Derived.Test.YtiaagiijjledkaaGreatDoorFrameB
namespace Go.Proofs.YtiaagiijjledkaaGreatDoor
open Go.ChangeShapes Go.WideShapes Go.ChangeAt Go.RowKit

theorem bytesAct : Tryz.prog.bytesOf 37 = 88 := by kernel_rfl
theorem structs_len {H : Type} {en : TypeId × Value → H} {P : Program} {W : World} {S e : TypeId} (hS : P.underlying S = some (.slice e)) {base : Nat} {v : Value} {d : DataW H} {p : List MemPlace} (hval : Value.okWide P W .any base S v)
    (h : DataW.Trod en P W 0 (fun _ => true) true S v d p) (hw : ∀ n ∈ d.weights P S, n ≤ reachBytes) : ∃ a len cap, v = .slice a len cap ∧ len * P.bytesOf e ≤ reachBytes := by
  obtain ⟨a, len, cap, rfl⟩ := okWide_slice hS hval
  obtain ⟨fuel, hf⟩ := h
  rcases DataW.trod_slice hS hf with ⟨hcs, _⟩ | ⟨x, l, c, elems, rest, n, _, hcs, hd, _, hl, hm, hlen, hone, _, _⟩
  · simp [Value.cells] at hcs
    obtain ⟨rfl, rfl, rfl⟩ := hcs
    exact ⟨_, _, _, rfl, by rw [Nat.zero_mul]; exact Nat.zero_le _⟩
  · simp [Value.cells] at hcs
    obtain ⟨rfl, rfl, rfl⟩ := hcs
    have hdv : d = .slice (elems.map (·.1)) (rest.map (·.1)) := congrArg Prod.fst hd
    have := hw ((elems.length + rest.length) * P.bytesOf e) (by rw [hdv]; simp [DataW.weights, hS])
    refine ⟨_, _, _, rfl, Nat.le_trans (Nat.mul_le_mul_right _ ?_) this⟩
    omega
set_option maxRecDepth 20000 in
/-- A slice of acts that came in, and its length. -/
theorem open_bacts2 {H : Type} {enc : TypeId × Value → H} {W : World} {base : Nat} {v : Value} {d : DataW H} {p : List MemPlace} (hval : Value.okWide Tryz.prog W .any base 22 v)
    (h : DataW.Trod enc Tryz.prog W 0 (fun _ => true) true 22 v d p) (hw : ∀ n ∈ d.weights Tryz.prog 22, n ≤ reachBytes) : ∃ l, RowOf acells W v l ∧ (∀ a ∈ l, a.Fits) ∧ l.length * 88 ≤ 140737488351232 := by
  obtain ⟨l, h1, h2⟩ := open_bacts hval h hw
  obtain ⟨a, len, cap, rfl, hlen⟩ := structs_len Tryz.underlying22 hval h hw
  rw [bytesAct] at hlen
  obtain ⟨a', cap', hv⟩ := h1.slice
  injection hv with _ hv2 _
  unfold reachBytes at hlen
  exact ⟨l, h1, h2, by rw [← hv2]; omega⟩
end Go.Proofs.YtiaagiijjledkaaGreatDoor
