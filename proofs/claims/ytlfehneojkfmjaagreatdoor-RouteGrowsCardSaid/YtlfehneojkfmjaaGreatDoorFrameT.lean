/-
  WHAT THE CARDS OF THIS SEAT NEED: a slice of ties that came in.
-/
import Derived.Test.YtlfehneojkfmjaaGreatDoorFrame
import Derived.Test.YtlfehneojkfmjaaGreatDoorStructs
import Derived.Test.YtlfehneojkfmjaaGreatDoorTies
namespace Go.Proofs.YtlfehneojkfmjaaGreatDoor
open Go.ChangeShapes Go.WideShapes Go.ChangeAt Go.RowKit

theorem cellsTie : Tryz.prog.cellsOf 43 = 6 := by kernel_rfl
theorem list2 {α : Type} {cs : List α} (h : cs.length = 2) : ∃ a b, cs = [a, b] := by
  match cs, h with
  | [a, b], _ => exact ⟨a, b, rfl⟩
theorem list6 {α : Type} {cs : List α} (h : cs.length = 6) : ∃ a b c d e f, cs = [a, b, c, d, e, f] := by
  match cs, h with
  | [a, b, c, d, e, f], _ => exact ⟨a, b, c, d, e, f, rfl⟩
theorem bytesTie : Tryz.prog.bytesOf 43 = 80 := by kernel_rfl
theorem structs_len {H : Type} {en : TypeId × Value → H} {P : Program} {W : World} {S e : TypeId} (hS : P.underlying S = some (.slice e)) {base : Nat} {v : Value} {d : DataW H} {p : List MemPlace} (hval : Value.okWide P W .any base S v)
    (h : DataW.Trod en P W 0 (fun _ => true) true S v d p) (hw : ∀ n ∈ d.weights P S, n ≤ reachBytes) : ∃ a len cap, v = .slice a len cap ∧ len * P.bytesOf e ≤ reachBytes := by
  obtain ⟨a, len, cap, rfl⟩ := okWide_slice hS hval
  obtain ⟨fuel, hf⟩ := h
  rcases DataW.trod_slice hS hf with ⟨hcs, _⟩ | ⟨x, l, c, elems, rest, n, _, hcs, hd, _, hl, hm, hlen, hone, _, _⟩
  · simp [Value.cells] at hcs
    obtain ⟨rfl, rfl, rfl⟩ := hcs
    exact ⟨_, _, _, rfl, by rw [Nat.zero_mul]; exact Nat.zero_le _⟩
  · simp [Value.cells] at hcs
    obtain ⟨rfl, rfl, rfl⟩ := hcs
    have hdv : d = .slice (elems.map (·.1)) (rest.map (·.1)) := congrArg Prod.fst hd
    have := hw ((elems.length + rest.length) * P.bytesOf e) (by rw [hdv]; simp [DataW.weights, hS])
    refine ⟨_, _, _, rfl, Nat.le_trans (Nat.mul_le_mul_right _ ?_) this⟩
    omega
section
variable {H : Type} {enc : TypeId × Value → H} {W : World} {base : Nat} {sp : Nat → Bool} {held : Bool} {fuel : Nat} {cs : List Value} {x : DataW H × List MemPlace}
theorem tie_cells (h : DataW.trod enc Tryz.prog W base sp held fuel 43 cs = some x) (hw : ∀ m ∈ x.1.weights Tryz.prog 43, m ≤ reachBytes) : ∃ a : Ti, cs = tcells a ∧ a.Fits := by
  obtain ⟨xs, n, _, hxd, hl, hx, hf⟩ := DataW.trod_struct Tryz.underlying43 h
  have hl' : cs.length = 6 := hl.trans cellsTie
  have f0 := hf 0 _ rfl
  have f1 := hf 1 _ rfl
  change DataW.trod enc Tryz.prog W base sp held n 41 (List.take (Tryz.prog.cellsOf 41) (List.drop 0 cs)) = xs[0]? at f0
  change DataW.trod enc Tryz.prog W base sp held n 39 (List.take (Tryz.prog.cellsOf 39) (List.drop 3 cs)) = xs[1]? at f1
  rw [cX] at f0
  rw [bCells] at f1
  have hx' : xs.length = 2 := hx
  obtain ⟨x0, x1, rfl⟩ := list2 hx'
  obtain ⟨c0, c1, c2, c3, c4, c5, rfl⟩ := list6 hl'
  rw [hxd] at hw
  simp only [DataW.weights, Tryz.underlying43] at hw
  obtain ⟨e, h0, _, z0⟩ := x_cells f0
  obtain ⟨b, h1, _, z1⟩ := b_cells f1
  have k0 := z0 (fun k hk => hw k (DataW.weights_mem_each (j := 0) (t := 41) (d := x0.1) rfl rfl k hk))
  have k1 := z1 (fun k hk => hw k (DataW.weights_mem_each (j := 1) (t := 39) (d := x1.1) rfl rfl k hk))
  have e0 : [c0, c1, c2] = xcells e := h0
  have e1 : [c3, c4, c5] = bcells b := h1
  simp [xcells, bcells] at e0 e1
  obtain ⟨a1, a2, a3⟩ := e0
  obtain ⟨a4, a5, a6⟩ := e1
  exact ⟨⟨e, b⟩, by rw [a1, a2, a3, a4, a5, a6]; rfl, k0, k1.1, k1.2.1, k1.2.2⟩
end
set_option maxRecDepth 20000 in
/-- A slice of ties that came in. -/
theorem open_ties {H : Type} {enc : TypeId × Value → H} {W : World} {base : Nat} {v : Value} {d : DataW H} {p : List MemPlace} (hval : Value.okWide Tryz.prog W .any base 22 v)
    (h : DataW.Trod enc Tryz.prog W 0 (fun _ => true) true 22 v d p) (hw : ∀ n ∈ d.weights Tryz.prog 22, n ≤ reachBytes) : ∃ l, RowOf tcells W v l ∧ (∀ a ∈ l, a.Fits) ∧ l.length * 80 ≤ 140737488351232 := by
  obtain ⟨l, h1, h2⟩ := open_structs (enc := tcells) Tryz.underlying22 cellsTie Ti.Fits (fun n cs x hx hw => tie_cells hx hw) hval h hw
  obtain ⟨a, len, cap, rfl, hlen⟩ := structs_len Tryz.underlying22 hval h hw
  rw [bytesTie] at hlen
  obtain ⟨a', cap', hv⟩ := h1.slice
  injection hv with _ hv2 _
  unfold reachBytes at hlen
  exact ⟨l, h1, h2, by rw [← hv2]; omega⟩
end Go.Proofs.YtlfehneojkfmjaaGreatDoor
