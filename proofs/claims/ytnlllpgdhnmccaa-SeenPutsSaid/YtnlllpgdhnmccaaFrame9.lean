/-
  WHAT THE ROWS OF THIS SEAT NEED BESIDES: ids, slices of ids that came in.
-/
import Derived.Test.YtnlllpgdhnmccaaFrame
import Derived.Test.YtnlllpgdhnmccaaStructs
import Derived.Test.YtnlllpgdhnmccaaTwo9
namespace Go.Proofs.Ytnlllpgdhnmccaa
open Go.ChangeShapes Go.WideShapes Go.ChangeAt Go.RowKit

theorem cellsIdent : Try.prog.cellsOf 25 = 2 := by kernel_rfl
theorem cellsI : Try.prog.cellsOf 3 = 1 := by kernel_rfl
theorem cellsU : Try.prog.cellsOf 23 = 1 := by kernel_rfl
theorem bytesIdent : Try.prog.bytesOf 25 = 16 := by kernel_rfl
theorem list2 {α : Type} {cs : List α} (h : cs.length = 2) : ∃ a b, cs = [a, b] := by
  match cs, h with
  | [a, b], _ => exact ⟨a, b, rfl⟩
theorem structs_len {H : Type} {en : TypeId × Value → H} {P : Program} {W : World} {S e : TypeId} (hS : P.underlying S = some (.slice e)) {base : Nat} {v : Value} {d : DataW H} {p : List MemPlace} (hval : Value.okWide P W .any base S v)
    (h : DataW.Trod en P W 0 (fun _ => true) true S v d p) (hw : ∀ n ∈ d.weights P S, n ≤ reachBytes) : ∃ a len cap, v = .slice a len cap ∧ len * P.bytesOf e ≤ reachBytes := by
  obtain ⟨a, len, cap, rfl⟩ := okWide_slice hS hval
  obtain ⟨fuel, hf⟩ := h
  rcases DataW.trod_slice hS hf with ⟨hcs, _⟩ | ⟨x, l, c, elems, rest, n, _, hcs, hd, _, hl, hm, hlen, hone, _, _⟩
  · simp [Value.cells] at hcs
    obtain ⟨rfl, rfl, rfl⟩ := hcs
    exact ⟨_, _, _, rfl, by rw [Nat.zero_mul]; exact Nat.zero_le _⟩
  · simp [Value.cells] at hcs
    obtain ⟨rfl, rfl, rfl⟩ := hcs
    have hdv : d = .slice (elems.map (·.1)) (rest.map (·.1)) := congrArg Prod.fst hd
    have := hw ((elems.length + rest.length) * P.bytesOf e) (by rw [hdv]; simp [DataW.weights, hS])
    refine ⟨_, _, _, rfl, Nat.le_trans (Nat.mul_le_mul_right _ ?_) this⟩
    omega
section
variable {H : Type} {enc : TypeId × Value → H} {W : World} {base : Nat} {sp : Nat → Bool} {held : Bool} {fuel : Nat} {cs : List Value} {x : DataW H × List MemPlace}
theorem ident_cells (h : DataW.trod enc Try.prog W base sp held fuel 25 cs = some x) : ∃ a : Int × Nat, cs = ienc a ∧ a.2 < 18446744073709551616 := by
  obtain ⟨xs, n, _, hxd, hl, hx, hf⟩ := DataW.trod_struct Try.underlying25 h
  have hl' : cs.length = 2 := hl.trans cellsIdent
  have f0 := hf 0 _ rfl
  have f1 := hf 1 _ rfl
  change DataW.trod enc Try.prog W base sp held n 3 (List.take (Try.prog.cellsOf 3) (List.drop 0 cs)) = xs[0]? at f0
  change DataW.trod enc Try.prog W base sp held n 23 (List.take (Try.prog.cellsOf 23) (List.drop 1 cs)) = xs[1]? at f1
  rw [cellsI] at f0
  rw [cellsU] at f1
  have hx' : xs.length = 2 := hx
  obtain ⟨x0, x1, rfl⟩ := list2 hx'
  obtain ⟨c0, c1, rfl⟩ := list2 hl'
  obtain ⟨k, h0, _, _⟩ := DataW.trod_int Try.underlying3 f0
  obtain ⟨m, h1, _, wf⟩ := DataW.trod_int Try.underlying23 f1
  have e0 : [c0] = [.int .i64 k] := h0
  have e1 : [c1] = [.int .u64 m] := h1
  have hb := bounds_u64 wf
  simp at e0 e1
  refine ⟨(k, m.toNat), ?_, by show m.toNat < _; omega⟩
  rw [e0, e1]
  simp [ienc]
  omega
end
set_option maxRecDepth 20000 in
/-- A slice of ids that came in. -/
theorem open_ids {H : Type} {enc : TypeId × Value → H} {W : World} {base : Nat} {v : Value} {d : DataW H} {p : List MemPlace} (hval : Value.okWide Try.prog W .any base 22 v)
    (h : DataW.Trod enc Try.prog W 0 (fun _ => true) true 22 v d p) (hw : ∀ n ∈ d.weights Try.prog 22, n ≤ reachBytes) : ∃ l, K.RowOf ienc W v l ∧ (∀ a ∈ l, a.2 < 18446744073709551616) ∧ l.length ≤ 140737488355328 := by
  obtain ⟨l, h1, h2⟩ := K.open_structs (enc := ienc) Try.underlying22 cellsIdent (fun a => a.2 < 18446744073709551616) (fun n cs x hx _ => ident_cells hx) hval h hw
  obtain ⟨a, len, cap, rfl, hlen⟩ := structs_len Try.underlying22 hval h hw
  rw [bytesIdent] at hlen
  obtain ⟨a', cap', hv⟩ := h1.slice
  injection hv with _ hv2 _
  unfold reachBytes at hlen
  exact ⟨l, h1, h2, by rw [← hv2]; omega⟩
/-- An id as a value. -/
def idv (a : Int × Nat) : Value := .agg #[.int .i64 a.1, .int .u64 (a.2 : Int)]
theorem open_ident {H : Type} {enc : TypeId × Value → H} {W : World} {base : Nat} {v : Value} {d : DataW H} {p : List MemPlace} (hval : Value.okWide Try.prog W .any base 25 v)
    (h : DataW.Trod enc Try.prog W 0 (fun _ => true) true 25 v d p) : ∃ a : Int × Nat, v = idv a ∧ a.2 < 18446744073709551616 := by
  obtain ⟨cs, hcs, _⟩ := okWide_struct Try.underlying25 hval
  obtain ⟨fuel, hf⟩ := h
  obtain ⟨m, hm, hb⟩ := ident_cells hf
  refine ⟨m, ?_, hb⟩
  rw [hcs] at hm ⊢
  have h1 : cs.toList = ienc m := hm
  have h2 : cs = (ienc m).toArray := by rw [← h1]
  rw [h2]; rfl
end Go.Proofs.Ytnlllpgdhnmccaa
