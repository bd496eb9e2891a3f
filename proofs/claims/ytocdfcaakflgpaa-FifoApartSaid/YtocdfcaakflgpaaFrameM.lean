/-
  WHAT THE ROWS OF THIS SEAT NEED: a message that came in.
-/
import Derived.Test.YtocdfcaakflgpaaRows
import Derived.Test.YtocdfcaakflgpaaLawNone
import Derived.WalkKit
import Derived.ProofKit
import Derived.OpenShut
import Derived.ChangeOld
import Derived.SizedLaws
import Derived.Deep.DeepHandedRow
import Derived.Deep.Slices
import Derived.Lib.LaidTab
namespace Go.Proofs.Ytocdfcaakflgpaa
open Go.ChangeShapes Go.WideShapes Go.ChangeAt Go.RowKit

theorem own : ownKnob Try.prog.godebug = none := by kernel_rfl
theorem laidOut : laidOutB Try.prog = true := by kernel_rfl

theorem cellsInt : Try.prog.cellsOf 3 = 1 := by kernel_rfl
theorem cellsU64 : Try.prog.cellsOf 29 = 1 := by kernel_rfl
theorem cellsStr : Try.prog.cellsOf 9 = 1 := by kernel_rfl
theorem cellsIdent : Try.prog.cellsOf 31 = 2 := by kernel_rfl
theorem cellsMsg : Try.prog.cellsOf 33 = 6 := by kernel_rfl
theorem list2 {α : Type} {cs : List α} (h : cs.length = 2) : ∃ a b, cs = [a, b] := by
  match cs, h with
  | [a, b], _ => exact ⟨a, b, rfl⟩
theorem list5 {α : Type} {cs : List α} (h : cs.length = 5) : ∃ a b c d e, cs = [a, b, c, d, e] := by
  match cs, h with
  | [a, b, c, d, e], _ => exact ⟨a, b, c, d, e, rfl⟩
theorem list6 {α : Type} {cs : List α} (h : cs.length = 6) : ∃ a b c d e f, cs = [a, b, c, d, e, f] := by
  match cs, h with
  | [a, b, c, d, e, f], _ => exact ⟨a, b, c, d, e, f, rfl⟩
section
variable {H : Type} {enc : TypeId × Value → H} {W : World} {base : Nat} {sp : Nat → Bool} {held : Bool} {fuel : Nat} {cs : List Value} {x : DataW H × List MemPlace}
theorem ident_cells (h : DataW.trod enc Try.prog W base sp held fuel 31 cs = some x) : ∃ o s : Int, cs = [.int .i64 o, .int .u64 s] := by
  obtain ⟨xs, n, _, _, hl, hx, hf⟩ := DataW.trod_struct Try.underlying31 h
  have hl' : cs.length = 2 := hl.trans cellsIdent
  have f0 := hf 0 _ rfl
  have f1 := hf 1 _ rfl
  change DataW.trod enc Try.prog W base sp held n 3 (List.take (Try.prog.cellsOf 3) (List.drop 0 cs)) = xs[0]? at f0
  change DataW.trod enc Try.prog W base sp held n 29 (List.take (Try.prog.cellsOf 29) (List.drop 1 cs)) = xs[1]? at f1
  rw [cellsInt] at f0
  rw [cellsU64] at f1
  have hx' : xs.length = 2 := hx
  obtain ⟨x0, x1, rfl⟩ := list2 hx'
  obtain ⟨c0, c1, rfl⟩ := list2 hl'
  obtain ⟨o, h0, _, _⟩ := DataW.trod_int Try.underlying3 f0
  obtain ⟨s, h1, _, _⟩ := DataW.trod_int Try.underlying29 f1
  have e0 : [c0] = [.int .i64 o] := h0
  have e1 : [c1] = [.int .u64 s] := h1
  exact ⟨o, s, by simp at e0 e1; rw [e0, e1]⟩
theorem msg_cells (h : DataW.trod enc Try.prog W base sp held fuel 33 cs = some x) : ∃ m : Msg, cs = mcells m := by
  obtain ⟨xs, n, _, _, hl, hx, hf⟩ := DataW.trod_struct Try.underlying33 h
  have hl' : cs.length = 6 := hl.trans cellsMsg
  have f0 := hf 0 _ rfl
  have f1 := hf 1 _ rfl
  have f2 := hf 2 _ rfl
  have f3 := hf 3 _ rfl
  have f4 := hf 4 _ rfl
  change DataW.trod enc Try.prog W base sp held n 31 (List.take (Try.prog.cellsOf 31) (List.drop 0 cs)) = xs[0]? at f0
  change DataW.trod enc Try.prog W base sp held n 3 (List.take (Try.prog.cellsOf 3) (List.drop 2 cs)) = xs[1]? at f1
  change DataW.trod enc Try.prog W base sp held n 9 (List.take (Try.prog.cellsOf 9) (List.drop 3 cs)) = xs[2]? at f2
  change DataW.trod enc Try.prog W base sp held n 9 (List.take (Try.prog.cellsOf 9) (List.drop 4 cs)) = xs[3]? at f3
  change DataW.trod enc Try.prog W base sp held n 9 (List.take (Try.prog.cellsOf 9) (List.drop 5 cs)) = xs[4]? at f4
  rw [cellsIdent] at f0
  rw [cellsInt] at f1
  rw [cellsStr] at f2 f3 f4
  have hx' : xs.length = 5 := hx
  obtain ⟨x0, x1, x2, x3, x4, rfl⟩ := list5 hx'
  obtain ⟨c0, c1, c2, c3, c4, c5, rfl⟩ := list6 hl'
  obtain ⟨o, s, h0⟩ := ident_cells f0
  obtain ⟨hp, h1, _, _⟩ := DataW.trod_int Try.underlying3 f1
  obtain ⟨ex, h2, _, _⟩ := DataW.trod_string Try.underlying9 f2
  obtain ⟨ky, h3, _, _⟩ := DataW.trod_string Try.underlying9 f3
  obtain ⟨bd, h4, _, _⟩ := DataW.trod_string Try.underlying9 f4
  have e0 : [c0, c1] = [.int .i64 o, .int .u64 s] := h0
  have e1 : [c2] = [.int .i64 hp] := h1
  have e2 : [c3] = [.string ex] := h2
  have e3 : [c4] = [.string ky] := h3
  have e4 : [c5] = [.string bd] := h4
  simp at e0 e1 e2 e3 e4
  exact ⟨⟨o, s, hp, ex, ky, bd⟩, by rw [e0.1, e0.2, e1, e2, e3, e4]; rfl⟩
end
set_option maxRecDepth 20000 in
/-- A message that came in. -/
theorem open_msg {H : Type} {enc : TypeId × Value → H} {W : World} {base : Nat} {v : Value} {d : DataW H} {p : List MemPlace} (hval : Value.okWide Try.prog W .any base 33 v)
    (h : DataW.Trod enc Try.prog W 0 (fun _ => true) true 33 v d p) : ∃ m, v = mv m := by
  obtain ⟨cs, hcs, _⟩ := okWide_struct Try.underlying33 hval
  obtain ⟨fuel, hf⟩ := h
  obtain ⟨m, hm⟩ := msg_cells hf
  refine ⟨m, ?_⟩
  rw [hcs] at hm ⊢
  have h1 : cs.toList = mcells m := hm
  have h2 : cs = (mcells m).toArray := by rw [← h1]
  rw [h2]; rfl
end Go.Proofs.Ytocdfcaakflgpaa
