/-
  WHAT ALL ROWS OF THIS SEAT NEED: an edge, a topology that came in.
-/
import Derived.Test.YtcfagojkeholmaaRows
import Derived.Test.YtcfagojkeholmaaEdges
import Derived.WalkKit
import Derived.ProofKit
import Derived.OpenShut
import Derived.ChangeOld
import Derived.SizedLaws
import Derived.DataReads
import Derived.DataElems
import Derived.Deep.DeepHandedRow
namespace Go.Proofs.Ytcfagojkeholmaa
open Go.ChangeShapes Go.WideShapes Go.ChangeAt Go.RowKit

theorem own : ownKnob Try.prog.godebug = none := by kernel_rfl
theorem laidOut : laidOutB Try.prog = true := by kernel_rfl
theorem cellsI : Try.prog.cellsOf 3 = 1 := by kernel_rfl
theorem cellsEd : Try.prog.cellsOf 39 = 2 := by kernel_rfl
theorem cellsEds : Try.prog.cellsOf 22 = 1 := by kernel_rfl
theorem cellsTopo : Try.prog.cellsOf 24 = 3 := by kernel_rfl
theorem list2 {α : Type} {cs : List α} (h : cs.length = 2) : ∃ a b, cs = [a, b] := by
  match cs, h with
  | [a, b], _ => exact ⟨a, b, rfl⟩
theorem list3 {α : Type} {cs : List α} (h : cs.length = 3) : ∃ a b c, cs = [a, b, c] := by
  match cs, h with
  | [a, b, c], _ => exact ⟨a, b, c, rfl⟩

/-- A slice of structs, wherever it was met: its elements are what 'hel' reads them as. -/
theorem structs_trod {α : Type} {enc : α → List Value} {K : Nat} [E : Enc enc K] {H : Type} {en : TypeId × Value → H} {P : Program} {W : World} {S e : TypeId} (hS : P.underlying S = some (.slice e)) (hK : P.cellsOf e = K)
    (hel : ∀ n cs (x : DataW H × List MemPlace), DataW.trod en P W 0 (fun _ => true) true n e cs = some x → ∃ a : α, cs = enc a)
    {fuel : Nat} {cs : List Value} {xd : DataW H × List MemPlace} (hf : DataW.trod en P W 0 (fun _ => true) true fuel S cs = some xd) : ∃ a len cap l, cs = [.slice a len cap] ∧ RowOf enc W (.slice a len cap) l := by
  rcases DataW.trod_slice hS hf with ⟨hcs, _⟩ | ⟨x, len, cap, elems, rest, n, _, hcs, hd, _, hl, hm, hlen, hone, _, _⟩
  · exact ⟨none, 0, 0, [], hcs, .inl ⟨rfl, rfl⟩⟩
  · subst hcs
    have each : ∀ i : Fin len, ∃ b : α, (∀ j, j < K → W.cell? (x.add (i.1 * K + j)) = (enc b)[j]?) := fun i => by
      have h1 := hone i.1 i.2
      have hi' : i.1 < elems.length := by omega
      rw [hK, List.getElem?_eq_getElem hi'] at h1
      cases hc : W.cells? 0 (x.add (i.1 * K)) K with
      | none => rw [hc] at h1; cases h1
      | some cs =>
        rw [hc] at h1
        have h2 : DataW.trod en P W 0 (fun _ => true) true n e cs = some elems[i.1] := h1
        obtain ⟨b, rfl⟩ := hel _ _ _ h2
        refine ⟨b, fun j hj => ?_⟩
        rw [← Addr.add_add]
        exact (World.cells?_some hc).2.2 j hj
    obtain ⟨f, hff⟩ := Classical.axiomOfChoice each
    have hlf : (List.ofFn f).length = len := by simp
    refine ⟨some x, len, cap, List.ofFn f, rfl, .inr ⟨x, cap, by rw [hlf], by rw [hlf]; omega, hm, fun j u hj => ?_⟩⟩
    have hjl : j < (List.ofFn f).length * K := by rw [← cellsOf_length (enc := enc)]; exact (List.getElem?_eq_some_iff.1 hj).1
    have hp := E.pos
    have h1 : j / K < (List.ofFn f).length := Nat.div_lt_of_lt_mul (by rw [Nat.mul_comm]; exact hjl)
    have h2 : j % K < K := Nat.mod_lt _ hp
    have h3 : j / K * K + j % K = j := by rw [Nat.mul_comm]; exact Nat.div_add_mod j K
    have hg := cellsOf_get (enc := enc) (List.ofFn f) (j / K) (j % K) h1 h2
    rw [h3, hj] at hg
    rw [hlf] at h1
    have := (hff ⟨j / K, h1⟩) (j % K) h2
    simp only at this
    rw [h3] at this
    rw [this, hg]
    simp

section
variable {H : Type} {enc : TypeId × Value → H} {W : World}
theorem edge_cells {fuel : Nat} {cs : List Value} {x : DataW H × List MemPlace} (h : DataW.trod enc Try.prog W 0 (fun _ => true) true fuel 39 cs = some x) : ∃ a : Int × Int, cs = ecells a := by
  obtain ⟨xs, n, _, hxd, hl, hx, hf⟩ := DataW.trod_struct Try.underlying39 h
  have hl' : cs.length = 2 := hl.trans cellsEd
  have f0 := hf 0 _ rfl
  have f1 := hf 1 _ rfl
  change DataW.trod enc Try.prog W 0 (fun _ => true) true n 3 (List.take (Try.prog.cellsOf 3) (List.drop 0 cs)) = xs[0]? at f0
  change DataW.trod enc Try.prog W 0 (fun _ => true) true n 3 (List.take (Try.prog.cellsOf 3) (List.drop 1 cs)) = xs[1]? at f1
  rw [cellsI] at f0 f1
  have hx' : xs.length = 2 := hx
  obtain ⟨x0, x1, rfl⟩ := list2 hx'
  obtain ⟨c0, c1, rfl⟩ := list2 hl'
  obtain ⟨k, h0, _, _⟩ := DataW.trod_int Try.underlying3 f0
  obtain ⟨m, h1, _, _⟩ := DataW.trod_int Try.underlying3 f1
  have e0 : [c0] = [.int .i64 k] := h0
  have e1 : [c1] = [.int .i64 m] := h1
  simp at e0 e1
  exact ⟨(k, m), by rw [e0, e1]; rfl⟩
theorem topo_cells {fuel : Nat} {cs : List Value} {x : DataW H × List MemPlace} (h : DataW.trod enc Try.prog W 0 (fun _ => true) true fuel 24 cs = some x) : ∃ (S H : Int) (a : Option Addr) (len cap : Nat) (l : List (Int × Int)), cs = [.int .i64 S, .slice a len cap, .int .i64 H] ∧ RowOf ecells W (.slice a len cap) l := by
  obtain ⟨xs, n, _, hxd, hl, hx, hf⟩ := DataW.trod_struct Try.underlying24 h
  have hl' : cs.length = 3 := hl.trans cellsTopo
  have f0 := hf 0 _ rfl
  have f1 := hf 1 _ rfl
  have f2 := hf 2 _ rfl
  change DataW.trod enc Try.prog W 0 (fun _ => true) true n 3 (List.take (Try.prog.cellsOf 3) (List.drop 0 cs)) = xs[0]? at f0
  change DataW.trod enc Try.prog W 0 (fun _ => true) true n 22 (List.take (Try.prog.cellsOf 22) (List.drop 1 cs)) = xs[1]? at f1
  change DataW.trod enc Try.prog W 0 (fun _ => true) true n 3 (List.take (Try.prog.cellsOf 3) (List.drop 2 cs)) = xs[2]? at f2
  rw [cellsI] at f0 f2
  rw [cellsEds] at f1
  have hx' : xs.length = 3 := hx
  obtain ⟨x0, x1, x2, rfl⟩ := list3 hx'
  obtain ⟨c0, c1, c2, rfl⟩ := list3 hl'
  obtain ⟨k, h0, _, _⟩ := DataW.trod_int Try.underlying3 f0
  obtain ⟨a, len, cap, l, h1, hr⟩ := structs_trod (enc := ecells) Try.underlying22 cellsEd (fun n cs x hx => edge_cells hx) f1
  obtain ⟨m, h2, _, _⟩ := DataW.trod_int Try.underlying3 f2
  have e0 : [c0] = [.int .i64 k] := h0
  have e1 : [c1] = [.slice a len cap] := h1
  have e2 : [c2] = [.int .i64 m] := h2
  simp at e0 e1 e2
  exact ⟨k, m, a, len, cap, l, by rw [e0, e1, e2], hr⟩
end
/-- What came in: a topology. -/
structure Tp where
  S : Int
  v : Value
  H : Int
abbrev tpv (t : Tp) : Value := tv t.S t.v t.H
theorem open_topo {H : Type} {enc : TypeId × Value → H} {W : World} {base : Nat} {v : Value} {d : DataW H} {p : List MemPlace} (hval : Value.okWide Try.prog W .any base 24 v)
    (h : DataW.Trod enc Try.prog W 0 (fun _ => true) true 24 v d p) : ∃ a : Tp, v = tpv a ∧ ∃ l, RowOf ecells W a.v l := by
  obtain ⟨cs, hcs, _⟩ := okWide_struct Try.underlying24 hval
  obtain ⟨fuel, hf⟩ := h
  obtain ⟨S, Hh, a, len, cap, l, hm, hr⟩ := topo_cells hf
  refine ⟨⟨S, .slice a len cap, Hh⟩, ?_, l, hr⟩
  rw [hcs] at hm ⊢
  have h1 : cs.toList = [.int .i64 S, .slice a len cap, .int .i64 Hh] := hm
  have h2 : cs = #[.int .i64 S, .slice a len cap, .int .i64 Hh] := by apply Array.ext'; exact h1
  rw [h2]
theorem open_edge {H : Type} {enc : TypeId × Value → H} {W : World} {base : Nat} {v : Value} {d : DataW H} {p : List MemPlace} (hval : Value.okWide Try.prog W .any base 39 v)
    (h : DataW.Trod enc Try.prog W 0 (fun _ => true) true 39 v d p) : ∃ a : Int × Int, v = ev a ∧ True := by
  obtain ⟨cs, hcs, _⟩ := okWide_struct Try.underlying39 hval
  obtain ⟨fuel, hf⟩ := h
  obtain ⟨m, hm⟩ := edge_cells hf
  refine ⟨m, ?_, trivial⟩
  rw [hcs] at hm ⊢
  have h1 : cs.toList = ecells m := hm
  have h2 : cs = (ecells m).toArray := by rw [← h1]
  rw [h2]; rfl
end Go.Proofs.Ytcfagojkeholmaa
