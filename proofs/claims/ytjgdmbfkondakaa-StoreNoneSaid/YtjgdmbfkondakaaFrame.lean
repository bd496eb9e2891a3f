/-
  WHAT THE ROWS OF THIS SEAT NEED: bytes, an act, acts, a turn that came in; how long each can be.
-/
import Derived.Test.YtjgdmbfkondakaaRows
import Derived.Test.YtjgdmbfkondakaaActs
import Derived.Test.YtjgdmbfkondakaaStructs
import Derived.WalkKit
import Derived.ProofKit
import Derived.OpenShut
import Derived.ChangeOld
import Derived.SizedLaws
import Derived.DataReads
import Derived.DataElems
import Derived.LaidLaws
import Derived.Deep.DeepHandedRow
namespace Go.Proofs.Ytjgdmbfkondakaa
open Go.ChangeShapes Go.WideShapes Go.ChangeAt Go.RowKit

theorem own : ownKnob Try.prog.godebug = none := by kernel_rfl
theorem laidOut : laidOutB Try.prog = true := by kernel_rfl
theorem cellsI : Try.prog.cellsOf 3 = 1 := by kernel_rfl
theorem cellsStr : Try.prog.cellsOf 9 = 1 := by kernel_rfl
theorem cellsBytes : Try.prog.cellsOf 22 = 1 := by kernel_rfl
theorem bytesU8 : Try.prog.bytesOf 5 = 1 := by kernel_rfl
theorem cellsAct : Try.prog.cellsOf 24 = 6 := by kernel_rfl
theorem list6 {α : Type} {cs : List α} (h : cs.length = 6) : ∃ a b c d e f, cs = [a, b, c, d, e, f] := by
  match cs, h with
  | [a, b, c, d, e, f], _ => exact ⟨a, b, c, d, e, f, rfl⟩
theorem list2 {α : Type} {cs : List α} (h : cs.length = 2) : ∃ a b, cs = [a, b] := by
  match cs, h with
  | [a, b], _ => exact ⟨a, b, rfl⟩
theorem size_le {s : ByteArray} (h : s.data.toList.length ≤ reachBytes) : s.size ≤ 140737488355328 := by
  have : s.size = s.data.toList.length := Array.length_toList.symm
  unfold reachBytes at h
  omega

/-- A slice of bytes that was read holds some bytes; no more than the form's reach. -/
theorem bytes_of_trod {H : Type} {enc : TypeId × Value → H} {W : World} {fuel : Nat} {cs : List Value} {x : DataW H × List MemPlace} (hf : DataW.trod enc Try.prog W 0 (fun _ => true) true fuel 22 cs = some x)
    (hw : ∀ n ∈ x.1.weights Try.prog 22, n ≤ reachBytes) : ∃ v bs, cs = [v] ∧ Holds W v bs ∧ bs.length ≤ 140737488351232 := by
  rcases open_ints Try.underlying22 Try.underlying5 (by kernel_rfl) hf with ⟨rfl, _⟩ | ⟨x, len, cap, zs, rfl, _, hl, hm, hz, rfl, hcell, hwz⟩
  · exact ⟨_, [], rfl, .inl ⟨rfl, rfl⟩, by simp⟩
  · have hzl : zs.length = cap := by simpa using hz
    have hlen : ((zs.take len).map fun z => UInt8.ofNat z.toNat).length = len := by simp; omega
    refine ⟨_, (zs.take len).map fun z => UInt8.ofNat z.toNat, rfl, .inr ⟨x, cap, by rw [hlen], by omega, hm, fun j u hj => ?_⟩, ?_⟩
    · have hj' : j < len := by
        have := (List.getElem?_eq_some_iff.1 hj).1
        rw [bcells_length, hlen] at this
        exact this
      have hjz : j < zs.length := by omega
      have hb := bounds_u8 (hwz zs[j] (List.getElem_mem hjz))
      have hu : u = .int .u8 zs[j] := by
        simp only [bcells, List.map_map, List.getElem?_map, List.getElem?_take, hj', if_true, List.getElem?_eq_getElem hjz, Option.map_some, Function.comp, Option.some.injEq] at hj
        rw [← hj]
        congr 1
        simp
        omega
      rw [hu, hcell j hjz]
      simp [List.getD, hjz]
    · have h1 := hw (((lits (H := H) .u8 (zs.take len)).length + (lits (H := H) .u8 (zs.drop len)).length) * Try.prog.bytesOf 5) (by
        simp only [DataW.weights, Try.underlying22]
        exact List.mem_cons_self)
      rw [hlen]
      rw [bytesU8] at h1
      simp [lits, reachBytes] at h1
      omega

set_option maxRecDepth 20000 in
/-- A slice of bytes that came in. -/
theorem open_bytes {H : Type} {enc : TypeId × Value → H} {W : World} {base : Nat} {v : Value} {d : DataW H} {p : List MemPlace} (hval : Value.okWide Try.prog W .any base 22 v)
    (h : DataW.Trod enc Try.prog W 0 (fun _ => true) true 22 v d p) (hw : ∀ n ∈ d.weights Try.prog 22, n ≤ reachBytes) : ∃ bs, Holds W v bs ∧ bs.length ≤ 140737488351232 := by
  obtain ⟨a, len, cap, rfl⟩ := okWide_slice Try.underlying22 hval
  obtain ⟨fuel, hf⟩ := h
  obtain ⟨v, bs, hv, hh, hl⟩ := bytes_of_trod hf hw
  simp [Value.cells] at hv
  subst hv
  exact ⟨bs, hh, hl⟩


section
variable {H : Type} {enc : TypeId × Value → H} {W : World}
theorem act_fits {fuel : Nat} {cs : List Value} {x : DataW H × List MemPlace} (h : DataW.trod enc Try.prog W 0 (fun _ => true) true fuel 24 cs = some x) (hw : ∀ m ∈ x.1.weights Try.prog 24, m ≤ reachBytes) : ∃ a : Ac, cs = acells a ∧ a.Fits W := by
  obtain ⟨xs, n, _, hxd, hl, hx, hf⟩ := DataW.trod_struct Try.underlying24 h
  have hl' : cs.length = 6 := hl.trans cellsAct
  have f0 := hf 0 _ rfl
  have f1 := hf 1 _ rfl
  have f2 := hf 2 _ rfl
  have f3 := hf 3 _ rfl
  have f4 := hf 4 _ rfl
  have f5 := hf 5 _ rfl
  change DataW.trod enc Try.prog W 0 (fun _ => true) true n 3 (List.take (Try.prog.cellsOf 3) (List.drop 0 cs)) = xs[0]? at f0
  change DataW.trod enc Try.prog W 0 (fun _ => true) true n 9 (List.take (Try.prog.cellsOf 9) (List.drop 1 cs)) = xs[1]? at f1
  change DataW.trod enc Try.prog W 0 (fun _ => true) true n 9 (List.take (Try.prog.cellsOf 9) (List.drop 2 cs)) = xs[2]? at f2
  change DataW.trod enc Try.prog W 0 (fun _ => true) true n 22 (List.take (Try.prog.cellsOf 22) (List.drop 3 cs)) = xs[3]? at f3
  change DataW.trod enc Try.prog W 0 (fun _ => true) true n 3 (List.take (Try.prog.cellsOf 3) (List.drop 4 cs)) = xs[4]? at f4
  change DataW.trod enc Try.prog W 0 (fun _ => true) true n 3 (List.take (Try.prog.cellsOf 3) (List.drop 5 cs)) = xs[5]? at f5
  rw [cellsI] at f0 f4 f5
  rw [cellsStr] at f1 f2
  rw [cellsBytes] at f3
  have hx' : xs.length = 6 := hx
  obtain ⟨x0, x1, x2, x3, x4, x5, rfl⟩ := list6 hx'
  obtain ⟨c0, c1, c2, c3, c4, c5, rfl⟩ := list6 hl'
  rw [hxd] at hw
  simp only [DataW.weights, Try.underlying24] at hw
  obtain ⟨kd, h0, _, _⟩ := DataW.trod_int Try.underlying3 f0
  obtain ⟨sa, h1, d1, _⟩ := DataW.trod_string Try.underlying9 f1
  obtain ⟨sb, h2, d2, _⟩ := DataW.trod_string Try.underlying9 f2
  obtain ⟨v, bs, h3, hh, hbl⟩ := bytes_of_trod f3 (fun k hk => hw k (DataW.weights_mem_each (j := 3) (t := 22) (d := x3.1) rfl rfl k hk))
  obtain ⟨nn, h4, _, w4⟩ := DataW.trod_int Try.underlying3 f4
  obtain ⟨mm, h5, _, w5⟩ := DataW.trod_int Try.underlying3 f5
  have e0 : [c0] = [.int .i64 kd] := h0
  have e1 : [c1] = [.string sa] := h1
  have e2 : [c2] = [.string sb] := h2
  have e3 : [c3] = [v] := h3
  have e4 : [c4] = [.int .i64 nn] := h4
  have e5 : [c5] = [.int .i64 mm] := h5
  simp at e0 e1 e2 e3 e4 e5
  have k1 : sa.data.toList.length ≤ reachBytes := hw _ (DataW.weights_mem_each (j := 1) (t := 9) (d := .lit (.string sa.data.toList)) rfl (by simp [d1]) _ (by simp [DataW.weights]))
  have k2 : sb.data.toList.length ≤ reachBytes := hw _ (DataW.weights_mem_each (j := 2) (t := 9) (d := .lit (.string sb.data.toList)) rfl (by simp [d2]) _ (by simp [DataW.weights]))
  have b4 := bounds_i64 w4
  have b5 := bounds_i64 w5
  obtain ⟨da, dc, rfl⟩ := hh.slice
  exact ⟨⟨kd, sa, sb, da, bs.length, dc, nn, mm⟩, by rw [e0, e1, e2, e3, e4, e5]; rfl, size_le k1, size_le k2, ⟨bs, hh, hbl⟩, by show _ ≤ nn ∧ nn < _; omega, by show _ ≤ mm ∧ mm < _; omega⟩
end

set_option maxRecDepth 20000 in
/-- An act that came in. -/
theorem open_sact {H : Type} {enc : TypeId × Value → H} {W : World} {base : Nat} {v : Value} {d : DataW H} {p : List MemPlace} (hval : Value.okWide Try.prog W .any base 24 v)
    (h : DataW.Trod enc Try.prog W 0 (fun _ => true) true 24 v d p) (hw : ∀ n ∈ d.weights Try.prog 24, n ≤ reachBytes) : ∃ a : Ac, v = acv a ∧ a.Fits W := by
  obtain ⟨cs, hcs, _⟩ := okWide_struct Try.underlying24 hval
  obtain ⟨fuel, hf⟩ := h
  obtain ⟨m, hm, hb⟩ := act_fits hf hw
  refine ⟨m, ?_, hb⟩
  rw [hcs] at hm ⊢
  have h1 : cs.toList = acells m := hm
  have h2 : cs = (acells m).toArray := by rw [← h1]
  rw [h2]; rfl
end Go.Proofs.Ytjgdmbfkondakaa
