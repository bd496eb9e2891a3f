/-
  WHAT THE CARD OF THIS SEAT NEEDS: the table as the row lists it; numbers that came in.
-/
import Derived.Test.YtkdjpleedaldcaaDoorRows
import Derived.Test.YtkdjpleedaldcaaDoorLawBrings21
import Derived.WalkKit
import Derived.ProofKit
import Derived.OpenShut
import Derived.ChangeOld
import Derived.SizedLaws
import Derived.DataReads
import Derived.DataElems
import Derived.LaidLaws
import Derived.Deep.DeepHandedRow
import Derived.Lib.LaidTab
namespace Go.Proofs.YtkdjpleedaldcaaDoor
open Go.ChangeShapes Go.WideShapes Go.ChangeAt Go.RowKit
set_option maxRecDepth 20000

theorem own : ownKnob Tryd.prog.godebug = none := by kernel_rfl
theorem laidOut : laidOutB Tryd.prog = true := by kernel_rfl
theorem gTab : Tryd.prog.globalNamed "math/bits.deBruijn64tab" = some 0 := by kernel_rfl
theorem gTabType : (Tryd.prog.globals[0]?).map (·.type) = some 72 := by kernel_rfl
theorem cellsTab : Tryd.prog.cellsOf 72 = 64 := by kernel_rfl
theorem cellsByte : Tryd.prog.cellsOf 5 = 1 := by kernel_rfl

/-- The row's list gives the table's cells. -/
theorem tab_of {W : World} (h : laidMetH Tryd.prog [("math/bits.deBruijn64tab", Rows.laid_math_bits_deBruijn64tab)] W) : Tab W := by
  have hT : Lib.TabIs Tryd.prog W "math/bits.deBruijn64tab" .u8 (Lib.deBruijn64tab.map fun z : Nat => (z : Int)) :=
    Lib.tabIs_of_head (rest := []) gTab gTabType Tryd.underlying72 Tryd.underlying5 cellsByte cellsTab h
  intro j hj
  have hc := hT.cell gTab j (by rw [List.length_map]; exact hj)
  rw [hc]
  congr 1
  congr 1
  have hj' : j < Lib.deBruijn64tab.length := hj
  simp [List.getD, hj']

/-- A slice of numbers that came in. -/
theorem open_u64s {H : Type} {enc : TypeId × Value → H} {W : World} {base : Nat} {v : Value} {d : DataW H} {p : List MemPlace} (hval : Value.okWide Tryd.prog W .any base 23 v)
    (h : DataW.Trod enc Tryd.prog W 0 (fun _ => true) true 23 v d p) : ∃ l : List Nat, Row W v (ncells l) ∧ (∀ n ∈ l, n < 18446744073709551616) := by
  obtain ⟨a, len, cap, rfl⟩ := okWide_slice Tryd.underlying23 hval
  obtain ⟨fuel, hf⟩ := h
  rcases open_ints Tryd.underlying23 Tryd.underlying22 (by kernel_rfl) hf with ⟨hcs, _⟩ | ⟨x, l, c, zs, hcs, _, hl, hm, hz, hx, hcell, hwz⟩
  · simp [Value.cells] at hcs
    obtain ⟨rfl, rfl, rfl⟩ := hcs
    exact ⟨[], .inl ⟨rfl, rfl⟩, (fun n h => by cases h)⟩
  · simp [Value.cells] at hcs
    obtain ⟨rfl, rfl, rfl⟩ := hcs
    have hzl : zs.length = cap := by simpa using hz
    have hlen : ((zs.take len).map Int.toNat).length = len := by simp; omega
    refine ⟨(zs.take len).map Int.toNat, .inr ⟨x, cap, by rw [ncells_length, hlen], by rw [ncells_length, hlen]; omega, hm, fun i u hi => ?_⟩, fun n hn => ?_⟩
    · have hil : i < len := by have := (List.getElem?_eq_some_iff.1 hi).1; rw [ncells_length, hlen] at this; exact this
      have hjz : i < zs.length := by omega
      have hb := bounds_u64 (hwz zs[i] (List.getElem_mem hjz))
      rw [hcell i hjz, ← hi]
      simp [ncells, hjz, hil]
      omega
    · obtain ⟨z, hz1, rfl⟩ := List.mem_map.1 hn
      have hb := bounds_u64 (hwz z (List.mem_of_mem_take hz1))
      omega
end Go.Proofs.YtkdjpleedaldcaaDoor
