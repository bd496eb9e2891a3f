/-
  WHAT ALL CARDS OF THIS SEAT NEED: the table as the row lists it, a slice of ints that came in.
-/
import Derived.Test.YtalphedaiehlbaaDoorRows
import Derived.Test.YtalphedaiehlbaaDoorLaws2
import Derived.WalkKit
import Derived.ProofKit
import Derived.OpenShut
import Derived.ChangeOld
import Derived.Deep.DeepHandedRow
import Derived.Lib.LaidTab
namespace Go.Proofs.YtalphedaiehlbaaDoor
open Go.ChangeShapes Go.WideShapes Go.ChangeAt Go.RowKit

theorem own : ownKnob Tryd.prog.godebug = none := by kernel_rfl
theorem laidOut : laidOutB Tryd.prog = true := by kernel_rfl
theorem gTab : Tryd.prog.globalNamed "math/bits.deBruijn64tab" = some 0 := by kernel_rfl
theorem gTabType : (Tryd.prog.globals[0]?).map (·.type) = some 43 := by kernel_rfl
theorem cellsTab : Tryd.prog.cellsOf 43 = 64 := by kernel_rfl
theorem cellsByte : Tryd.prog.cellsOf 5 = 1 := by kernel_rfl

/-- The row's list gives the table's cells. -/
theorem tab_of {W : World} (h : laidMetH Tryd.prog [("math/bits.deBruijn64tab", Rows.laid_math_bits_deBruijn64tab)] W) : Tab W := by
  have hT : Lib.TabIs Tryd.prog W "math/bits.deBruijn64tab" .u8 (Lib.deBruijn64tab.map fun z : Nat => (z : Int)) :=
    Lib.tabIs_of_head (rest := []) gTab gTabType Tryd.underlying43 Tryd.underlying5 cellsByte cellsTab h
  intro j hj
  have hc := hT.cell gTab j (by rw [List.length_map]; exact hj)
  rw [hc]
  congr 1
  congr 1
  have hj' : j < Lib.deBruijn64tab.length := hj
  simp [List.getD, hj']

/-- A slice of ints that came in holds some ints. -/
theorem open_row {H : Type} {enc : TypeId × Value → H} {W : World} {base : Nat} {v : Value} {d : DataW H} {p : List MemPlace} (hval : Value.okWide Tryd.prog W .any base 27 v)
    (h : DataW.Trod enc Tryd.prog W 0 (fun _ => true) true 27 v d p) : ∃ l, Row W v (icells l) := by
  obtain ⟨a, len, cap, rfl⟩ := okWide_slice Tryd.underlying27 hval
  obtain ⟨fuel, hf⟩ := h
  rcases open_ints Tryd.underlying27 Tryd.underlying3 (by kernel_rfl) hf with ⟨hcs, _⟩ | ⟨x, l, c, zs, hcs, _, hl, hm, hz, _, hcell, hwz⟩
  · simp [Value.cells] at hcs
    obtain ⟨rfl, rfl, rfl⟩ := hcs
    exact ⟨[], .inl ⟨rfl, rfl⟩⟩
  · simp [Value.cells] at hcs
    obtain ⟨rfl, rfl, rfl⟩ := hcs
    have hzl : zs.length = cap := by simpa using hz
    have hlen : (icells (zs.take len)).length = len := by simp [icells]; omega
    refine ⟨zs.take len, .inr ⟨x, cap, by rw [hlen], by omega, hm, fun j u hj => ?_⟩⟩
    have hj' : j < len := by
      have := (List.getElem?_eq_some_iff.1 hj).1
      rw [hlen] at this
      exact this
    have hjz : j < zs.length := by omega
    have hu : u = .int .i64 zs[j] := by
      simp only [icells, List.getElem?_map, List.getElem?_take, hj', if_true, List.getElem?_eq_getElem hjz, Option.map_some, Option.some.injEq] at hj
      rw [← hj]
    rw [hu, hcell j hjz]
    simp [List.getD, hjz]
end Go.Proofs.YtalphedaiehlbaaDoor
