/-
  WHAT ALL CARDS OF THIS SEAT NEED: the table as the row lists it, a slice of bytes that came in.
-/
import Derived.Test.YtbnelhcmoihliaaDoorRows
import Derived.Test.YtbnelhcmoihliaaDoorLaws2
import Derived.WalkKit
import Derived.ProofKit
import Derived.OpenShut
import Derived.ChangeOld
import Derived.Deep.DeepHandedRow
import Derived.Lib.LaidTab
namespace Go.Proofs.YtbnelhcmoihliaaDoor
open Go.ChangeShapes Go.WideShapes Go.ChangeAt Go.RowKit

theorem own : ownKnob Tryd.prog.godebug = none := by kernel_rfl
theorem laidOut : laidOutB Tryd.prog = true := by kernel_rfl
theorem gTab : Tryd.prog.globalNamed "staith/word.widths" = some 0 := by kernel_rfl
theorem gTabType : (Tryd.prog.globals[0]?).map (·.type) = some 45 := by kernel_rfl
theorem cellsTab : Tryd.prog.cellsOf 45 = 4 := by kernel_rfl
theorem cellsInt : Tryd.prog.cellsOf 3 = 1 := by kernel_rfl

/-- The row's list gives the table's cells. -/
theorem tab_of {W : World} (h : laidMetH Tryd.prog [("staith/word.widths", Rows.laid_staith_word_widths)] W) : Tab W := by
  have hT : Lib.TabIs Tryd.prog W "staith/word.widths" .i64 [1, 2, 4, 8] :=
    Lib.tabIs_of_head (rest := []) gTab gTabType Tryd.underlying45 Tryd.underlying3 cellsInt cellsTab h
  intro j u hj
  match j, hj with
  | 0, hj => cases hj; exact hT.cell gTab 0 (by decide)
  | 1, hj => cases hj; exact hT.cell gTab 1 (by decide)
  | 2, hj => cases hj; exact hT.cell gTab 2 (by decide)
  | 3, hj => cases hj; exact hT.cell gTab 3 (by decide)
  | j + 4, hj => simp at hj

/-- A slice of bytes that came in holds some bytes. -/
theorem open_bytes {H : Type} {enc : TypeId × Value → H} {W : World} {base : Nat} {v : Value} {d : DataW H} {p : List MemPlace} (hval : Value.okWide Tryd.prog W .any base 22 v)
    (h : DataW.Trod enc Tryd.prog W 0 (fun _ => true) true 22 v d p) : ∃ bs, Holds W v bs := by
  obtain ⟨a, len, cap, rfl⟩ := okWide_slice Tryd.underlying22 hval
  obtain ⟨fuel, hf⟩ := h
  rcases open_ints Tryd.underlying22 Tryd.underlying5 (by kernel_rfl) hf with ⟨hcs, _⟩ | ⟨x, l, c, zs, hcs, _, hl, hm, hz, _, hcell, hwz⟩
  · simp [Value.cells] at hcs
    obtain ⟨rfl, rfl, rfl⟩ := hcs
    exact ⟨[], .inl ⟨rfl, rfl⟩⟩
  · simp [Value.cells] at hcs
    obtain ⟨rfl, rfl, rfl⟩ := hcs
    have hzl : zs.length = cap := by simpa using hz
    have hlen : ((zs.take len).map fun z => UInt8.ofNat z.toNat).length = len := by simp; omega
    refine ⟨(zs.take len).map fun z => UInt8.ofNat z.toNat, .inr ⟨x, cap, by rw [hlen], by omega, hm, fun j u hj => ?_⟩⟩
    have hj' : j < len := by
      have := (List.getElem?_eq_some_iff.1 hj).1
      rw [bcells_length, hlen] at this
      exact this
    have hjz : j < zs.length := by omega
    have hb := bounds_u8 (hwz zs[j] (List.getElem_mem hjz))
    have hu : u = .int .u8 zs[j] := by
      simp only [bcells, List.map_map, List.getElem?_map, List.getElem?_take, hj', if_true, List.getElem?_eq_getElem hjz, Option.map_some, Function.comp, Option.some.injEq] at hj
      rw [← hj]
      congr 1
      simp
      omega
    rw [hu, hcell j hjz]
    simp [List.getD, hjz]
end Go.Proofs.YtbnelhcmoihliaaDoor
