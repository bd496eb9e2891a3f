/-
  THE SHELF's CONTRACT of maps.Clone at a table's two maps, at this dump.
-/
import Derived.Shelf.SlMaps.Clone
import Derived.Test.YtlfehneojkfmjaaGreatDoorProg
namespace Go.Proofs
open Go.Shelf
def Tryz.cloneX_ren : Go.Shelf.Ren := ⟨fun | 5 => 34 | 7 => 61 | n => n, fun | 23 => 65 | 25 => 9 | 3 => 41 | 4 => 4 | 20 => 20 | n => n, fun | n => n⟩
theorem Tryz.cloneX : Go.Proofs.SlLaysW.n5 Tryz.prog Tryz.cloneX_ren := {
  mixed := by kernel_rfl
  f5 := ⟨Tryz.f34.name, by decide, Tryz.func34.trans (congrArg some (by kernel_rfl))⟩
  f7 := Tryz.func61.trans (congrArg some (by kernel_rfl))
  t4 := Tryz.underlying4
  a4 := Tryz.isAgg4
  z4 := Tryz.sizeOf4
  v4 := Tryz.zeroValue4
  t20 := Tryz.underlying20
  a20 := Tryz.isAgg20
  z20 := Tryz.sizeOf20
  v20 := Tryz.zeroValue20
  t23 := Tryz.underlying65
  a23 := Tryz.isAgg65
  z23 := Tryz.sizeOf65
  v23 := Tryz.zeroValue65 }
def Tryz.cloneB_ren : Go.Shelf.Ren := ⟨fun | 5 => 35 | 7 => 61 | n => n, fun | 23 => 67 | 25 => 39 | 3 => 71 | 4 => 4 | 20 => 20 | n => n, fun | n => n⟩
theorem Tryz.cloneB : Go.Proofs.SlLaysW.n5 Tryz.prog Tryz.cloneB_ren := {
  mixed := by kernel_rfl
  f5 := ⟨Tryz.f35.name, by decide, Tryz.func35.trans (congrArg some (by kernel_rfl))⟩
  f7 := Tryz.func61.trans (congrArg some (by kernel_rfl))
  t4 := Tryz.underlying4
  a4 := Tryz.isAgg4
  z4 := Tryz.sizeOf4
  v4 := Tryz.zeroValue4
  t20 := Tryz.underlying20
  a20 := Tryz.isAgg20
  z20 := Tryz.sizeOf20
  v20 := Tryz.zeroValue20
  t23 := Tryz.underlying67
  a23 := Tryz.isAgg67
  z23 := Tryz.sizeOf67
  v23 := Tryz.zeroValue67 }
end Go.Proofs
