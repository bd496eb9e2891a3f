/-
  THE WALK of lives: the document's examples.
-/
import Derived.Test.YtihoijepnoleoaaDoorMatch
namespace Go.Proofs.YtihoijepnoleoaaDoor
open Go.RowKit Go.Shelf

theorem small (l : List UInt8) (h : l.length ≤ 1000 := by decide) : (ByteArray.mk l.toArray).size ≤ maxLen := by
  show l.toArray.size ≤ _
  rw [List.size_toArray]
  unfold maxLen
  omega

set_option maxHeartbeats 1000000 in
theorem lives_any (w : World) : Calls Tryd.prog 10 #[] w fun e w' => e = .returned (.bool true) ∧ Below w.heap.size w w' := by
  have m1 : matchB (txt ⟨#[97, 46, 42, 46, 35]⟩) (txt ⟨#[97, 46, 98]⟩) = true := by decide
  have m2 : matchB (txt ⟨#[97, 46, 42, 46, 35]⟩) (txt ⟨#[97, 46, 98, 46, 99, 46, 100]⟩) = true := by decide
  have m3 : matchB (txt ⟨#[97, 46, 42, 46, 35]⟩) (txt ⟨#[97]⟩) = false := by decide
  have m4 : matchB (txt ⟨#[35]⟩) (txt ⟨#[]⟩) = true := by decide
  have m5 : overB (txt ⟨#[97, 46, 35]⟩) (txt ⟨#[97, 46, 42]⟩) = true := by decide
  have m6 : nameB (txt ⟨#[113, 45, 49]⟩) = true := by decide
  have c1 := fun w => match_any ⟨#[97, 46, 42, 46, 35]⟩ ⟨#[97, 46, 98]⟩ w (small _) (small _)
  have c2 := fun w => match_any ⟨#[97, 46, 42, 46, 35]⟩ ⟨#[97, 46, 98, 46, 99, 46, 100]⟩ w (small _) (small _)
  have c3 := fun w => match_any ⟨#[97, 46, 42, 46, 35]⟩ ⟨#[97]⟩ w (small _) (small _)
  have c4 := fun w => match_any ⟨#[35]⟩ ⟨#[]⟩ w (small _) (small [])
  have c5 := fun w => over_any ⟨#[97, 46, 35]⟩ ⟨#[97, 46, 42]⟩ w (small _) (small _)
  have c6 := fun w => name_any ⟨#[113, 45, 49]⟩ w (small _)
  rw [m1] at c1
  rw [m2] at c2
  rw [m3] at c3
  rw [m4] at c4
  rw [m5] at c5
  rw [m6] at c6
  clear m1 m2 m3 m4 m5 m6
  go_enter Tryd.func10, Tryd.ntmps10
  go_wp2_with fail
  refine (c1 _).mono ?_
  rintro e w1 ⟨rfl, hb1⟩
  go_wp2_with fail
  refine (c2 _).mono ?_
  rintro e w2 ⟨rfl, hb2⟩
  go_wp2_with fail
  refine (c3 _).mono ?_
  rintro e w3 ⟨rfl, hb3⟩
  go_wp2_with fail
  refine (c4 _).mono ?_
  rintro e w4 ⟨rfl, hb4⟩
  go_wp2_with fail
  refine (c5 _).mono ?_
  rintro e w5 ⟨rfl, hb5⟩
  go_wp2_with fail
  refine (c6 _).mono ?_
  rintro e w6 ⟨rfl, hb6⟩
  go_wp2
  go_ret
  have z1 := hb1.size; have z2 := hb2.size; have z3 := hb3.size; have z4 := hb4.size; have z5 := hb5.size
  exact ⟨rfl, ((((hb1.trans (hb2.mono (by omega))).trans (hb3.mono (by omega))).trans (hb4.mono (by omega))).trans (hb5.mono (by omega))).trans (hb6.mono (by omega))⟩
end Go.Proofs.YtihoijepnoleoaaDoor
