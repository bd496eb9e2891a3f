/-
  THE WALK of 'lives': the document's examples are as it says; the loops over All as plain calls.
-/
import Derived.Test.YtalphedaiehlbaaDoorListed
import Derived.Test.YtalphedaiehlbaaDoorRefs
namespace Go.Proofs.YtalphedaiehlbaaDoor
open Go.RowKit

theorem size_any (m : Nat) (w : World) (hm : IsSet m) (hT : Tab w) :
    Calls Tryd.prog 21 #[.int .u64 m] w fun e w' => e = .returned (.int .i64 (listS m).length) ∧ Below w.heap.size w w' := callsIn_wide.1 (size_in m w hm hT)
theorem run_any (m : Nat) (w : World) (hm : IsSet m) (hT : Tab w) :
    Calls Tryd.prog 22 #[.int .u64 m] w fun e w' => e = .returned (.int .i64 (runS m)) ∧ Below w.heap.size w w' := callsIn_wide.1 (run_in m w hm hT)
theorem list_any (m : Nat) (stop : Int) (w : World) (hm : IsSet m) (hT : Tab w) :
    Calls Tryd.prog 20 #[.int .u64 m, .int .i64 stop] w fun e w' => ∃ v, e = .returned v ∧ Row w' v (icells (pickS m stop)) ∧ Below w.heap.size w w' := callsIn_wide.1 (list_in m stop w hm hT)

theorem lives_any (w : World) (hT : Tab w) :
    Calls Tryd.prog 17 #[] w fun e w' => e = .returned (.bool true) ∧ Below w.heap.size w w' := by
  have e1 : ofS [1, 3] = 10 := by decide
  have e2 : slideS 10 1 = 5 := by decide
  have e3 : runS 23 = 3 := by decide
  have e4 : (listS 7).length = 3 := by decide
  have hpos := hT.pos
  have c1 : ∀ w : World, Row (w.alloc (.cells #[.int .i64 1, .int .i64 3] 3)) (.slice (some ⟨w.heap.size, 0, none⟩) 2 2) (icells [1, 3]) := fun w => (own1_new w w.heap.size 3 [.int .i64 1, .int .i64 3] (Nat.le_refl _) (by simp [maxLen])).row
  go_enter Tryd.func17, Tryd.ntmps17
  go_wp2_with fail
  refine (of_any _ [1, 3] _ (c1 w)).mono ?_
  rintro e w1 ⟨rfl, rfl⟩
  have hB1 : Below w.heap.size w (w.alloc (.cells #[.int .i64 1, .int .i64 3] 3)) := (Below.refl _ _).alloc (Nat.le_refl _) _
  go_wp2_with fail
  refine (slide_any 10 1 _).mono ?_
  rintro e w1 ⟨rfl, rfl⟩
  go_wp2_with fail
  refine (run_any 23 _ (by decide) (hT.below hB1 hpos)).mono ?_
  rintro e w2 ⟨rfl, hB2⟩
  have hB3 := hB1.trans (hB2.mono (by simp))
  go_wp2_with fail
  refine (size_any 7 _ (by decide) (hT.below hB3 hpos)).mono ?_
  rintro e w3 ⟨rfl, hB4⟩
  go_wp2_with fail
  go_ret
  exact ⟨rfl, hB3.trans (hB4.mono hB3.size)⟩
end Go.Proofs.YtalphedaiehlbaaDoor
