/-
  staithlaw14.StateNone: the closed facts that its card asks, one by one.
-/
import Derived.Test.YtjagaankkcbjmaaGreatDoorCards
import Derived.Test.YtjagaankkcbjmaaGreatDoorTie
import Derived.JoinedCond
import Derived.SevenTiedAt
namespace Go.Proofs.YtjagaankkcbjmaaGreatDoor.stateNone
open Go.ChangeShapes Go.WideShapes Go.ChangeAt

theorem kInPlace : (Rows.stateNoneRow.inPlace == Tryz.pinned.checked.prog.inPlace 6) = true := by kernel_rfl
theorem kUnfollowed : (Rows.stateNoneRow.unfollowed == Tryz.pinned.checked.prog.unfollowed 6) = true := by kernel_rfl
theorem kRecurses : (Rows.stateNoneRow.recurses == Tryz.pinned.checked.prog.recurses 6) = true := by kernel_rfl
theorem kNamed : (Rows.stateNoneRow.named == Tryz.pinned.checked.prog.varsNamed 6) = true := by kernel_rfl
theorem closed : joinedFacts Tryz.pinned.checked.prog 6 Tryz.f6 (OpenSpec.ofChange Rows.stateNoneSpec).bare Rows.stateNoneRow = true := by
  unfold joinedFacts
  rw [kInPlace, kUnfollowed, kRecurses, kNamed]
  kernel_rfl
theorem kWf : Rows.stateNoneRow.wfByText (OpenSpec.ofChange Rows.stateNoneSpec) = true := by kernel_rfl
theorem kGoes : false = Rows.stateNoneRow.goesBy Tryz.pinned.checked.prog := by kernel_rfl

theorem plain (f : FuncId) (fn : Func) (hf : Tryz.pinned.checked.prog.funcNamed "staith/staithlaw14.StateNone" = some f) (hfn : Tryz.pinned.checked.prog.funcs[f]? = some fn) :
    true = Tryz.pinned.checked.prog.looks [] ∧ ∀ (j : Nat) t, fn.params[j]? = some t → Tryz.pinned.checked.prog.wantsStandIn t = false := by
  obtain rfl : f = 6 := Option.some.inj ((show Tryz.prog.funcNamed "staith/staithlaw14.StateNone" = some 6 by kernel_rfl).symm.trans hf) |>.symm
  obtain rfl : fn = Tryz.f6 := (Option.some.inj (Tryz.func6.symm.trans hfn)).symm
  refine ⟨by kernel_rfl, fun j t ht => ?_⟩
  rw [Tryz.params6] at ht
  have hm := Array.mem_of_getElem? ht
  have hm' : t = 42 := by simpa using hm
  rcases hm' with rfl
  · exact (show Tryz.prog.wantsStandIn 42 = false by kernel_rfl)
end Go.Proofs.YtjagaankkcbjmaaGreatDoor.stateNone
