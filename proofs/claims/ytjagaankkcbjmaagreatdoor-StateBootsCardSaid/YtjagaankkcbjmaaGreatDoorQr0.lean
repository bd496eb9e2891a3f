import Derived.Test.YtjagaankkcbjmaaGreatDoorCards
import Derived.Test.YtjagaankkcbjmaaGreatDoorTie
import Derived.JoinedCond
import Derived.SevenTiedAt
namespace Go.Proofs.YtjagaankkcbjmaaGreatDoor.stateBoots
open Go.ChangeShapes Go.WideShapes Go.ChangeAt
theorem kInPlace : (Rows.stateBootsRow.inPlace == Tryz.pinned.checked.prog.inPlace 7) = true := by kernel_rfl
theorem kUnfollowed : (Rows.stateBootsRow.unfollowed == Tryz.pinned.checked.prog.unfollowed 7) = true := by kernel_rfl
theorem kRecurses : (Rows.stateBootsRow.recurses == Tryz.pinned.checked.prog.recurses 7) = true := by kernel_rfl
theorem kNamed : (Rows.stateBootsRow.named == Tryz.pinned.checked.prog.varsNamed 7) = true := by kernel_rfl
theorem closed : joinedFacts Tryz.pinned.checked.prog 7 Tryz.f7 (OpenSpec.ofChange Rows.stateBootsSpec).bare Rows.stateBootsRow = true := by
 unfold joinedFacts
 rw [kInPlace,kUnfollowed,kRecurses,kNamed]
 kernel_rfl
theorem kWf : Rows.stateBootsRow.wfByText (OpenSpec.ofChange Rows.stateBootsSpec) = true := by kernel_rfl
theorem kGoes : false = Rows.stateBootsRow.goesBy Tryz.pinned.checked.prog := by kernel_rfl
theorem plain (f : FuncId) (fn : Func) (hf : Tryz.pinned.checked.prog.funcNamed "staith/staithlaw14.StateBoots" = some f) (hfn : Tryz.pinned.checked.prog.funcs[f]? = some fn) :
  true = Tryz.pinned.checked.prog.looks [] /\ ∀ (j : Nat) t,fn.params[j]? = some t -> Tryz.pinned.checked.prog.wantsStandIn t = false := by
 obtain rfl : f = 7 := Option.some.inj ((show Tryz.prog.funcNamed "staith/staithlaw14.StateBoots" = some 7 by kernel_rfl).symm.trans hf) |>.symm
 obtain rfl : fn = Tryz.f7 := (Option.some.inj (Tryz.func7.symm.trans hfn)).symm
 refine ⟨by kernel_rfl,fun j t ht => ?_⟩
 rw [Tryz.params7] at ht
 have hm := Array.mem_of_getElem? ht
 have hm' : t = 24 \/ t = 25 := by simpa using hm
 rcases hm' with rfl | rfl
 ·exact (show Tryz.prog.wantsStandIn 24 = false by kernel_rfl)
 ·exact (show Tryz.prog.wantsStandIn 25 = false by kernel_rfl)
end Go.Proofs.YtjagaankkcbjmaaGreatDoor.stateBoots
