/-
  THE WALKS of package word and of the small functions of the document's answer.
-/
import Derived.Test.YtopacoghnofliaaDoorProg
import Derived.Test.YtopacoghnofliaaDoorBytes
import Derived.Test.YtopacoghnofliaaDoorRow
import Derived.Lib.LaidTab
import Derived.Deep.Light
namespace Go.Proofs.YtopacoghnofliaaDoor
open Go.RowKit


/-- The table of widths lies in memory as the text lays it. -/
def Tab (w : World) : Prop := ∀ j u, [Value.int .i64 1, .int .i64 2, .int .i64 4, .int .i64 8][j]? = some u → w.cell? ⟨1, j, none⟩ = some u


theorem Tab.pos {w : World} (h : Tab w) : 1 < w.heap.size := by
  have := World.block_lt_of_cell? w _ (h 0 _ rfl)
  omega

theorem Tab.below {w w' : World} {B : Nat} (h : Tab w) (hb : Below B w w') (hB : 1 < B) : Tab w' := by
  intro j u hj
  rw [hb.cell (p := ⟨1, j, none⟩) hB]
  exact h j u hj


/-- A whole array read out of its variable, told by its cells. -/
theorem run_load_cells {P : Program} (w : World) (g : Nat) (ty : TypeId) (cs : List Value) (d : TypeDesc) (hc : ∀ j u, cs[j]? = some u → w.cell? ⟨g, j, none⟩ = some u)
    (hu : P.underlying ty = some d) (hd : (match d with | .struct _ | .array _ _ => true | _ => false) = true) (hi : (P.info? ty).map (·.size) = some cs.length) :
    (loadVar ty ⟨g, 0, none⟩).run P w = .ok (.agg cs.toArray) w := by
  have hl : (loadCells ⟨g, 0, none⟩ cs.length).run P w = .ok cs.toArray w :=
    run_loadCells_list (P := P) w ⟨g, 0, none⟩ cs (fun j v hv => by
      have hadd : (⟨g, 0, none⟩ : Addr).add j = ⟨g, j, none⟩ := by unfold Addr.add; split <;> simp_all
      rw [hadd]
      exact hc j v hv)
  cases hq : P.info? ty with
  | none => simp [hq] at hi
  | some i =>
    have hs : i.size = cs.length := by simpa [hq] using hi
    have hagg : (isAgg ty).run P w = .ok true w := by
      unfold isAgg
      rw [Sem.run_bind, run_underlying hu w]
      cases d <;> simp_all
    simp [loadVar, Sem.run_bind, hagg, sizeOf, typeInfo, hq, hs, hl]


theorem wpList_load_cells {P : Program} {ops : Array Oper} {rest : List Oper} {o : Oper} {a : Act} {w : World} {Q : Exit → Act → World → Prop} (hgd : o.guard = none) (ty : TypeId) (x : Operand) (ho : o.op = .load ty x)
    (g : Nat) (hx : a.eval x = .pointer (some ⟨g, 0, none⟩)) (cs : List Value) (d : TypeDesc) (hc : ∀ j u, cs[j]? = some u → w.cell? ⟨g, j, none⟩ = some u)
    (hu : P.underlying ty = some d) (hd : (match d with | .struct _ | .array _ _ => true | _ => false) = true) (hi : (P.info? ty).map (·.size) = some cs.length)
    (h : wpList P ops Q rest (a.put o.dst (.agg cs.toArray)) w) : wpList P ops Q (o :: rest) a w :=
  wpList_plain hgd fun _ hK => by
    unfold Oper.wp execOp
    simp only [ho, hx, Instr.loadAt, Instr.sureAddr, Sem.run_bind, Sem.run_pure, Result.andThen_ok, run_load_cells w g ty cs d hc hu hd hi]
    exact hK _ _ h




theorem wi8 (n : Int) : IntKind.i8.wrap n = (n + 128) % 256 - 128 := by
  simp only [IntKind.wrap, IntKind.bits, IntKind.signed, Bool.true_and, ge_iff_le, decide_eq_true_eq]
  simp
  split <;> omega

theorem wi16 (n : Int) : IntKind.i16.wrap n = (n + 32768) % 65536 - 32768 := by
  simp only [IntKind.wrap, IntKind.bits, IntKind.signed, Bool.true_and, ge_iff_le, decide_eq_true_eq]
  simp
  split <;> omega


def goodB (n : Int) : Bool := n == 1 || n == 2 || n == 4 || n == 8


/-- Good: the widths are 1, 2, 4 and 8. -/
theorem goodW_any (n : Int) (w : World) (ht : Tab w) :
    Calls Tryd.prog 41 #[.int .i64 n] w fun e w' => e = .returned (.bool (goodB n)) ∧ w' = w := by
  have i0 : ∀ w : World, (Instr.index 83 (.agg #[.int .i64 1, .int .i64 2, .int .i64 4, .int .i64 8]) (.int .i64 0)).run Tryd.prog w = .ok (.int .i64 1) w := fun _ => by kernel_rfl
  have i1 : ∀ w : World, (Instr.index 83 (.agg #[.int .i64 1, .int .i64 2, .int .i64 4, .int .i64 8]) (.int .i64 1)).run Tryd.prog w = .ok (.int .i64 2) w := fun _ => by kernel_rfl
  have i2 : ∀ w : World, (Instr.index 83 (.agg #[.int .i64 1, .int .i64 2, .int .i64 4, .int .i64 8]) (.int .i64 2)).run Tryd.prog w = .ok (.int .i64 4) w := fun _ => by kernel_rfl
  have i3 : ∀ w : World, (Instr.index 83 (.agg #[.int .i64 1, .int .i64 2, .int .i64 4, .int .i64 8]) (.int .i64 3)).run Tryd.prog w = .ok (.int .i64 8) w := fun _ => by kernel_rfl
  go_enter Tryd.func41, Tryd.ntmps41
  go_wp2_with (refine wpList_load_cells rfl 83 _ rfl 1 rfl _ _ ht Tryd.underlying83 rfl (by kernel_rfl) ?_)
  go_rounds 5
  all_goals go_ret
  all_goals refine ⟨ret_bool ?_, rfl⟩
  all_goals clear ht i0 i1 i2 i3
  all_goals go_light
  all_goals simp only [beq_iff_eq, beq_eq_false_iff_ne, ne_eq] at *
  all_goals simp only [goodB]
  all_goals (simp; omega)


theorem rgoodW_any (n : Int) (w : World) :
    Calls Tryd.prog 44 #[.int .i64 n] w fun e w' => e = .returned (.bool (goodB n)) ∧ w' = w := by
  go_enter Tryd.func44, Tryd.ntmps44
  go_wp2
  all_goals go_ret
  all_goals refine ⟨ret_bool ?_, rfl⟩
  all_goals first | (unfold goodB; simp; omega) | rfl


/-- The lowest bytes. -/
def cutI (v n : Int) : Int := if n = 1 then v % 256 else if n = 2 then v % 65536 else if n = 4 then v % 4294967296 else if n = 8 then v else 0

/-- They, with a sign. -/
def signedI (v n : Int) : Int := if n = 1 then (v + 128) % 256 - 128 else if n = 2 then (v + 32768) % 65536 - 32768 else if n = 4 then (v + 2147483648) % 4294967296 - 2147483648 else if n = 8 then (v + 9223372036854775808) % 18446744073709551616 - 9223372036854775808 else 0


theorem five (n : Int) : n = 1 ∨ n = 2 ∨ n = 4 ∨ n = 8 ∨ (¬ n = 1 ∧ ¬ n = 2 ∧ ¬ n = 4 ∧ ¬ n = 8) := by omega


def fitsB (n k : Int) : Bool := goodB k && (signedI (n % 18446744073709551616) k == n)


def farI (a b : Int) : Int := (b - a + 32768) % 65536 - 32768

def moveI (a n : Int) : Int := (a + n) % 65536

theorem far_wrap (a b : Int) : wrap64 (IntKind.i16.wrap (IntKind.u16.wrap (b - a))) = farI a b := by
  rw [wi16, IntKind.wrap_u16]; unfold wrap64 farI; omega

theorem move_wrap (a n : Int) : IntKind.u16.wrap (a + IntKind.u16.wrap n) = moveI a n := by
  rw [IntKind.wrap_u16, IntKind.wrap_u16]; unfold moveI; omega


def lessB (a b : Int) : Bool := decide (0 < farI a b)


/-- Same: the very same bytes. -/
theorem same_any (x y : Value) (xs ys : List UInt8) (w : World) (hx : Holds w x xs) (hy : Holds w y ys) :
    Calls Tryd.prog 13 #[x, y] w fun e w' => e = .returned (.bool (xs == ys)) ∧ w' = w := by
  have kx := run_string_of hx 34 9 5 Tryd.underlying34 Tryd.underlying5 Tryd.underlying9
  have ky := run_string_of hy 34 9 5 Tryd.underlying34 Tryd.underlying5 Tryd.underlying9
  go_enter Tryd.func13, Tryd.ntmps13
  go_wp2
  go_ret
  exact ⟨ret_bool rfl, rfl⟩

end Go.Proofs.YtopacoghnofliaaDoor
