/-
  THE WALKS of package word and of the small functions of the document's answer.
-/
import Derived.Test.YtkdjpleedaldcaaProg
import Derived.Test.YtkdjpleedaldcaaRow
import Derived.WalkMore
import Derived.Lib.LaidTab
import Derived.Deep.Light
namespace Go.Proofs.Ytkdjpleedaldcaa
open Go.RowKit


/-- A whole array read out of its variable, told by its cells. -/
theorem run_load_cells {P : Program} (w : World) (g : Nat) (ty : TypeId) (cs : List Value) (d : TypeDesc) (hc : ∀ j u, cs[j]? = some u → w.cell? ⟨g, j, none⟩ = some u)
    (hu : P.underlying ty = some d) (hd : (match d with | .struct _ | .array _ _ => true | _ => false) = true) (hi : (P.info? ty).map (·.size) = some cs.length) :
    (loadVar ty ⟨g, 0, none⟩).run P w = .ok (.agg cs.toArray) w := by
  have hl : (loadCells ⟨g, 0, none⟩ cs.length).run P w = .ok cs.toArray w :=
    run_loadCells_list (P := P) w ⟨g, 0, none⟩ cs (fun j v hv => by
      have hadd : (⟨g, 0, none⟩ : Addr).add j = ⟨g, j, none⟩ := by unfold Addr.add; split <;> simp_all
      rw [hadd]
      exact hc j v hv)
  cases hq : P.info? ty with
  | none => simp [hq] at hi
  | some i =>
    have hs : i.size = cs.length := by simpa [hq] using hi
    have hagg : (isAgg ty).run P w = .ok true w := by
      unfold isAgg
      rw [Sem.run_bind, run_underlying hu w]
      cases d <;> simp_all
    simp [loadVar, Sem.run_bind, hagg, sizeOf, typeInfo, hq, hs, hl]


theorem wpList_load_cells {P : Program} {ops : Array Oper} {rest : List Oper} {o : Oper} {a : Act} {w : World} {Q : Exit → Act → World → Prop} (hgd : o.guard = none) (ty : TypeId) (x : Operand) (ho : o.op = .load ty x)
    (g : Nat) (hx : a.eval x = .pointer (some ⟨g, 0, none⟩)) (cs : List Value) (d : TypeDesc) (hc : ∀ j u, cs[j]? = some u → w.cell? ⟨g, j, none⟩ = some u)
    (hu : P.underlying ty = some d) (hd : (match d with | .struct _ | .array _ _ => true | _ => false) = true) (hi : (P.info? ty).map (·.size) = some cs.length)
    (h : wpList P ops Q rest (a.put o.dst (.agg cs.toArray)) w) : wpList P ops Q (o :: rest) a w :=
  wpList_plain hgd fun _ hK => by
    unfold Oper.wp execOp
    simp only [ho, hx, Instr.loadAt, Instr.sureAddr, Sem.run_bind, Sem.run_pure, Result.andThen_ok, run_load_cells w g ty cs d hc hu hd hi]
    exact hK _ _ h




theorem wi8 (n : Int) : IntKind.i8.wrap n = (n + 128) % 256 - 128 := by
  simp only [IntKind.wrap, IntKind.bits, IntKind.signed, Bool.true_and, ge_iff_le, decide_eq_true_eq]
  simp
  split <;> omega

theorem wi16 (n : Int) : IntKind.i16.wrap n = (n + 32768) % 65536 - 32768 := by
  simp only [IntKind.wrap, IntKind.bits, IntKind.signed, Bool.true_and, ge_iff_le, decide_eq_true_eq]
  simp
  split <;> omega


def goodB (n : Int) : Bool := n == 1 || n == 2 || n == 4 || n == 8


/-- The lowest bytes. -/
def cutI (v n : Int) : Int := if n = 1 then v % 256 else if n = 2 then v % 65536 else if n = 4 then v % 4294967296 else if n = 8 then v else 0

/-- They, with a sign. -/
def signedI (v n : Int) : Int := if n = 1 then (v + 128) % 256 - 128 else if n = 2 then (v + 32768) % 65536 - 32768 else if n = 4 then (v + 2147483648) % 4294967296 - 2147483648 else if n = 8 then (v + 9223372036854775808) % 18446744073709551616 - 9223372036854775808 else 0


theorem five (n : Int) : n = 1 ∨ n = 2 ∨ n = 4 ∨ n = 8 ∨ (¬ n = 1 ∧ ¬ n = 2 ∧ ¬ n = 4 ∧ ¬ n = 8) := by omega


def fitsB (n k : Int) : Bool := goodB k && (signedI (n % 18446744073709551616) k == n)


def farI (a b : Int) : Int := (b - a + 32768) % 65536 - 32768

def moveI (a n : Int) : Int := (a + n) % 65536

theorem far_wrap (a b : Int) : wrap64 (IntKind.i16.wrap (IntKind.u16.wrap (b - a))) = farI a b := by
  rw [wi16, IntKind.wrap_u16]; unfold wrap64 farI; omega

theorem move_wrap (a n : Int) : IntKind.u16.wrap (a + IntKind.u16.wrap n) = moveI a n := by
  rw [IntKind.wrap_u16, IntKind.wrap_u16]; unfold moveI; omega


theorem far_any (a b : Int) (w : World) :
    Calls Try.prog 34 #[.int .u16 a, .int .u16 b] w fun e w' => e = .returned (.int .i64 (farI a b)) ∧ w' = w := by
  go_enter Try.func34, Try.ntmps34
  go_wp2
  go_ret
  exact ⟨ret_int (far_wrap a b), rfl⟩


theorem rfar_any (a b : Int) (w : World) :
    Calls Try.prog 29 #[.int .u16 a, .int .u16 b] w fun e w' => e = .returned (.int .i64 (farI a b)) ∧ w' = w := by
  go_enter Try.func29, Try.ntmps29
  go_wp2
  go_ret
  exact ⟨ret_int (far_wrap a b), rfl⟩


def lessB (a b : Int) : Bool := decide (0 < farI a b)


theorem move_any (a n : Int) (w : World) :
    Calls Try.prog 30 #[.int .u16 a, .int .i64 n] w fun e w' => e = .returned (.int .u16 (moveI a n)) ∧ w' = w := by
  go_enter Try.func30, Try.ntmps30
  go_wp2
  go_ret
  exact ⟨ret_int (move_wrap a n), rfl⟩

end Go.Proofs.Ytkdjpleedaldcaa
