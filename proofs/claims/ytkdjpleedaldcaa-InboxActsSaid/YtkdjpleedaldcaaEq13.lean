/-
  Acts and messages are COMPARED: what '==' answers of them.
-/
import Derived.Test.YtkdjpleedaldcaaInb21
import Derived.Laws.StructEq
namespace Go.Proofs.Ytkdjpleedaldcaa
open Go.RowKit


theorem eqf_cons {P : Program} {w : World} {d : Nat} {xs ys : Array Value} {f : Field} {fs : List Field} {a b : Value} {r s : Bool} (hn : f.name ≠ "_") (ha : (part f.type xs f.offset).run P w = .ok a w) (hb : (part f.type ys f.offset).run P w = .ok b w) (hr : (Op.equalIn d f.type a b).run P w = .ok r w) (hs : (Op.eqFields d xs ys fs).run P w = .ok s w) : (Op.eqFields d xs ys (f :: fs)).run P w = .ok (r && s) w := by
  unfold Op.eqFields
  rw [if_pos hn]
  simp only [Sem.run_bind, ha, hb, hr, Result.andThen_ok]
  cases r with
  | true => simp [hs]
  | false => simp

theorem eqf_nil {P : Program} {w : World} {d : Nat} {xs ys : Array Value} : (Op.eqFields d xs ys []).run P w = .ok true w := by
  simp [Op.eqFields]

theorem part_one {P : Program} {w : World} {t : TypeId} {xs : Array Value} {i : Nat} {v : Value} (h : (isAgg t).run P w = .ok false w) (hv : xs[i]? = some v) : (part t xs i).run P w = .ok v w := by
  unfold part
  simp [h, hv]

theorem part_agg {P : Program} {w : World} {t : TypeId} {xs : Array Value} {i n : Nat} (h : (isAgg t).run P w = .ok true w) (hz : (sizeOf t).run P w = .ok n w) : (part t xs i).run P w = .ok (.agg (xs.extract i (i + n))) w := by
  unfold part
  simp [h, hz]
section
variable (w : World)

theorem agg_int : (isAgg 3).run Try.prog w = .ok false w := by have := Try.isAgg3; simp [this]

theorem agg_u64 : (isAgg 29).run Try.prog w = .ok false w := by have := Try.isAgg29; simp [this]

theorem agg_str : (isAgg 9).run Try.prog w = .ok false w := by have := Try.isAgg9; simp [this]

theorem agg_bool : (isAgg 4).run Try.prog w = .ok false w := by have := Try.isAgg4; simp [this]

theorem agg_Id : (isAgg 31).run Try.prog w = .ok true w := by have := Try.isAgg31; simp [this]

theorem size_Id : (sizeOf 31).run Try.prog w = .ok 2 w := by have := Try.sizeOf31; simp [this]

theorem agg_Ms : (isAgg 33).run Try.prog w = .ok true w := by have := Try.isAgg33; simp [this]

theorem size_Ms : (sizeOf 33).run Try.prog w = .ok 6 w := by have := Try.sizeOf33; simp [this]
end

set_option maxRecDepth 20000 in
theorem eqId (d : Nat) (x0 y0 x1 y1 : Int) (w : World) : (Op.equalIn (d + 1+1) 31 (.agg #[.int .i64 x0, .int .u64 x1]) (.agg #[.int .i64 y0, .int .u64 y1])).run Try.prog w = .ok ((x0 == y0) && ((x1 == y1) && true)) w := by
  have hS : Try.prog.underlying 31 = some (.struct (Try.prog.fieldsOf 31)) := by kernel_rfl
  have hp : Try.prog.stoodInHeld 31 = false := by kernel_rfl
  rw [run_equalIn_agg w (d + 1) 31 _ _ hS hp]
  simp only [Program.fieldsOf, Try.underlying31]
  refine eqf_cons (by decide) (part_one (agg_int w) rfl) (part_one (agg_int w) rfl) (run_equalIn_int w _ _ _ _ _ _ Try.underlying3) ?_
  refine eqf_cons (by decide) (part_one (agg_u64 w) rfl) (part_one (agg_u64 w) rfl) (run_equalIn_int w _ _ _ _ _ _ Try.underlying29) ?_
  exact eqf_nil

set_option maxRecDepth 20000 in
theorem eqMs (d : Nat) (x0 y0 x1 y1 x2 y2 : Int) (x3 y3 x4 y4 x5 y5 : ByteArray) (w : World) : (Op.equalIn (d + 2+1) 33 (.agg #[.int .i64 x0, .int .u64 x1, .int .i64 x2, .string x3, .string x4, .string x5]) (.agg #[.int .i64 y0, .int .u64 y1, .int .i64 y2, .string y3, .string y4, .string y5])).run Try.prog w = .ok (((x0 == y0) && ((x1 == y1) && true)) && ((x2 == y2) && ((x3.toList == y3.toList) && ((x4.toList == y4.toList) && ((x5.toList == y5.toList) && true))))) w := by
  have hS : Try.prog.underlying 33 = some (.struct (Try.prog.fieldsOf 33)) := by kernel_rfl
  have hp : Try.prog.stoodInHeld 33 = false := by kernel_rfl
  rw [run_equalIn_agg w (d + 2) 33 _ _ hS hp]
  simp only [Program.fieldsOf, Try.underlying33]
  refine eqf_cons (by decide) (part_agg (agg_Id w) (size_Id w)) (part_agg (agg_Id w) (size_Id w)) (eqId (d + 0) x0 y0 x1 y1 w) ?_
  refine eqf_cons (by decide) (part_one (agg_int w) rfl) (part_one (agg_int w) rfl) (run_equalIn_int w _ _ _ _ _ _ Try.underlying3) ?_
  refine eqf_cons (by decide) (part_one (agg_str w) rfl) (part_one (agg_str w) rfl) (run_equalIn_string w _ _ _ _ Try.underlying9) ?_
  refine eqf_cons (by decide) (part_one (agg_str w) rfl) (part_one (agg_str w) rfl) (run_equalIn_string w _ _ _ _ Try.underlying9) ?_
  refine eqf_cons (by decide) (part_one (agg_str w) rfl) (part_one (agg_str w) rfl) (run_equalIn_string w _ _ _ _ Try.underlying9) ?_
  exact eqf_nil

theorem toList_beq (a b : ByteArray) : (a.toList == b.toList) = decide (a = b) := by
  by_cases h : a = b
  · subst h
    simp
  · rw [decide_eq_false h, beq_eq_false_iff_ne]
    intro e
    rw [ByteArray.toList_eq, ByteArray.toList_eq] at e
    obtain ⟨⟨x⟩⟩ := a
    obtain ⟨⟨y⟩⟩ := b
    exact h (by rw [show x = y from e])

theorem int_beq (a b : Int) : (a == b) = decide (a = b) := by
  by_cases h : a = b <;> simp [h]

theorem bool_beq (a b : Bool) : (a == b) = decide (a = b) := by
  cases a <;> cases b <;> rfl

theorem run_eqM (m n : Ms) (w : World) : (binOp .eql 33 (mv m) (mv n)).run Try.prog w = .ok (.bool (decide (m = n))) w := by
  rw [run_eql_struct, eqMs 9997]
  simp only [Result.andThen_ok, toList_beq, int_beq]
  congr 2
  rw [Bool.eq_iff_iff]
  simp only [Bool.and_eq_true, decide_eq_true_eq]
  constructor
  · rintro ⟨⟨h1, h2, _⟩, h3, h4, h5, h6, _⟩
    cases m; cases n; simp_all
  · rintro rfl
    exact ⟨⟨rfl, rfl, trivial⟩, rfl, rfl, rfl, rfl, trivial⟩

theorem run_neM (m n : Ms) (w : World) : (binOp .neq 33 (mv m) (mv n)).run Try.prog w = .ok (.bool (!decide (m = n))) w := by
  have h := run_eqM m n w
  rw [run_eql_struct] at h
  rw [run_neq_struct]
  revert h
  generalize (Op.equalIn 10000 33 (mv m) (mv n)).run Try.prog w = r
  intro h
  cases r with
  | ok b w' =>
    simp only [Result.andThen_ok] at h ⊢
    injection h with h1 h2
    injection h1 with h1
    rw [h1, h2]
  | _ => simp [Result.andThen] at h

theorem eqGuardM : Try.prog.eqGuardType Try.prog.depth 33 = false := by kernel_rfl

end Go.Proofs.Ytkdjpleedaldcaa
