/-
  Acts and messages are COMPARED: what '==' answers of them.
-/
import Derived.Test.YteimdolckhpndaaDoorModel13
import Derived.Laws.StructEq
namespace Go.Proofs.YteimdolckhpndaaDoor
open Go.RowKit

theorem eqf_cons {P : Program} {w : World} {d : Nat} {xs ys : Array Value} {f : Field} {fs : List Field} {a b : Value} {r s : Bool} (hn : f.name ≠ "_") (ha : (part f.type xs f.offset).run P w = .ok a w) (hb : (part f.type ys f.offset).run P w = .ok b w) (hr : (Op.equalIn d f.type a b).run P w = .ok r w) (hs : (Op.eqFields d xs ys fs).run P w = .ok s w) : (Op.eqFields d xs ys (f :: fs)).run P w = .ok (r && s) w := by
  unfold Op.eqFields
  rw [if_pos hn]
  simp only [Sem.run_bind, ha, hb, hr, Result.andThen_ok]
  cases r with
  | true => simp [hs]
  | false => simp
theorem eqf_nil {P : Program} {w : World} {d : Nat} {xs ys : Array Value} : (Op.eqFields d xs ys []).run P w = .ok true w := by
  simp [Op.eqFields]
theorem part_one {P : Program} {w : World} {t : TypeId} {xs : Array Value} {i : Nat} {v : Value} (h : (isAgg t).run P w = .ok false w) (hv : xs[i]? = some v) : (part t xs i).run P w = .ok v w := by
  unfold part
  simp [h, hv]
theorem part_agg {P : Program} {w : World} {t : TypeId} {xs : Array Value} {i n : Nat} (h : (isAgg t).run P w = .ok true w) (hz : (sizeOf t).run P w = .ok n w) : (part t xs i).run P w = .ok (.agg (xs.extract i (i + n))) w := by
  unfold part
  simp [h, hz]
section
variable (w : World)
theorem agg_int : (isAgg 3).run Tryd.prog w = .ok false w := by have := Tryd.isAgg3; simp [this]
theorem agg_u64 : (isAgg 22).run Tryd.prog w = .ok false w := by have := Tryd.isAgg22; simp [this]
theorem agg_str : (isAgg 9).run Tryd.prog w = .ok false w := by have := Tryd.isAgg9; simp [this]
theorem agg_bool : (isAgg 4).run Tryd.prog w = .ok false w := by have := Tryd.isAgg4; simp [this]
theorem agg_Id : (isAgg 28).run Tryd.prog w = .ok true w := by have := Tryd.isAgg28; simp [this]
theorem size_Id : (sizeOf 28).run Tryd.prog w = .ok 2 w := by have := Tryd.sizeOf28; simp [this]
theorem agg_Ex : (isAgg 24).run Tryd.prog w = .ok true w := by have := Tryd.isAgg24; simp [this]
theorem size_Ex : (sizeOf 24).run Tryd.prog w = .ok 3 w := by have := Tryd.sizeOf24; simp [this]
theorem agg_Bd : (isAgg 26).run Tryd.prog w = .ok true w := by have := Tryd.isAgg26; simp [this]
theorem size_Bd : (sizeOf 26).run Tryd.prog w = .ok 3 w := by have := Tryd.sizeOf26; simp [this]
theorem agg_Ms : (isAgg 30).run Tryd.prog w = .ok true w := by have := Tryd.isAgg30; simp [this]
theorem size_Ms : (sizeOf 30).run Tryd.prog w = .ok 6 w := by have := Tryd.sizeOf30; simp [this]
end
set_option maxRecDepth 20000 in
theorem eqId (d : Nat) (x0 y0 x1 y1 : Int) (w : World) : (Op.equalIn (d + 1+1) 28 (.agg #[.int .i64 x0, .int .u64 x1]) (.agg #[.int .i64 y0, .int .u64 y1])).run Tryd.prog w = .ok ((x0 == y0) && ((x1 == y1) && true)) w := by
  have hS : Tryd.prog.underlying 28 = some (.struct (Tryd.prog.fieldsOf 28)) := by kernel_rfl
  have hp : Tryd.prog.stoodInHeld 28 = false := by kernel_rfl
  rw [run_equalIn_agg w (d + 1) 28 _ _ hS hp]
  simp only [Program.fieldsOf, Tryd.underlying28]
  refine eqf_cons (by decide) (part_one (agg_int w) rfl) (part_one (agg_int w) rfl) (run_equalIn_int w _ _ _ _ _ _ Tryd.underlying3) ?_
  refine eqf_cons (by decide) (part_one (agg_u64 w) rfl) (part_one (agg_u64 w) rfl) (run_equalIn_int w _ _ _ _ _ _ Tryd.underlying22) ?_
  exact eqf_nil
set_option maxRecDepth 20000 in
theorem eqEx (d : Nat) (x0 y0 : ByteArray) (x1 y1 : Int) (x2 y2 : Bool) (w : World) : (Op.equalIn (d + 1+1) 24 (.agg #[.string x0, .int .i64 x1, .bool x2]) (.agg #[.string y0, .int .i64 y1, .bool y2])).run Tryd.prog w = .ok ((x0.toList == y0.toList) && ((x1 == y1) && ((x2 == y2) && true))) w := by
  have hS : Tryd.prog.underlying 24 = some (.struct (Tryd.prog.fieldsOf 24)) := by kernel_rfl
  have hp : Tryd.prog.stoodInHeld 24 = false := by kernel_rfl
  rw [run_equalIn_agg w (d + 1) 24 _ _ hS hp]
  simp only [Program.fieldsOf, Tryd.underlying24]
  refine eqf_cons (by decide) (part_one (agg_str w) rfl) (part_one (agg_str w) rfl) (run_equalIn_string w _ _ _ _ Tryd.underlying9) ?_
  refine eqf_cons (by decide) (part_one (agg_int w) rfl) (part_one (agg_int w) rfl) (run_equalIn_int w _ _ _ _ _ _ Tryd.underlying3) ?_
  refine eqf_cons (by decide) (part_one (agg_bool w) rfl) (part_one (agg_bool w) rfl) (run_equalIn_bool' w _ _ _ _ Tryd.underlying4) ?_
  exact eqf_nil
set_option maxRecDepth 20000 in
theorem eqBd (d : Nat) (x0 y0 x1 y1 x2 y2 : ByteArray) (w : World) : (Op.equalIn (d + 1+1) 26 (.agg #[.string x0, .string x1, .string x2]) (.agg #[.string y0, .string y1, .string y2])).run Tryd.prog w = .ok ((x0.toList == y0.toList) && ((x1.toList == y1.toList) && ((x2.toList == y2.toList) && true))) w := by
  have hS : Tryd.prog.underlying 26 = some (.struct (Tryd.prog.fieldsOf 26)) := by kernel_rfl
  have hp : Tryd.prog.stoodInHeld 26 = false := by kernel_rfl
  rw [run_equalIn_agg w (d + 1) 26 _ _ hS hp]
  simp only [Program.fieldsOf, Tryd.underlying26]
  refine eqf_cons (by decide) (part_one (agg_str w) rfl) (part_one (agg_str w) rfl) (run_equalIn_string w _ _ _ _ Tryd.underlying9) ?_
  refine eqf_cons (by decide) (part_one (agg_str w) rfl) (part_one (agg_str w) rfl) (run_equalIn_string w _ _ _ _ Tryd.underlying9) ?_
  refine eqf_cons (by decide) (part_one (agg_str w) rfl) (part_one (agg_str w) rfl) (run_equalIn_string w _ _ _ _ Tryd.underlying9) ?_
  exact eqf_nil
set_option maxRecDepth 20000 in
theorem eqMs (d : Nat) (x0 y0 x1 y1 x2 y2 : Int) (x3 y3 x4 y4 x5 y5 : ByteArray) (w : World) : (Op.equalIn (d + 2+1) 30 (.agg #[.int .i64 x0, .int .u64 x1, .int .i64 x2, .string x3, .string x4, .string x5]) (.agg #[.int .i64 y0, .int .u64 y1, .int .i64 y2, .string y3, .string y4, .string y5])).run Tryd.prog w = .ok (((x0 == y0) && ((x1 == y1) && true)) && ((x2 == y2) && ((x3.toList == y3.toList) && ((x4.toList == y4.toList) && ((x5.toList == y5.toList) && true))))) w := by
  have hS : Tryd.prog.underlying 30 = some (.struct (Tryd.prog.fieldsOf 30)) := by kernel_rfl
  have hp : Tryd.prog.stoodInHeld 30 = false := by kernel_rfl
  rw [run_equalIn_agg w (d + 2) 30 _ _ hS hp]
  simp only [Program.fieldsOf, Tryd.underlying30]
  refine eqf_cons (by decide) (part_agg (agg_Id w) (size_Id w)) (part_agg (agg_Id w) (size_Id w)) (eqId (d + 0) x0 y0 x1 y1 w) ?_
  refine eqf_cons (by decide) (part_one (agg_int w) rfl) (part_one (agg_int w) rfl) (run_equalIn_int w _ _ _ _ _ _ Tryd.underlying3) ?_
  refine eqf_cons (by decide) (part_one (agg_str w) rfl) (part_one (agg_str w) rfl) (run_equalIn_string w _ _ _ _ Tryd.underlying9) ?_
  refine eqf_cons (by decide) (part_one (agg_str w) rfl) (part_one (agg_str w) rfl) (run_equalIn_string w _ _ _ _ Tryd.underlying9) ?_
  refine eqf_cons (by decide) (part_one (agg_str w) rfl) (part_one (agg_str w) rfl) (run_equalIn_string w _ _ _ _ Tryd.underlying9) ?_
  exact eqf_nil
set_option maxRecDepth 20000 in
theorem eqAx (d : Nat) (x0 y0 x2 y2 x3 y3 x4 y4 x6 y6 x11 y11 x12 y12 x13 y13 : Int) (x1 y1 x5 y5 x8 y8 x9 y9 x10 y10 x14 y14 x15 y15 x16 y16 : ByteArray) (x7 y7 : Bool) (w : World) : (Op.equalIn (d + 3+1) 32 (.agg #[.int .i64 x0, .string x1, .int .i64 x2, .int .u64 x3, .int .i64 x4, .string x5, .int .i64 x6, .bool x7, .string x8, .string x9, .string x10, .int .i64 x11, .int .u64 x12, .int .i64 x13, .string x14, .string x15, .string x16]) (.agg #[.int .i64 y0, .string y1, .int .i64 y2, .int .u64 y3, .int .i64 y4, .string y5, .int .i64 y6, .bool y7, .string y8, .string y9, .string y10, .int .i64 y11, .int .u64 y12, .int .i64 y13, .string y14, .string y15, .string y16])).run Tryd.prog w = .ok ((x0 == y0) && ((x1.toList == y1.toList) && ((x2 == y2) && ((x3 == y3) && ((x4 == y4) && (((x5.toList == y5.toList) && ((x6 == y6) && ((x7 == y7) && true))) && (((x8.toList == y8.toList) && ((x9.toList == y9.toList) && ((x10.toList == y10.toList) && true))) && ((((x11 == y11) && ((x12 == y12) && true)) && ((x13 == y13) && ((x14.toList == y14.toList) && ((x15.toList == y15.toList) && ((x16.toList == y16.toList) && true))))) && true)))))))) w := by
  have hS : Tryd.prog.underlying 32 = some (.struct (Tryd.prog.fieldsOf 32)) := by kernel_rfl
  have hp : Tryd.prog.stoodInHeld 32 = false := by kernel_rfl
  rw [run_equalIn_agg w (d + 3) 32 _ _ hS hp]
  simp only [Program.fieldsOf, Tryd.underlying32]
  refine eqf_cons (by decide) (part_one (agg_int w) rfl) (part_one (agg_int w) rfl) (run_equalIn_int w _ _ _ _ _ _ Tryd.underlying3) ?_
  refine eqf_cons (by decide) (part_one (agg_str w) rfl) (part_one (agg_str w) rfl) (run_equalIn_string w _ _ _ _ Tryd.underlying9) ?_
  refine eqf_cons (by decide) (part_one (agg_int w) rfl) (part_one (agg_int w) rfl) (run_equalIn_int w _ _ _ _ _ _ Tryd.underlying3) ?_
  refine eqf_cons (by decide) (part_one (agg_u64 w) rfl) (part_one (agg_u64 w) rfl) (run_equalIn_int w _ _ _ _ _ _ Tryd.underlying22) ?_
  refine eqf_cons (by decide) (part_one (agg_int w) rfl) (part_one (agg_int w) rfl) (run_equalIn_int w _ _ _ _ _ _ Tryd.underlying3) ?_
  refine eqf_cons (by decide) (part_agg (agg_Ex w) (size_Ex w)) (part_agg (agg_Ex w) (size_Ex w)) (eqEx (d + 1) x5 y5 x6 y6 x7 y7 w) ?_
  refine eqf_cons (by decide) (part_agg (agg_Bd w) (size_Bd w)) (part_agg (agg_Bd w) (size_Bd w)) (eqBd (d + 1) x8 y8 x9 y9 x10 y10 w) ?_
  refine eqf_cons (by decide) (part_agg (agg_Ms w) (size_Ms w)) (part_agg (agg_Ms w) (size_Ms w)) (eqMs (d + 0) x11 y11 x12 y12 x13 y13 x14 y14 x15 y15 x16 y16 w) ?_
  exact eqf_nil
theorem toList_beq (a b : ByteArray) : (a.toList == b.toList) = decide (a = b) := by
  by_cases h : a = b
  · subst h
    simp
  · rw [decide_eq_false h, beq_eq_false_iff_ne]
    intro e
    rw [ByteArray.toList_eq, ByteArray.toList_eq] at e
    obtain ⟨⟨x⟩⟩ := a
    obtain ⟨⟨y⟩⟩ := b
    exact h (by rw [show x = y from e])
theorem int_beq (a b : Int) : (a == b) = decide (a = b) := by
  by_cases h : a = b <;> simp [h]
theorem bool_beq (a b : Bool) : (a == b) = decide (a = b) := by
  cases a <;> cases b <;> rfl
theorem run_eqM (m n : Ms) (w : World) : (binOp .eql 30 (mv m) (mv n)).run Tryd.prog w = .ok (.bool (decide (m = n))) w := by
  rw [run_eql_struct, eqMs 9997]
  simp only [Result.andThen_ok, toList_beq, int_beq]
  congr 2
  rw [Bool.eq_iff_iff]
  simp only [Bool.and_eq_true, decide_eq_true_eq]
  constructor
  · rintro ⟨⟨h1, h2, _⟩, h3, h4, h5, h6, _⟩
    cases m; cases n; simp_all
  · rintro rfl
    exact ⟨⟨rfl, rfl, trivial⟩, rfl, rfl, rfl, rfl, trivial⟩
theorem run_neM (m n : Ms) (w : World) : (binOp .neq 30 (mv m) (mv n)).run Tryd.prog w = .ok (.bool (!decide (m = n))) w := by
  have h := run_eqM m n w
  rw [run_eql_struct] at h
  rw [run_neq_struct]
  revert h
  generalize (Op.equalIn 10000 30 (mv m) (mv n)).run Tryd.prog w = r
  intro h
  cases r with
  | ok b w' =>
    simp only [Result.andThen_ok] at h ⊢
    injection h with h1 h2
    injection h1 with h1
    rw [h1, h2]
  | _ => simp [Result.andThen] at h
theorem run_eqA (a b : Ax) (w : World) : (binOp .eql 32 (av a) (av b)).run Tryd.prog w = .ok (.bool (decide (a = b))) w := by
  rw [run_eql_struct, eqAx 9996]
  simp only [Result.andThen_ok, toList_beq, int_beq, bool_beq]
  congr 2
  rw [Bool.eq_iff_iff]
  simp only [Bool.and_eq_true, decide_eq_true_eq]
  constructor
  · rintro ⟨h0, h1, h2, h3, h4, ⟨h5, h6, h7, _⟩, ⟨h8, h9, h10, _⟩, ⟨⟨⟨h11, h12, _⟩, h13, h14, h15, h16, _⟩, _⟩⟩
    obtain ⟨k, nm, n, tg, to, xn, xk, xf, be, bq, bp, m⟩ := a
    obtain ⟨k', nm', n', tg', to', xn', xk', xf', be', bq', bp', m'⟩ := b
    obtain ⟨o, s, hp, e, ky, bo⟩ := m
    obtain ⟨o', s', hp', e', ky', bo'⟩ := m'
    dsimp only at *
    subst_vars
    rfl
  · rintro rfl
    exact ⟨rfl, rfl, rfl, rfl, rfl, ⟨rfl, rfl, rfl, trivial⟩, ⟨rfl, rfl, rfl, trivial⟩, ⟨⟨⟨rfl, rfl, trivial⟩, rfl, rfl, rfl, rfl, trivial⟩, trivial⟩⟩
theorem run_neA (a b : Ax) (w : World) : (binOp .neq 32 (av a) (av b)).run Tryd.prog w = .ok (.bool (!decide (a = b))) w := by
  have h := run_eqA a b w
  rw [run_eql_struct] at h
  rw [run_neq_struct]
  revert h
  generalize (Op.equalIn 10000 32 (av a) (av b)).run Tryd.prog w = r
  intro h
  cases r with
  | ok b w' =>
    simp only [Result.andThen_ok] at h ⊢
    injection h with h1 h2
    injection h1 with h1
    rw [h1, h2]
  | _ => simp [Result.andThen] at h
theorem eqGuardM : Tryd.prog.eqGuardType Tryd.prog.depth 30 = false := by kernel_rfl
theorem eqGuardA : Tryd.prog.eqGuardType Tryd.prog.depth 32 = false := by kernel_rfl
end Go.Proofs.YteimdolckhpndaaDoor
