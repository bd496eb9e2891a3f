/-
  WHAT THE LAWS StoreKeeps AND StoreTurns SAY OF A STORE, told plainly. Of no program.
-/
import Derived.Test.YtaoecclacldbcaaLives
namespace Go.Proofs.Ytaoecclacldbcaa
open Go.RowKit

theorem make_go {m : M} {n : ByteArray} (h1 : m.first n false = 0) (h2 : findE m.dir n = none) (h3 : ¬ m.room - m.need < 16) : m.make n = m.step (M.add n) := by
  unfold M.make
  rw [h1, h2]
  simp [h3]
theorem write_go {m : M} {n : ByteArray} {b : List UInt8} (h1 : m.first n true = 0) (h3 : ¬ m.room - m.need < b.length) : m.write n b = m.step (M.setF (m.place n) { m.fl (m.place n) with now := (m.fl (m.place n)).now ++ b }) := by
  unfold M.write
  rw [h1]
  simp [h3]
/-- A store with one file, committed. -/
def mOne (x : Fl) (c : Nat) (l k : Int) : M := ⟨100000, [x], [⟨tA, 0⟩], [⟨tA, 0⟩], false, c, l, k⟩
theorem mOne_need (x : Fl) (c : Nat) (l k : Int) : (mOne x c l k).need = 16 + x.now.length := by simp [mOne, M.need, M.needL, M.fl]
def k1 : M := ((M.new 100000).make tA).2
theorem kr1 : ((M.new 100000).make tA).1 = 0 := by kernel_rfl
theorem k1_eq : k1 = ⟨100000, [⟨[], []⟩], [⟨tA, 0⟩], [], false, 1, 0, 0⟩ := by kernel_rfl
theorem kw (l : List UInt8) (hl : l.length ≤ 5000) : k1.write tA l = (0, ⟨100000, [⟨l, []⟩], [⟨tA, 0⟩], [], false, 2, 0, 0⟩) := by
  rw [write_go (by kernel_rfl) (by rw [show k1.need = 16 by kernel_rfl, show k1.room = 100000 by kernel_rfl]; omega)]
  rfl
theorem ks (l : List UInt8) : (⟨100000, [⟨l, []⟩], [⟨tA, 0⟩], [], false, 2, 0, 0⟩ : M).sync tA = (0, ⟨100000, [⟨l, l⟩], [⟨tA, 0⟩], [], false, 3, 0, 0⟩) := rfl
theorem kc (l : List UInt8) : (⟨100000, [⟨l, l⟩], [⟨tA, 0⟩], [], false, 3, 0, 0⟩ : M).commit = (0, mOne ⟨l, l⟩ 4 0 0) := rfl
theorem ok_new : (M.new 100000).Ok := M.new_ok (by decide) (by decide)

/-- StoreKeeps. -/
theorem kw2 (l b : List UInt8) (h : l.length + b.length ≤ 5000) : (mOne ⟨l, l⟩ 4 0 0).write tA b = (0, mOne ⟨l ++ b, l⟩ 5 0 0) := by
  rw [write_go rfl (by rw [mOne_need]; show ¬ (100000 : Int) - _ < _; simp; omega)]
  rfl
def mTwo (x : Fl) (c : Nat) : M := ⟨100000, [x, ⟨[], []⟩], [⟨tA, 0⟩, ⟨tB, 1⟩], [⟨tA, 0⟩], false, c, 0, 0⟩
theorem km2 (x : Fl) (h : x.now.length ≤ 5000) : (mOne x 5 0 0).make tB = (0, mTwo x 6) := by
  rw [make_go rfl rfl (by rw [mOne_need]; show ¬ (100000 : Int) - _ < _; simp; omega)]
  rfl
theorem ks2 (x : Fl) : (mTwo x 6).sync tB = (0, mTwo x 7) := rfl
theorem kr2 (x : Fl) (k : Int) : (((mTwo x 7).fail k).power).read tA = (leftF k x, 0) := rfl
theorem kn2 (x : Fl) (k : Int) : (((mTwo x 7).fail k).power).names = [tA] := rfl
theorem left_behind (l b : List UInt8) (k : Int) : leftF k ⟨l ++ b, l⟩ = l ++ b.take (min k.toNat b.length) := by
  unfold leftF
  have hp : l.isPrefixOf (l ++ b) = true := List.isPrefixOf_iff_prefix.2 (List.prefix_append _ _)
  simp only [hp, if_true]
  have : (l ++ b).length - l.length = b.length := by simp
  rw [this, List.take_append]
  simp
  exact List.take_of_length_le (by omega)
end Go.Proofs.Ytaoecclacldbcaa
