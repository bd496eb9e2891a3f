/-
  THE WALK of the document's Words.
-/
import Derived.Test.YtggpgelnhjgcmaaDoorWords
import Derived.Laws.DeepStrings4
import Derived.Laws.Concat
namespace Go.Proofs.YtggpgelnhjgcmaaDoor
open Go.RowKit Go.Shelf

theorem strs_append (a b : List Txt) : strs (a ++ b) = strs a ++ strs b := by simp [strs]
theorem strs_length (a : List Txt) : (strs a).length = a.length := by simp [strs]

/-- 's[i:j]'. -/
theorem run_sub {P : Program} (W : World) (t : TypeId) (h : P.underlying t = some .string) (s : ByteArray) (i j : Nat) (hij : i ≤ j) (hj : j ≤ s.size) (i' j' : Int) (hi' : i' = i) (hj' : j' = j) :
    (Instr.slice t (.string s) (some (.int .i64 i')) (some (.int .i64 j')) none).run P W = .ok (.string (s.extract i j)) W := by
  subst hi' hj'
  rw [run_slice_string_if W t s .i64 .i64 i j h, if_pos (by omega), if_pos (by omega)]
  simp
/-- 'a + b'. -/
theorem run_plus {P : Program} (W : World) (a b : ByteArray) (ha : a.size ≤ 8388608) (hb : b.size ≤ 8388608) :
    (Op.stringOp .add a b).run P W = .ok (.string (str (txt a ++ txt b))) W := by
  rw [run_string_add W a b (by omega) (by omega)]
  congr 2

end Go.Proofs.YtggpgelnhjgcmaaDoor
