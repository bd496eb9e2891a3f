/-
  THE WALK of Whole.
-/
import Derived.Test.YtopacoghnofliaaDoorGather
import Derived.WalkMore
namespace Go.Proofs.YtopacoghnofliaaDoor
open Go.RowKit


theorem errO_zero (bs : List UInt8) (h : errO bs = 0) : cntO bs + 8 ≤ bs.length ∧ cntO bs ≤ 1048576 ∧ bornO bs = crc (bs.take (4 + cntO bs)) := by
  unfold errO at h
  split at h
  · cases h
  · split at h
    · cases h
    · split at h
      · cases h
      · split at h
        · exact ⟨by omega, by omega, by assumption⟩
        · cases h

/-- All contents that bytes begin with. -/
def wholeC (bs : List UInt8) : List (List UInt8) := if _h : errO bs = 0 then contO bs :: wholeC (bs.drop (sizeO bs)) else []
termination_by bs.length
decreasing_by
  have h1 := errO_zero bs _h
  have h2 := (openO_good bs _h).2
  simp
  omega

/-- How many bytes they are. -/
def wholeS (bs : List UInt8) : Nat := if _h : errO bs = 0 then sizeO bs + wholeS (bs.drop (sizeO bs)) else 0
termination_by bs.length
decreasing_by
  have h1 := errO_zero bs _h
  have h2 := (openO_good bs _h).2
  simp
  omega

theorem wholeC_ok (bs : List UInt8) (h : errO bs = 0) : wholeC bs = contO bs :: wholeC (bs.drop (sizeO bs)) := by rw [wholeC, dif_pos h]

theorem wholeC_end (bs : List UInt8) (h : errO bs ≠ 0) : wholeC bs = [] := by rw [wholeC, dif_neg h]

theorem wholeS_ok (bs : List UInt8) (h : errO bs = 0) : wholeS bs = sizeO bs + wholeS (bs.drop (sizeO bs)) := by rw [wholeS, dif_pos h]

theorem wholeS_end (bs : List UInt8) (h : errO bs ≠ 0) : wholeS bs = 0 := by rw [wholeS, dif_neg h]


/-- So far: n bytes gone over, these contents. -/
structure SoFar (bs : List UInt8) (n : Nat) (ls : List (List UInt8)) : Prop where
  c : wholeC bs = ls ++ wholeC (bs.drop n)
  s : wholeS bs = n + wholeS (bs.drop n)
  le : n ≤ bs.length
  few : ls.length ≤ n

theorem soFar_start (bs : List UInt8) : SoFar bs 0 [] := ⟨by simp, by simp, by omega, by simp⟩

theorem SoFar.step {bs : List UInt8} {n : Nat} {ls : List (List UInt8)} (h : SoFar bs n ls) (he : errO (bs.drop n) = 0) : SoFar bs (n + sizeO (bs.drop n)) (ls ++ [contO (bs.drop n)]) := by
  have h1 := errO_zero _ he
  have h2 := (openO_good _ he).2
  have hl : (bs.drop n).length = bs.length - n := by simp
  have h0 := h.le
  refine ⟨?_, ?_, by omega, by simp; have := h.few; omega⟩
  · rw [h.c, wholeC_ok _ he, List.drop_drop]; simp
  · rw [h.s, wholeS_ok _ he, List.drop_drop]; omega

theorem SoFar.ends {bs : List UInt8} {n : Nat} {ls : List (List UInt8)} (h : SoFar bs n ls) (he : errO (bs.drop n) ≠ 0) : wholeC bs = ls ∧ wholeS bs = n :=
  ⟨by rw [h.c, wholeC_end _ he]; simp, by rw [h.s, wholeS_end _ he]; simp⟩

theorem SoFar.more {bs : List UInt8} {n : Nat} {ls : List (List UInt8)} (h : SoFar bs n ls) (he : errO (bs.drop n) = 0) : 8 ≤ sizeO (bs.drop n) ∧ n + sizeO (bs.drop n) ≤ bs.length := by
  have h1 := errO_zero _ he
  have h2 := (openO_good _ he).2
  have hl : (bs.drop n).length = bs.length - n := by simp
  have h0 := h.le
  omega


/-- How Whole ends. -/
def Wholed (w : World) (bs : List UInt8) (e : Ending) (w' : World) : Prop :=
  ∃ v cs, e = .returned (.tuple #[v, .int .i64 (wholeS bs)]) ∧ Row w' v cs ∧ OwnsAll w' w.heap.size cs (wholeC bs) ∧ Below w.heap.size w w'


def meas (len B : Nat) (wr : World) : Nat := len - (intOf ((wr.cell? ⟨B + 1, 0, none⟩).getD undef)).toNat


theorem OwnsAll.mono {w : World} {b b' : Nat} {cs : List Value} {ls : List (List UInt8)} (h : OwnsAll w b cs ls) (hb : b' ≤ b) : OwnsAll w b' cs ls := ⟨h.1, fun j v l hv hl => (h.2 j v l hv hl).mono hb⟩


theorem errO_nil : errO [] = 8 := errO_short [] (by simp)

end Go.Proofs.YtopacoghnofliaaDoor
