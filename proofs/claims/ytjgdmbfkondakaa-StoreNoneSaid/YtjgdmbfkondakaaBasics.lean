/-
  made, check, find, fits, need, On, Count, by their contracts.
-/
import Derived.Test.YtjgdmbfkondakaaNames
import Derived.BigQuiet
import Derived.Deep.QuietTactic
namespace Go.Proofs.Ytjgdmbfkondakaa
open Go.RowKit Go.Maps

/-- The cells that hold these texts. -/
def scells (l : List ByteArray) : List Value := l.map Value.string
theorem scells_length (l : List ByteArray) : (scells l).length = l.length := by simp [scells]
theorem scells_append (a b : List ByteArray) : scells (a ++ b) = scells a ++ scells b := by simp [scells]
theorem scells_one (l : List ByteArray) : ∀ u ∈ scells l, u.oneCell' = true := by
  intro u hu
  simp only [scells, List.mem_map] at hu
  obtain ⟨b, _, rfl⟩ := hu
  rfl
theorem elemS : Elem Try.prog 43 9 (.string ⟨#[]⟩) 16 :=
  ⟨Try.underlying43, by
    have h : (Try.prog.info? 9).map (fun i => (i.zero, i.size, i.bytes)) = some (some (.string ⟨#[]⟩), 1, 16) := by kernel_rfl
    cases hi : Try.prog.info? 9 with
    | none => rw [hi] at h; cases h
    | some i => rw [hi] at h; simp at h; exact ⟨i, rfl, h.1, h.2.1, h.2.2⟩, rfl⟩
/-- Texts that are there lie at plain addresses. -/
theorem Row.atStrs {w : World} {v : Value} {l : List ByteArray} (h : Row w v (scells l)) (hp : 0 < l.length) :
    ∃ b off cap, v = .slice (some ⟨b, off, none⟩) l.length cap ∧ l.length ≤ cap ∧ cap ≤ maxLen ∧ ∀ j (hj : j < l.length), w.cell? ⟨b, off + j, none⟩ = some (.string l[j]) := by
  obtain ⟨b, off, cap, hv, h1, h2, h3⟩ := h.at (by rw [scells_length]; exact hp)
  rw [scells_length] at hv h1
  refine ⟨b, off, cap, hv, h1, h2, fun j hj => ?_⟩
  rw [h3 j (by rw [scells_length]; exact hj)]
  simp [scells]
theorem Row.sliceStrs {w : World} {v : Value} {l : List ByteArray} (h : Row w v (scells l)) : ∃ a cap, v = .slice a l.length cap ∧ l.length ≤ maxLen := by
  rcases h with ⟨rfl, hl⟩ | ⟨a, cap, rfl, h1, h2, _⟩
  · have : l = [] := by simpa [scells] using hl
    subst this
    exact ⟨_, _, rfl, Nat.zero_le _⟩
  · rw [scells_length] at h1 ⊢
    exact ⟨_, _, rfl, by omega⟩

section
variable {w : World} {p nb sb : Nat} {ptr : Nat → Nat} {vb vs : Nat → Value} {L : Nat → Prop} {m : M}
set_option maxRecDepth 20000 in
theorem made_at (h : StAt w p nb sb ptr vb vs L m) : Calls Try.prog 20 #[.pointer (some ⟨p, 0, none⟩)] w fun e w' => e = .returned (.bool true) ∧ w' = w := by
  obtain ⟨_, _, _, _, _, _, c6, _⟩ := h.cells
  have hnn : ∀ w, (binOp .neq 28 (.map (some nb)) (.map none)).run Try.prog w = .ok (.bool true) w := fun w => run_neq_map_nil w 28 9 51 (some nb) Try.underlying28
  clear h
  go_enter Try.func20, Try.ntmps20
  go_wp2
  go_ret
  exact ⟨rfl, rfl⟩
theorem made_nil (w : World) : Calls Try.prog 20 #[.pointer none] w fun e w' => e = .returned (.bool false) ∧ w' = w := by
  go_enter Try.func20, Try.ntmps20
  go_wp2
  go_ret
  exact ⟨rfl, rfl⟩
set_option maxRecDepth 20000 in
theorem made_zero (p : Nat) (w : World) (c6 : w.cell? ⟨p, 6, none⟩ = some (.map none)) : Calls Try.prog 20 #[.pointer (some ⟨p, 0, none⟩)] w fun e w' => e = .returned (.bool false) ∧ w' = w := by
  have hnn : ∀ w, (binOp .neq 28 (.map none) (.map none)).run Try.prog w = .ok (.bool false) w := fun w => run_neq_map_nil w 28 9 51 none Try.underlying28
  go_enter Try.func20, Try.ntmps20
  go_wp2
  go_ret
  exact ⟨rfl, rfl⟩

/-- What is wrong ahead of all that hangs on the files. -/
def checkI (m : M) (l : List ByteArray) : Int := if m.dark then 9 else if l.all goodN then 0 else 2
theorem all_take {l : List ByteArray} {k : Nat} (h : k < l.length) (ha : (l.take k).all goodN = true) (hg : goodN l[k] = true) : (l.take (k + 1)).all goodN = true := by
  rw [List.take_succ_eq_append_getElem h, List.all_append, ha]; simp [hg]
theorem all_bad {l : List ByteArray} {k : Nat} (h : k < l.length) (hg : goodN l[k] = false) : l.all goodN = false := by
  rw [Bool.eq_false_iff]
  intro ha
  rw [List.all_eq_true] at ha
  rw [ha _ (List.getElem_mem h)] at hg
  cases hg
set_option maxRecDepth 20000 in
set_option maxHeartbeats 1000000 in
theorem check_at (h : StAt w p nb sb ptr vb vs L m) (v : Value) (l : List ByteArray) (hr : Row w v (scells l)) (hs : ∀ s ∈ l, s.size ≤ maxLen) :
    Calls Try.prog 26 #[.pointer (some ⟨p, 0, none⟩), v] w fun e w' => e = .returned (.int .i64 (checkI m l)) ∧ w' = w := by
  have hM := made_at h
  obtain ⟨_, c1, _⟩ := h.cells
  obtain ⟨a, cap, rfl, hl⟩ := hr.sliceStrs
  have l63 : l.length ≤ 9223372036854775807 := by unfold maxLen at hl; omega
  clear h hl
  cases hd : m.dark with
  | true =>
    have hI : checkI m l = 9 := by unfold checkI; rw [hd]; rfl
    rw [hI]
    rw [hd] at c1
    go_enter Try.func26, Try.ntmps26
    go_wp2_with (go_at_call 20; refine hM.mono ?_; rintro e w ⟨rfl, rfl⟩)
    go_ret
    exact ⟨rfl, rfl⟩
  | false =>
    have hI : Hid (checkI m l = if l.all goodN then 0 else 2) := by show checkI m l = _; unfold checkI; rw [hd]; rfl
    rw [hd] at c1
    have HR : Hid (Row w (.slice a l.length cap) (scells l)) := hr
    have HS : Hid (∀ s ∈ l, s.size ≤ maxLen) := hs
    clear hr hs
    go_enter Try.func26, Try.ntmps26
    go_wp2_with (go_at_call 20; refine hM.mono ?_; rintro e w ⟨rfl, rfl⟩)
    clear hM c1
    go_loop [6, 17] (fun u6 u17 => ∃ k : Nat, k ≤ l.length ∧ u17 = .int .i64 k ∧ (l.take k).all goodN = true) (fun u6 u17 => l.length - (intOf u17).toNat)
    case atStart => exact ⟨0, Nat.zero_le _, rfl, rfl⟩
    case round =>
      obtain ⟨k, hk, rfl, ha⟩ := hrel
      have HA : Hid ((l.take k).all goodN = true) := ha
      clear ha
      by_cases hlt : k < l.length
      · have hlt' : (k : Int) < (l.length : Int) := by omega
        obtain ⟨b, off, cap', hv, _, _, hc⟩ := HR.out.atStrs (by omega)
        injection hv with e1 e2 e3
        subst e1 e3
        have ck := hc k hlt
        have hG := good_any l[k] w (HS.out _ (List.getElem_mem hlt))
        clear hc e2
        cases hg : goodN l[k] with
        | true =>
          have HT : Hid _ := all_take hlt HA.out hg
          rw [hg] at hG
          clear hg
          generalize l[k] = nm at *
          go_wp2_with (go_at_call 44; refine hG.mono ?_; rintro e w ⟨rfl, rfl⟩)
          go_round
          case rel => exact ⟨k + 1, by omega, by go_num, HT.out⟩
          case measure => simp [intOf]; omega
        | false =>
          have HT : Hid _ := all_bad hlt hg
          rw [hg] at hG
          clear hg
          generalize l[k] = nm at *
          go_wp2_with (go_at_call 44; refine hG.mono ?_; rintro e w ⟨rfl, rfl⟩)
          go_ret
          exact ⟨ret_int (by rw [hI.out, HT.out]; rfl), rfl⟩
      · have hlt' : ¬ (k : Int) < (l.length : Int) := by omega
        go_wp2
        go_ret
        refine ⟨ret_int ?_, rfl⟩
        have := HA.out
        rw [List.take_of_length_le (by omega)] at this
        rw [hI.out, this]; rfl
end
end Go.Proofs.Ytjgdmbfkondakaa
