/-
  THE WALKS of stand, of the document's fits, of Match and Over; two lists of texts compared.
-/
import Derived.Test.YtlfehneojkfmjaaGreatDoorStand
import Derived.Laws.OwnMore
import Derived.Deep.QuietTactic
import Derived.BigQuiet
namespace Go.Proofs.YtlfehneojkfmjaaGreatDoor
open Go.RowKit Go.Shelf

set_option maxRecDepth 20000 in
/-- 'make([]bool, n)': all are false. -/
theorem run_make_bools (w : World) (n : Nat) (hn : n ≤ 1000000000) :
    (Instr.makeSlice 108 (.int .i64 (n : Int)) (.int .i64 (n : Int))).run Tryz.prog w = .ok (.slice (some ⟨w.heap.size, 0, none⟩) n n) (w.alloc (.cells (List.replicate n (Value.bool false)).toArray 4)) := by
  obtain ⟨i, hi, hz, hsz, hby⟩ := elemB.info
  have hr := run_make (P := Tryz.prog) w 108 4 i (.bool false) elemB.ht hi hz .i64 .i64 n n (by omega) (by omega) (by rw [hby]; omega) (by omega)
  simp only [Int.toNat_natCast, hsz, Nat.mul_one] at hr
  rw [hr]
  congr 3
  apply Array.toList_inj.1
  exact toList_madeCells_one (.bool false) n

theorem fits_nil_take (K : List Txt) (j : Nat) (hj : j ≤ K.length) : fitsL [] (K.take j) = decide (j = 0) := by
  simp only [fitsL]
  rw [Bool.eq_iff_iff, List.isEmpty_iff, List.take_eq_nil_iff, decide_eq_true_eq]
  constructor
  · rintro (h | h)
    · exact h
    · subst h; simpa using hj
  · exact .inl

set_option maxRecDepth 20000 in
set_option maxHeartbeats 2000000 in
theorem stand_any (w : World) (vw vp : Value) (K Q : List ByteArray) (hw : Row w vw (scells K)) (hp : Row w vp (scells Q)) (hK : K.length ≤ 1000000) (hQ : Q.length ≤ 1000000) :
    Calls Tryz.prog 72 #[vw, vp] w fun e w' => e = .returned (.bool (fitsL (Q.map txt) (K.map txt))) ∧ Below w.heap.size w w' := by
  obtain ⟨aw, cw, rfl⟩ := hw.sliceStrs
  obtain ⟨ap, cp, rfl⟩ := hp.sliceStrs
  have hmk := run_make_bools w (K.length + 1) (by omega)
  have hmk' : (Instr.makeSlice 108 (.int .i64 ((K.length : Int) + 1)) (.int .i64 ((K.length : Int) + 1))).run Tryz.prog w = .ok (.slice (some ⟨w.heap.size, 0, none⟩) (K.length + 1) (K.length + 1)) (w.alloc (.cells (List.replicate (K.length + 1) (Value.bool false)).toArray 4)) := by
    have e : ((K.length : Int) + 1) = ((K.length + 1 : Nat) : Int) := by omega
    rw [e]
    exact hmk
  obtain ⟨w0, hw0⟩ : ∃ w0, w.alloc (.cells (List.replicate (K.length + 1) (Value.bool false)).toArray 4) = w0 := ⟨_, rfl⟩
  rw [hw0] at hmk hmk'
  have hh : w0.heap[w.heap.size]? = some (.cells (List.replicate (K.length + 1) (Value.bool false)).toArray 4) := by rw [← hw0]; exact World.alloc_heap_new w _
  have hB0 : Below w.heap.size w w0 := by rw [← hw0]; exact (Below.refl _ w).alloc (Nat.le_refl _) _
  have hc : ∀ j, j < K.length + 1 → w0.cell? ⟨w.heap.size, j, none⟩ = some (.bool false) := fun j hj => by
    simp only [World.cell?, hh]
    simp [hj]
  have hf : w0.frozen? ⟨w.heap.size, 0, none⟩ = false := by
    simp only [World.frozen?, hh]
    simp
  have hc0 := hc 0 (by omega)
  have hst : Reach (w0.setCell ⟨w.heap.size, 0, none⟩ (.bool true)) (.slice (some ⟨w.heap.size, 0, none⟩) (K.length + 1) (K.length + 1)) [] (K.map txt) := by
    refine .inr ⟨⟨w.heap.size, 0, none⟩, K.length + 1, by simp, by simp, by unfold maxLen; omega, fun j u hj => ?_⟩
    have hj' : j < K.length + 1 := by
      have := (List.getElem?_eq_some_iff.1 hj).1
      simpa using this
    rw [Go.WideShapes.add_plain, Nat.zero_add, ← hj]
    have hfit := fits_nil_take (K.map txt) j (by rw [List.length_map]; omega)
    by_cases e : j = 0
    · subst e
      rw [World.cell?_setCell_same' _ _ _ (by rw [hc0]; rfl)]
      simp [fitsL]
    · rw [World.cell?_setCell_other, hc j hj']
      · rw [List.getElem?_map, List.getElem?_range (by rw [List.length_map]; exact hj')]
        simp only [Option.map_some, hfit, e, decide_false]
      · intro e'; cases e'; exact e rfl
  have hB1 := hB0.setCell (p := ⟨w.heap.size, 0, none⟩) (Nat.le_refl _) (.bool true)
  clear hh hc hw0
  go_enter Tryz.func72, Tryz.ntmps72
  go_wp2
  go_loopw [5, 16] (fun r i wr => ∃ k : Nat, k ≤ Q.length ∧ i = .int .i64 k ∧ Reach wr r ((Q.map txt).take k) (K.map txt) ∧ Below w.heap.size w wr) (fun _ i _ => Q.length - (intOf i).toNat)
  case atStart => exact ⟨0, Nat.zero_le _, rfl, hst, hB1⟩
  case round =>
    obtain ⟨k, hk, rfl, hR, hB⟩ := hrel
    have hsz := hB.size
    by_cases hkl : k < Q.length
    · obtain ⟨bp, op, cp', hv, _, _, hcp⟩ := (hp.below hB (Nat.le_refl _)).atStrs (by omega)
      injection hv with hv1 _ hv3
      subst hv1 hv3
      have hcell := hcp k hkl
      have hfur := further_any wr _ _ _ K Q[k] hR (hw.below hB (Nat.le_refl _)) hK
      have htk : (Q.map txt).take k ++ [txt Q[k]] = (Q.map txt).take (k + 1) := by
        rw [List.take_succ_eq_append_getElem (by rw [List.length_map]; exact hkl)]
        simp
      rw [htk] at hfur
      clear hcp htk
      go_wp2_with (go_at_call 88; refine hfur.mono ?_; rintro e w3 ⟨v3, rfl, hR3, hb3⟩)
      go_roundw
      case rel => exact ⟨k + 1, by omega, by go_num, hR3, hB.trans (hb3.mono hsz)⟩
      case measure => simp [intOf]; omega
    · obtain ⟨br, fr, cr, rfl, _, hcr⟩ := hR.at
      have hlast := hcr K.length (by simp)
      rw [List.length_map] at *
      rw [List.take_of_length_le (by rw [List.length_map]; omega), List.take_of_length_le (by simp)] at hlast
      clear hcr
      go_wp2
      go_ret
      exact ⟨rfl, hB⟩
end Go.Proofs.YtlfehneojkfmjaaGreatDoor
