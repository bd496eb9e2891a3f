/-
  lives, by its contract: the document's examples.
-/
import Derived.Test.YtlfehneojkfmjaaGreatDoorRoute
namespace Go.Proofs.YtlfehneojkfmjaaGreatDoor
open Go.RowKit Go.Sort Go.Shelf

def lvX : Ex := ⟨⟨#[120]⟩, 3, false⟩
def lvF : Ex := ⟨⟨#[120]⟩, 2, false⟩
def lvB : Bd := ⟨⟨#[120]⟩, ⟨#[113]⟩, ⟨#[35]⟩⟩
def lvC : Bd := ⟨⟨#[120]⟩, ⟨#[113]⟩, ⟨#[97]⟩⟩
theorem lvB_fit : lvB.Fit := by refine ⟨?_, ?_, ?_⟩ <;> (show _ ≤ maxLen; unfold maxLen; decide)
theorem lvC_fit : lvC.Fit := by refine ⟨?_, ?_, ?_⟩ <;> (show _ ≤ maxLen; unfold maxLen; decide)
theorem lv1 : newT.declare lvX = (0, ⟨[lvX], []⟩) := by rfl
theorem lv2 : (⟨[lvX], []⟩ : Tb).bind lvB = (0, ⟨[lvX], [lvB]⟩) := by rfl
theorem lv3 : (⟨[lvX], [lvB]⟩ : Tb).bind lvC = (0, ⟨[lvX], [lvB, lvC]⟩) := by rfl
theorem lv4 : queuesT ⟨[lvX], [lvB, lvC]⟩ ⟨#[120]⟩ ⟨#[97]⟩ = [⟨#[113]⟩] := by rfl
theorem lv5 : whoT ⟨[lvX], [lvB, lvC]⟩ ⟨#[113]⟩ = [⟨#[120]⟩] := by rfl
theorem lv6 : fitsX lvF ⟨#[]⟩ ⟨#[97]⟩ = true := by
  unfold fitsX
  rw [if_neg (show ¬ lvF.kind = 1 by decide), if_pos (show lvF.kind = 2 from rfl), ByteArray.toList_eq]
  rfl
/-- A table of the call's own. -/
structure HoldT (w wr : World) (p : Nat) (F : Nat → Prop) (s : Tb) : Prop where
  t : T wr p F s
  ok : s.Ok
  frm : ∀ k, F k → w.heap.size ≤ k
  bel : Below w.heap.size w wr
theorem HoldT.go {w wr wr' : World} {p : Nat} {F F' : Nat → Prop} {s s' : Tb} (h : HoldT w wr p F s) (q : T wr' p F' s') (m : Moved wr wr' F F') (ok : s'.Ok) : HoldT w wr' p F' s' :=
  ⟨q, ok, m.from h.frm h.bel.size, m.below h.frm h.bel h.bel.size⟩
theorem HoldT.below {w wr wr' : World} {p : Nat} {F : Nat → Prop} {s : Tb} (h : HoldT w wr p F s) (b : Below wr.heap.size wr wr') : HoldT w wr' p F s := h.go (h.t.kept b) (.of_below b) h.ok
theorem map_txt_eq (l m : List ByteArray) : (l.map txt == m.map txt) = decide (l = m) := by
  rw [Bool.eq_iff_iff]
  simp only [beq_iff_eq, decide_eq_true_eq]
  exact ⟨fun h => (List.map_inj_right (fun a b h => txt_inj h)).1 h, fun h => by rw [h]⟩
/-- Are two rows of names the same? -/
theorem texts8_any (w : World) (va vb : Value) (l m : List ByteArray) (ha : Row w va (scells l)) (hb : Row w vb (scells m)) (hl : l.length ≤ 1000000) (hm : m.length ≤ 1000000) :
    Calls Tryz.prog 9 #[va, vb] w fun e w' => e = .returned (.bool (decide (l = m))) ∧ Below w.heap.size w w' := by
  refine (texts_any w va vb l m ha hb hl hm).mono ?_
  rintro e w' ⟨rfl, n, rfl⟩
  exact ⟨retK_bool (map_txt_eq l m), ⟨rfl, rfl, rfl, Nat.le_refl _, fun _ _ => rfl⟩⟩
theorem one_long {b : UInt8} : (⟨#[b]⟩ : ByteArray).size ≤ maxLen := by show (1 : Nat) ≤ maxLen; unfold maxLen; omega

set_option maxRecDepth 20000 in
set_option maxHeartbeats 4000000 in
theorem lives_any (w : World) : Calls Tryz.prog 7 #[] w fun e w' => e = .returned (.bool true) ∧ Below w.heap.size w w' := by
  go_enter Tryz.func7, Tryz.ntmps7
  go_wp2_with fail
  refine (new_any w).mono ?_
  rintro e w1 ⟨p, rfl, F1, q1, hF, b1⟩
  have H1 : HoldT w w1 p F1 newT := ⟨q1, newT_ok, hF, b1⟩
  have hD := declare_any p F1 newT lvX w1 H1.t H1.ok one_long
  have okD := newT_ok.declare lvX
  rw [lv1] at hD okD
  clear q1 hF b1
  go_wp2_with fail
  refine hD.mono ?_
  rintro e w2 ⟨rfl, F2, t2, m2⟩
  have H2 := H1.go t2 m2 okD
  have hB := bind_any p F2 ⟨[lvX], []⟩ lvB w2 H2.t H2.ok lvB_fit
  have okB := H2.ok.bind lvB_fit
  rw [lv2] at hB okB
  clear t2 m2 hD okD
  go_wp2_with fail
  refine hB.mono ?_
  rintro e w3 ⟨rfl, F3, t3, m3⟩
  have H3 := H2.go t3 m3 okB
  have hC := bind_any p F3 ⟨[lvX], [lvB]⟩ lvC w3 H3.t H3.ok lvC_fit
  have okC := H3.ok.bind lvC_fit
  rw [lv3] at hC okC
  clear t3 m3 hB okB
  go_wp2_with fail
  refine hC.mono ?_
  rintro e w4 ⟨rfl, F4, t4, m4⟩
  have H4 := H3.go t4 m4 okC
  have hQ := queues_any p F4 ⟨[lvX], [lvB, lvC]⟩ ⟨#[120]⟩ ⟨#[97]⟩ w4 H4.t H4.ok one_long one_long
  rw [lv4] at hQ
  clear t4 m4 hC okC
  go_wp2_with fail
  refine hQ.mono ?_
  rintro e w5 ⟨v5, rfl, r5, b5⟩
  obtain ⟨a5, c5, rfl⟩ := r5.sliceStrs
  have H5 := H4.below b5
  have b6 : ∀ o, Below w5.heap.size w5 (w5.alloc o) := fun o => (Below.refl _ _).alloc (Nat.le_refl _) _
  have H6 := H5.below (b6 (.cells #[.string ⟨#[113]⟩] 9))
  have hT := texts8_any (w5.alloc (.cells #[.string ⟨#[113]⟩] 9)) _ _ [⟨#[113]⟩] [⟨#[113]⟩] (r5.below (b6 _) (Nat.le_refl _)) (row_one w5 9 (.string ⟨#[113]⟩)) (by simp) (by simp)
  rw [show decide (([⟨#[113]⟩] : List ByteArray) = [⟨#[113]⟩]) = true from decide_eq_true rfl] at hT
  simp only [List.length_cons, List.length_nil] at hT
  clear hQ r5
  go_wp2_with fail
  refine hT.mono ?_
  rintro e w7 ⟨rfl, b7⟩
  have H7 := H6.below b7
  have hW := who_any p F4 ⟨[lvX], [lvB, lvC]⟩ ⟨#[113]⟩ w7 H7.t H7.ok
  rw [lv5] at hW
  clear hT b7
  go_wp2_with fail
  refine hW.mono ?_
  rintro e w8 ⟨v8, rfl, r8, b8⟩
  obtain ⟨a8, c8, rfl⟩ := r8.sliceStrs
  have H8 := H7.below b8
  have b9 : ∀ o, Below w8.heap.size w8 (w8.alloc o) := fun o => (Below.refl _ _).alloc (Nat.le_refl _) _
  have H9 := H8.below (b9 (.cells #[.string ⟨#[120]⟩] 9))
  have hT := texts8_any (w8.alloc (.cells #[.string ⟨#[120]⟩] 9)) _ _ [⟨#[120]⟩] [⟨#[120]⟩] (r8.below (b9 _) (Nat.le_refl _)) (row_one w8 9 (.string ⟨#[120]⟩)) (by simp) (by simp)
  rw [show decide (([⟨#[120]⟩] : List ByteArray) = [⟨#[120]⟩]) = true from decide_eq_true rfl] at hT
  simp only [List.length_cons, List.length_nil] at hT
  clear hW r8
  go_wp2_with fail
  refine hT.mono ?_
  rintro e w10 ⟨rfl, b10⟩
  have H10 := H9.below b10
  have hFi := fits_any lvF ⟨#[]⟩ ⟨#[97]⟩ w10 one_long (by show (0 : Nat) ≤ maxLen; omega) one_long
  rw [lv6] at hFi
  clear hT b10
  go_wp2_with fail
  refine hFi.mono ?_
  rintro e w11 ⟨rfl, b11⟩
  go_wp2
  go_ret
  exact ⟨rfl, (H10.below b11).bel⟩
end Go.Proofs.YtlfehneojkfmjaaGreatDoor
