/-
  lives, by its contract: the document's examples.
-/
import Derived.Test.YtiaagiijjledkaaGreatDoorFind
namespace Go.Proofs.YtiaagiijjledkaaGreatDoor
open Go.RowKit Go.Sort Go.Maps Go.Shelf

def exX : Ex := ⟨⟨#[120]⟩, 3, false⟩
def exB : Bd := ⟨⟨#[120]⟩, ⟨#[113]⟩, ⟨#[97, 46, 42]⟩⟩
theorem exB_fit : exB.Fit := by refine ⟨?_, ?_, ?_⟩ <;> (show _ ≤ maxLen; unfold maxLen; decide)
theorem live1 : newT.declare exX = (0, ⟨[exX], []⟩) := by rfl
theorem live2 : (⟨[exX], []⟩ : Tb).bind exB = (0, ⟨[exX], [exB]⟩) := by rfl
theorem live3 : (⟨[exX], [exB]⟩ : Tb).bind exB = (0, ⟨[exX], [exB]⟩) := by rfl
theorem live4 : findX [exX] ⟨#[120]⟩ = some exX := by rfl
theorem live5 : (⟨[exX], [exB]⟩ : Tb).drop ⟨#[120]⟩ = (0, newT) := by
  unfold Tb.drop
  rw [live4]
  simp only
  have e1 : [exX].filter (fun x => !decide (x.name = ⟨#[120]⟩)) = [] := by rfl
  have e2 : keepB (fun b => b.ex.toList == (⟨#[120]⟩ : ByteArray).toList) [exB] = [] := by
    unfold keepB
    simp only [baList_eq]
    rfl
  rw [e1, e2]
  rfl
theorem live6 : newT.drop ⟨#[120]⟩ = (3, newT) := by rfl

theorem cell_same {w w' : World} {b : Nat} (h : w'.heap[b]? = w.heap[b]?) (j : Nat) : w'.cell? ⟨b, j, none⟩ = w.cell? ⟨b, j, none⟩ := by simp [World.cell?, h]
/-- A table of the call's own. -/
structure HoldT (w wr : World) (p : Nat) (F : Nat → Prop) (s : Tb) : Prop where
  t : T wr p F s
  ok : s.Ok
  frm : ∀ k, F k → w.heap.size ≤ k
  bel : Below w.heap.size w wr
theorem HoldT.go {w wr wr' : World} {p : Nat} {F F' : Nat → Prop} {s s' : Tb} (h : HoldT w wr p F s) (q : T wr' p F' s') (m : Moved wr wr' F F') (ok : s'.Ok) : HoldT w wr' p F' s' :=
  ⟨q, ok, m.from h.frm h.bel.size, m.below h.frm h.bel h.bel.size⟩
theorem HoldT.below {w wr wr' : World} {p : Nat} {F : Nat → Prop} {s : Tb} (h : HoldT w wr p F s) (b : Below wr.heap.size wr wr') : HoldT w wr' p F s := h.go (h.t.kept b) (.of_below b) h.ok

set_option maxRecDepth 20000 in
set_option maxHeartbeats 4000000 in
theorem lives_any (w : World) : Calls Tryz.prog 8 #[] w fun e w' => e = .returned (.bool true) ∧ Below w.heap.size w w' := by
  go_enter Tryz.func8, Tryz.ntmps8
  go_wp2_with fail
  refine (new_any w).mono ?_
  rintro e w1 ⟨p, rfl, F1, q1, hF, b1⟩
  obtain ⟨W, fold⟩ : ∃ W, (w1.alloc (.cells #[.string ⟨#[120]⟩, .int .i64 3, .bool false] 33)).alloc (.cells #[.string ⟨#[120]⟩, .string ⟨#[113]⟩, .string ⟨#[97, 46, 42]⟩] 35) = W := ⟨_, rfl⟩
  have bW : Below w1.heap.size w1 W := by rw [← fold]; exact ((Below.refl _ _).alloc (Nat.le_refl _) _).alloc (by simp) _
  have H1 : HoldT w W p F1 newT := (HoldT.below ⟨q1, newT_ok, hF, b1⟩ bW)
  have x0 : W.cell? ⟨w1.heap.size, 0, none⟩ = some (.string ⟨#[120]⟩) := by rw [← fold]; exact cell_allocK _ (cell_of_list (C := xcells exX) (heap_alloc_new w1 _) 0)
  have x1 : W.cell? ⟨w1.heap.size, 1, none⟩ = some (.int .i64 3) := by rw [← fold]; exact cell_allocK _ (cell_of_list (C := xcells exX) (heap_alloc_new w1 _) 1)
  have x2 : W.cell? ⟨w1.heap.size, 2, none⟩ = some (.bool false) := by rw [← fold]; exact cell_allocK _ (cell_of_list (C := xcells exX) (heap_alloc_new w1 _) 2)
  have y0 : W.cell? ⟨w1.heap.size + 1, 0, none⟩ = some (.string ⟨#[120]⟩) := by rw [← fold, ← World.size_alloc w1 (.cells #[.string ⟨#[120]⟩, .int .i64 3, .bool false] 33)]; exact cell_of_list (C := bcells exB) (heap_alloc_new _ _) 0
  have y1 : W.cell? ⟨w1.heap.size + 1, 1, none⟩ = some (.string ⟨#[113]⟩) := by rw [← fold, ← World.size_alloc w1 (.cells #[.string ⟨#[120]⟩, .int .i64 3, .bool false] 33)]; exact cell_of_list (C := bcells exB) (heap_alloc_new _ _) 1
  have y2 : W.cell? ⟨w1.heap.size + 1, 2, none⟩ = some (.string ⟨#[97, 46, 42]⟩) := by rw [← fold, ← World.size_alloc w1 (.cells #[.string ⟨#[120]⟩, .int .i64 3, .bool false] 33)]; exact cell_of_list (C := bcells exB) (heap_alloc_new _ _) 2
  have hFx : Hid (∀ k, F1 k → k < w1.heap.size) := q1.lts
  have hWl : Hid (w1.heap.size + 1 < W.heap.size) := by show _ < _; rw [← fold]; simp
  have keep : Hid (∀ {V V' : World} {F F' : Nat → Prop}, Moved V V' F F' → (∀ k, F k → k < w1.heap.size ∨ W.heap.size ≤ k) → W.heap.size ≤ V.heap.size → (∀ k, F' k → k < w1.heap.size ∨ W.heap.size ≤ k) ∧ W.heap.size ≤ V'.heap.size ∧ V'.heap[w1.heap.size]? = V.heap[w1.heap.size]? ∧ V'.heap[w1.heap.size + 1]? = V.heap[w1.heap.size + 1]?) := fun {V V' F F'} m hk hs => by
    have := hWl.out
    refine ⟨fun k hk' => (m.sub k hk').elim (hk k) (fun h => .inr (by omega)), Nat.le_trans hs m.size, m.block _ (by omega) (fun hf => by have := hk _ hf; omega), m.block _ (by omega) (fun hf => by have := hk _ hf; omega)⟩
  have hD := declare_any p F1 newT exX W H1.t H1.ok (by show (1 : Nat) ≤ maxLen; unfold maxLen; omega)
  have okD := newT_ok.declare exX
  rw [live1] at hD okD
  clear q1 hF b1
  go_wp2_with fail
  refine hD.mono ?_
  rintro e w2 ⟨rfl, F2, t2, m2⟩
  have H2 := H1.go t2 m2 okD
  obtain ⟨k2, s2, e2, g2⟩ := keep.out m2 (fun k hk => .inl (hFx.out k hk)) (Nat.le_refl _)
  have a0 := (cell_same g2 0).trans y0
  have a1 := (cell_same g2 1).trans y1
  have a2 := (cell_same g2 2).trans y2
  have hB := bind_any p F2 ⟨[exX], []⟩ exB w2 H2.t H2.ok exB_fit
  have okB := H2.ok.bind exB_fit
  rw [live2] at hB okB
  clear t2 m2 hD okD
  go_wp2_with fail
  refine hB.mono ?_
  rintro e w3 ⟨rfl, F3, t3, m3⟩
  have H3 := H2.go t3 m3 okB
  obtain ⟨k3, s3, e3, g3⟩ := keep.out m3 k2 s2
  have b0 := (cell_same g3 0).trans a0
  have b1 := (cell_same g3 1).trans a1
  have b2 := (cell_same g3 2).trans a2
  have hB2 := bind_any p F3 ⟨[exX], [exB]⟩ exB w3 H3.t H3.ok exB_fit
  have okB2 := H3.ok.bind exB_fit
  rw [live3] at hB2 okB2
  clear t3 m3 hB okB a0 a1 a2
  go_wp2_with fail
  refine hB2.mono ?_
  rintro e w4 ⟨rfl, F4, t4, m4⟩
  have H4 := H3.go t4 m4 okB2
  obtain ⟨k4, s4, e4, g4⟩ := keep.out m4 k3 s3
  have hL := bindings_any p F4 ⟨[exX], [exB]⟩ w4 H4.t H4.ok
  clear t4 m4 hB2 okB2 b0 b1 b2
  go_wp2_with fail
  refine hL.mono ?_
  rintro e w5 ⟨v5, rfl, own5, b5⟩
  have H5 := H4.below b5
  obtain ⟨k5, s5, e5, g5⟩ := keep.out (Moved.of_below (F := F4) b5) k4 s4
  obtain ⟨va5, vc5, hv5⟩ := own5.rng.slice
  simp only [List.length_cons, List.length_nil] at hv5
  subst hv5
  have hFi : Calls Tryz.prog 13 #[.pointer (some ⟨p, 0, none⟩), .string ⟨#[120]⟩] w5 fun e w' => e = .returned (.tuple #[.agg #[.string ⟨#[120]⟩, .int .i64 3, .bool false], .bool true]) ∧ Below w5.heap.size w5 w' := by
    have := find_any p F4 ⟨[exX], [exB]⟩ ⟨#[120]⟩ w5 H5.t H5.ok (by show (1 : Nat) ≤ maxLen; unfold maxLen; omega)
    rw [live4] at this
    exact this
  clear own5 b5 hL
  go_wp2_with fail
  refine hFi.mono ?_
  rintro e w6 ⟨rfl, b6⟩
  have H6 := H5.below b6
  obtain ⟨k6, s6, e6, g6⟩ := keep.out (Moved.of_below (F := F4) b6) k5 s5
  have eW : Hid (w6.heap[w1.heap.size]? = W.heap[w1.heap.size]?) := e6.trans (e5.trans (e4.trans (e3.trans e2)))
  have c0 := fun o => cell_allocK o ((cell_same eW.out 0).trans x0)
  have c1 := fun o => cell_allocK o ((cell_same eW.out 1).trans x1)
  have c2 := fun o => cell_allocK o ((cell_same eW.out 2).trans x2)
  have H7 := H6.below (wr' := w6.alloc (.cells #[.string ⟨#[120]⟩, .int .i64 3, .bool false] 33)) ((Below.refl _ _).alloc (Nat.le_refl _) _)
  have hs1 : (⟨#[120]⟩ : ByteArray).size ≤ maxLen := by show (1 : Nat) ≤ maxLen; unfold maxLen; omega
  have hDr := drop_any p F4 ⟨[exX], [exB]⟩ ⟨#[120]⟩ _ H7.t H7.ok hs1
  rw [live5] at hDr
  clear b6 hFi x0 x1 x2 y0 y1 y2
  go_wp2_with fail
  refine hDr.mono ?_
  rintro e w8 ⟨rfl, F8, t8, m8⟩
  have H8 := H7.go t8 m8 newT_ok
  have hL8 := bindings_any p F8 newT w8 H8.t H8.ok
  clear t8 m8 hDr c0 c1 c2
  go_wp2_with fail
  refine hL8.mono ?_
  rintro e w9 ⟨v9, rfl, own9, b9⟩
  have H9 := H8.below b9
  obtain ⟨va9, vc9, hv9⟩ := own9.rng.slice
  have hn0 : newT.bs.length = 0 := rfl
  rw [hn0] at hv9
  subst hv9
  have hDr2 := drop_any p F8 newT ⟨#[120]⟩ w9 H9.t H9.ok hs1
  rw [live6] at hDr2
  clear own9 b9 hL8
  go_wp2_with fail
  refine hDr2.mono ?_
  rintro e w10 ⟨rfl, F10, t10, m10⟩
  have H10 := H9.go t10 m10 newT_ok
  go_wp2
  go_ret
  exact ⟨rfl, H10.bel⟩
end Go.Proofs.YtiaagiijjledkaaGreatDoor
