/-
  THE LAW SeenNone: a book that no call made.
-/
import Derived.Test.YtnlllpgdhnmccaaLives9
namespace Go.Proofs.Ytnlllpgdhnmccaa
open Go.RowKit Go.Sort

/-- A book that no call made. -/
def Unm (w : World) (b : Value) : Prop := b = .pointer none ∨ ∃ p, b = ptrS p ∧ w.heap[p]? = some (.cells (fcells 8 fun _ => .pointer none).toArray 50 (0, 0))
theorem Unm.below {w w' : World} {b : Value} (h : Unm w b) (hb : Below w.heap.size w w') : Unm w' b := by
  rcases h with h | ⟨p, h1, h2⟩
  · exact .inl h
  · exact .inr ⟨p, h1, by rw [hb.block p (Array.getElem?_eq_some_iff.1 h2).1]; exact h2⟩
theorem Unm.told {w : World} {b : Value} (h : Unm w b) : Told w b (fun _ => []) := by
  rcases h with h | ⟨p, h1, h2⟩
  · exact ⟨.inl ⟨h, rfl⟩⟩
  · exact ⟨.inr ⟨p, _, h1, h2, fun _ _ => .inl ⟨rfl, rfl⟩⟩⟩
theorem Unm.of {w : World} {b : Value} (h : Unm w b) (o : Int) : Calls Try.prog 25 #[b, .int .i64 o] w fun e w' => e = .returned (.pointer none) ∧ w' = w := by
  rcases h with rfl | ⟨p, rfl, h2⟩
  · exact of_none o _ w (.inl rfl) (.inl rfl)
  · by_cases ho : 1 ≤ o ∧ o ≤ 8
    · obtain ⟨i, hi, he⟩ := known_at ho
      exact of_ptr p i o _ w hi he h2
    · exact of_none o _ w (.inr ⟨p, rfl⟩) (.inr ho)
set_option maxHeartbeats 400000 in
theorem Unm.made {w : World} {b : Value} (h : Unm w b) : Calls Try.prog 35 #[b] w fun e w' => e = .returned (.bool false) ∧ w' = w := by
  rcases h with rfl | ⟨p, rfl, h2⟩
  · go_enter Try.func35, Try.ntmps35
    go_wp2
    go_ret
    exact ⟨rfl, rfl⟩
  · have hc : w.cell? ⟨p, 0, none⟩ = some (.pointer none) := by rw [cell_of_list h2, fcells_get _ (by omega)]
    clear h2
    unfold ptrS
    go_enter Try.func35, Try.ntmps35
    go_wp2
    go_ret
    exact ⟨rfl, rfl⟩
set_option maxHeartbeats 400000 in
theorem Unm.put {w : World} {b : Value} (h : Unm w b) (o : Int) (la : Option Addr) (ln lc : Nat) : Calls Try.prog 15 #[b, .int .i64 o, .slice la ln lc] w fun e w' => e = .returned (.int .i64 1) ∧ w' = w := by
  have hM := h.made
  obtain ⟨q, rfl⟩ := h.told.ptr
  clear h
  go_enter Try.func15, Try.ntmps15
  go_wp2_with (go_at_call 35; refine hM.mono ?_; rintro e w1 ⟨rfl, hw1⟩; subst hw1)
  go_ret
  exact ⟨rfl, rfl⟩
set_option maxHeartbeats 400000 in
theorem Unm.copy {w : World} {b : Value} (h : Unm w b) : Calls Try.prog 17 #[b] w fun e w' => e = .returned (.pointer none) ∧ w' = w := by
  have hM := h.made
  obtain ⟨q, rfl⟩ := h.told.ptr
  clear h
  go_enter Try.func17, Try.ntmps17
  go_wp2_with (go_at_call 35; refine hM.mono ?_; rintro e w1 ⟨rfl, hw1⟩; subst hw1)
  go_ret
  exact ⟨rfl, rfl⟩

set_option maxRecDepth 20000 in
set_option maxHeartbeats 8000000 in
theorem seenNone_law (o : Int) (n : Nat) (v : Value) (l : List (Nat × Nat)) (w : World) (hr : Rng w v l) :
    Calls Try.prog 6 #[.agg #[.int .i64 o, .int .u64 (n : Int)], v] w fun e w' => e = .returned (.bool true) ∧ Below w.heap.size w w' := by
  obtain ⟨la, lc, rfl⟩ := hr.slice
  clear hr
  generalize l.length = ln
  obtain ⟨W, fold⟩ : ∃ W, w.alloc (.cells #[.int .i64 o, .int .u64 (n : Int)] 25) = W := ⟨_, rfl⟩
  have bW : Below w.heap.size w W := by rw [← fold]; exact (Below.refl _ _).alloc (Nat.le_refl _) _
  obtain ⟨a0, a1⟩ : W.cell? ⟨w.heap.size, 0, none⟩ = some (.int .i64 o) ∧ W.cell? ⟨w.heap.size, 1, none⟩ = some (.int .u64 (n : Int)) := by rw [← fold]; exact id_cells w o n
  obtain ⟨Z, foldZ⟩ : ∃ Z, W.alloc (.cells #[.pointer none, .pointer none, .pointer none, .pointer none, .pointer none, .pointer none, .pointer none, .pointer none] 50) = Z := ⟨_, rfl⟩
  have bZ : Below W.heap.size W Z := by rw [← foldZ]; exact (Below.refl _ _).alloc (Nat.le_refl _) _
  have z0 := cell_on bZ a0
  have z1 := cell_on bZ a1
  have HU : Hid (∀ V, Below Z.heap.size Z V → Unm V (.pointer none) ∧ Unm V (.pointer (some ⟨W.heap.size, 0, none⟩))) := fun V hV => ⟨.inl rfl, (show Unm Z (.pointer (some ⟨W.heap.size, 0, none⟩)) from .inr ⟨_, rfl, by rw [← foldZ]; exact heap_alloc_new W _⟩).below hV⟩
  have HZ : Hid (Below w.heap.size w Z) := keptW bW bZ
  have HL : Hid (∀ V, Calls Try.prog 8 #[] V fun e w' => e = .returned (.bool true) ∧ Below V.heap.size V w') := livesB_any
  have g0 : ofF (fun _ => ([] : List (Nat × Nat))) o = [] := by unfold ofF; split <;> rfl
  have i0 : ∀ V, (Instr.index 51 (.agg #[.pointer none, .pointer (some ⟨W.heap.size, 0, none⟩)]) (.int .i64 0)).run Try.prog V = .ok (.pointer none) V := fun V => by kernel_rfl
  have i1 : ∀ V, (Instr.index 51 (.agg #[.pointer none, .pointer (some ⟨W.heap.size, 0, none⟩)]) (.int .i64 1)).run Try.prog V = .ok (.pointer (some ⟨W.heap.size, 0, none⟩)) V := fun V => by kernel_rfl
  have kA : Hid (∀ V b, Unm V b → Calls Try.prog 10 #[b, .agg #[.int .i64 o, .int .u64 (n : Int)]] V fun e w' => e = .returned (.bool false) ∧ Below V.heap.size V w') := fun V b hb => badd_nil b o n V hb.told.ptr fun V' hV' => (hb.below hV').of o
  have kH : Hid (∀ V b, Unm V b → Calls Try.prog 13 #[b, .agg #[.int .i64 o, .int .u64 (n : Int)]] V fun e w' => e = .returned (.bool false) ∧ Below V.heap.size V w') := fun V b hb => by
    have := bhas_any b _ o n V hb.told (by rw [g0]; trivial) (by rw [g0]; simp)
    rwa [g0] at this
  have kLo : Hid (∀ V b, Unm V b → Calls Try.prog 21 #[b, .int .i64 o] V fun e w' => e = .returned (.int .u64 0) ∧ w' = V) := fun V b hb => by
    have := blow_any b _ o V hb.told
    rwa [g0] at this
  have kG : Hid (∀ V b, Unm V b → Calls Try.prog 22 #[b, .int .i64 o] V fun e w' => e = .returned (.int .i64 0) ∧ w' = V) := fun V b hb => by
    have := bgaps_any b _ o V hb.told (by rw [g0]; trivial)
    rwa [g0] at this
  have kR : Hid (∀ V b, Unm V b → Calls Try.prog 19 #[b, .int .i64 o] V fun e w' => ∃ a c, e = .returned (.slice a 0 c) ∧ Below V.heap.size V w') := fun V b hb => by
    refine (branges_any b _ o V hb.told (by rw [g0]; simp)).mono ?_
    rintro e w' ⟨v', rfl, own, hb'⟩
    rw [g0] at own
    obtain ⟨a, c, rfl⟩ := own.rng.slice
    exact ⟨a, c, rfl, hb'⟩
  have kO : Hid (∀ V b, Unm V b → Calls Try.prog 23 #[b] V fun e w' => ∃ a c, e = .returned (.slice a 0 c) ∧ Below V.heap.size V w') := fun V b hb => by
    refine (origins_any b _ V hb.told).mono ?_
    rintro e w' ⟨v', rfl, hrow, hb'⟩
    obtain ⟨a, c, rfl⟩ := hrow.sliceInts
    exact ⟨a, c, rfl, hb'⟩
  clear bW bZ a0 a1
  go_enter Try.func6, Try.ntmps6
  go_wp2
  clear fold foldZ
  go_loopw [9] (fun u9 wr => ∃ k : Int, u9 = .int .i64 k ∧ (k = 0 ∨ k = 1 ∨ k = 2) ∧ Below Z.heap.size Z wr) (fun u9 _ => 2 - (intOf u9).toNat)
  case atStart => exact ⟨0, rfl, .inl rfl, Below.refl _ _⟩
  case round =>
    obtain ⟨k, rfl, hk, hb⟩ := hrel
    have hD : Below Z.heap.size Z wr.drew := hb.drew
    have y0 := cell_on hb z0
    have y1 := cell_on hb z1
    rcases hk with rfl | rfl | rfl
    · go_wp2
      first | (go_region_held3 (fun w' => w'.cell? ⟨w.heap.size, 0, none⟩ = some (.int .i64 o) ∧ w'.cell? ⟨w.heap.size, 1, none⟩ = some (.int .u64 (n : Int)) ∧ Below Z.heap.size Z w') (go_keep) (first
        | (go_at_call 10; refine (kA.out _ _ (HU.out _ (by assumption)).1).mono ?_; clear kA; rintro e wx ⟨rfl, bx⟩; have p0 := cell_on bx (v := .int .i64 o) (by assumption); have p1 := cell_on bx (v := .int .u64 (n : Int)) (by assumption); have p2 := keptW (w := Z) (by assumption) bx)
        | (go_at_call 13; refine (kH.out _ _ (HU.out _ (by assumption)).1).mono ?_; clear kH; rintro e wx ⟨rfl, bx⟩; have p0 := cell_on bx (v := .int .i64 o) (by assumption); have p1 := cell_on bx (v := .int .u64 (n : Int)) (by assumption); have p2 := keptW (w := Z) (by assumption) bx)
        | (go_at_call 21; refine (kLo.out _ _ (HU.out _ (by assumption)).1).mono ?_; clear kLo; rintro e wx ⟨rfl, hx⟩; subst hx)
        | (go_at_call 22; refine (kG.out _ _ (HU.out _ (by assumption)).1).mono ?_; clear kG; rintro e wx ⟨rfl, hx⟩; subst hx)
        | (go_at_call 19; refine (kR.out _ _ (HU.out _ (by assumption)).1).mono ?_; clear kR; rintro e wx ⟨ra, rc, rfl, bx⟩; have p0 := cell_on bx (v := .int .i64 o) (by assumption); have p1 := cell_on bx (v := .int .u64 (n : Int)) (by assumption); have p2 := keptW (w := Z) (by assumption) bx)
        | (go_at_call 23; refine (kO.out _ _ (HU.out _ (by assumption)).1).mono ?_; clear kO; rintro e wx ⟨oa, oc, rfl, bx⟩; have p0 := cell_on bx (v := .int .i64 o) (by assumption); have p1 := cell_on bx (v := .int .u64 (n : Int)) (by assumption); have p2 := keptW (w := Z) (by assumption) bx)
        | (go_at_call 15; refine ((HU.out _ (by assumption)).1.put o la ln lc).mono ?_; rintro e wx ⟨rfl, hx⟩; subst hx)
        | (go_at_call 17; refine ((HU.out _ (by assumption)).1.copy).mono ?_; rintro e wx ⟨rfl, hx⟩; subst hx))) | fail
      all_goals go_wp2
      all_goals exact ⟨⟨1, rfl, by omega, by assumption⟩, by simp [intOf]⟩
    · go_wp2
      first | (go_region_held3 (fun w' => w'.cell? ⟨w.heap.size, 0, none⟩ = some (.int .i64 o) ∧ w'.cell? ⟨w.heap.size, 1, none⟩ = some (.int .u64 (n : Int)) ∧ Below Z.heap.size Z w') (go_keep) (first
        | (go_at_call 10; refine (kA.out _ _ (HU.out _ (by assumption)).2).mono ?_; clear kA; rintro e wx ⟨rfl, bx⟩; have p0 := cell_on bx (v := .int .i64 o) (by assumption); have p1 := cell_on bx (v := .int .u64 (n : Int)) (by assumption); have p2 := keptW (w := Z) (by assumption) bx)
        | (go_at_call 13; refine (kH.out _ _ (HU.out _ (by assumption)).2).mono ?_; clear kH; rintro e wx ⟨rfl, bx⟩; have p0 := cell_on bx (v := .int .i64 o) (by assumption); have p1 := cell_on bx (v := .int .u64 (n : Int)) (by assumption); have p2 := keptW (w := Z) (by assumption) bx)
        | (go_at_call 21; refine (kLo.out _ _ (HU.out _ (by assumption)).2).mono ?_; clear kLo; rintro e wx ⟨rfl, hx⟩; subst hx)
        | (go_at_call 22; refine (kG.out _ _ (HU.out _ (by assumption)).2).mono ?_; clear kG; rintro e wx ⟨rfl, hx⟩; subst hx)
        | (go_at_call 19; refine (kR.out _ _ (HU.out _ (by assumption)).2).mono ?_; clear kR; rintro e wx ⟨ra, rc, rfl, bx⟩; have p0 := cell_on bx (v := .int .i64 o) (by assumption); have p1 := cell_on bx (v := .int .u64 (n : Int)) (by assumption); have p2 := keptW (w := Z) (by assumption) bx)
        | (go_at_call 23; refine (kO.out _ _ (HU.out _ (by assumption)).2).mono ?_; clear kO; rintro e wx ⟨oa, oc, rfl, bx⟩; have p0 := cell_on bx (v := .int .i64 o) (by assumption); have p1 := cell_on bx (v := .int .u64 (n : Int)) (by assumption); have p2 := keptW (w := Z) (by assumption) bx)
        | (go_at_call 15; refine ((HU.out _ (by assumption)).2.put o la ln lc).mono ?_; rintro e wx ⟨rfl, hx⟩; subst hx)
        | (go_at_call 17; refine ((HU.out _ (by assumption)).2.copy).mono ?_; rintro e wx ⟨rfl, hx⟩; subst hx))) | fail
      all_goals go_wp2
      all_goals exact ⟨⟨2, rfl, by omega, by assumption⟩, by simp [intOf]⟩
    · go_wp2_with (go_at_call 8; refine (HL.out _).mono ?_; rintro e w4 ⟨rfl, b4⟩)
      go_ret
      exact ⟨rfl, HZ.out.trans ((keptW hb b4).mono HZ.out.size)⟩
end Go.Proofs.Ytnlllpgdhnmccaa
