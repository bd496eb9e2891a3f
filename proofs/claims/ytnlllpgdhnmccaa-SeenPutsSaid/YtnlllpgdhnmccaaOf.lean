/-
  PACKAGE seen: known, made, of, New, Low, Gaps, Ranges, Has, Add, by their contracts.
-/
import Derived.Test.YtnlllpgdhnmccaaBooks
import Derived.Deep.RegionHeld3
namespace Go.Proofs.Ytnlllpgdhnmccaa
open Go.RowKit Go.Sort

theorem known_any (o : Int) (w : World) :
    Calls Try.prog 36 #[.int .i64 o] w fun e w' => e = .returned (.bool (knownB o)) ∧ w' = w := by
  by_cases h1 : 1 ≤ o
  · by_cases h2 : o ≤ 8
    · go_enter Try.func36, Try.ntmps36
      go_wp2
      go_ret
      exact ⟨ret_bool (decide_eq_true ⟨h1, h2⟩).symm, rfl⟩
    · go_enter Try.func36, Try.ntmps36
      go_wp2
      go_ret
      exact ⟨ret_bool (decide_eq_false (by omega)).symm, rfl⟩
  · go_enter Try.func36, Try.ntmps36
    go_wp2
    go_ret
    exact ⟨ret_bool (decide_eq_false (by omega)).symm, rfl⟩
theorem is_any (o : Int) (w : World) :
    Calls Try.prog 18 #[.int .i64 o] w fun e w' => e = .returned (.bool (knownB o)) ∧ w' = w := by
  by_cases h1 : 1 ≤ o
  · by_cases h2 : o ≤ 8
    · go_enter Try.func18, Try.ntmps18
      go_wp2
      go_ret
      exact ⟨ret_bool (decide_eq_true ⟨h1, h2⟩).symm, rfl⟩
    · go_enter Try.func18, Try.ntmps18
      go_wp2
      go_ret
      exact ⟨ret_bool (decide_eq_false (by omega)).symm, rfl⟩
  · go_enter Try.func18, Try.ntmps18
    go_wp2
    go_ret
    exact ⟨ret_bool (decide_eq_false (by omega)).symm, rfl⟩

set_option maxHeartbeats 400000 in
theorem made_ptr (p : Nat) (s : Nat → Value) (S0 : Nat) (w : World) (h : w.heap[p]? = some (.cells (fcells 8 s).toArray 50 (0, 0))) (hs : s 0 = ptrS S0) :
    Calls Try.prog 35 #[ptrS p] w fun e w' => e = .returned (.bool true) ∧ w' = w := by
  have hc : w.cell? ⟨p, 0, none⟩ = some (.pointer (some ⟨S0, 0, none⟩)) := by rw [cell_of_list h, fcells_get _ (by omega), hs]; rfl
  clear h
  unfold ptrS
  go_enter Try.func35, Try.ntmps35
  go_wp2
  go_ret
  exact ⟨rfl, rfl⟩
theorem made_any (p : Nat) (F : Nat → Prop) (f : Nat → List (Nat × Nat)) (w : World) (h : Bk w p F f) :
    Calls Try.prog 35 #[ptrS p] w fun e w' => e = .returned (.bool true) ∧ w' = w := by
  obtain ⟨S, v, hb, _⟩ := h
  exact made_ptr p _ (S 0) w hb.blk rfl

set_option maxHeartbeats 400000 in
theorem of_ptr (p i : Nat) (o : Int) (s : Nat → Value) (w : World) (hi : i < 8) (ho : o = (i : Int) + 1) (h : w.heap[p]? = some (.cells (fcells 8 s).toArray 50 (0, 0))) :
    Calls Try.prog 25 #[ptrS p, .int .i64 o] w fun e w' => e = .returned (s i) ∧ w' = w := by
  have hc : w.cell? ⟨p, i, none⟩ = some (s i) := by rw [cell_of_list h, fcells_get _ hi]
  have hK := known_any o w
  rw [show knownB o = true from decide_eq_true (by omega)] at hK
  have hw : IntKind.i64.wrap (o - 1) = (i : Int) := by rw [IntKind.wrap_i64]; omega
  have hi' : (i : Int) < 8 := by omega
  generalize s i = si at hc ⊢
  clear h ho
  unfold ptrS
  go_enter Try.func25, Try.ntmps25
  go_wp2_with (go_at_call 36; refine hK.mono ?_; rintro e w ⟨rfl, rfl⟩)
  go_ret
  exact ⟨rfl, rfl⟩
set_option maxHeartbeats 400000 in
theorem of_none (o : Int) (b : Value) (w : World) (hb : b = .pointer none ∨ ∃ p, b = ptrS p) (h : b = .pointer none ∨ ¬ (1 ≤ o ∧ o ≤ 8)) :
    Calls Try.prog 25 #[b, .int .i64 o] w fun e w' => e = .returned (.pointer none) ∧ w' = w := by
  have hK := known_any o w
  rcases hb with rfl | ⟨p, rfl⟩
  · clear hK
    go_enter Try.func25, Try.ntmps25
    go_wp2
    go_ret
    exact ⟨rfl, rfl⟩
  · rw [show knownB o = false from decide_eq_false (h.elim (fun h => by cases h) id)] at hK
    unfold ptrS
    go_enter Try.func25, Try.ntmps25
    go_wp2_with (go_at_call 36; refine hK.mono ?_; rintro e w ⟨rfl, rfl⟩)
    go_ret
    exact ⟨rfl, rfl⟩
theorem of_any (b : Value) (f : Nat → List (Nat × Nat)) (o : Int) (w : World) (h : Told w b f) :
    Calls Try.prog 25 #[b, .int .i64 o] w fun e w' => ∃ s, e = .returned s ∧ Lies w s (ofF f o) ∧ w' = w := by
  rcases h.way with ⟨rfl, rfl⟩ | ⟨p, s, rfl, hp, hs⟩
  · refine (of_none o _ w (.inl rfl) (.inl rfl)).mono ?_
    rintro e w' ⟨rfl, rfl⟩
    refine ⟨_, rfl, .inl ⟨rfl, ?_⟩, rfl⟩
    unfold ofF
    split <;> rfl
  · by_cases ho : 1 ≤ o ∧ o ≤ 8
    · obtain ⟨i, hi, he⟩ := known_at ho
      refine (of_ptr p i o s w hi he hp).mono ?_
      rintro e w' ⟨rfl, rfl⟩
      exact ⟨_, rfl, by rw [ofF_in hi he]; exact hs i hi, rfl⟩
    · refine (of_none o _ w (.inr ⟨p, rfl⟩) (.inr ho)).mono ?_
      rintro e w' ⟨rfl, rfl⟩
      exact ⟨_, rfl, .inl ⟨rfl, ofF_out ho⟩, rfl⟩
theorem Lies.ptr {w : World} {s : Value} {l : List (Nat × Nat)} (h : Lies w s l) : ∃ q, s = .pointer q := by
  rcases h with ⟨h, _⟩ | ⟨B, m, v, h, _⟩
  · exact ⟨_, h⟩
  · exact ⟨_, h⟩
theorem Told.ptr {w : World} {b : Value} {f : Nat → List (Nat × Nat)} (h : Told w b f) : ∃ q, b = .pointer q := by
  rcases h.way with ⟨h, _⟩ | ⟨p, s, h, _⟩
  · exact ⟨_, h⟩
  · exact ⟨_, h⟩

set_option maxHeartbeats 400000 in
theorem blow_any (b : Value) (f : Nat → List (Nat × Nat)) (o : Int) (w : World) (h : Told w b f) :
    Calls Try.prog 21 #[b, .int .i64 o] w fun e w' => e = .returned (.int .u64 (lowL (ofF f o) : Nat)) ∧ w' = w := by
  have hO := of_any b f o w h
  generalize ofF f o = l at hO ⊢
  obtain ⟨q, rfl⟩ := h.ptr
  go_enter Try.func21, Try.ntmps21
  go_wp2_with fail
  refine hO.mono ?_
  rintro e w ⟨s, rfl, hl, rfl⟩
  obtain ⟨q2, rfl⟩ := hl.ptr
  go_wp2_with fail
  refine (low_any _ l _ hl).mono ?_
  rintro e w ⟨rfl, rfl⟩
  go_wp2
  go_ret
  exact ⟨rfl, rfl⟩
set_option maxHeartbeats 400000 in
theorem bgaps_any (b : Value) (f : Nat → List (Nat × Nat)) (o : Int) (w : World) (h : Told w b f) (hf : Apart 1 (ofF f o)) :
    Calls Try.prog 22 #[b, .int .i64 o] w fun e w' => e = .returned (.int .i64 (gapsL (ofF f o) : Nat)) ∧ w' = w := by
  have hO := of_any b f o w h
  generalize ofF f o = l at hO hf ⊢
  obtain ⟨q, rfl⟩ := h.ptr
  go_enter Try.func22, Try.ntmps22
  go_wp2_with fail
  refine hO.mono ?_
  rintro e w ⟨s, rfl, hl, rfl⟩
  obtain ⟨q2, rfl⟩ := hl.ptr
  go_wp2_with fail
  refine (gaps_any _ l _ hl hf).mono ?_
  rintro e w ⟨rfl, rfl⟩
  go_wp2
  go_ret
  exact ⟨rfl, rfl⟩
set_option maxHeartbeats 400000 in
theorem branges_any (b : Value) (f : Nat → List (Nat × Nat)) (o : Int) (w : World) (h : Told w b f) (hlen : (ofF f o).length ≤ 1000000) :
    Calls Try.prog 19 #[b, .int .i64 o] w fun e w' => ∃ v', e = .returned v' ∧ Own2 w' w.heap.size v' (ofF f o) ∧ Below w.heap.size w w' := by
  have hO := of_any b f o w h
  generalize ofF f o = l at hO hlen ⊢
  obtain ⟨q, rfl⟩ := h.ptr
  go_enter Try.func19, Try.ntmps19
  go_wp2_with fail
  refine hO.mono ?_
  rintro e w ⟨s, rfl, hl, rfl⟩
  obtain ⟨q2, rfl⟩ := hl.ptr
  go_wp2_with fail
  refine (ranges_any _ l _ hl hlen).mono ?_
  rintro e w2 ⟨v', rfl, own, b⟩
  obtain ⟨va, vc, rfl⟩ := own.rng.slice
  go_wp2
  go_ret
  exact ⟨_, rfl, own, b⟩
end Go.Proofs.Ytnlllpgdhnmccaa
