/-
  WHAT IS OF NO PROGRAM: things sealed one behind the other, and cut anywhere.
-/
import Derived.Test.YtpdmcodnnhbchaaDoorFacts
namespace Go.Proofs.YtpdmcodnnhbchaaDoor

/-- Things sealed one behind the other. -/
def catL : List (List UInt8) → List UInt8
  | [] => []
  | x :: l => sealL x ++ catL l
theorem catL_append (a b : List (List UInt8)) : catL (a ++ b) = catL a ++ catL b := by
  induction a with
  | nil => rfl
  | cons x a ih => simp [catL, ih]
theorem catL_take (l : List (List UInt8)) (k : Nat) (h : k < l.length) : catL (l.take (k + 1)) = catL (l.take k) ++ sealL l[k] := by
  rw [List.take_succ_eq_append_getElem h, catL_append]
  simp [catL]
/-- All can be sealed. -/
def Small (l : List (List UInt8)) : Prop := ∀ x ∈ l, x.length ≤ 1048576
theorem whole_cat : ∀ (l : List (List UInt8)), Small l → wholeC (catL l) = l ∧ wholeS (catL l) = (catL l).length
  | [], _ => ⟨wholeC_end _ (errO_few _ (by simp [catL])), wholeS_end _ (errO_few _ (by simp [catL]))⟩
  | x :: l, h => by
    have hx := h x (by simp)
    have ih := whole_cat l (fun y hy => h y (by simp [hy]))
    have h1 : catL (x :: l) = sealL x ++ catL l := rfl
    rw [h1, wholeC_seal _ _ hx, wholeS_seal _ _ hx, ih.1, ih.2, List.length_append, sealL_length x hx]
    exact ⟨rfl, rfl⟩
/-- Cut anywhere: those that are whole. -/
theorem whole_cut : ∀ (l : List (List UInt8)) (k : Nat), Small l → k ≤ (catL l).length → ∃ p, p ≤ l.length ∧ wholeC ((catL l).take k) = l.take p ∧ wholeS ((catL l).take k) = (catL (l.take p)).length ∧ (catL (l.take p)).length ≤ k ∧ (p < l.length → k < (catL (l.take (p + 1))).length)
  | [], k, _, _ => by
    refine ⟨0, by simp, ?_, ?_, by simp [catL], by simp⟩
    · rw [wholeC_end _ (errO_few _ (by simp [catL]))]; rfl
    · rw [wholeS_end _ (errO_few _ (by simp [catL]))]; rfl
  | x :: l, k, h, hk => by
    have hx := h x (by simp)
    have hl := sealL_length x hx
    have h1 : catL (x :: l) = sealL x ++ catL l := rfl
    rw [h1] at hk ⊢
    rw [List.length_append, hl] at hk
    by_cases hs : k < x.length + 8
    · have h2 : (sealL x ++ catL l).take k = (sealL x).take k := List.take_append_of_le_length (by omega)
      have h3 : errO ((sealL x).take k) ≠ 0 := by rw [open_cut x hx k hs]; decide
      rw [h2, wholeC_end _ h3, wholeS_end _ h3]
      refine ⟨0, by simp, rfl, rfl, by simp [catL], fun _ => ?_⟩
      simp [catL, hl]
      exact hs
    · have h2 : (sealL x ++ catL l).take k = sealL x ++ (catL l).take (k - (x.length + 8)) := by
        rw [List.take_append, List.take_of_length_le (by omega), hl]
      obtain ⟨p, hp1, hp2, hp3, hp4, hp5⟩ := whole_cut l (k - (x.length + 8)) (fun y hy => h y (by simp [hy])) (by omega)
      rw [h2, wholeC_seal _ _ hx, wholeS_seal _ _ hx, hp2, hp3]
      refine ⟨p + 1, by simp; omega, by simp, ?_, ?_, fun hp => ?_⟩
      · simp [catL, hl]
      · simp [catL, hl]; omega
      · have := hp5 (by simpa using hp)
        simp [catL, hl]; omega
/-- Where each ends. -/
def endsL (l : List (List UInt8)) (k : Nat) : List Int := (List.range (k + 1)).map fun j => ((catL (l.take j)).length : Int)
theorem endsL_length (l : List (List UInt8)) (k : Nat) : (endsL l k).length = k + 1 := by simp [endsL]
theorem endsL_zero (l : List (List UInt8)) : endsL l 0 = [0] := by simp [endsL, catL]
theorem endsL_succ (l : List (List UInt8)) (k : Nat) : endsL l (k + 1) = endsL l k ++ [((catL (l.take (k + 1))).length : Int)] := by
  unfold endsL
  rw [List.range_succ, List.map_append]
  rfl
theorem endsL_get (l : List (List UInt8)) (k j : Nat) (h : j ≤ k) : (endsL l k)[j]? = some ((catL (l.take j)).length : Int) := by
  unfold endsL
  rw [List.getElem?_map, List.getElem?_range (by omega)]
  rfl
end Go.Proofs.YtpdmcodnnhbchaaDoor
