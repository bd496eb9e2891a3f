/-
  RINGS: edges from each site to the next one around. Of no program.
-/
import Derived.Test.YtcfagojkeholmaaRFar
namespace Go.Proofs.Ytcfagojkeholmaa

/-- The first n edges of a ring of k sites. -/
def ringL (k n : Nat) : List (Int × Int) := (List.range n).map fun i : Nat => ((i : Int) + 1, (((i + 1) % k : Nat) : Int) + 1)
theorem ringL_succ (k n : Nat) : ringL k (n + 1) = ringL k n ++ [((n : Int) + 1, (((n + 1) % k : Nat) : Int) + 1)] := by
  unfold ringL; rw [List.range_succ, List.map_append]; rfl
theorem ringL_len (k n : Nat) : (ringL k n).length = n := by simp [ringL]
theorem ring_goodB : ∀ k : Fin 9, 2 ≤ k.1 → ∀ h : Fin 9, goodB k.1 (ringL k.1 k.1) h.1 = true := by decide +kernel
theorem ring_good {k h : Nat} (hk : 2 ≤ k ∧ k ≤ 8) (hh : h ≤ 8) : GoodT k (ringL k k) h := of_decide_eq_true (ring_goodB ⟨k, by omega⟩ hk.1 ⟨h, by omega⟩)
theorem mem_ringL {k : Nat} {e : Int × Int} : e ∈ ringL k k ↔ ∃ i : Nat, i < k ∧ e = ((i : Int) + 1, (((i + 1) % k : Nat) : Int) + 1) := by
  simp only [ringL, List.mem_map, List.mem_range]
  constructor
  · rintro ⟨i, hi, rfl⟩; exact ⟨i, hi, rfl⟩
  · rintro ⟨i, hi, rfl⟩; exact ⟨i, hi, rfl⟩
theorem upto8 {k : Nat} (h : 2 ≤ k ∧ k ≤ 8) : k = 2 ∨ k = 3 ∨ k = 4 ∨ k = 5 ∨ k = 6 ∨ k = 7 ∨ k = 8 := by omega
theorem ring_step {k a i n : Nat} (hk : 2 ≤ k ∧ k ≤ 8) (ha : a < k) (hi : i < k) (h : (i + k - a) % k ≤ n) : ((i + 1) % k + k - a) % k ≤ n + 1 := by
  rcases upto8 hk with rfl | rfl | rfl | rfl | rfl | rfl | rfl <;> omega
theorem ring_back {k a x n : Nat} (hk : 2 ≤ k ∧ k ≤ 8) (ha : a < k) (hx : x < k) (h : (x + k - a) % k ≤ n + 1) (hn : ¬ (x + k - a) % k ≤ n) : ((x + k - 1) % k + 1) % k = x ∧ ((x + k - 1) % k + k - a) % k ≤ n ∧ (x + k - 1) % k < k := by
  rcases upto8 hk with rfl | rfl | rfl | rfl | rfl | rfl | rfl <;> omega
theorem ring_zero {k a x : Nat} (hk : 2 ≤ k ∧ k ≤ 8) (ha : a < k) (hx : x < k) : (x + k - a) % k ≤ 0 ↔ x = a := by
  rcases upto8 hk with rfl | rfl | rfl | rfl | rfl | rfl | rfl <;> omega
theorem ring_R {k a : Nat} (hk : 2 ≤ k ∧ k ≤ 8) (ha : a < k) : ∀ (n x : Nat), x < k → (R (ringL k k) ((a : Int) + 1) n ((x : Int) + 1) = true ↔ (x + k - a) % k ≤ n)
  | 0, x, hx => by
    rw [ring_zero hk ha hx]
    simp only [R, beq_iff_eq]
    omega
  | n + 1, x, hx => by
    rw [R_succ]
    constructor
    · rintro (h | ⟨e, he, h1, h2⟩)
      · have := (ring_R hk ha n x hx).1 h; omega
      · obtain ⟨i, hi, rfl⟩ := mem_ringL.1 he
        have hd := (ring_R hk ha n i hi).1 h1
        have : (i + 1) % k = x := by simp only at h2; omega
        rw [← this]
        exact ring_step hk ha hi hd
    · intro h
      by_cases hn : (x + k - a) % k ≤ n
      · exact .inl ((ring_R hk ha n x hx).2 hn)
      · obtain ⟨h1, h2, h3⟩ := ring_back hk ha hx h hn
        exact .inr ⟨_, mem_ringL.2 ⟨_, h3, rfl⟩, (ring_R hk ha n _ h3).2 h2, by simp only; omega⟩
theorem ring_far {k h a b : Nat} (hk : 2 ≤ k ∧ k ≤ 8) (hh : h ≤ 8) (ha : a < k) (hb : b < k) : farT k (ringL k k) h ((a : Int) + 1) ((b : Int) + 1) = (((b + k - a) % k : Nat) : Int) := by
  have hg := ring_good hk hh
  rw [farT, if_pos ⟨hg, by omega, by omega⟩]
  refine far_is (S := k) (by omega) hg.2.1 (by omega) ((ring_R hk ha _ b hb).2 (Nat.le_refl _)) fun m hm => ?_
  cases hR : R (ringL k k) ((a : Int) + 1) m ((b : Int) + 1)
  · rfl
  · have := (ring_R hk ha m b hb).1 hR; omega
/-- How many steps around. -/
theorem ring_dist {k a b : Nat} (ha : a < k) : Int.tmod ((b : Int) - (a : Int) + (k : Int)) (k : Int) = (((b + k - a) % k : Nat) : Int) := by
  rw [show ((b : Int) - (a : Int) + (k : Int)) = ((b + k - a : Nat) : Int) by omega]
  rw [Int.ofNat_tmod]
theorem sitesN (k : Nat) : sites (k : Int) = (List.range k).map fun i : Nat => (i : Int) + 1 := by simp [sites]
theorem ring_within {k h a : Nat} (hk : 2 ≤ k ∧ k ≤ 8) (hh : h ≤ 8) (ha : a < k) : withinT k (ringL k k) h ((a : Int) + 1) = ((List.range k).filter fun x => decide ((x + k - a) % k ≤ h)).map fun i : Nat => (i : Int) + 1 := by
  unfold withinT
  rw [sitesN, List.filter_map]
  congr 1
  refine List.filter_congr fun x hx => ?_
  have hx' : x < k := by simpa using hx
  simp only [Function.comp]
  rw [ring_far hk hh ha hx', decide_eq_decide]
  omega
theorem ring_count : ∀ k h a : Fin 9, a.1 < k.1 → ((List.range k.1).filter fun x => decide ((x + k.1 - a.1) % k.1 ≤ h.1)).length = min (h.1 + 1) k.1 := by decide +kernel
theorem ring_within_len {k h a : Nat} (hk : 2 ≤ k ∧ k ≤ 8) (hh : h ≤ 8) (ha : a < k) : (withinT k (ringL k k) h ((a : Int) + 1)).length = min (h + 1) k := by
  rw [ring_within hk hh ha, List.length_map]
  exact ring_count ⟨k, by omega⟩ ⟨h, by omega⟩ ⟨a, by omega⟩ ha
theorem ring_nextB : ∀ k b : Fin 9, b.1 < k.1 → nextL (k.1 : Int) (ringL k.1 k.1) ((b.1 : Int) + 1) = [(((b.1 + 1) % k.1 : Nat) : Int) + 1] := by decide +kernel
theorem ring_onward {k h a b : Nat} (hk : 2 ≤ k ∧ k ≤ 8) (hh : h ≤ 8) (ha : a < k) (hb : b < k) : ((onwardT k (ringL k k) h ((a : Int) + 1) ((b : Int) + 1)).length = 1 ↔ (b + k - a) % k < h ∧ (b + k - a) % k ≠ k - 1) ∧ (onwardT k (ringL k k) h ((a : Int) + 1) ((b : Int) + 1)).length ≤ 1 := by
  unfold onwardT
  rw [ring_far hk hh ha hb, nextT, if_pos (ring_good hk hh), ring_nextB ⟨k, by omega⟩ ⟨b, by omega⟩ hb]
  have key : (b + 1) % k = a ↔ (b + k - a) % k = k - 1 := by
    rcases upto8 hk with rfl | rfl | rfl | rfl | rfl | rfl | rfl <;> omega
  by_cases h1 : (b + k - a) % k < h
  · rw [if_pos (by omega)]
    by_cases h2 : (b + 1) % k = a
    · have : ((((b + 1) % k : Nat) : Int) + 1 == (a : Int) + 1) = true := by rw [h2]; simp
      simp only [List.filter_cons, this, List.filter_nil]
      simp
      intro _; omega
    · have : ((((b + 1) % k : Nat) : Int) + 1 == (a : Int) + 1) = false := beq_eq_false_iff_ne.2 fun he => h2 (by omega)
      simp only [List.filter_cons, this, List.filter_nil]
      simp
      omega
  · rw [if_neg (by omega)]
    simp; omega
/-- The greatest way in a ring. -/
def ringMost (k h : Nat) : Int := (List.range k).foldl (fun m a => ((List.range k).filter fun x => decide ((x + k - a) % k ≤ h)).foldl (fun m b => max m (((b + k - a) % k : Nat) : Int)) m) 0
theorem ring_mostB : ∀ k h : Fin 9, 2 ≤ k.1 → ringMost k.1 h.1 = ((min (h.1 + 1) k.1 : Nat) : Int) - 1 := by decide +kernel
theorem foldl_eq {α β : Type} {f g : β → α → β} : ∀ {l : List α} {m : β}, (∀ m, ∀ x ∈ l, f m x = g m x) → l.foldl f m = l.foldl g m
  | [], _, _ => rfl
  | x :: l, m, h => by
    rw [List.foldl_cons, List.foldl_cons, h m x (by simp)]
    exact foldl_eq fun m y hy => h m y (by simp [hy])
theorem ring_rounds {k h : Nat} (hk : 2 ≤ k ∧ k ≤ 8) (hh : h ≤ 8) : roundsT k (ringL k k) h = ((min (h + 1) k : Nat) : Int) - 1 := by
  rw [← ring_mostB ⟨k, by omega⟩ ⟨h, by omega⟩ hk.1, roundsT, if_pos (ring_good hk hh), sitesN, List.foldl_map]
  unfold ringMost
  refine foldl_eq fun m a ha => ?_
  have ha' : a < k := by simpa using ha
  unfold mostOf
  rw [ring_within hk hh ha', List.foldl_map]
  refine foldl_eq fun m b hb => ?_
  have hb' : b < k := by simpa using (List.mem_filter.1 hb).1
  rw [ring_far hk hh ha' hb']
end Go.Proofs.Ytcfagojkeholmaa
