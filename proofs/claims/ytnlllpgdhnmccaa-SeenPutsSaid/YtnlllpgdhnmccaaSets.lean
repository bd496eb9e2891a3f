/-
  PACKAGE span: a set in memory; what only reads, by its contracts.
-/
import Derived.Test.YtnlllpgdhnmccaaSearch
import Derived.Test.YtnlllpgdhnmccaaRefs
namespace Go.Proofs.Ytnlllpgdhnmccaa
open Go.RowKit Go.Sort

/-- In w the set s holds just these ranges, whether a call made it or not. -/
def Lies (w : World) (s : Value) (l : List (Nat × Nat)) : Prop :=
  (s = .pointer none ∧ l = []) ∨ ∃ B m v, s = .pointer (some ⟨B, 0, none⟩) ∧ w.heap[B]? = some (.cells #[.bool m, v] 80 (0, 0)) ∧ Rng w v l
theorem cells2 {w : World} {b : Nat} {u v : Value} {t : TypeId} (h : w.heap[b]? = some (.cells #[u, v] t (0, 0))) : w.cell? ⟨b, 0, none⟩ = some u ∧ w.cell? ⟨b, 1, none⟩ = some v ∧ w.frozen? ⟨b, 0, none⟩ = false ∧ w.frozen? ⟨b, 1, none⟩ = false := by
  simp [World.cell?, World.frozen?, h]
theorem Lies.below {B : Nat} {w w' : World} {s : Value} {l : List (Nat × Nat)} (h : Lies w s l) (hb : Below B w w') (hB : w.heap.size ≤ B) : Lies w' s l := by
  rcases h with h | ⟨b, m, v, rfl, h1, h2⟩
  · exact .inl h
  · refine .inr ⟨b, m, v, rfl, ?_, h2.below hb hB⟩
    rw [hb.block b (by have := (Array.getElem?_eq_some_iff.1 h1).1; omega)]
    exact h1

set_option maxHeartbeats 400000 in
theorem list_any (s : Value) (l : List (Nat × Nat)) (w : World) (hs : Lies w s l) :
    Calls Try.prog 48 #[s] w fun e w' => ∃ v, e = .returned v ∧ Rng w v l ∧ w' = w := by
  rcases hs with ⟨rfl, rfl⟩ | ⟨B, m, v, rfl, h1, h2⟩
  · go_enter Try.func48, Try.ntmps48
    go_wp2
    go_ret
    exact ⟨_, rfl, rng_nil _, rfl⟩
  · obtain ⟨c0, c1, _, _⟩ := cells2 h1
    obtain ⟨a, cap, rfl⟩ := h2.slice
    clear h1
    go_enter Try.func48, Try.ntmps48
    go_wp2
    go_ret
    exact ⟨_, rfl, h2, rfl⟩

set_option maxHeartbeats 400000 in
theorem top_any (s : Value) (l : List (Nat × Nat)) (w : World) (hs : Lies w s l) :
    Calls Try.prog 54 #[s] w fun e w' => e = .returned (.int .u64 (topL l : Nat)) ∧ w' = w := by
  generalize hT : topL l = T
  have HT : Hid (topL l = T) := hT
  clear hT
  go_enter Try.func54, Try.ntmps54
  go_wp2_with fail
  refine (list_any s l w hs).mono ?_
  rintro e w' ⟨v, rfl, hr, rfl⟩
  by_cases hp : 0 < l.length
  · obtain ⟨b, off, cap, rfl, h1, h2, hc⟩ := hr.at hp
    obtain ⟨k, hk⟩ : ∃ k, l.length = k + 1 := ⟨l.length - 1, by omega⟩
    obtain ⟨c0, c1⟩ := at_cells hc k (by omega)
    have HE := HT.out
    rw [topL_at hk] at HE
    generalize (l[k]'(by omega)).2 = hi at c1 HE
    subst HE
    rw [hk] at h1 ⊢
    have hk2 : k + 1 ≤ 9223372036854775807 := by unfold maxLen at h2; omega
    clear hc hr c0 hk hp hs
    go_wp2
    all_goals go_ret
    all_goals exact ⟨rfl, rfl⟩
  · obtain rfl : l = [] := List.eq_nil_of_length_eq_zero (by omega)
    obtain ⟨a, cap, rfl⟩ := hr.slice
    simp only [List.length_nil]
    go_wp2
    go_ret
    exact ⟨ret_int (by rw [← HT.out]; rfl), rfl⟩

set_option maxHeartbeats 400000 in
theorem low_any (s : Value) (l : List (Nat × Nat)) (w : World) (hs : Lies w s l) :
    Calls Try.prog 42 #[s] w fun e w' => e = .returned (.int .u64 (lowL l : Nat)) ∧ w' = w := by
  generalize hT : lowL l = T
  have HT : Hid (lowL l = T) := hT
  clear hT
  go_enter Try.func42, Try.ntmps42
  go_wp2_with fail
  refine (list_any s l w hs).mono ?_
  rintro e w' ⟨v, rfl, hr, rfl⟩
  by_cases hp : 0 < l.length
  · obtain ⟨b, off, cap, rfl, h1, h2, hc⟩ := hr.at hp
    obtain ⟨c0, c1⟩ := at_cells hc 0 hp
    rw [Nat.zero_mul, Nat.add_zero] at c0 c1
    have HE := HT.out
    rw [lowL_at hp] at HE
    generalize l[0].1 = lo at c0 c1 HE
    generalize l[0].2 = hi at c1 HE
    have hk2 : l.length ≤ 9223372036854775807 := by unfold maxLen at h2; omega
    clear hc hr hs
    generalize l.length = n at *
    by_cases h1 : lo = 1
    · subst h1
      rw [if_pos rfl] at HE
      subst HE
      go_wp2
      go_ret
      exact ⟨rfl, rfl⟩
    · have hne : ¬ ((lo : Int) = 1) := by omega
      rw [if_neg h1] at HE
      subst HE
      go_wp2
      go_ret
      exact ⟨rfl, rfl⟩
  · obtain rfl : l = [] := List.eq_nil_of_length_eq_zero (by omega)
    obtain ⟨a, cap, rfl⟩ := hr.slice
    simp only [List.length_nil]
    go_wp2
    go_ret
    exact ⟨ret_int (by rw [← HT.out]; rfl), rfl⟩

set_option maxHeartbeats 400000 in
theorem gaps_any (s : Value) (l : List (Nat × Nat)) (w : World) (hs : Lies w s l) (hl : Apart 1 l) :
    Calls Try.prog 43 #[s] w fun e w' => e = .returned (.int .i64 (gapsL l : Nat)) ∧ w' = w := by
  rw [gapsL_eq hl]
  generalize hT : (if lowL l > 0 then l.length - 1 else l.length) = T
  have HT : Hid ((if lowL l > 0 then l.length - 1 else l.length) = T) := hT
  clear hT
  go_enter Try.func43, Try.ntmps43
  go_wp2_with fail
  refine (low_any s l w hs).mono ?_
  rintro e w' ⟨rfl, rfl⟩
  by_cases hp : lowL l > 0
  · have HE := HT.out
    rw [if_pos hp] at HE
    have hp' : (0 : Int) < (lowL l : Int) := by omega
    have hlp : 0 < l.length := by
      cases l with
      | nil => simp [lowL] at hp
      | cons r t => simp
    rcases hs with ⟨rfl, rfl⟩ | ⟨B, m, v, rfl, h1, h2⟩
    · simp at hlp
    · obtain ⟨c0, c1, _, _⟩ := cells2 h1
      obtain ⟨b, off, cap, rfl, h3, h4, hc⟩ := h2.at hlp
      have hk2 : l.length ≤ 9223372036854775807 := by unfold maxLen at h4; omega
      obtain ⟨k, hk⟩ : ∃ k, l.length = k + 1 := ⟨l.length - 1, by omega⟩
      rw [hk] at c1 HE
      clear h1 h2 hc HT
      generalize lowL l = lo at *
      go_wp2
      go_ret
      exact ⟨ret_int (by omega), rfl⟩
  · have HE := HT.out
    rw [if_neg hp] at HE
    have hp' : ¬ (0 : Int) < (lowL l : Int) := by omega
    go_wp2_with fail
    refine (list_any s l _ hs).mono ?_
    rintro e w' ⟨v, rfl, hr, rfl⟩
    obtain ⟨a, cap, rfl⟩ := hr.slice
    rw [HE]
    go_wp2
    go_ret
    exact ⟨rfl, rfl⟩

set_option maxHeartbeats 400000 in
theorem hasc_any (r1 r2 n bn : Nat) (W : World) (hn : W.cell? ⟨bn, 0, none⟩ = some (.int .u64 (n : Int))) :
    Calls Try.prog 50 #[.agg #[.int .u64 (r1 : Int), .int .u64 (r2 : Int)], .pointer (some ⟨bn, 0, none⟩)] W fun e w' => e = .returned (.bool (decide (n ≤ r2))) ∧ ∃ q os', w' = grow (W.drewN q) os' := by
  have hb := World.block_lt_of_cell? _ _ hn
  have hd : decide (n ≤ r2) = decide ((n : Int) ≤ (r2 : Int)) := by simp
  rw [hd]
  go_enter Try.func50, Try.ntmps50
  go_wp2
  go_ret
  exact ⟨rfl, 0, _, alloc_eq_grow _ _⟩

set_option maxHeartbeats 400000 in
theorem has_grew (s : Value) (l : List (Nat × Nat)) (n : Nat) (w : World) (hs : Lies w s l) (hl : Apart 1 l) (hlen : l.length ≤ 1000000) :
    Calls Try.prog 33 #[s, .int .u64 (n : Int)] w fun e w' => e = .returned (.bool (memB l n)) ∧ Grew w w' := by
  have b0 : Below w.heap.size w (w.alloc (.cells #[.int .u64 (n : Int)] 23)) := (Below.refl _ _).alloc (Nat.le_refl _) _
  have eg : ∀ args w, (callFunc 50 args).run Try.prog w = .ok (.enter 50 args) w := enters_of Try.func50 (by kernel_rfl) rfl
  have cn := cell_new_r w (.int .u64 (n : Int)) 23
  have HI : Hid _ := has_iff (n := n) hl
  generalize memB l n = T at HI ⊢
  go_enter Try.func33, Try.ntmps33
  go_wp2_with fail
  refine (list_any s l _ (hs.below b0 (Nat.le_refl _))).mono ?_
  rintro e w' ⟨v, rfl, hr, rfl⟩
  obtain ⟨a, cap, rfl⟩ := hr.slice
  go_wp2_with fail
  refine (search_grew _ l 50 w.heap.size (fun r => decide (n ≤ r.2)) _ hr eg (fun W hW r _ => hasc_any r.1 r.2 n w.heap.size W (by rw [hW.cell (p := ⟨w.heap.size, 0, none⟩) (by simp)]; exact cn))
    (fun i j hi hj hij h => by have := hl.risingLo hi hj hij; simp at h ⊢; omega) hlen).mono ?_
  rintro e w1 ⟨rfl, g1⟩
  have b1 := g1.below (Nat.le_refl _)
  have hcnt : (l.countP fun r => !decide (n ≤ r.2)) = belowL l n := by
    unfold belowL
    refine List.countP_congr fun r _ => ?_
    simp
  rw [hcnt]
  have B1 : Hid (∀ q, Grew w (w1.drewN q)) := fun q => ((Grew.alloc _ _).trans g1).trans (Grew.drewN _ q)
  have cn1 : w1.cell? ⟨w.heap.size, 0, none⟩ = some (.int .u64 (n : Int)) := by rw [b1.cell (p := ⟨w.heap.size, 0, none⟩) (by simp)]; exact cn
  have hr1 := hr.below b1 (Nat.le_refl _)
  have hI := HI.out
  clear HI
  have hle : belowL l n ≤ l.length := List.countP_le_length
  clear b1 g1 hr cn b0 eg hs hcnt
  by_cases hh : belowL l n < l.length
  · rw [dif_pos hh] at hI
    obtain ⟨b, off, cap', hv, _, _, hc⟩ := hr1.at (by omega)
    injection hv with hv1 _ hv3
    subst hv1 hv3
    obtain ⟨c0, _⟩ := at_cells hc _ hh
    generalize l[belowL l n].1 = lo at *
    subst hI
    generalize belowL l n = i at *
    have hh' : (i : Int) < (l.length : Int) := by omega
    clear hc hr1 hl
    go_wp2
    go_quiet (fail)
    go_wp2
    go_ret
    exact ⟨rfl, B1.out _⟩
  · rw [dif_neg hh] at hI
    subst hI
    obtain he : belowL l n = l.length := by omega
    rw [he]
    clear hr1 hl he hle hh
    go_wp2
    go_quiet (fail)
    go_wp2
    go_ret
    exact ⟨rfl, B1.out _⟩

theorem has_any (s : Value) (l : List (Nat × Nat)) (n : Nat) (w : World) (hs : Lies w s l) (hl : Apart 1 l) (hlen : l.length ≤ 1000000) :
    Calls Try.prog 33 #[s, .int .u64 (n : Int)] w fun e w' => e = .returned (.bool (memB l n)) ∧ Below w.heap.size w w' :=
  (has_grew s l n w hs hl hlen).mono fun _ _ ⟨h, g⟩ => ⟨h, g.below (Nat.le_refl _)⟩
end Go.Proofs.Ytnlllpgdhnmccaa
