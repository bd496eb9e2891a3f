/-
  HOW FAR IT IS, level by level, edge by edge; where edges lead; who is within. Of no program.
-/
import Derived.Test.YtcfagojkeholmaaTopos
namespace Go.Proofs.Ytcfagojkeholmaa

/-- Behind k edges of the level L + 1. -/
def mid (E : List (Int × Int)) (a : Int) (L k : Nat) (x : Int) : Int :=
  if 0 ≤ upto E a L x then upto E a L x else if ((E.take k).any fun e => R E a L e.1 && e.2 == x) then (L : Int) + 1 else -1
theorem mid_start (E : List (Int × Int)) (a : Int) (L : Nat) (x : Int) : mid E a L 0 x = upto E a L x := by
  have := upto_range E a L x
  unfold mid
  by_cases h : 0 ≤ upto E a L x
  · rw [if_pos h]
  · rw [if_neg h]; simp; omega
theorem take_any {E : List (Int × Int)} {k : Nat} (hk : k < E.length) (p : Int × Int → Bool) : (E.take (k + 1)).any p = ((E.take k).any p || p E[k]) := by
  rw [List.take_succ_eq_append_getElem hk, List.any_append]; simp
theorem mid_hit {E : List (Int × Int)} {a : Int} {L k : Nat} (hk : k < E.length) (h1 : mid E a L k E[k].1 = L) (h2 : mid E a L k E[k].2 = -1) (x : Int) : mid E a L (k + 1) x = if x = E[k].2 then (L : Int) + 1 else mid E a L k x := by
  have hr : R E a L E[k].1 = true := by
    unfold mid at h1
    split at h1
    · rename_i h0; exact (upto_le (Nat.le_refl _)).2 ⟨h0, by omega⟩
    · split at h1 <;> omega
  by_cases hx : x = E[k].2
  · subst hx
    rw [if_pos rfl]
    unfold mid at h2 ⊢
    split at h2
    · omega
    · rename_i h0
      rw [if_neg h0, take_any hk, hr]; simp
  · rw [if_neg hx]
    unfold mid
    rw [take_any hk]
    have : (E[k].2 == x) = false := by simpa using fun h => hx h.symm
    rw [this, Bool.and_false, Bool.or_false]
theorem mid_miss {E : List (Int × Int)} {a : Int} {L k : Nat} (hk : k < E.length) (h : ¬ (mid E a L k E[k].1 = L ∧ mid E a L k E[k].2 = -1)) (x : Int) : mid E a L (k + 1) x = mid E a L k x := by
  by_cases h0 : 0 ≤ upto E a L x
  · unfold mid; rw [if_pos h0, if_pos h0]
  · have hx0 := upto_range E a L x
    by_cases hx : E[k].2 = x
    · by_cases hr : R E a L E[k].1 = true
      · have hu := (upto_le (L := L) (Nat.le_refl _)).1 hr
        have h1 : upto E a L E[k].1 = L := by
          apply Classical.byContradiction
          intro hne
          have hm := (upto_le (L := L) (E := E) (a := a) (x := E[k].1) (n := (upto E a L E[k].1).toNat) (by omega)).2 (by omega)
          have hm2 : R E a ((upto E a L E[k].1).toNat + 1) x = true := R_succ.2 (.inr ⟨E[k], List.getElem_mem hk, hm, hx⟩)
          have := (upto_le (L := L) (by omega)).1 hm2
          omega
        have hm1 : mid E a L k E[k].1 = L := by unfold mid; rw [if_pos (by omega), h1]
        have hm2 : mid E a L k E[k].2 ≠ -1 := fun h' => h ⟨hm1, h'⟩
        rw [hx] at hm2
        unfold mid at hm2 ⊢
        rw [if_neg h0] at hm2 ⊢
        rw [if_neg h0]
        split at hm2
        · rename_i ha
          rw [take_any hk, ha]; simp
        · exact absurd rfl hm2
      · unfold mid
        rw [take_any hk]
        have : R E a L E[k].1 = false := by simpa using hr
        rw [this, Bool.false_and, Bool.or_false]
    · unfold mid
      rw [take_any hk]
      have : (E[k].2 == x) = false := by simpa using hx
      rw [this, Bool.and_false, Bool.or_false]
theorem mid_end (E : List (Int × Int)) (a : Int) (L : Nat) (x : Int) : mid E a L E.length x = upto E a (L + 1) x := by
  have hr := upto_range E a L x
  symm
  unfold mid
  rw [List.take_length]
  by_cases h0 : 0 ≤ upto E a L x
  · rw [if_pos h0]
    refine upto_eq (by omega) (by omega) fun n hn => ?_
    by_cases hn' : n ≤ L
    · exact upto_le hn'
    · obtain rfl : n = L + 1 := by omega
      refine ⟨fun _ => ⟨h0, by omega⟩, fun _ => R_mono (by omega) ((upto_le (L := L) (Nat.le_refl _)).2 ⟨h0, hr.2⟩)⟩
  · rw [if_neg h0]
    have hno : ∀ n, n ≤ L → R E a n x = false := fun n hn => by
      cases hR : R E a n x
      · rfl
      · exact absurd ((upto_le hn).1 hR).1 h0
    by_cases ha : (E.any fun e => R E a L e.1 && e.2 == x) = true
    · rw [if_pos ha]
      refine upto_eq (by omega) (by omega) fun n hn => ?_
      by_cases hn' : n ≤ L
      · simp [hno n hn']; omega
      · obtain rfl : n = L + 1 := by omega
        refine ⟨fun _ => by omega, fun _ => ?_⟩
        rw [R, ha]; simp
    · rw [if_neg ha]
      refine upto_eq (by omega) (by omega) fun n hn => ?_
      by_cases hn' : n ≤ L
      · simp [hno n hn']
      · obtain rfl : n = L + 1 := by omega
        rw [R, hno L (Nat.le_refl _)]
        simp only [Bool.not_eq_true] at ha
        rw [ha]; simp
/-- A level that brings somebody new is not the last one that may be. -/
theorem level_lt {S : Int} {E : List (Int × Int)} {a : Int} (hE : ∀ e ∈ E, EdgeOk S e) (ha : 1 ≤ a ∧ a ≤ S) {L : Nat} {x : Int} (h : upto E a (L + 1) x = (L : Int) + 1) : (L : Int) + 1 < S := by
  have h1 := (upto_le (L := L + 1) (E := E) (a := a) (x := x) (Nat.le_refl _)).2 (by omega)
  have h2 := R_all hE ha _ _ h1
  apply Classical.byContradiction
  intro hn
  have h3 : R E a L x = true := R_mono (by omega) h2
  have := (upto_le (L := L + 1) (by omega)).1 h3
  omega
/-- A level that brings nobody new is the last one. -/
theorem level_last {S : Int} {E : List (Int × Int)} {a : Int} (hS : S ≤ 8) (hE : ∀ e ∈ E, EdgeOk S e) (ha : 1 ≤ a ∧ a ≤ S) {L : Nat} (h : ∀ x, 1 ≤ x → x ≤ 8 → upto E a (L + 1) x ≠ (L : Int) + 1) (x : Int) : upto E a (L + 1) x = far E a x := by
  have hst : ∀ x, R E a (L + 1) x = true → R E a L x = true := fun x hx => by
    have hs := R_site hE ha _ _ hx
    have h1 := (upto_le (L := L + 1) (Nat.le_refl _)).1 hx
    exact (upto_le (L := L + 1) (by omega)).2 ⟨h1.1, by have := h x hs.1 (by omega); omega⟩
  exact upto_same (fun n hn => R_mono (by omega) (R_stay hst n x (R_mono (by omega) hn))) (fun n hn => R_mono (by omega) (R_all hE ha n x hn))
/-- The document's way of telling it. -/
theorem upto_sites {S : Int} {E : List (Int × Int)} {a : Int} (hS : 1 ≤ S ∧ S ≤ 8) (hE : ∀ e ∈ E, EdgeOk S e) (ha : 1 ≤ a ∧ a ≤ S) (x : Int) : upto E a (S.toNat - 1) x = far E a x :=
  upto_same (fun n hn => R_all hE ha n x hn) (fun n hn => R_mono (by omega) (R_all hE ha n x hn))
theorem far_self (E : List (Int × Int)) (a : Int) : far E a a = 0 := by
  have : R E a 0 a = true := by simp [R]
  have := (upto_le (L := 8) (Nat.zero_le _)).1 this
  unfold far; omega
theorem far_out {S : Int} {E : List (Int × Int)} {a x : Int} (hE : ∀ e ∈ E, EdgeOk S e) (ha : 1 ≤ a ∧ a ≤ S) (hx : ¬ (1 ≤ x ∧ x ≤ S)) : far E a x = -1 := by
  rcases upto_cases E a 8 x with ⟨h, _⟩ | ⟨m, _, _, hr, _⟩
  · exact h
  · exact absurd (R_site hE ha m x hr) hx

/-- What Far tells. -/
def farT (S : Int) (E : List (Int × Int)) (H : Int) (a x : Int) : Int := if GoodT S E H ∧ (1 ≤ a ∧ a ≤ S) ∧ (1 ≤ x ∧ x ≤ S) then far E a x else -1
theorem farT_range (S : Int) (E : List (Int × Int)) (H : Int) (a x : Int) : -1 ≤ farT S E H a x ∧ farT S E H a x ≤ 8 := by
  unfold farT; have := far_range E a x; split <;> omega

/-- Where edges lead from a. -/
def nextL (S : Int) (E : List (Int × Int)) (a : Int) : List Int := (sites S).filter fun n => E.contains (a, n)
def nextT (S : Int) (E : List (Int × Int)) (H : Int) (a : Int) : List Int := if GoodT S E H then nextL S E a else []
theorem mem_nextL {S : Int} {E : List (Int × Int)} (hE : ∀ e ∈ E, EdgeOk S e) {a n : Int} : n ∈ nextL S E a ↔ (a, n) ∈ E := by
  simp only [nextL, List.mem_filter, mem_sites, List.contains_eq_mem, decide_eq_true_eq]
  exact ⟨fun h => h.2, fun h => ⟨(hE _ h).2.1, h⟩⟩
theorem nextL_lt (S : Int) (E : List (Int × Int)) (a : Int) : (nextL S E a).Pairwise (· < ·) := (sites_lt S).filter _
theorem next_perm {S : Int} {E : List (Int × Int)} {H : Int} (h : GoodT S E H) (a : Int) : ((E.filter fun e => e.1 == a).map (·.2)).Perm (nextL S E a) := by
  refine (List.perm_ext_iff_of_nodup ?_ (nodup_of_lt (nextL_lt S E a))).2 fun n => ?_
  · rw [List.Nodup, List.pairwise_map]
    refine List.Pairwise.imp_of_mem ?_ (h.2.2.filter fun e => e.1 == a)
    rintro ⟨x1, x2⟩ ⟨y1, y2⟩ hx hy hne hxy
    simp at hx hy hxy
    exact hne (by rw [hx.2, hy.2, hxy])
  · rw [mem_nextL h.2.1]
    simp
theorem sorted_unique {l m : List Int} (hp : l.Perm m) (hl : l.Pairwise (· ≤ ·)) (hm : m.Pairwise (· ≤ ·)) : l = m :=
  List.Perm.eq_of_pairwise (fun _ _ _ _ h1 h2 => Int.le_antisymm h1 h2) hl hm hp

/-- Who is within. -/
def withinT (S : Int) (E : List (Int × Int)) (H : Int) (a : Int) : List Int := (sites S).filter fun n => decide (0 ≤ farT S E H a n ∧ farT S E H a n ≤ H)
/-- Where it goes on. -/
def onwardT (S : Int) (E : List (Int × Int)) (H : Int) (a x : Int) : List Int := if 0 ≤ farT S E H a x ∧ farT S E H a x < H then (nextT S E H x).filter fun n => !(n == a) else []
/-- The greatest way. -/
def mostOf (S : Int) (E : List (Int × Int)) (H : Int) (m : Int) (a : Int) : List Int → Int := List.foldl (fun m b => max m (farT S E H a b)) m
def roundsT (S : Int) (E : List (Int × Int)) (H : Int) : Int := if GoodT S E H then (sites S).foldl (fun m a => mostOf S E H m a (withinT S E H a)) 0 else 0
end Go.Proofs.Ytcfagojkeholmaa
