/-
  TOPOLOGIES: edges between sites, how far it is, who is within. Of no program.
-/
import Derived.Test.YtcfagojkeholmaaRow
namespace Go.Proofs.Ytcfagojkeholmaa

/-- The sites 1 to S. -/
def sites (S : Int) : List Int := (List.range S.toNat).map fun i : Nat => (i : Int) + 1
theorem mem_sites {S n : Int} : n ∈ sites S ↔ 1 ≤ n ∧ n ≤ S := by
  simp only [sites, List.mem_map, List.mem_range]
  constructor
  · rintro ⟨i, hi, rfl⟩; omega
  · rintro ⟨h1, h2⟩; exact ⟨(n - 1).toNat, by omega, by omega⟩
theorem sites_lt (S : Int) : (sites S).Pairwise (· < ·) := by
  unfold sites
  rw [List.pairwise_map]
  exact List.Pairwise.imp (fun h => by omega) List.pairwise_lt_range
theorem nodup_of_lt {l : List Int} (h : l.Pairwise (· < ·)) : l.Nodup := h.imp fun h => by omega

/-- An edge leads from a site to another one. -/
def EdgeOk (S : Int) (e : Int × Int) : Prop := (1 ≤ e.1 ∧ e.1 ≤ S) ∧ (1 ≤ e.2 ∧ e.2 ≤ S) ∧ e.1 ≠ e.2
instance (S : Int) (e : Int × Int) : Decidable (EdgeOk S e) := by unfold EdgeOk; infer_instance
/-- A topology that may be. -/
def GoodT (S : Int) (E : List (Int × Int)) (H : Int) : Prop := (1 ≤ S ∧ S ≤ 8 ∧ 0 ≤ H ∧ H ≤ 8) ∧ (∀ e ∈ E, EdgeOk S e) ∧ E.Nodup
instance (S : Int) (E : List (Int × Int)) (H : Int) : Decidable (GoodT S E H) := by unfold GoodT; infer_instance
def goodB (S : Int) (E : List (Int × Int)) (H : Int) : Bool := decide (GoodT S E H)
theorem goodB_true {S : Int} {E : List (Int × Int)} {H : Int} (h : GoodT S E H) : goodB S E H = true := decide_eq_true h
theorem goodB_false {S : Int} {E : List (Int × Int)} {H : Int} (h : ¬ GoodT S E H) : goodB S E H = false := decide_eq_false h

/-- Who is in a list of no two alike, all of them in another: it is no longer than that. -/
theorem nodup_le {α : Type} [DecidableEq α] : ∀ {l m : List α}, l.Nodup → (∀ x ∈ l, x ∈ m) → l.length ≤ m.length
  | [], _, _, _ => Nat.zero_le _
  | x :: l, m, hn, hs => by
    obtain ⟨hx, hl⟩ := List.nodup_cons.1 hn
    have hm : x ∈ m := hs x (by simp)
    have := nodup_le (l := l) (m := m.erase x) hl fun y hy => by
      refine (List.mem_erase_of_ne ?_).2 (hs y (by simp [hy]))
      rintro rfl; exact hx hy
    rw [List.length_erase_of_mem hm] at this
    have := List.length_pos_of_mem hm
    simp only [List.length_cons]; omega
/-- A good topology has no more edges than there are pairs of sites. -/
theorem GoodT.few {S : Int} {E : List (Int × Int)} {H : Int} (h : GoodT S E H) : E.length ≤ 64 := by
  have hm : ∀ e ∈ E, e ∈ (sites 8).flatMap fun a => (sites 8).map fun b => (a, b) := by
    rintro ⟨a, b⟩ he
    have hok := h.2.1 _ he
    have := h.1
    simp only [EdgeOk] at hok
    simp only [List.mem_flatMap, List.mem_map, mem_sites]
    exact ⟨a, by omega, b, by omega, rfl⟩
  exact Nat.le_trans (nodup_le h.2.2 hm) (by decide)

/-- Who is there behind n edges at most, from a on. -/
def R (E : List (Int × Int)) (a : Int) : Nat → Int → Bool
  | 0, x => x == a
  | n + 1, x => R E a n x || E.any fun e => R E a n e.1 && e.2 == x
theorem R_succ {E : List (Int × Int)} {a : Int} {n : Nat} {x : Int} : R E a (n + 1) x = true ↔ R E a n x = true ∨ ∃ e ∈ E, R E a n e.1 = true ∧ e.2 = x := by
  simp only [R, Bool.or_eq_true, List.any_eq_true, Bool.and_eq_true, beq_iff_eq]
theorem R_mono {E : List (Int × Int)} {a x : Int} {n m : Nat} (h : n ≤ m) (hr : R E a n x = true) : R E a m x = true := by
  induction m with
  | zero => obtain rfl : n = 0 := by omega
            exact hr
  | succ m ih =>
    by_cases hn : n = m + 1
    · subst hn; exact hr
    · exact R_succ.2 (.inl (ih (by omega)))
theorem R_site {S : Int} {E : List (Int × Int)} {a : Int} (hE : ∀ e ∈ E, EdgeOk S e) (ha : 1 ≤ a ∧ a ≤ S) : ∀ (n : Nat) (x : Int), R E a n x = true → 1 ≤ x ∧ x ≤ S
  | 0, x, h => by simp only [R, beq_iff_eq] at h; subst h; exact ha
  | n + 1, x, h => by
    rcases R_succ.1 h with h | ⟨e, he, _, rfl⟩
    · exact R_site hE ha n x h
    · exact (hE e he).2.1
/-- If a step brings nobody new, none does. -/
theorem R_stay {E : List (Int × Int)} {a : Int} {n : Nat} (h : ∀ x, R E a (n + 1) x = true → R E a n x = true) : ∀ k x, R E a (n + k) x = true → R E a n x = true
  | 0, _, hx => hx
  | k + 1, x, hx => by
    rcases R_succ.1 (show R E a (n + k + 1) x = true from hx) with h' | ⟨e, he, h1, rfl⟩
    · exact R_stay h k x h'
    · exact h _ (R_succ.2 (.inr ⟨e, he, R_stay h k _ h1, rfl⟩))
theorem countP_lt {p q : Int → Bool} : ∀ {l : List Int} {x : Int}, (∀ y, p y = true → q y = true) → x ∈ l → q x = true → p x = false → l.countP p < l.countP q
  | y :: l, x, hpq, hx, hq, hp => by
    rw [List.countP_cons, List.countP_cons]
    have hle : l.countP p ≤ l.countP q := List.countP_mono_left fun z _ => hpq z
    rcases List.mem_cons.1 hx with rfl | hx
    · rw [hq, hp]; simp; omega
    · have := countP_lt hpq hx hq hp
      have : (if p y = true then 1 else 0) ≤ (if q y = true then 1 else 0) := by
        by_cases h : p y = true
        · rw [if_pos h, if_pos (hpq y h)]; exact Nat.le_refl _
        · rw [if_neg h]; exact Nat.zero_le _
      omega
/-- All that are ever reached are reached by fewer edges than there are sites. -/
theorem R_all {S : Int} {E : List (Int × Int)} {a : Int} (hE : ∀ e ∈ E, EdgeOk S e) (ha : 1 ≤ a ∧ a ≤ S) (n : Nat) (x : Int) (h : R E a n x = true) : R E a (S.toNat - 1) x = true := by
  by_cases hst : ∃ k, k < S.toNat ∧ ∀ x, R E a (k + 1) x = true → R E a k x = true
  · obtain ⟨k, hk, hs⟩ := hst
    have : R E a k x = true := R_stay hs n x (R_mono (by omega) h)
    exact R_mono (by omega) this
  · exfalso
    have hgrow : ∀ k, k ≤ S.toNat → k + 1 ≤ (sites S).countP (R E a k) := by
      intro k
      induction k with
      | zero =>
        intro _
        exact List.countP_pos_iff.2 ⟨a, mem_sites.2 ha, by simp [R]⟩
      | succ k ih =>
        intro hk
        have h1 := ih (by omega)
        obtain ⟨x, hx1, hx2⟩ : ∃ x, R E a (k + 1) x = true ∧ R E a k x = false := by
          apply Classical.byContradiction
          intro hn
          apply hst
          refine ⟨k, by omega, fun x hx => ?_⟩
          cases hr : R E a k x
          · exact absurd ⟨x, hx, hr⟩ hn
          · rfl
        have := countP_lt (p := R E a k) (q := R E a (k + 1)) (l := sites S) (fun y hy => R_mono (by omega) hy) (mem_sites.2 (R_site hE ha _ _ hx1)) hx1 hx2
        omega
    have h1 := hgrow S.toNat (Nat.le_refl _)
    have h2 : (sites S).countP (R E a S.toNat) ≤ (sites S).length := List.countP_le_length
    simp [sites] at h1 h2
    omega

/-- The first number from n on, of k ones, of which p holds; -1 if there is none. -/
def first (p : Nat → Bool) : Nat → Nat → Int
  | _, 0 => -1
  | n, k + 1 => if p n then (n : Int) else first p (n + 1) k
theorem first_none {p : Nat → Bool} : ∀ {n k : Nat}, (∀ m, n ≤ m → m < n + k → p m = false) → first p n k = -1
  | _, 0, _ => rfl
  | n, k + 1, h => by
    rw [first, if_neg (by rw [h n (Nat.le_refl _) (by omega)]; simp)]
    exact first_none fun m h1 h2 => h m (by omega) (by omega)
theorem first_some {p : Nat → Bool} : ∀ {n k m : Nat}, n ≤ m → m < n + k → p m = true → (∀ j, n ≤ j → j < m → p j = false) → first p n k = m
  | n, 0, m, h1, h2, _, _ => by omega
  | n, k + 1, m, h1, h2, hp, ha => by
    rw [first]
    by_cases hn : n = m
    · subst hn; rw [if_pos hp]
    · rw [if_neg (by rw [ha n (Nat.le_refl _) (by omega)]; simp)]
      exact first_some (by omega) (by omega) hp fun j h1 h2 => ha j (by omega) h2
theorem first_cases (p : Nat → Bool) (k : Nat) : (first p 0 k = -1 ∧ ∀ m, m < k → p m = false) ∨ ∃ m, m < k ∧ first p 0 k = (m : Int) ∧ p m = true ∧ ∀ j, j < m → p j = false := by
  by_cases h : ∃ m, m < k ∧ p m = true
  · right
    have key : ∀ m, m < k → p m = true → ∃ m, m < k ∧ p m = true ∧ ∀ j, j < m → p j = false := by
      intro m
      induction m using Nat.strongRecOn with
      | ind m ih =>
        intro hm hp
        by_cases h' : ∃ j, j < m ∧ p j = true
        · obtain ⟨j, hj, hpj⟩ := h'; exact ih j hj (by omega) hpj
        · refine ⟨m, hm, hp, fun j hj => ?_⟩
          cases hpj : p j
          · rfl
          · exact absurd ⟨j, hj, hpj⟩ h'
    obtain ⟨m, hm, hp⟩ := h
    obtain ⟨m, hm, hp, ha⟩ := key m hm hp
    exact ⟨m, hm, first_some (Nat.zero_le _) (by omega) hp fun j _ hj => ha j hj, hp, ha⟩
  · left
    have : ∀ m, m < k → p m = false := fun m hm => by
      cases hp : p m
      · rfl
      · exact absurd ⟨m, hm, hp⟩ h
    exact ⟨first_none fun m _ hm => this m (by omega), this⟩

/-- How far it is from a to x, if that is at most L. -/
def upto (E : List (Int × Int)) (a : Int) (L : Nat) (x : Int) : Int := first (fun n => R E a n x) 0 (L + 1)
/-- How far it is from a to x: two sites of a good topology. -/
def far (E : List (Int × Int)) (a x : Int) : Int := upto E a 8 x
theorem upto_cases (E : List (Int × Int)) (a : Int) (L : Nat) (x : Int) : (upto E a L x = -1 ∧ ∀ m, m ≤ L → R E a m x = false) ∨ ∃ m, m ≤ L ∧ upto E a L x = (m : Int) ∧ R E a m x = true ∧ ∀ j, j < m → R E a j x = false := by
  rcases first_cases (fun n => R E a n x) (L + 1) with ⟨h1, h2⟩ | ⟨m, hm, h⟩
  · exact .inl ⟨h1, fun m hm => h2 m (by omega)⟩
  · exact .inr ⟨m, by omega, h⟩
theorem upto_range (E : List (Int × Int)) (a : Int) (L : Nat) (x : Int) : -1 ≤ upto E a L x ∧ upto E a L x ≤ L := by
  rcases upto_cases E a L x with ⟨h, _⟩ | ⟨m, hm, h, _⟩ <;> omega
theorem upto_le {E : List (Int × Int)} {a x : Int} {L n : Nat} (hn : n ≤ L) : R E a n x = true ↔ 0 ≤ upto E a L x ∧ upto E a L x ≤ n := by
  rcases upto_cases E a L x with ⟨h, ha⟩ | ⟨m, hm, h, hr, ha⟩
  · rw [h, ha n hn]; simp
  · rw [h]
    constructor
    · intro hrn
      refine ⟨by omega, ?_⟩
      by_cases hlt : n < m
      · rw [ha n hlt] at hrn; exact absurd hrn (by simp)
      · omega
    · rintro ⟨_, h2⟩; exact R_mono (by omega) hr
theorem upto_eq {E : List (Int × Int)} {a x : Int} {L : Nat} {d : Int} (hd : -1 ≤ d) (hdL : d ≤ L) (h : ∀ n, n ≤ L → (R E a n x = true ↔ 0 ≤ d ∧ d ≤ n)) : upto E a L x = d := by
  have hr := upto_range E a L x
  by_cases hd0 : 0 ≤ d
  · have h1 := (h d.toNat (by omega)).2 (by omega)
    have h2 := (upto_le (L := L) (by omega)).1 h1
    have h3 := (upto_le (L := L) (E := E) (a := a) (x := x) (n := (upto E a L x).toNat) (by omega)).2 (by omega)
    have h4 := (h _ (by omega)).1 h3
    omega
  · by_cases hu : 0 ≤ upto E a L x
    · have h3 := (upto_le (L := L) (E := E) (a := a) (x := x) (n := (upto E a L x).toNat) (by omega)).2 (by omega)
      have h4 := (h _ (by omega)).1 h3
      omega
    · omega
/-- Where nobody is farther than L, that is how far it is. -/
theorem upto_same {E : List (Int × Int)} {a x : Int} {L M : Nat} (h : ∀ n, R E a n x = true → R E a L x = true) (h' : ∀ n, R E a n x = true → R E a M x = true) : upto E a L x = upto E a M x := by
  have hr := upto_range E a M x
  by_cases hm : 0 ≤ upto E a M x
  · have h3 := (upto_le (L := M) (E := E) (a := a) (x := x) (n := (upto E a M x).toNat) (by omega)).2 (by omega)
    have hL := h _ h3
    have hl := (upto_le (L := L) (E := E) (a := a) (x := x) (n := L) (by omega)).1 hL
    have hl2 := (upto_le (L := L) (E := E) (a := a) (x := x) (n := (upto E a L x).toNat) (by omega)).2 (by omega)
    by_cases hlt : upto E a L x < upto E a M x
    · have := (upto_le (L := M) (E := E) (a := a) (x := x) (n := (upto E a L x).toNat) (by omega)).1 hl2; omega
    · by_cases hgt : upto E a M x < upto E a L x
      · have := (upto_le (L := L) (E := E) (a := a) (x := x) (n := (upto E a M x).toNat) (by omega)).1 h3; omega
      · omega
  · have hl := upto_range E a L x
    by_cases hu : 0 ≤ upto E a L x
    · have h3 := (upto_le (L := L) (E := E) (a := a) (x := x) (n := (upto E a L x).toNat) (by omega)).2 (by omega)
      have h4 := (upto_le (L := M) (E := E) (a := a) (x := x) (n := M) (by omega)).1 (h' _ h3)
      omega
    · omega
/-- Two sites of a good topology: what is reached is told by how far it is. -/
theorem far_le {S : Int} {E : List (Int × Int)} {a x : Int} (hS : S ≤ 8) (hE : ∀ e ∈ E, EdgeOk S e) (ha : 1 ≤ a ∧ a ≤ S) (n : Nat) : R E a n x = true ↔ 0 ≤ far E a x ∧ far E a x ≤ n := by
  by_cases hn : n ≤ 8
  · exact upto_le hn
  · constructor
    · intro h
      have h8 : R E a 8 x = true := R_mono (by omega) (R_all hE ha n x h)
      have := (upto_le (L := 8) (Nat.le_refl _)).1 h8
      unfold far; omega
    · rintro ⟨h1, h2⟩
      have h8 : R E a 8 x = true := (upto_le (L := 8) (Nat.le_refl _)).2 ⟨h1, by have := (upto_range E a 8 x).2; unfold far at h1; omega⟩
      exact R_mono (by omega) h8
theorem far_range (E : List (Int × Int)) (a x : Int) : -1 ≤ far E a x ∧ far E a x ≤ 8 := upto_range E a 8 x
end Go.Proofs.Ytcfagojkeholmaa
