/-
  THE ORDER of texts; lists in order. Of no program.
-/
import Derived.Test.YtjgdmbfkondakaaProg
import Derived.WalkKit
import Derived.Lib.Bytealg
import Derived.Sort.Statements
namespace Go.Proofs.Ytjgdmbfkondakaa
open Go.RowKit Go.Sort

/-- What a three-way comparison keeps to. -/
structure Cmp3 {α : Type} (c : α → α → Int) : Prop where
  neg : ∀ a b, c b a = - c a b
  trans : ∀ a b d, c a b < 0 → c b d < 0 → c a d < 0
  sub : ∀ a b, c a b = 0 → ∀ d, c a d = c b d
theorem Cmp3.self {α : Type} {c : α → α → Int} (h : Cmp3 c) (a : α) : c a a = 0 := by have := h.neg a a; omega
theorem Cmp3.zero {α : Type} {c : α → α → Int} (h : Cmp3 c) {a b : α} (e : c a b = 0) : c b a = 0 := by have := h.neg a b; omega
theorem Cmp3.sub' {α : Type} {c : α → α → Int} (h : Cmp3 c) {a b : α} (e : c a b = 0) (d : α) : c d a = c d b := by
  have h1 := h.sub a b e d; have h2 := h.neg a d; have h3 := h.neg b d; omega
theorem Cmp3.swo {α : Type} {c : α → α → Int} (h : Cmp3 c) : SWO (fun x y => decide (c x y < 0)) where
  irrefl x := by have := h.self x; simp; omega
  trans x y z h1 h2 := by simp at *; exact h.trans x y z h1 h2
  ntrans x y z h1 h2 := by
    simp only [decide_eq_false_iff_not] at *
    intro h3
    have n1 := h.neg x y
    have n2 := h.neg y z
    by_cases e1 : c x y = 0
    · have := h.sub x y e1 z; omega
    · by_cases e2 : c y z = 0
      · have := h.sub' e2 x; omega
      · have h4 := h.trans z y x (by omega) (by omega)
        have n3 := h.neg x z; omega
/-- One comparison, and where it says nothing another one. -/
def cor {α : Type} (c1 c2 : α → α → Int) (a b : α) : Int := if c1 a b = 0 then c2 a b else c1 a b
theorem Cmp3.or {α : Type} {c1 c2 : α → α → Int} (h1 : Cmp3 c1) (h2 : Cmp3 c2) : Cmp3 (cor c1 c2) where
  neg a b := by
    unfold cor
    have n1 := h1.neg a b
    by_cases e : c1 a b = 0
    · rw [if_pos e, if_pos (by omega)]; exact h2.neg a b
    · rw [if_neg e, if_neg (by omega)]; exact n1
  trans a b d := by
    unfold cor
    intro k1 k2
    by_cases e1 : c1 a b = 0
    · rw [if_pos e1] at k1
      have s := h1.sub a b e1 d
      by_cases e2 : c1 b d = 0
      · rw [if_pos e2] at k2
        rw [if_pos (by omega)]
        exact h2.trans a b d k1 k2
      · rw [if_neg e2] at k2
        rw [if_neg (by omega)]; omega
    · rw [if_neg e1] at k1
      by_cases e2 : c1 b d = 0
      · have s := h1.sub' e2 a
        rw [if_neg (by omega)]; omega
      · rw [if_neg e2] at k2
        have := h1.trans a b d k1 k2
        rw [if_neg (by omega)]; exact this
  sub a b := by
    unfold cor
    intro k d
    by_cases e1 : c1 a b = 0
    · rw [if_pos e1] at k
      rw [h1.sub a b e1 d, h2.sub a b k d]
    · rw [if_neg e1] at k; exact absurd k e1
theorem Cmp3.on {α β : Type} {c : α → α → Int} (h : Cmp3 c) (f : β → α) : Cmp3 (fun a b => c (f a) (f b)) where
  neg _ _ := h.neg _ _
  trans _ _ _ := h.trans _ _ _
  sub _ _ e _ := h.sub _ _ e _

theorem cb_eq : ∀ (a b : List UInt8), Lib.compareBytes a b = 0 → a = b
  | [], [], _ => rfl
  | [], _ :: _, h => by simp [Lib.compareBytes] at h
  | _ :: _, [], h => by simp [Lib.compareBytes] at h
  | x :: a, y :: b, h => by
    unfold Lib.compareBytes at h
    by_cases h1 : x < y
    · rw [if_pos h1] at h; cases h
    · rw [if_neg h1] at h
      by_cases h2 : y < x
      · rw [if_pos h2] at h; cases h
      · rw [if_neg h2] at h
        have e : x = y := UInt8.toNat_inj.1 (by rw [UInt8.lt_iff_toNat_lt] at h1 h2; omega)
        rw [e, cb_eq a b h]
theorem cb_neg : ∀ (a b : List UInt8), Lib.compareBytes b a = - Lib.compareBytes a b
  | [], [] => rfl
  | [], _ :: _ => rfl
  | _ :: _, [] => rfl
  | x :: a, y :: b => by
    unfold Lib.compareBytes
    by_cases h1 : x < y
    · have h2 : ¬ y < x := by rw [UInt8.lt_iff_toNat_lt] at h1 ⊢; omega
      simp [h1, h2]
    · by_cases h2 : y < x
      · simp [h1, h2]
      · simp [h1, h2]; exact cb_neg a b
theorem cb_trans : ∀ (a b d : List UInt8), Lib.compareBytes a b < 0 → Lib.compareBytes b d < 0 → Lib.compareBytes a d < 0
  | [], [], d, h, _ => by simp [Lib.compareBytes] at h
  | [], _ :: _, [], _, h => by simp [Lib.compareBytes] at h
  | [], _ :: _, _ :: _, _, _ => by simp [Lib.compareBytes]
  | _ :: _, [], _, h, _ => by simp [Lib.compareBytes] at h
  | _ :: _, _ :: _, [], _, h => by simp [Lib.compareBytes] at h
  | x :: a, y :: b, z :: d, h1, h2 => by
    unfold Lib.compareBytes at h1 h2 ⊢
    simp only [UInt8.lt_iff_toNat_lt] at h1 h2 ⊢
    by_cases k1 : x.toNat < y.toNat
    · by_cases k3 : z.toNat < y.toNat
      · rw [if_neg (by omega), if_pos k3] at h2; simp at h2
      · rw [if_pos (by omega)]; decide
    · rw [if_neg k1] at h1
      by_cases k2 : y.toNat < x.toNat
      · rw [if_pos k2] at h1; simp at h1
      · rw [if_neg k2] at h1
        by_cases k3 : y.toNat < z.toNat
        · rw [if_pos (by omega)]; decide
        · rw [if_neg k3] at h2
          by_cases k4 : z.toNat < y.toNat
          · rw [if_pos k4] at h2; simp at h2
          · rw [if_neg k4] at h2
            rw [if_neg (by omega), if_neg (by omega)]
            exact cb_trans a b d h1 h2
/-- Texts, as strings.Compare has them. -/
def cmpS (a b : ByteArray) : Int := Lib.compareBytes a.data.toList b.data.toList
theorem arr_inj {a b : ByteArray} (h : a.data.toList = b.data.toList) : a = b := by
  cases a; cases b
  simpa using h
theorem cmpS_eq {a b : ByteArray} (h : cmpS a b = 0) : a = b := arr_inj (cb_eq _ _ h)
theorem cmpS3 : Cmp3 cmpS where
  neg _ _ := cb_neg _ _
  trans _ _ _ := cb_trans _ _ _
  sub _ _ h _ := by rw [cmpS_eq h]
section
variable {α : Type} {c : α → α → Int}
/-- In order, each once. -/
def Ord (c : α → α → Int) (l : List α) : Prop := l.Pairwise fun a b => c a b < 0
/-- One more, at its place. -/
def insC (c : α → α → Int) (x : α) : List α → List α
  | [] => [x]
  | y :: r => if c y x < 0 then y :: insC c x r else x :: y :: r
theorem insC_perm (x : α) : ∀ l : List α, (insC c x l).Perm (x :: l)
  | [] => List.Perm.refl _
  | y :: r => by
    unfold insC
    split
    · exact ((insC_perm x r).cons y).trans (List.Perm.swap x y r)
    · exact List.Perm.refl _
theorem insC_ord (h : Cmp3 c) {x : α} : ∀ {l : List α}, Ord c l → (∀ y ∈ l, c y x ≠ 0) → Ord c (insC c x l)
  | [], _, _ => List.pairwise_singleton _ _
  | y :: r, hl, hn => by
    obtain ⟨h1, h2⟩ := List.pairwise_cons.1 hl
    unfold insC
    split
    · rename_i hlt
      refine List.pairwise_cons.2 ⟨fun z hz => ?_, insC_ord h h2 (fun z hz => hn z (by simp [hz]))⟩
      rcases List.mem_cons.1 ((insC_perm x r).mem_iff.1 hz) with rfl | hz
      · exact hlt
      · exact h1 z hz
    · rename_i hge
      have hxy : c x y < 0 := by
        have := hn y (by simp); have := h.neg x y; omega
      refine List.pairwise_cons.2 ⟨fun z hz => ?_, hl⟩
      rcases List.mem_cons.1 hz with rfl | hz
      · exact hxy
      · exact h.trans x y z hxy (h1 z hz)
theorem Ord.uniq (h : Cmp3 c) {l l' : List α} (hl : Ord c l) (hp : l'.Perm l) (hs : l'.Pairwise fun a b => ¬ c b a < 0) : l' = l := by
  have hnd : ∀ a ∈ l, ∀ b ∈ l, c a b = 0 → a = b := by
    clear hp hs
    induction l with
    | nil => intro a ha; cases ha
    | cons x r ih =>
      obtain ⟨h1, h2⟩ := List.pairwise_cons.1 hl
      intro a ha b hb e
      rcases List.mem_cons.1 ha with rfl | ha' <;> rcases List.mem_cons.1 hb with rfl | hb'
      · rfl
      · have := h1 b hb'; omega
      · have := h1 a ha'; have := h.neg a b; omega
      · exact ih h2 a ha' b hb' e
  exact List.Perm.eq_of_pairwise (le := fun a b : α => ¬ c b a < 0) (fun a b ha hb h1 h2 => hnd a (hp.mem_iff.1 ha) b hb (by have := h.neg a b; omega)) hs (hl.imp (fun {a b} hlt => by have := h.neg a b; omega)) hp
theorem Ord.filter (p : α → Bool) {l : List α} (h : Ord c l) : Ord c (l.filter p) := List.Pairwise.filter p h
end
end Go.Proofs.Ytjgdmbfkondakaa
