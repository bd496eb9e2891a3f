/-
  What is left to be sorted, and what that makes of the whole; of no program.
-/
import Derived.Test.YtooaiomghbjpiaaPinsU
import Derived.Sort.LotD2
namespace Go.Proofs.Ytooaiomghbjpiaa
open Go.RowKit Go.Sort Go.Shelf
set_option maxRecDepth 20000

/-- Whoever sorts a' to b' of dk has sorted a to b of d. -/
def Rest (a b a' b' : Nat) (d dk : Array Int) : Prop := ∀ e, PermIn a' b' dk e → SortedIn ltU a' b' e → PermIn a b d e ∧ SortedIn ltU a b e
theorem Rest.refl (a b : Nat) (d : Array Int) : Rest a b a b d d := fun _ h1 h2 => ⟨h1, h2⟩
theorem Rest.perm {a b a' b' : Nat} {d dk dj : Array Int} (h : Rest a b a' b' d dk) (p : PermIn a' b' dk dj) : Rest a b a' b' d dj := fun e h1 h2 => h e (permIn_trans _ _ _ _ _ p h1) h2
theorem Rest.trans {a b a' b' s t : Nat} {d dk dj : Array Int} (h : Rest a b a' b' d dk) (k : Rest a' b' s t dk dj) : Rest a b s t d dj := fun e h1 h2 => h e (k e h1 h2).1 (k e h1 h2).2
theorem ltU_no {x y : Int} : ltU x y = false ↔ y ≤ x := by unfold ltU; simp
theorem ltU_yes {x y : Int} : ltU x y = true ↔ x < y := by unfold ltU; simp
/-- All that equal the pivot are split off on the left. -/
theorem rest_eq {a b i : Nat} {d e : Array Int} {pv : Int} (a0 : 0 < a) (hb : b ≤ d.size) (hB : Sort.Below ltU a b d) (hl : ltU d[a - 1]! pv = false) (hp : PermIn a b d e) (ai : a < i) (ib : i ≤ b) (h1 : ∀ t, a ≤ t → t < i → ltU pv e[t]! = false) (h2 : ∀ t, i ≤ t → t < b → ltU pv e[t]! = true) : Rest a b i b d e ∧ Sort.Below ltU i b e := by
  have hge : ∀ t, a ≤ t → t < b → ltU d[t]! pv = false := fun t t1 t2 => by
    have := hB.resolve_left (by omega) t t1 t2
    rw [ltU_no] at *
    omega
  have hge2 := permIn_all d e a b (fun x => ltU x pv = false) hb hp hge
  have he : b ≤ e.size := by rw [hp.1]; exact hb
  refine ⟨fun f p s => ⟨permIn_trans _ _ _ _ _ hp (permIn_mono _ _ i b a b (by omega) (Nat.le_refl _) he p), ?_⟩, Or.inr fun t t1 t2 => ?_⟩
  · have ho : ∀ t, t < i → f[t]! = e[t]! := fun t ht => p.2.1 t (Or.inl ht)
    exact sorted_glue_eq swoU pv s (fun t t1 t2 => by rw [ho t t2]; exact h1 t t1 t2) (fun t t1 t2 => by rw [ho t t2]; exact hge2 t t1 (by omega)) (permIn_all e f i b (fun x => ltU pv x = true) he p h2)
  · have k1 := h2 t t1 t2
    have k2 := h1 (i - 1) (by omega) (by omega)
    rw [ltU_no] at *
    rw [ltU_yes] at k1
    omega
section
variable {w W : World} {base g cap n a b j : Nat} {d : Array Int}
/-- The left side is sorted first. -/
theorem rest_left {e f : Array Int} (hb : b ≤ d.size) (hp : PermIn a b d e) (aj : a ≤ j) (jb : j < b) (h1 : ∀ t, a ≤ t → t < j → ltU e[t]! e[j]! = true) (h2 : ∀ t, j < t → t < b → ltU e[t]! e[j]! = false) (p : PermIn a j e f) (s : SortedIn ltU a j f) : Rest a b (j + 1) b d f ∧ Sort.Below ltU (j + 1) b f := by
  have he : b ≤ e.size := by rw [hp.1]; exact hb
  have hf : b ≤ f.size := by rw [p.1]; exact he
  have ho : ∀ t, j ≤ t → f[t]! = e[t]! := fun t ht => p.2.1 t (Or.inr ht)
  have q1 := permIn_all e f a j (fun x => ltU x e[j]! = true) (by omega) p h1
  have q2 : ∀ t, j + 1 ≤ t → t < b → ltU f[t]! e[j]! = false := fun t t1 t2 => by rw [ho t (by omega)]; exact h2 t t1 t2
  refine ⟨fun r pr sr => ⟨permIn_trans _ _ _ _ _ hp (permIn_trans _ _ _ _ _ (permIn_mono _ _ a j a b (Nat.le_refl _) (by omega) he p) (permIn_mono _ _ (j + 1) b a b (by omega) (Nat.le_refl _) hf pr)), ?_⟩, Or.inr fun t t1 t2 => by rw [Nat.add_sub_cancel, ho j (Nat.le_refl _)]; exact q2 t t1 t2⟩
  have hr : ∀ t, t ≤ j → r[t]! = f[t]! := fun t ht => pr.2.1 t (Or.inl (by omega))
  have q3 := permIn_all f r (j + 1) b (fun x => ltU x e[j]! = false) hf pr q2
  exact sorted_glue swoU (s.congr fun t _ t2 => hr t (by omega)) sr (fun t t1 t2 => by rw [hr t (by omega), hr j (Nat.le_refl _), ho j (Nat.le_refl _)]; exact q1 t t1 t2) (fun t t1 t2 => by rw [hr j (Nat.le_refl _), ho j (Nat.le_refl _)]; exact q3 t t1 t2)
/-- The right side is sorted first. -/
theorem rest_right {e f : Array Int} (hb : b ≤ d.size) (hB : Sort.Below ltU a b d) (hp : PermIn a b d e) (aj : a ≤ j) (jb : j < b) (h1 : ∀ t, a ≤ t → t < j → ltU e[t]! e[j]! = true) (h2 : ∀ t, j < t → t < b → ltU e[t]! e[j]! = false) (p : PermIn (j + 1) b e f) (s : SortedIn ltU (j + 1) b f) : Rest a b a j d f ∧ Sort.Below ltU a j f := by
  have he : b ≤ e.size := by rw [hp.1]; exact hb
  have hf : b ≤ f.size := by rw [p.1]; exact he
  have ho : ∀ t, t ≤ j → f[t]! = e[t]! := fun t ht => p.2.1 t (Or.inl (by omega))
  have q2 := permIn_all e f (j + 1) b (fun x => ltU x e[j]! = false) he p (fun t t1 t2 => h2 t t1 t2)
  have q1 : ∀ t, a ≤ t → t < j → ltU f[t]! e[j]! = true := fun t t1 t2 => by rw [ho t (by omega)]; exact h1 t t1 t2
  refine ⟨fun r pr sr => ⟨permIn_trans _ _ _ _ _ hp (permIn_trans _ _ _ _ _ (permIn_mono _ _ (j + 1) b a b (by omega) (Nat.le_refl _) he p) (permIn_mono _ _ a j a b (Nat.le_refl _) (by omega) hf pr)), ?_⟩, ?_⟩
  · have hr : ∀ t, j ≤ t → r[t]! = f[t]! := fun t ht => pr.2.1 t (Or.inr ht)
    have q3 := permIn_all f r a j (fun x => ltU x e[j]! = true) (by omega) pr q1
    exact sorted_glue swoU sr (s.congr fun t t1 _ => hr t (by omega)) (fun t t1 t2 => by rw [hr j (Nat.le_refl _), ho j (Nat.le_refl _)]; exact q3 t t1 t2) (fun t t1 t2 => by rw [hr t (by omega), hr j (Nat.le_refl _), ho j (Nat.le_refl _)]; exact q2 t t1 t2)
  · have hb2 := Below.perm (Below.perm hB hb hp) he (permIn_mono _ _ (j + 1) b a b (by omega) (Nat.le_refl _) he p)
    exact Below.mono hb2 (by omega)
end
end Go.Proofs.Ytooaiomghbjpiaa
