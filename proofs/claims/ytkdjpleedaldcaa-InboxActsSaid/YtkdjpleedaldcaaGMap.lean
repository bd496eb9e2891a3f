/-
  MAPS, told by a list of what they hold, in whatever order. Of no program.
-/
import Derived.Maps.OwnSet
import Derived.Maps.OwnIn
import Derived.Lib.SlMapFilter
import Derived.Test.YtkdjpleedaldcaaProg
namespace Go.Proofs.Ytkdjpleedaldcaa
open Go.RowKit Go.Maps Go.WideShapes
open Go.ChangeMaps (notKey putKey delKey mem_insert_iff eq_of_perm_sorted)

section
variable {α H : Type} (kl : α → Lit) (d : α → DataW H)

/-- The entries. -/
def entsG (l : List α) : List (Lit × DataW H) := l.map fun x => (kl x, d x)

/-- What the map reads as. -/
def DofG (l : List α) : DataW H := .map ((entsG kl d l).foldr DataW.insert [])

/-- The keys differ. -/
def Diff (l : List α) : Prop := l.Pairwise fun a b => kl a ≠ kl b
end

section
variable {α H : Type} {kl : α → Lit} {d : α → DataW H} {Kd : Lit → Prop} (O : OneKind Kd)

theorem ents_apart {l : List α} (h : Diff kl l) : (entsG kl d l).Pairwise fun p q => p.1 ≠ q.1 := by
  unfold entsG; rw [List.pairwise_map]; exact h

theorem ents_keys {l : List α} (h : ∀ x ∈ l, Kd (kl x)) : Keys Kd (entsG kl d l) := by
  intro p hp
  obtain ⟨x, hx, rfl⟩ := List.mem_map.1 hp
  exact h x hx
include O in

theorem sameKey_iff {a b : Lit} (ha : Kd b) : a.sameKey b = true ↔ a = b := ⟨WideAt.sameKey_eq, fun e => by rw [e]; exact WideAt.sameKey_self (O.key ha)⟩

theorem sameKey_false {a b : Lit} (h : a ≠ b) : a.sameKey b = false := by
  cases e : a.sameKey b
  · rfl
  · exact absurd (WideAt.sameKey_eq e) h
include O in

theorem DofG_perm {l l' : List α} (hk : ∀ x ∈ l, Kd (kl x)) (hd : Diff kl l) (hp : l'.Perm l) : DofG kl d l' = DofG kl d l := by
  have hk' : ∀ x ∈ l', Kd (kl x) := fun x hx => hk x (hp.mem_iff.1 hx)
  have hd' : Diff kl l' := (hp.pairwise_iff (fun {a b} (h : kl a ≠ kl b) => h.symm)).2 hd
  unfold DofG
  congr 1
  exact eq_of_perm_sorted ((sorted_perm _).trans ((hp.map _).trans (sorted_perm _).symm)) (sorted_sorted O _ (ents_keys hk') (ents_apart hd')) (sorted_sorted O _ (ents_keys hk) (ents_apart hd))

theorem size_DofG (l : List α) : Maps.size (DofG kl d l) = l.length := by simp [DofG, entsG, Maps.size, length_sorted]
include O in

theorem has_DofG {l : List α} {z : Lit} (hz : Kd z) : Maps.has (DofG kl d l) z = true ↔ ∃ y ∈ l, kl y = z := by
  show ((entsG kl d l).foldr DataW.insert []).any (fun p => p.1.sameKey z) = true ↔ _
  rw [List.any_eq_true]
  constructor
  · rintro ⟨p, hp, hs⟩
    obtain ⟨y, hy, rfl⟩ := List.mem_map.1 (mem_sorted.1 hp)
    exact ⟨y, hy, (sameKey_iff O hz).1 hs⟩
  · rintro ⟨y, hy, e⟩
    exact ⟨(kl y, d y), mem_sorted.2 (List.mem_map.2 ⟨y, hy, rfl⟩), (sameKey_iff O hz).2 e⟩
include O in

theorem has_DofG_false {l : List α} {z : Lit} (hz : Kd z) (h : ∀ y ∈ l, kl y ≠ z) : Maps.has (DofG kl d l) z = false := by
  cases e : Maps.has (DofG kl d l) z
  · rfl
  · obtain ⟨y, hy, he⟩ := (has_DofG O hz).1 e
    exact absurd he (h y hy)
include O in

theorem atKey_mem {l : List α} (hk : ∀ x ∈ l, Kd (kl x)) (hd : Diff kl l) {x : α} (hx : x ∈ l) (zd : DataW H) : (DofG kl d l).atKey (kl x) zd = d x := by
  refine WideAt.atKey_mem zd (O.key (hk x hx)) ?_ (mem_sorted.2 (List.mem_map.2 ⟨x, hx, rfl⟩))
  exact ((sorted_perm (entsG kl d l)).pairwise_iff (fun {a b} (h : a.1 ≠ b.1) => h.symm)).2 (ents_apart hd)

theorem atKey_none {l : List α} {z : Lit} (h : ∀ y ∈ l, kl y ≠ z) (zd : DataW H) : (DofG kl d l).atKey z zd = zd := by
  unfold DofG DataW.atKey
  have : ((entsG kl d l).foldr DataW.insert []).find? (fun p => p.1.sameKey z) = none := by
    rw [List.find?_eq_none]
    intro p hp
    obtain ⟨y, hy, rfl⟩ := List.mem_map.1 (mem_sorted.1 hp)
    rw [sameKey_false (h y hy)]; simp
  simp only [this]
include O in

theorem del_DofG {l : List α} (hk : ∀ x ∈ l, Kd (kl x)) (hd : Diff kl l) (z : Lit) : (DofG kl d l).del z = DofG kl d (l.filter fun y => !(kl y).sameKey z) := by
  have h := sorted_del O (k := z) (E := entsG kl d l) (E' := entsG kl d (l.filter fun y => !(kl y).sameKey z)) (ents_keys hk) (ents_apart hd) (by
    unfold entsG
    rw [List.filter_map]
    exact List.Perm.refl _)
  unfold DofG
  rw [DataW.del_eq, h]
include O in

theorem put_DofG {l : List α} (hk : ∀ x ∈ l, Kd (kl x)) (hd : Diff kl l) {x : α} (hx : Kd (kl x)) : (DofG kl d l).put (kl x) (d x) = DofG kl d (x :: l.filter fun y => !(kl y).sameKey (kl x)) := by
  have h := sorted_put O (k := kl x) (d := d x) (E := entsG kl d l) (E' := entsG kl d (x :: l.filter fun y => !(kl y).sameKey (kl x))) hx (ents_keys hk) (ents_apart hd) (by
    unfold entsG
    rw [List.map_cons, List.filter_map]
    exact List.Perm.refl _)
  unfold DofG
  rw [DataW.put_eq, h]
include O in

theorem put_new {l : List α} (hk : ∀ x ∈ l, Kd (kl x)) (hd : Diff kl l) {x : α} (hx : Kd (kl x)) (hn : ∀ y ∈ l, kl y ≠ kl x) : (DofG kl d l).put (kl x) (d x) = DofG kl d (x :: l) := by
  rw [put_DofG O hk hd hx]
  congr 2
  rw [List.filter_eq_self]
  intro y hy
  rw [sameKey_false (hn y hy)]; rfl

theorem Diff.unique {l : List α} (h : Diff kl l) {x y : α} (hx : x ∈ l) (hy : y ∈ l) (e : kl x = kl y) : x = y := by
  induction l with
  | nil => cases hx
  | cons z r ih =>
    obtain ⟨h1, h2⟩ := List.pairwise_cons.1 h
    rcases List.mem_cons.1 hx with hxz | hxr
    · rcases List.mem_cons.1 hy with hyz | hyr
      · rw [hxz, hyz]
      · exact absurd (by rw [← hxz]; exact e) (h1 y hyr)
    · rcases List.mem_cons.1 hy with hyz | hyr
      · exact absurd (by rw [← hyz]; exact e.symm) (h1 x hxr)
      · exact ih h2 hxr hyr

theorem Diff.nodup {l : List α} (h : Diff kl l) : l.Nodup := h.imp fun h e => h (by rw [e])

theorem Diff.perm {l l' : List α} (h : Diff kl l) (hp : l'.Perm l) : Diff kl l' := (hp.pairwise_iff (fun {a b} (h : kl a ≠ kl b) => h.symm)).2 h
include O in

theorem put_old {l : List α} (hk : ∀ x ∈ l, Kd (kl x)) (hd : Diff kl l) {x : α} (hx : x ∈ l) : (DofG kl d l).put (kl x) (d x) = DofG kl d l := by
  rw [put_DofG O hk hd (hk x hx)]
  refine DofG_perm O hk hd ?_
  have hself : (kl x).sameKey (kl x) = true := (sameKey_iff O (hk x hx)).2 rfl
  have hnx : x ∉ l.filter fun y => !(kl y).sameKey (kl x) := fun h => by
    have := (List.mem_filter.1 h).2
    rw [hself] at this
    cases this
  have hnd : (x :: l.filter fun y => !(kl y).sameKey (kl x)).Nodup := List.nodup_cons.2 ⟨hnx, hd.nodup.filter _⟩
  rw [List.perm_ext_iff_of_nodup hnd hd.nodup]
  intro y
  rw [List.mem_cons, List.mem_filter]
  constructor
  · rintro (rfl | ⟨h, _⟩)
    · exact hx
    · exact h
  · intro hy
    by_cases e : kl y = kl x
    · exact .inl (hd.unique hy hx e)
    · exact .inr ⟨hy, by rw [sameKey_false e]; rfl⟩
include O in

theorem deleteFunc_DofG {l : List α} (hk : ∀ x ∈ l, Kd (kl x)) (hd : Diff kl l) (pd : Lit → DataW H → Bool) : Lib.deleteFuncD pd (DofG kl d l) = DofG kl d (l.filter fun y => !pd (kl y) (d y)) := by
  unfold DofG Lib.deleteFuncD
  simp only
  congr 1
  have hk' : ∀ x ∈ l.filter (fun y => !pd (kl y) (d y)), Kd (kl x) := fun x hx => hk x (List.mem_filter.1 hx).1
  have hd' : Diff kl (l.filter (fun y => !pd (kl y) (d y))) := hd.filter _
  refine eq_of_perm_sorted ?_ ((sorted_sorted O _ (ents_keys hk) (ents_apart hd)).filter _) (sorted_sorted O _ (ents_keys hk') (ents_apart hd'))
  refine ((sorted_perm (entsG kl d l)).filter _).trans (List.Perm.trans ?_ (sorted_perm _).symm)
  unfold entsG
  rw [List.filter_map]
  exact List.Perm.refl _

/-- Those that have come on a walk over the map: each once; who has not come is still to come. -/
def ComeG (kl : α → Lit) (l : List α) (left : Lit → Bool) (ps : List α) : Prop := ps.Nodup ∧ (∀ x ∈ ps, x ∈ l) ∧ ∀ x ∈ l, x ∈ ps ↔ left (kl x) = false
include O in

theorem ComeG.start {l : List α} (hk : ∀ x ∈ l, Kd (kl x)) : ComeG kl l (Maps.has (DofG kl d l)) [] := by
  refine ⟨List.nodup_nil, by simp, fun x hx => ?_⟩
  rw [(has_DofG (d := d) O (hk x hx)).2 ⟨x, hx, rfl⟩]; simp
include O in

theorem ComeG.step {l : List α} (hk : ∀ x ∈ l, Kd (kl x)) (hd : Diff kl l) {left : Lit → Bool} {ps : List α} (h : ComeG kl l left ps) {c : α} (hc : c ∈ l) (hl : left (kl c) = true) : ComeG kl l (fun z => left z && !z.sameKey (kl c)) (ps ++ [c]) := by
  obtain ⟨h1, h2, h3⟩ := h
  have hn : c ∉ ps := fun hm => by have := (h3 c hc).1 hm; rw [hl] at this; cases this
  refine ⟨?_, ?_, ?_⟩
  · rw [List.nodup_append]
    refine ⟨h1, by simp, fun a ha b hb e => ?_⟩
    rw [List.mem_singleton.1 hb] at e
    exact hn (e ▸ ha)
  · intro x hx
    rcases List.mem_append.1 hx with hx | hx
    · exact h2 x hx
    · rw [List.mem_singleton.1 hx]; exact hc
  · intro x hx
    rw [List.mem_append, h3 x hx, List.mem_singleton]
    by_cases e : kl x = kl c
    · have := hd.unique hx hc e
      subst this
      simp only [(sameKey_iff O (hk x hx)).2 rfl]; simp
    · have : x ≠ c := fun h => e (by rw [h])
      simp only [sameKey_false e]
      simp [this]

theorem ComeG.perm {l : List α} (hd : Diff kl l) {left : Lit → Bool} {ps : List α} (h : ComeG kl l left ps) (hl : ∀ z, left z = false) : ps.Perm l := by
  obtain ⟨h1, h2, h3⟩ := h
  rw [List.perm_ext_iff_of_nodup h1 hd.nodup]
  exact fun x => ⟨h2 x, fun hx => (h3 x hx).2 (hl _)⟩


/-- How many there are is told by the list. -/
theorem ownsMapG_fit {P : Program} {k : TypeId} {R : Value → Option (DataW H × List MemPlace)} {w : World} {b n : Nat} {l : List α} (h : w.ownsMap P k R b n (DofG kl d l)) : w.ownsMap P k R b l.length (DofG kl d l) := by
  obtain ⟨es, clock, hb, F, hs, hD⟩ := h
  refine ⟨es, clock, hb, F, ?_, hD⟩
  have := size_DofG (kl := kl) (d := d) l
  rw [hD] at this
  simp only [Maps.size, length_sorted, List.length_map] at this
  simpa using Nat.le_of_eq this
end

end Go.Proofs.Ytkdjpleedaldcaa
