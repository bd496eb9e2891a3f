/-
  MAPS, told by a list of what they hold, in whatever order. Of no program.
-/
import Derived.Maps.OwnSet
import Derived.Maps.OwnIn
import Derived.Lib.SlMapFilter
import Derived.Test.YtdbgojmjjkidbaaGreatDoorProg
import Derived.WalkLawsBesides
import Derived.Handy
import Derived.Laws.AppendOwnNone
import Derived.Laws.MakeOwn
import Derived.ArgAppend
import Derived.OwnWalk
import Derived.BigQuiet
import Derived.Maps.AppendAt
import Derived.Laws.CopyOwn
import Derived.Deep.RegionLaw
import Derived.Lib.AppendZerosOnto
import Derived.Lib.Overlaps
import Derived.DeepKeys4
import Derived.KernelRfl
import Derived.Sort.Statements
namespace Go.Proofs.YtdbgojmjjkidbaaGreatDoor
open Go.RowKit Go.Maps Go.WideShapes
open Go.ChangeMaps (notKey putKey delKey mem_insert_iff eq_of_perm_sorted)


section

variable {α H : Type} (kl : α → Lit) (d : α → DataW H)

/-- The entries. -/
def entsG (l : List α) : List (Lit × DataW H) := l.map fun x => (kl x, d x)

/-- What the map reads as. -/
def DofG (l : List α) : DataW H := .map ((entsG kl d l).foldr DataW.insert [])

/-- The keys differ. -/
def Diff (l : List α) : Prop := l.Pairwise fun a b => kl a ≠ kl b

end


section

variable {α H : Type} {kl : α → Lit} {d : α → DataW H} {Kd : Lit → Prop} (O : OneKind Kd)

theorem ents_apart {l : List α} (h : Diff kl l) : (entsG kl d l).Pairwise fun p q => p.1 ≠ q.1 := by
  unfold entsG; rw [List.pairwise_map]; exact h

theorem ents_keys {l : List α} (h : ∀ x ∈ l, Kd (kl x)) : Keys Kd (entsG kl d l) := by
  intro p hp
  obtain ⟨x, hx, rfl⟩ := List.mem_map.1 hp
  exact h x hx
include O in

theorem sameKey_iff {a b : Lit} (ha : Kd b) : a.sameKey b = true ↔ a = b := ⟨WideAt.sameKey_eq, fun e => by rw [e]; exact WideAt.sameKey_self (O.key ha)⟩

theorem sameKey_false {a b : Lit} (h : a ≠ b) : a.sameKey b = false := by
  cases e : a.sameKey b
  · rfl
  · exact absurd (WideAt.sameKey_eq e) h
include O in

theorem DofG_perm {l l' : List α} (hk : ∀ x ∈ l, Kd (kl x)) (hd : Diff kl l) (hp : l'.Perm l) : DofG kl d l' = DofG kl d l := by
  have hk' : ∀ x ∈ l', Kd (kl x) := fun x hx => hk x (hp.mem_iff.1 hx)
  have hd' : Diff kl l' := (hp.pairwise_iff (fun {a b} (h : kl a ≠ kl b) => h.symm)).2 hd
  unfold DofG
  congr 1
  exact eq_of_perm_sorted ((sorted_perm _).trans ((hp.map _).trans (sorted_perm _).symm)) (sorted_sorted O _ (ents_keys hk') (ents_apart hd')) (sorted_sorted O _ (ents_keys hk) (ents_apart hd))

theorem size_DofG (l : List α) : Maps.size (DofG kl d l) = l.length := by simp [DofG, entsG, Maps.size, length_sorted]
include O in

theorem has_DofG {l : List α} {z : Lit} (hz : Kd z) : Maps.has (DofG kl d l) z = true ↔ ∃ y ∈ l, kl y = z := by
  show ((entsG kl d l).foldr DataW.insert []).any (fun p => p.1.sameKey z) = true ↔ _
  rw [List.any_eq_true]
  constructor
  · rintro ⟨p, hp, hs⟩
    obtain ⟨y, hy, rfl⟩ := List.mem_map.1 (mem_sorted.1 hp)
    exact ⟨y, hy, (sameKey_iff O hz).1 hs⟩
  · rintro ⟨y, hy, e⟩
    exact ⟨(kl y, d y), mem_sorted.2 (List.mem_map.2 ⟨y, hy, rfl⟩), (sameKey_iff O hz).2 e⟩
include O in

theorem has_DofG_false {l : List α} {z : Lit} (hz : Kd z) (h : ∀ y ∈ l, kl y ≠ z) : Maps.has (DofG kl d l) z = false := by
  cases e : Maps.has (DofG kl d l) z
  · rfl
  · obtain ⟨y, hy, he⟩ := (has_DofG O hz).1 e
    exact absurd he (h y hy)
include O in

theorem atKey_mem {l : List α} (hk : ∀ x ∈ l, Kd (kl x)) (hd : Diff kl l) {x : α} (hx : x ∈ l) (zd : DataW H) : (DofG kl d l).atKey (kl x) zd = d x := by
  refine WideAt.atKey_mem zd (O.key (hk x hx)) ?_ (mem_sorted.2 (List.mem_map.2 ⟨x, hx, rfl⟩))
  exact ((sorted_perm (entsG kl d l)).pairwise_iff (fun {a b} (h : a.1 ≠ b.1) => h.symm)).2 (ents_apart hd)

theorem atKey_none {l : List α} {z : Lit} (h : ∀ y ∈ l, kl y ≠ z) (zd : DataW H) : (DofG kl d l).atKey z zd = zd := by
  unfold DofG DataW.atKey
  have : ((entsG kl d l).foldr DataW.insert []).find? (fun p => p.1.sameKey z) = none := by
    rw [List.find?_eq_none]
    intro p hp
    obtain ⟨y, hy, rfl⟩ := List.mem_map.1 (mem_sorted.1 hp)
    rw [sameKey_false (h y hy)]; simp
  simp only [this]
include O in

theorem del_DofG {l : List α} (hk : ∀ x ∈ l, Kd (kl x)) (hd : Diff kl l) (z : Lit) : (DofG kl d l).del z = DofG kl d (l.filter fun y => !(kl y).sameKey z) := by
  have h := sorted_del O (k := z) (E := entsG kl d l) (E' := entsG kl d (l.filter fun y => !(kl y).sameKey z)) (ents_keys hk) (ents_apart hd) (by
    unfold entsG
    rw [List.filter_map]
    exact List.Perm.refl _)
  unfold DofG
  rw [DataW.del_eq, h]
include O in

theorem put_DofG {l : List α} (hk : ∀ x ∈ l, Kd (kl x)) (hd : Diff kl l) {x : α} (hx : Kd (kl x)) : (DofG kl d l).put (kl x) (d x) = DofG kl d (x :: l.filter fun y => !(kl y).sameKey (kl x)) := by
  have h := sorted_put O (k := kl x) (d := d x) (E := entsG kl d l) (E' := entsG kl d (x :: l.filter fun y => !(kl y).sameKey (kl x))) hx (ents_keys hk) (ents_apart hd) (by
    unfold entsG
    rw [List.map_cons, List.filter_map]
    exact List.Perm.refl _)
  unfold DofG
  rw [DataW.put_eq, h]
include O in

theorem put_new {l : List α} (hk : ∀ x ∈ l, Kd (kl x)) (hd : Diff kl l) {x : α} (hx : Kd (kl x)) (hn : ∀ y ∈ l, kl y ≠ kl x) : (DofG kl d l).put (kl x) (d x) = DofG kl d (x :: l) := by
  rw [put_DofG O hk hd hx]
  congr 2
  rw [List.filter_eq_self]
  intro y hy
  rw [sameKey_false (hn y hy)]; rfl

theorem Diff.unique {l : List α} (h : Diff kl l) {x y : α} (hx : x ∈ l) (hy : y ∈ l) (e : kl x = kl y) : x = y := by
  induction l with
  | nil => cases hx
  | cons z r ih =>
    obtain ⟨h1, h2⟩ := List.pairwise_cons.1 h
    rcases List.mem_cons.1 hx with hxz | hxr
    · rcases List.mem_cons.1 hy with hyz | hyr
      · rw [hxz, hyz]
      · exact absurd (by rw [← hxz]; exact e) (h1 y hyr)
    · rcases List.mem_cons.1 hy with hyz | hyr
      · exact absurd (by rw [← hyz]; exact e.symm) (h1 x hxr)
      · exact ih h2 hxr hyr

theorem Diff.nodup {l : List α} (h : Diff kl l) : l.Nodup := h.imp fun h e => h (by rw [e])

theorem Diff.perm {l l' : List α} (h : Diff kl l) (hp : l'.Perm l) : Diff kl l' := (hp.pairwise_iff (fun {a b} (h : kl a ≠ kl b) => h.symm)).2 h
include O in

theorem put_old {l : List α} (hk : ∀ x ∈ l, Kd (kl x)) (hd : Diff kl l) {x : α} (hx : x ∈ l) : (DofG kl d l).put (kl x) (d x) = DofG kl d l := by
  rw [put_DofG O hk hd (hk x hx)]
  refine DofG_perm O hk hd ?_
  have hself : (kl x).sameKey (kl x) = true := (sameKey_iff O (hk x hx)).2 rfl
  have hnx : x ∉ l.filter fun y => !(kl y).sameKey (kl x) := fun h => by
    have := (List.mem_filter.1 h).2
    rw [hself] at this
    cases this
  have hnd : (x :: l.filter fun y => !(kl y).sameKey (kl x)).Nodup := List.nodup_cons.2 ⟨hnx, hd.nodup.filter _⟩
  rw [List.perm_ext_iff_of_nodup hnd hd.nodup]
  intro y
  rw [List.mem_cons, List.mem_filter]
  constructor
  · rintro (rfl | ⟨h, _⟩)
    · exact hx
    · exact h
  · intro hy
    by_cases e : kl y = kl x
    · exact .inl (hd.unique hy hx e)
    · exact .inr ⟨hy, by rw [sameKey_false e]; rfl⟩
include O in

theorem deleteFunc_DofG {l : List α} (hk : ∀ x ∈ l, Kd (kl x)) (hd : Diff kl l) (pd : Lit → DataW H → Bool) : Lib.deleteFuncD pd (DofG kl d l) = DofG kl d (l.filter fun y => !pd (kl y) (d y)) := by
  unfold DofG Lib.deleteFuncD
  simp only
  congr 1
  have hk' : ∀ x ∈ l.filter (fun y => !pd (kl y) (d y)), Kd (kl x) := fun x hx => hk x (List.mem_filter.1 hx).1
  have hd' : Diff kl (l.filter (fun y => !pd (kl y) (d y))) := hd.filter _
  refine eq_of_perm_sorted ?_ ((sorted_sorted O _ (ents_keys hk) (ents_apart hd)).filter _) (sorted_sorted O _ (ents_keys hk') (ents_apart hd'))
  refine ((sorted_perm (entsG kl d l)).filter _).trans (List.Perm.trans ?_ (sorted_perm _).symm)
  unfold entsG
  rw [List.filter_map]
  exact List.Perm.refl _

/-- Those that have come on a walk over the map: each once; who has not come is still to come. -/
def ComeG (kl : α → Lit) (l : List α) (left : Lit → Bool) (ps : List α) : Prop := ps.Nodup ∧ (∀ x ∈ ps, x ∈ l) ∧ ∀ x ∈ l, x ∈ ps ↔ left (kl x) = false
include O in

theorem ComeG.start {l : List α} (hk : ∀ x ∈ l, Kd (kl x)) : ComeG kl l (Maps.has (DofG kl d l)) [] := by
  refine ⟨List.nodup_nil, by simp, fun x hx => ?_⟩
  rw [(has_DofG (d := d) O (hk x hx)).2 ⟨x, hx, rfl⟩]; simp
include O in

theorem ComeG.step {l : List α} (hk : ∀ x ∈ l, Kd (kl x)) (hd : Diff kl l) {left : Lit → Bool} {ps : List α} (h : ComeG kl l left ps) {c : α} (hc : c ∈ l) (hl : left (kl c) = true) : ComeG kl l (fun z => left z && !z.sameKey (kl c)) (ps ++ [c]) := by
  obtain ⟨h1, h2, h3⟩ := h
  have hn : c ∉ ps := fun hm => by have := (h3 c hc).1 hm; rw [hl] at this; cases this
  refine ⟨?_, ?_, ?_⟩
  · rw [List.nodup_append]
    refine ⟨h1, by simp, fun a ha b hb e => ?_⟩
    rw [List.mem_singleton.1 hb] at e
    exact hn (e ▸ ha)
  · intro x hx
    rcases List.mem_append.1 hx with hx | hx
    · exact h2 x hx
    · rw [List.mem_singleton.1 hx]; exact hc
  · intro x hx
    rw [List.mem_append, h3 x hx, List.mem_singleton]
    by_cases e : kl x = kl c
    · have := hd.unique hx hc e
      subst this
      simp only [(sameKey_iff O (hk x hx)).2 rfl]; simp
    · have : x ≠ c := fun h => e (by rw [h])
      simp only [sameKey_false e]
      simp [this]

theorem ComeG.perm {l : List α} (hd : Diff kl l) {left : Lit → Bool} {ps : List α} (h : ComeG kl l left ps) (hl : ∀ z, left z = false) : ps.Perm l := by
  obtain ⟨h1, h2, h3⟩ := h
  rw [List.perm_ext_iff_of_nodup h1 hd.nodup]
  exact fun x => ⟨h2 x, fun hx => (h3 x hx).2 (hl _)⟩


/-- How many there are is told by the list. -/
theorem ownsMapG_fit {P : Program} {k : TypeId} {R : Value → Option (DataW H × List MemPlace)} {w : World} {b n : Nat} {l : List α} (h : w.ownsMap P k R b n (DofG kl d l)) : w.ownsMap P k R b l.length (DofG kl d l) := by
  obtain ⟨es, clock, hb, F, hs, hD⟩ := h
  refine ⟨es, clock, hb, F, ?_, hD⟩
  have := size_DofG (kl := kl) (d := d) l
  rw [hD] at this
  simp only [Maps.size, length_sorted, List.length_map] at this
  simpa using Nat.le_of_eq this

end

end Go.Proofs.YtdbgojmjjkidbaaGreatDoor

/-
  SLICES OF STRUCTS in memory, told by the list of what they hold. Of no program: 'enc' says which cells an element has, K how many.
-/
namespace Go.Proofs.YtdbgojmjjkidbaaGreatDoor.K
open Go.RowKit

/-- An element has K cells. -/
class Enc {α : Type} (enc : α → List Value) (K : outParam Nat) : Prop where
  len : ∀ x, (enc x).length = K
  one : ∀ x, ∀ u ∈ enc x, u.oneCell' = true
  pos : 0 < K

section
variable {α : Type} {enc : α → List Value} {K : Nat} [E : Enc enc K]
/-- The cells that hold these elements. -/
def cellsOf (enc : α → List Value) (l : List α) : List Value := l.flatMap enc
omit E in
theorem cellsOf_nil : cellsOf enc [] = [] := rfl
omit E in
theorem cellsOf_cons (r : α) (l : List α) : cellsOf enc (r :: l) = enc r ++ cellsOf enc l := rfl
omit E in
theorem cellsOf_append (a b : List α) : cellsOf enc (a ++ b) = cellsOf enc a ++ cellsOf enc b := by simp [cellsOf]
theorem cellsOf_length (l : List α) : (cellsOf enc l).length = l.length * K := by
  induction l with
  | nil => simp [cellsOf_nil]
  | cons r t ih => rw [cellsOf_cons, List.length_append, ih, E.len, List.length_cons, Nat.succ_mul, Nat.add_comm]
include E in
theorem cellsOf_one (l : List α) : ∀ u ∈ cellsOf enc l, u.oneCell' = true := by
  intro u hu
  simp only [cellsOf, List.mem_flatMap] at hu
  obtain ⟨r, _, hu⟩ := hu
  exact E.one r u hu
theorem cellsOf_take (l : List α) (k : Nat) : (cellsOf enc l).take (k * K) = cellsOf enc (l.take k) := by
  induction l generalizing k with
  | nil => simp [cellsOf_nil]
  | cons r t ih =>
    cases k with
    | zero => simp [cellsOf_nil]
    | succ k => rw [cellsOf_cons, List.take_append, E.len, List.take_of_length_le (by rw [E.len, Nat.succ_mul]; exact Nat.le_add_left _ _), Nat.succ_mul, Nat.add_sub_cancel, ih, List.take_succ_cons, cellsOf_cons]
theorem cellsOf_drop (l : List α) (k : Nat) : (cellsOf enc l).drop (k * K) = cellsOf enc (l.drop k) := by
  induction l generalizing k with
  | nil => simp [cellsOf_nil]
  | cons r t ih =>
    cases k with
    | zero => simp
    | succ k => rw [cellsOf_cons, List.drop_append, E.len, List.drop_eq_nil_of_le (by rw [E.len, Nat.succ_mul]; exact Nat.le_add_left _ _), Nat.succ_mul, Nat.add_sub_cancel, ih, List.drop_succ_cons, List.nil_append]
theorem cellsOf_get (l : List α) (i j : Nat) (h : i < l.length) (hj : j < K) : (cellsOf enc l)[i * K + j]? = (enc l[i])[j]? := by
  have h1 : (cellsOf enc l)[i * K + j]? = ((cellsOf enc l).drop (i * K))[j]? := by rw [List.getElem?_drop]
  rw [h1, cellsOf_drop, List.drop_eq_getElem_cons h, cellsOf_cons, List.getElem?_append_left (by rw [E.len]; exact hj)]

/-- In w the slice v holds just these elements. -/
def RowOf (enc : α → List Value) (w : World) (v : Value) (l : List α) : Prop :=
  (v = .slice none 0 0 ∧ l = []) ∨
  ∃ a cap, v = .slice (some a) l.length cap ∧ l.length ≤ cap ∧ cap ≤ maxLen ∧ ∀ j u, (cellsOf enc l)[j]? = some u → w.cell? (a.add j) = some u

theorem Addr.block_add (a : Addr) (j : Nat) : (a.add j).block = a.block := by unfold Addr.add; split <;> rfl
omit E in
theorem rowOf_nil (w : World) : RowOf enc w (.slice none 0 0) [] := .inl ⟨rfl, rfl⟩
omit E in
theorem RowOf.below {B : Nat} {w w' : World} {v : Value} {l : List α} (h : RowOf enc w v l) (hb : Below B w w') (hB : w.heap.size ≤ B) : RowOf enc w' v l := by
  rcases h with h | ⟨a, cap, hv, h1, h2, h3⟩
  · exact .inl h
  · refine .inr ⟨a, cap, hv, h1, h2, fun j u hj => ?_⟩
    have hc := h3 j u hj
    have hlt := World.block_lt_of_cell? w _ hc
    rw [hb.cell (p := a.add j) (by omega)]
    exact hc
omit E in
/-- .. whatever else changes, as long as its own block does not. -/
theorem RowOf.same {w w' : World} {v : Value} {l : List α} (h : RowOf enc w v l) (hs : ∀ g, v.ownBlock = some g → w'.heap[g]? = w.heap[g]?) : RowOf enc w' v l := by
  rcases h with h | ⟨a, cap, rfl, h1, h2, h3⟩
  · exact .inl h
  · refine .inr ⟨a, cap, rfl, h1, h2, fun j u hj => ?_⟩
    have hc := h3 j u hj
    have := hs a.block rfl
    simp only [World.cell?, Addr.block_add] at hc ⊢
    rw [this]; exact hc
omit E in
theorem RowOf.slice {w : World} {v : Value} {l : List α} (h : RowOf enc w v l) : ∃ a cap, v = .slice a l.length cap := by
  rcases h with ⟨rfl, rfl⟩ | ⟨a, cap, rfl, _⟩
  · exact ⟨_, _, rfl⟩
  · exact ⟨_, _, rfl⟩
include E in
/-- Elements that are there lie at plain addresses. -/
theorem RowOf.at {w : World} {v : Value} {l : List α} (h : RowOf enc w v l) (hp : 0 < l.length) :
    ∃ b off cap, v = .slice (some ⟨b, off, none⟩) l.length cap ∧ l.length ≤ cap ∧ cap ≤ maxLen ∧ ∀ j u, (cellsOf enc l)[j]? = some u → w.cell? ⟨b, off + j, none⟩ = some u := by
  rcases h with ⟨rfl, rfl⟩ | ⟨a, cap, rfl, h1, h2, h3⟩
  · simp at hp
  · obtain ⟨b, off, spot⟩ := a
    have hl : 0 < (cellsOf enc l).length := by rw [cellsOf_length (enc := enc)]; exact Nat.mul_pos hp E.pos
    have h0 := h3 0 _ (List.getElem?_eq_getElem hl)
    have hspot : spot = none := by simpa [Addr.add] using World.cell?_spot h0
    subst hspot
    refine ⟨b, off, cap, rfl, h1, h2, fun j u hj => ?_⟩
    rw [← Go.WideShapes.add_plain]
    exact h3 j u hj
theorem row_cell {w : World} {b off : Nat} {l : List α} (h : ∀ j u, (cellsOf enc l)[j]? = some u → w.cell? ⟨b, off + j, none⟩ = some u) (i : Nat) (hi : i < l.length) (j : Nat) (hj : j < K) (u : Value) (hu : (enc l[i])[j]? = some u) :
    w.cell? ⟨b, off + i * K + j, none⟩ = some u := by
  rw [Nat.add_assoc]
  exact h _ _ (by rw [cellsOf_get l i j hi hj]; exact hu)

/-- The slice v is a row of the call's own, from block number base on, and holds these elements. -/
def OwnOf (enc : α → List Value) (K : Nat) (T : TypeId) (w : World) (base : Nat) (v : Value) (l : List α) : Prop := w.ownsRow base T K v l.length (cellsOf enc l)
variable {T : TypeId}
omit E in
theorem ownOf_nil (w : World) (base : Nat) : OwnOf enc K T w base (.slice none 0 0) [] := World.ownsRow_nil _ _ _ _
omit E in
theorem OwnOf.rng {w : World} {base : Nat} {v : Value} {l : List α} (h : OwnOf enc K T w base v l) : RowOf enc w v l := by
  have h' := h
  rcases h.2 with ⟨rfl, hn⟩ | ⟨g, cap, cur, rfl, _, _, hnc, hcm, _, _⟩
  · exact .inl ⟨rfl, List.eq_nil_of_length_eq_zero hn⟩
  · exact .inr ⟨⟨g, 0, none⟩, cap, rfl, hnc, hcm, fun j u hj => World.ownsRow.cells h' (g := g) rfl j u hj⟩
omit E in
theorem OwnOf.mono {w : World} {b c : Nat} {v : Value} {l : List α} (h : OwnOf enc K T w b v l) (hc : c ≤ b) : OwnOf enc K T w c v l := by
  refine ⟨h.1, ?_⟩
  rcases h.2 with hn | ⟨g, cap, cur, hv, hbg, hg, rest⟩
  · exact .inl hn
  · exact .inr ⟨g, cap, cur, hv, by omega, hg, rest⟩
omit E in
/-- .. whatever else changes, as long as its own block does not. -/
theorem OwnOf.same {w w' : World} {b : Nat} {v : Value} {l : List α} (h : OwnOf enc K T w b v l) (hs : ∀ g, v.ownBlock = some g → w'.heap[g]? = w.heap[g]?) : OwnOf enc K T w' b v l := by
  refine ⟨h.1, ?_⟩
  rcases h.2 with hn | ⟨g, cap, cur, hv, hbg, hg, rest⟩
  · exact .inl hn
  · exact .inr ⟨g, cap, cur, hv, hbg, by rw [hs g (by rw [hv]; rfl)]; exact hg, rest⟩
omit E in
theorem OwnOf.lt {w : World} {b : Nat} {v : Value} {l : List α} (h : OwnOf enc K T w b v l) {g : Nat} (hg : v.ownBlock = some g) : b ≤ g ∧ g < w.heap.size := World.ownsRow.lt h g hg
omit E in
theorem OwnOf.kept {w w' : World} {b B : Nat} {v : Value} {l : List α} (h : OwnOf enc K T w b v l) (hb : Below B w w') (hB : w.heap.size ≤ B) : OwnOf enc K T w' b v l :=
  h.same fun g hg => hb.block g (by have := (h.lt hg).2; omega)
omit E in
theorem OwnOf.alloc {w : World} {b : Nat} {v : Value} {l : List α} (h : OwnOf enc K T w b v l) (o : Obj) : OwnOf enc K T (w.alloc o) b v l := World.ownsRow.alloc h o
omit E in
theorem OwnOf.below {w w' w0 : World} {base B : Nat} {v : Value} {l : List α} (h : OwnOf enc K T w base v l) (hg : w.grownBy w' v.ownBlock) (h0 : Below B w0 w) (hb : B ≤ w.heap.size) (hB : B ≤ base) : Below B w0 w' :=
  h0.grown hg hb (fun k hk => by have := (World.ownsRow.lt h k hk).1; omega)
/-- One element in a block of its own. -/
theorem ownOf_one (w : World) (base : Nat) (x : α) (hb : base ≤ w.heap.size) :
    OwnOf enc K T (w.alloc (.cells (enc x).toArray T)) base (.slice (some ⟨w.heap.size, 0, none⟩) 1 1) [x] :=
  ⟨by simp [cellsOf_cons, cellsOf_nil, E.len], .inr ⟨w.heap.size, 1, _, rfl, hb, heap_alloc_new w _, Nat.le_refl _, by simp [maxLen], by simp [E.len], by simp [cellsOf_cons, cellsOf_nil]; exact List.take_of_length_le (by simp [E.len])⟩⟩
include E in
theorem rowK_one (w : World) (x : α) (n : Nat) (hn : n = w.heap.size) : RowOf enc (w.alloc (.cells (enc x).toArray T)) (.slice (some ⟨n, 0, none⟩) 1 1) [x] := by
  subst hn
  exact (ownOf_one (T := T) w w.heap.size x (Nat.le_refl _)).rng
omit E in
theorem ownOf_empty (w : World) (base : Nat) (hb : base ≤ w.heap.size) : OwnOf enc K T (w.alloc (.cells #[] T)) base (.slice (some ⟨w.heap.size, 0, none⟩) 0 0) [] :=
  ⟨by simp [cellsOf_nil], .inr ⟨w.heap.size, 0, _, rfl, hb, heap_alloc_new w _, Nat.le_refl _, Nat.zero_le _, by simp, by simp [cellsOf_nil]⟩⟩

/-- The row's block is the elder's, or new. -/
def NewOr (w : World) (v v' : Value) : Prop := v'.ownBlock = v.ownBlock ∨ ∃ g, v'.ownBlock = some g ∧ w.heap.size ≤ g

omit E in
theorem OwnOf.split {w : World} {base : Nat} {v : Value} {l : List α} (h : OwnOf enc K T w base v l) : (v = .slice none 0 0 ∧ l = []) ∨
    ∃ g c R, v = .slice (some ⟨g, 0, none⟩) l.length c ∧ base ≤ g ∧ w.heap[g]? = some (.cells (cellsOf enc l ++ R).toArray T (0, 0)) ∧ l.length ≤ c ∧ c ≤ maxLen ∧ R.length = c * K - l.length * K := by
  rcases h.2 with ⟨rfl, h0⟩ | ⟨g, c, cur, hv, hb, hg, h1, h2, h3, h4⟩
  · exact .inl ⟨rfl, List.eq_nil_of_length_eq_zero h0⟩
  · refine .inr ⟨g, c, cur.toList.drop (l.length * K), hv, hb, ?_, h1, h2, by simp [h3]⟩
    rw [← h4, List.take_append_drop]
    simpa using hg
theorem ownOf_mk {w : World} {base g n c : Nat} {l : List α} {R : List Value} (hb : base ≤ g) (hg : w.heap[g]? = some (.cells (cellsOf enc l ++ R).toArray T (0, 0))) (hn : n = l.length) (hc : l.length ≤ c) (hm : c ≤ maxLen) (hT : R.length = c * K - l.length * K) :
    OwnOf enc K T w base (.slice (some ⟨g, 0, none⟩) n c) l := by
  subst hn
  have hle := Nat.mul_le_mul_right K hc
  refine ⟨cellsOf_length l, .inr ⟨g, c, _, rfl, hb, hg, hc, hm, ?_, ?_⟩⟩
  · have := cellsOf_length (enc := enc) l
    simp [this, hT]; omega
  · rw [← cellsOf_length (enc := enc) l]
    simp

/-- 'append(v, src...)', v of the call's own, src whatever holds such elements. -/
theorem run_append_rows {P : Program} {w : World} (S ty : TypeId) (hS : P.underlying S = some (.slice T)) (i : TypeInfo) (z : Value) (bytes : Nat) (hi : P.info? T = some i) (hz : i.zero = some z) (hsz : i.size = K) (hby : i.bytes = bytes) (hzs : z.cells.size = K)
    (base : Nat) (v src : Value) (xs ys : List α) (hown : OwnOf enc K T w base v xs) (hy : RowOf enc w src ys) (hl : xs.length + ys.length ≤ maxLen) (hlen : (xs.length + ys.length) * bytes ≤ 140737488355328) (hbase : base ≤ w.heap.size) :
    ∃ v' w', (Builtin.append_ #[S, S] ty #[v, src]).run P w = .ok v' w' ∧ OwnOf enc K T w' base v' (xs ++ ys) ∧ w.grownBy w' v.ownBlock ∧ NewOr w v v' := by
  rcases hy with ⟨rfl, rfl⟩ | ⟨ad, cap, rfl, h1, h2, h3⟩
  · exact ⟨v, w, run_append_owned_none (P := P) (w := w) base S ty T i K hS hi v xs.length (cellsOf enc xs) hown, by simpa [OwnOf] using hown, ⟨rfl, rfl, rfl, Nat.le_refl _, fun _ _ _ => rfl⟩, .inl rfl⟩
  · obtain ⟨v', w', hr, ho', hg, _, hloc⟩ := run_append_own_at (P := P) w base S ty T i z K bytes hS hi hz hsz hby hzs E.pos v xs.length (cellsOf enc xs) hown ad ys.length cap (cellsOf enc ys) (cellsOf_length ys) h3 (cellsOf_one ys) hl hlen hbase
    refine ⟨v', w', hr, ?_, hg, hloc.imp id fun h => ⟨_, h, Nat.le_refl _⟩⟩
    unfold OwnOf
    rw [cellsOf_append, List.length_append]
    exact ho'
theorem wpList_append_rows {P : Program} {w : World} {ops : Array Oper} {rest : List Oper} {o : Oper} {a : Act} {Q : Exit → Act → World → Prop} (hgd : o.guard = none) (s x : Operand) (S : TypeId)
    (ho : o.op = .call { callee := .builtin .append, args := #[s, x], argTypes := #[S, S] }) (hS : P.underlying S = some (.slice T)) (i : TypeInfo) (z : Value) (bytes : Nat) (hi : P.info? T = some i) (hz : i.zero = some z) (hsz : i.size = K) (hby : i.bytes = bytes) (hzs : z.cells.size = K)
    (base : Nat) (v src : Value) (xs ys : List α) (hs : a.eval s = v) (hx : a.eval x = src)
    (hown : OwnOf enc K T w base v xs) (hy : RowOf enc w src ys) (hl : xs.length + ys.length ≤ maxLen) (hlen : (xs.length + ys.length) * bytes ≤ 140737488355328) (hbase : base ≤ w.heap.size)
    (h : ∀ v' w', OwnOf enc K T w' base v' (xs ++ ys) → w.grownBy w' v.ownBlock → NewOr w v v' → wpList P ops Q rest (a.put o.dst v') w') : wpList P ops Q (o :: rest) a w := by
  refine wpList_plain hgd fun _ hK => ?_
  obtain ⟨v', w', hr, h2, h3, h4⟩ := run_append_rows (P := P) (w := w) S o.type hS i z bytes hi hz hsz hby hzs base v src xs ys hown hy hl hlen hbase
  unfold Oper.wp execOp
  simp only [ho, resolve, invoke, builtin, Sem.run_bind, Sem.run_pure, Result.andThen_ok, List.map_toArray, List.map_cons, List.map_nil, hs, hx, hr]
  exact hK _ _ (h v' w' h2 h3 h4)
/-- .. as a step of a region. -/
theorem step_append_rows {P : Program} {w : World} {ops : Array Oper} {o : Oper} {a : Act} {J : Act → World → Prop} {Q : Exit → Act → World → Prop} {F : Prop} (hgd : o.guard = none) (s x : Operand) (S : TypeId)
    (ho : o.op = .call { callee := .builtin .append, args := #[s, x], argTypes := #[S, S] }) (hS : P.underlying S = some (.slice T)) (i : TypeInfo) (z : Value) (bytes : Nat) (hi : P.info? T = some i) (hz : i.zero = some z) (hsz : i.size = K) (hby : i.bytes = bytes) (hzs : z.cells.size = K)
    (base : Nat) (v src : Value) (xs ys : List α) (hs : a.eval s = v) (hx : a.eval x = src)
    (hown : OwnOf enc K T w base v xs) (hy : RowOf enc w src ys) (hl : xs.length + ys.length ≤ maxLen) (hlen : (xs.length + ys.length) * bytes ≤ 140737488355328) (hbase : base ≤ w.heap.size)
    (h : ∀ v' w', OwnOf enc K T w' base v' (xs ++ ys) → w.grownBy w' v.ownBlock → NewOr w v v' → J (a.put o.dst v') w') : if Region.wanted o (yielded ops a.tmps) = true then Oper.wp P o a w J Q else F := by
  have hw : Region.wanted o (yielded ops a.tmps) = true := by simp [Region.wanted, hgd]
  rw [if_pos hw]
  obtain ⟨v', w', hr, h2, h3, h4⟩ := run_append_rows (P := P) (w := w) S o.type hS i z bytes hi hz hsz hby hzs base v src xs ys hown hy hl hlen hbase
  unfold Oper.wp execOp
  simp only [ho, resolve, invoke, builtin, Sem.run_bind, Sem.run_pure, Result.andThen_ok, List.map_toArray, List.map_cons, List.map_nil, hs, hx, hr]
  exact h v' w' h2 h3 h4
end
theorem le_alloc {w : World} {n : Nat} (h : n ≤ w.heap.size) (o : Obj) : n ≤ (w.alloc o).heap.size := by rw [World.size_alloc]; omega
theorem retK_bool {a b : Bool} (h : a = b) : Ending.returned (.bool a) = .returned (.bool b) := by rw [h]
theorem retK_int {k : IntKind} {a b : Int} (h : a = b) : Ending.returned (.int k a) = .returned (.int k b) := by rw [h]
theorem drop_more {α : Type} {A M : List α} {n k : Nat} (hA : A.length = n) : (A ++ M).drop (n + k) = M.drop k := by
  rw [List.drop_append, List.drop_eq_nil_of_le (by omega), hA]; simp
end Go.Proofs.YtdbgojmjjkidbaaGreatDoor.K

/-
  'copy', 'clear' and 'append' at slices of structs of K cells, in a row that is known whole.
-/
namespace Go.Proofs.YtdbgojmjjkidbaaGreatDoor.K
open Go.RowKit

/-- Nothing but block g has changed. -/
structure Only (g : Nat) (w w' : World) : Prop where
  os : w'.os = w.os
  tape : w'.tape = w.tape
  output : w'.output = w.output
  size : w'.heap.size = w.heap.size
  block : ∀ k, k ≠ g → w'.heap[k]? = w.heap[k]?
theorem Only.refl (g : Nat) (w : World) : Only g w w := ⟨rfl, rfl, rfl, rfl, fun _ _ => rfl⟩
theorem Only.trans {g : Nat} {a b c : World} (h : Only g a b) (k : Only g b c) : Only g a c :=
  ⟨k.os.trans h.os, k.tape.trans h.tape, k.output.trans h.output, k.size.trans h.size, fun i hi => (k.block i hi).trans (h.block i hi)⟩
theorem Only.drew {g : Nat} {a b : World} (h : Only g a b) : Only g a b.drew := ⟨h.os, h.tape, h.output, h.size, h.block⟩
theorem only_setRow (w : World) (g : Nat) (cs : Array Value) : Only g w (w.setRow g cs) := ⟨rfl, rfl, rfl, by simp [World.setRow], fun k hk => setRow_other w g k cs hk⟩
theorem Only.grown {g : Nat} {w w' : World} (h : Only g w w') : w.grownBy w' (some g) :=
  ⟨h.os, h.tape, h.output, Nat.le_of_eq h.size.symm, fun k _ hne => h.block k (fun he => hne (by rw [he]))⟩

theorem cell_of_list {w : World} {g : Nat} {C : List Value} {t : TypeId} (h : w.heap[g]? = some (.cells C.toArray t (0, 0))) (k : Nat) : w.cell? ⟨g, k, none⟩ = C[k]? := by
  simp [World.cell?, h]
theorem frozen_of_list {w : World} {g : Nat} {C : Array Value} {t : TypeId} (h : w.heap[g]? = some (.cells C t (0, 0))) (k : Nat) : w.frozen? ⟨g, k, none⟩ = false := by
  simp [World.frozen?, h]

theorem splice_at {α : Type} (A M D : List α) (k : Nat) : splice (A ++ M) (A.length + k) D = A ++ (M.take k ++ (D ++ M.drop (k + D.length))) := by
  unfold splice
  rw [List.take_append, List.drop_append, List.take_of_length_le (by omega), List.drop_eq_nil_of_le (by omega)]
  simp [Nat.add_assoc]
theorem splice_in {α : Type} (L A M D : List α) (k o : Nat) (hL : L = A ++ M) (ho : o = A.length + k) : splice L o D = A ++ (M.take k ++ (D ++ M.drop (k + D.length))) := by
  subst hL ho
  exact splice_at A M D k

section
variable {P : Program} {K : Nat}
theorem run_copyK_row (w : World) (dT sT ty elem : TypeId) (g o dLen dCap : Nat) (a : Addr) (sLen sCap : Nat) (cur : List Value) (t : TypeId) (cs : List Value)
    (hu : P.underlying dT = some (.slice elem)) (hs : (P.info? elem).map (·.size) = some K) (hg : w.heap[g]? = some (.cells cur.toArray t (0, 0))) (hn : cs.length = Nat.min sLen dLen * K)
    (hsrc : ∀ j v, cs[j]? = some v → w.cell? (a.add j) = some v) (hfit : o + cs.length ≤ cur.length) (h1 : ∀ v ∈ cs, v.oneCell' = true) :
    (Builtin.copy_ #[dT, sT] ty #[.slice (some ⟨g, o, none⟩) dLen dCap, .slice (some a) sLen sCap]).run P w = .ok (goInt (Nat.min sLen dLen)) (w.setRow g (splice cur o cs).toArray) := by
  have hl := run_firstCells_some (P := P) w K (Nat.min sLen dLen) a sLen sCap cs hn hsrc
  have hst := run_storeCells_at P g o t cs 0 cur.toArray w hg (by simpa using hfit) h1
  simp only [Nat.add_zero] at hst
  rw [List.append_assoc] at hst
  cases hq : P.info? elem with
  | none => simp [hq] at hs
  | some i =>
    have hi : i.size = K := by simpa [hq] using hs
    simp only [Builtin.copy_]
    simp [run_underlying hu, Builtin.lenOf, sizeOf, typeInfo, hq, hi, hl, hst, splice]
theorem run_copyK_none (w : World) (dT sT ty elem : TypeId) (d a : Option Addr) (dLen dCap sLen sCap : Nat) (hu : P.underlying dT = some (.slice elem)) (hs : (P.info? elem).map (·.size) = some K) (hn : Nat.min sLen dLen = 0) :
    (Builtin.copy_ #[dT, sT] ty #[.slice d dLen dCap, .slice a sLen sCap]).run P w = .ok (goInt 0) w := by
  cases hq : P.info? elem with
  | none => simp [hq] at hs
  | some i =>
    have hl : ∀ (x : Addr), (loadCells x 0).run P w = .ok #[] w := fun x => by simpa using run_loadCells_list (P := P) w x [] (by simp)
    cases d <;> cases a <;> simp [Builtin.copy_, run_underlying hu, Builtin.lenOf, Builtin.firstCells, sizeOf, typeInfo, hq, hn, storeCells, hl]

theorem wpList_copyK {w : World} {ops : Array Oper} {rest : List Oper} {o : Oper} {a : Act} {Q : Exit → Act → World → Prop} (hgd : o.guard = none) (d s : Operand) (dT sT : TypeId)
    (ho : o.op = .call { callee := .builtin .copy, args := #[d, s], argTypes := #[dT, sT] }) (elem : TypeId) (hu : P.underlying dT = some (.slice elem)) (hsz : (P.info? elem).map (·.size) = some K) (hK0 : 0 < K)
    (dp sp : Option Addr) (dLen dCap sLen sCap : Nat) (hd : a.eval d = .slice dp dLen dCap) (hs : a.eval s = .slice sp sLen sCap)
    (g off : Nat) (cur : List Value) (t : TypeId) (hg : w.heap[g]? = some (.cells cur.toArray t (0, 0))) (cs : List Value) (hn : cs.length = Nat.min sLen dLen * K)
    (hpos : 0 < cs.length → dp = some ⟨g, off, none⟩ ∧ ∃ ad, sp = some ad ∧ ∀ j v, cs[j]? = some v → w.cell? (ad.add j) = some v)
    (hfit : off + cs.length ≤ cur.length) (h1 : ∀ v ∈ cs, v.oneCell' = true)
    (h : ∀ w' m, Hid (w'.heap[g]? = some (.cells (splice cur off cs).toArray t (0, 0))) → Only g w w' → wpList P ops Q rest (a.put o.dst (goInt m)) w') :
    wpList P ops Q (o :: rest) a w := by
  refine wpList_plain hgd fun _ hK => ?_
  by_cases h0 : cs.length = 0
  · obtain rfl : cs = [] := List.eq_nil_of_length_eq_zero h0
    have hrun := run_copyK_none (P := P) w dT sT o.type elem dp sp dLen dCap sLen sCap hu hsz ((Nat.mul_eq_zero.1 hn.symm).resolve_right (by omega))
    unfold Oper.wp
    simp [execOp, ho, resolve, invoke, builtin, hd, hs, hrun, Result.andThen]
    exact hK _ _ (h w 0 (show _ = _ by simpa [splice] using hg) (Only.refl _ _))
  · obtain ⟨rfl, ad, rfl, hsrc⟩ := hpos (by omega)
    have hrun := run_copyK_row (P := P) w dT sT o.type elem g off dLen dCap ad sLen sCap cur t cs hu hsz hg hn hsrc hfit h1
    unfold Oper.wp
    simp [execOp, ho, resolve, invoke, builtin, hd, hs, hrun, Result.andThen]
    exact hK _ _ (h _ _ (setRow_heap w g _ _ t _ hg) (only_setRow _ _ _))

theorem step_copyK {w : World} {ops : Array Oper} {o : Oper} {a : Act} {J : Act → World → Prop} {Q : Exit → Act → World → Prop} {E : Prop} (hgd : o.guard = none) (d s : Operand) (dT sT : TypeId)
    (ho : o.op = .call { callee := .builtin .copy, args := #[d, s], argTypes := #[dT, sT] }) (elem : TypeId) (hu : P.underlying dT = some (.slice elem)) (hsz : (P.info? elem).map (·.size) = some K) (hK0 : 0 < K)
    (dp sp : Option Addr) (dLen dCap sLen sCap : Nat) (hd : a.eval d = .slice dp dLen dCap) (hs : a.eval s = .slice sp sLen sCap)
    (g off : Nat) (cur : List Value) (t : TypeId) (hg : w.heap[g]? = some (.cells cur.toArray t (0, 0))) (cs : List Value) (hn : cs.length = Nat.min sLen dLen * K)
    (hpos : 0 < cs.length → dp = some ⟨g, off, none⟩ ∧ ∃ ad, sp = some ad ∧ ∀ j v, cs[j]? = some v → w.cell? (ad.add j) = some v)
    (hfit : off + cs.length ≤ cur.length) (h1 : ∀ v ∈ cs, v.oneCell' = true)
    (h : ∀ w' m, Hid (w'.heap[g]? = some (.cells (splice cur off cs).toArray t (0, 0))) → Only g w w' → J (a.put o.dst (goInt m)) w') :
    if Region.wanted o (yielded ops a.tmps) = true then Oper.wp P o a w J Q else E := by
  have hw : Region.wanted o (yielded ops a.tmps) = true := by simp [Region.wanted, hgd]
  rw [if_pos hw]
  by_cases h0 : cs.length = 0
  · obtain rfl : cs = [] := List.eq_nil_of_length_eq_zero h0
    have hrun := run_copyK_none (P := P) w dT sT o.type elem dp sp dLen dCap sLen sCap hu hsz ((Nat.mul_eq_zero.1 hn.symm).resolve_right (by omega))
    unfold Oper.wp
    simp [execOp, ho, resolve, invoke, builtin, hd, hs, hrun, Result.andThen]
    exact h w 0 (show _ = _ by simpa [splice] using hg) (Only.refl _ _)
  · obtain ⟨rfl, ad, rfl, hsrc⟩ := hpos (by omega)
    have hrun := run_copyK_row (P := P) w dT sT o.type elem g off dLen dCap ad sLen sCap cur t cs hu hsz hg hn hsrc hfit h1
    unfold Oper.wp
    simp [execOp, ho, resolve, invoke, builtin, hd, hs, hrun, Result.andThen]
    exact h _ _ (setRow_heap w g _ _ t _ hg) (only_setRow _ _ _)

theorem wpList_clearK {w : World} {ops : Array Oper} {rest : List Oper} {o : Oper} {a : Act} {Q : Exit → Act → World → Prop} (hgd : o.guard = none) (d : Operand) (dT : TypeId)
    (ho : o.op = .call { callee := .builtin .clear, args := #[d], argTypes := #[dT] }) (elem : TypeId) (hu : P.underlying dT = some (.slice elem)) (z : Value) (hz : ∀ w, (zeroValue elem).run P w = .ok z w) (hz2 : z.cells.size = K) (hz1 : ∀ k : Nat, (z.cells[k % z.cells.size]!).oneCell' = true)
    (dp : Option Addr) (n c : Nat) (hd : a.eval d = .slice dp n c)
    (g off : Nat) (cur : List Value) (t : TypeId) (hg : w.heap[g]? = some (.cells cur.toArray t (0, 0))) (hpos : 0 < n → dp = some ⟨g, off, none⟩) (hfit : off + n * K ≤ cur.length)
    (h : ∀ w' zs, zs.length = n * K → Hid (w'.heap[g]? = some (.cells (splice cur off zs).toArray t (0, 0))) → Only g w w' → wpList P ops Q rest (a.put o.dst (.tuple #[])) w') :
    wpList P ops Q (o :: rest) a w := by
  refine wpList_plain hgd fun _ hK => ?_
  by_cases h0 : n = 0
  · subst h0
    have hrun : (Builtin.clear_ #[dT] o.type #[.slice dp 0 c]).run P w = .ok (.tuple #[]) w := by
      cases dp <;> simp [Builtin.clear_, run_underlying hu]
    unfold Oper.wp
    simp [execOp, ho, resolve, invoke, builtin, hd, hrun, Result.andThen]
    exact hK _ _ (h w [] (by simp) (show _ = _ by simpa [splice] using hg) (Only.refl _ _))
  · obtain rfl := hpos (by omega)
    have hzl : (Builtin.zeroCells z.cells n).toList.length = n * K := by simp [Builtin.zeroCells, hz2]
    have hst := run_storeCells_at P g off t (Builtin.zeroCells z.cells n).toList 0 cur.toArray w hg (by rw [hzl]; simpa using hfit) (fun v hv => by
      simp [Builtin.zeroCells] at hv
      obtain ⟨k, _, rfl⟩ := hv
      exact hz1 k)
    simp only [Nat.add_zero] at hst
    rw [List.append_assoc] at hst
    have hrun : (Builtin.clear_ #[dT] o.type #[.slice (some ⟨g, off, none⟩) n c]).run P w = .ok (.tuple #[]) (w.setRow g (splice cur off (Builtin.zeroCells z.cells n).toList).toArray) := by
      obtain ⟨m, rfl⟩ : ∃ m, n = m + 1 := ⟨n - 1, by omega⟩
      simp only [Builtin.clear_]
      simp [run_underlying hu, hz, hst, splice]
    unfold Oper.wp
    simp [execOp, ho, resolve, invoke, builtin, hd, hrun, Result.andThen]
    exact hK _ _ (h _ _ hzl (setRow_heap w g _ _ t _ hg) (only_setRow _ _ _))

/-- 'append(s[:i], v...)' where there is room: in place. -/
theorem wpList_appendK_room {w : World} {ops : Array Oper} {rest : List Oper} {o : Oper} {a : Act} {Q : Exit → Act → World → Prop} (hgd : o.guard = none) (s x : Operand) (t : TypeId)
    (ho : o.op = .call { callee := .builtin .append, args := #[s, x], argTypes := #[t, t] }) (e : TypeId) (i : TypeInfo) (ht : P.underlying t = some (.slice e)) (hi : P.info? e = some i) (hsz : i.size = K)
    (g n c : Nat) (hs : a.eval s = .slice (some ⟨g, 0, none⟩) n c) (cur : List Value) (hg : w.heap[g]? = some (.cells cur.toArray e (0, 0)))
    (ad : Addr) (m sc : Nat) (hx : a.eval x = .slice (some ad) m sc) (cs : List Value) (hl : cs.length = m * K) (hsrc : ∀ j u, cs[j]? = some u → w.cell? (ad.add j) = some u) (h1 : ∀ u ∈ cs, u.oneCell' = true) (hroom : n + m ≤ c) (hfit : n * K + cs.length ≤ cur.length)
    (h : ∀ w', Hid (w'.heap[g]? = some (.cells (splice cur (n * K) cs).toArray e (0, 0))) → Only g w w' → wpList P ops Q rest (a.put o.dst (.slice (some ⟨g, 0, none⟩) (n + m) c)) w') :
    wpList P ops Q (o :: rest) a w := by
  refine wpList_plain hgd fun _ hK => ?_
  have hrun := run_append_room (P := P) w t o.type e i ht hi g n c cur.toArray hg ad m sc cs (by rw [hsz]; exact hl) hsrc h1 hroom (by rw [hsz]; simpa using hfit)
  rw [hsz] at hrun
  simp only [List.append_assoc] at hrun
  unfold Oper.wp
  simp [execOp, ho, resolve, invoke, builtin, hs, hx, hrun, Result.andThen]
  exact hK _ _ (h _ (setRow_heap w g _ _ e _ hg) (only_setRow _ _ _))
theorem step_appendK_room {w : World} {ops : Array Oper} {o : Oper} {a : Act} {J : Act → World → Prop} {Q : Exit → Act → World → Prop} {F : Prop} (hgd : o.guard = none) (s x : Operand) (t : TypeId)
    (ho : o.op = .call { callee := .builtin .append, args := #[s, x], argTypes := #[t, t] }) (e : TypeId) (i : TypeInfo) (ht : P.underlying t = some (.slice e)) (hi : P.info? e = some i) (hsz : i.size = K)
    (g n c : Nat) (hs : a.eval s = .slice (some ⟨g, 0, none⟩) n c) (cur : List Value) (hg : w.heap[g]? = some (.cells cur.toArray e (0, 0)))
    (ad : Addr) (m sc : Nat) (hx : a.eval x = .slice (some ad) m sc) (cs : List Value) (hl : cs.length = m * K) (hsrc : ∀ j u, cs[j]? = some u → w.cell? (ad.add j) = some u) (h1 : ∀ u ∈ cs, u.oneCell' = true) (hroom : n + m ≤ c) (hfit : n * K + cs.length ≤ cur.length)
    (h : ∀ w', Hid (w'.heap[g]? = some (.cells (splice cur (n * K) cs).toArray e (0, 0))) → Only g w w' → J (a.put o.dst (.slice (some ⟨g, 0, none⟩) (n + m) c)) w') :
    if Region.wanted o (yielded ops a.tmps) = true then Oper.wp P o a w J Q else F := by
  have hw : Region.wanted o (yielded ops a.tmps) = true := by simp [Region.wanted, hgd]
  rw [if_pos hw]
  have hrun := run_append_room (P := P) w t o.type e i ht hi g n c cur.toArray hg ad m sc cs (by rw [hsz]; exact hl) hsrc h1 hroom (by rw [hsz]; simpa using hfit)
  rw [hsz] at hrun
  simp only [List.append_assoc] at hrun
  unfold Oper.wp
  simp [execOp, ho, resolve, invoke, builtin, hs, hx, hrun, Result.andThen]
  exact h _ (setRow_heap w g _ _ e _ hg) (only_setRow _ _ _)
end
end Go.Proofs.YtdbgojmjjkidbaaGreatDoor.K

/-
  WAYS: pairs of numbers of sites, as cells, as keys of a map, and in their order.
-/
namespace Go.Proofs.YtdbgojmjjkidbaaGreatDoor
open Go.RowKit Go.Maps Go.Sort K

/-- A way. -/
structure Ed where
  fr : Int
  dest : Int
  deriving DecidableEq
def ecells (e : Ed) : List Value := [.int .i64 e.1, .int .i64 e.2]
abbrev ev (e : Ed) : Value := .agg #[.int .i64 e.1, .int .i64 e.2]
instance : Enc ecells 2 := ⟨fun _ => rfl, fun m u hu => by simp [ecells] at hu; rcases hu with rfl | rfl <;> rfl, by decide⟩
def zeroEd : Ed := ⟨0, 0⟩
set_option maxRecDepth 20000 in
theorem eInfo : ∃ i, Tryz.prog.info? 37 = some i ∧ i.zero = some (ev zeroEd) ∧ i.size = 2 ∧ i.bytes = 16 := by
  refine ⟨_, rfl, ?_, ?_, ?_⟩ <;> rfl
theorem eInfo2 : (Tryz.prog.info? 37).map (·.size) = some 2 := by
  obtain ⟨i, h1, _, h2, _⟩ := eInfo
  rw [h1]; simp [h2]
/-- Numbers of 64 bits. -/
def Fit64 (n : Int) : Prop := -9223372036854775808 ≤ n ∧ n ≤ 9223372036854775807
def EFit (e : Ed) : Prop := Fit64 e.1 ∧ Fit64 e.2
def ekl (e : Ed) : Lit := .string (keyBytes [.int .i64 e.1, .int .i64 e.2])
theorem laidOutE : laidOutB Tryz.prog = true := by kernel_rfl
theorem eWide : (match Tryz.prog.underlying 37 with | some (.array _ _) | some (.struct _) => true | _ => false) = true := by kernel_rfl
theorem eRow : (37 : TypeId) < Tryz.prog.types.size := of_decide_eq_true (by kernel_rfl)
set_option maxRecDepth 20000 in
theorem eKeyed : Keyed Tryz.prog 37 := Keyed.of_law (deep_law_laid laidOutE (m := 3) (by omega) eRow (by kernel_rfl) eWide)
theorem eCells : Tryz.prog.cellsOf 37 = 2 := by kernel_rfl
theorem iCells : Tryz.prog.cellsOf 3 = 1 := by kernel_rfl
theorem eKeyType : Tryz.prog.keyType 37 = true := by kernel_rfl
theorem wf64 {n : Int} (h : Fit64 n) : (Lit.int .i64 n).wf = true := by
  have h1 : IntKind.i64.min = -9223372036854775808 := rfl
  have h2 : IntKind.i64.max = 9223372036854775807 := rfl
  simp [Lit.wf, h1, h2]; exact h
theorem wf64_inv {n : Int} (h : (Lit.int .i64 n).wf = true) : Fit64 n := by
  have h1 : IntKind.i64.min = -9223372036854775808 := rfl
  have h2 : IntKind.i64.max = 9223372036854775807 := rfl
  simp [Lit.wf, h1, h2] at h; exact h
theorem eLits (n : Nat) (e : Ed) (h : EFit e) : Tryz.prog.keyLits (n + 2) 37 [.int .i64 e.1, .int .i64 e.2] = some [.int .i64 e.1, .int .i64 e.2] := by
  have h1 := wf64 h.1
  have h2 := wf64 h.2
  have hu := Tryz.underlying37
  have hs := Tryz.underlying3
  simp [Program.keyLits, hu, hs, eCells, iCells, h1, h2]
set_option maxRecDepth 20000 in
theorem keyOf_ed {e : Ed} (h : EFit e) : keyOf Tryz.prog 37 (ev e) = some (ekl e) := by
  obtain ⟨n, hn⟩ : ∃ n, Tryz.prog.types.size + 1 = n + 2 := ⟨Tryz.prog.types.size - 1, by have h : (37 : Nat) < Tryz.prog.types.size := eRow; omega⟩
  have hu := Tryz.underlying37
  have hl := eLits n e h
  have hf : (ev e).formed Tryz.prog 37 = true := by simp [Value.formed, hu, eCells]
  unfold keyOf
  rw [hu]
  simp only [eKeyType, hf, Bool.and_self, if_true, hn]
  show Option.map _ (Tryz.prog.keyLits (n + 2) 37 [.int .i64 e.1, .int .i64 e.2]) = _
  rw [hl]
  rfl
theorem ekl_inj {a b : Ed} (ha : EFit a) (hb : EFit b) (h : ekl a = ekl b) : a = b := by
  have := eKeyed.inj (keyOf_ed ha) (by rw [h]; exact keyOf_ed hb)
  cases a; cases b
  simp at this
  simp [this]
set_option maxRecDepth 20000 in
theorem eLits_eq (n : Nat) (a b : Value) : Tryz.prog.keyLits (n + 2) 37 [a, b] = ((Tryz.prog.keyLits (n + 1) 3 [a]).bind fun x => (Tryz.prog.keyLits (n + 1) 3 [b]).map fun y => x ++ y) := by
  have hu := Tryz.underlying37
  rw [show n + 2 = (n + 1) + 1 from rfl]
  conv => lhs; unfold Program.keyLits
  rw [hu]
  simp only [eCells, List.length_cons, List.length_nil]
  generalize hf : Tryz.prog.keyLits (n + 1) 3 = f
  simp [hf, iCells]
  cases f [a] <;> cases f [b] <;> simp
set_option maxRecDepth 20000 in
theorem iLits_inv {n : Nat} {v : Value} {l : List Lit} (h : Tryz.prog.keyLits (n + 1) 3 [v] = some l) : ∃ k : Int, Fit64 k ∧ v = .int .i64 k ∧ l = [.int .i64 k] := by
  have hs := Tryz.underlying3
  unfold Program.keyLits at h
  rw [hs] at h
  cases v with
  | int q k =>
    simp only at h
    split at h
    · rename_i hl
      injection h with h
      obtain ⟨rfl, hw⟩ := hl
      exact ⟨k, wf64_inv hw, rfl, h.symm⟩
    · cases h
  | _ => cases h
set_option maxRecDepth 20000 in
theorem ekey_inv {key : Value} {z : Lit} (h : keyOf Tryz.prog 37 key = some z) : ∃ b : Ed, EFit b ∧ key = ev b ∧ z = ekl b := by
  obtain ⟨n, hn⟩ : ∃ n, Tryz.prog.types.size + 1 = n + 2 := ⟨Tryz.prog.types.size - 1, by have h : (37 : Nat) < Tryz.prog.types.size := eRow; omega⟩
  have hu := Tryz.underlying37
  unfold keyOf at h
  rw [hu] at h
  simp only [eKeyType, hn, Bool.true_and] at h
  split at h
  · rename_i hf
    obtain ⟨cs, rfl, hsz⟩ : ∃ cs, key = .agg cs ∧ cs.size = 2 := by
      unfold Value.formed at hf
      rw [hu] at hf
      cases key with
      | agg cs => exact ⟨cs, rfl, by simpa [eCells] using hf⟩
      | _ => simp at hf
    obtain ⟨a, b, rfl⟩ : ∃ a b, cs = #[a, b] := by
      cases cs with
      | mk l =>
        match l, hsz with
        | [a, b], _ => exact ⟨a, b, rfl⟩
    have hc : (Value.agg #[a, b]).cells.toList = [a, b] := rfl
    rw [hc, eLits_eq] at h
    cases h1 : Tryz.prog.keyLits (n + 1) 3 [a] with
    | none => rw [h1] at h; simp at h
    | some la =>
      cases h2 : Tryz.prog.keyLits (n + 1) 3 [b] with
      | none => rw [h1, h2] at h; simp at h
      | some lb =>
        rw [h1, h2] at h
        obtain ⟨s1, f1, rfl, rfl⟩ := iLits_inv h1
        obtain ⟨s2, f2, rfl, rfl⟩ := iLits_inv h2
        simp at h
        exact ⟨⟨s1, s2⟩, ⟨f1, f2⟩, rfl, h.symm⟩
  · cases h

/-- What a three-way comparison keeps to. -/
structure Cmp3 {α : Type} (c : α → α → Int) : Prop where
  neg : ∀ a b, c b a = - c a b
  trans : ∀ a b d, c a b < 0 → c b d < 0 → c a d < 0
  sub : ∀ a b, c a b = 0 → ∀ d, c a d = c b d
theorem Cmp3.self {α : Type} {c : α → α → Int} (h : Cmp3 c) (a : α) : c a a = 0 := by have := h.neg a a; omega
theorem Cmp3.zero {α : Type} {c : α → α → Int} (h : Cmp3 c) {a b : α} (e : c a b = 0) : c b a = 0 := by have := h.neg a b; omega
theorem Cmp3.sub' {α : Type} {c : α → α → Int} (h : Cmp3 c) {a b : α} (e : c a b = 0) (d : α) : c d a = c d b := by
  have h1 := h.sub a b e d; have h2 := h.neg a d; have h3 := h.neg b d; omega
theorem Cmp3.swo {α : Type} {c : α → α → Int} (h : Cmp3 c) : SWO (fun x y => decide (c x y < 0)) where
  irrefl x := by have := h.self x; simp; omega
  trans x y z h1 h2 := by simp at *; exact h.trans x y z h1 h2
  ntrans x y z h1 h2 := by
    simp only [decide_eq_false_iff_not] at *
    intro h3
    have n1 := h.neg x y
    have n2 := h.neg y z
    by_cases e1 : c x y = 0
    · have := h.sub x y e1 z; omega
    · by_cases e2 : c y z = 0
      · have := h.sub' e2 x; omega
      · have h4 := h.trans z y x (by omega) (by omega)
        have n3 := h.neg x z; omega
def cmpI (a b : Int) : Int := if a < b then -1 else if b < a then 1 else 0
/-- Ways by From, then To. -/
def cmpE (a b : Ed) : Int := if cmpI a.1 b.1 = 0 then cmpI a.2 b.2 else cmpI a.1 b.1
theorem cmpI_zero {a b : Int} : cmpI a b = 0 ↔ a = b := by unfold cmpI; split <;> (try split) <;> constructor <;> omega
theorem cmpI_neg {a b : Int} : cmpI a b < 0 ↔ a < b := by unfold cmpI; split <;> (try split) <;> constructor <;> omega
theorem cmpE_neg {a b : Ed} : cmpE a b < 0 ↔ a.1 < b.1 ∨ (a.1 = b.1 ∧ a.2 < b.2) := by
  unfold cmpE
  by_cases h : cmpI a.1 b.1 = 0
  · rw [if_pos h, cmpI_neg]
    have := cmpI_zero.1 h
    constructor <;> omega
  · rw [if_neg h, cmpI_neg]
    have : ¬ a.1 = b.1 := fun e => h (cmpI_zero.2 e)
    constructor <;> omega
theorem cmpE_eq {a b : Ed} : cmpE a b = 0 ↔ a = b := by
  unfold cmpE
  by_cases h : cmpI a.1 b.1 = 0
  · rw [if_pos h, cmpI_zero]
    have := cmpI_zero.1 h
    constructor
    · intro e; cases a; cases b; simp only at this e; rw [this, e]
    · exact fun e => by rw [e]
  · rw [if_neg h]
    constructor
    · exact fun e => absurd e h
    · exact fun e => absurd (cmpI_zero.2 (by rw [e])) h
theorem cmpE3 : Cmp3 cmpE where
  neg a b := by
    unfold cmpE cmpI
    by_cases h1 : a.1 < b.1 <;> by_cases h2 : b.1 < a.1 <;> by_cases h3 : a.2 < b.2 <;> by_cases h4 : b.2 < a.2 <;> simp [h1, h2, h3, h4] <;> omega
  trans a b d h1 h2 := by rw [cmpE_neg] at *; omega
  sub a b h d := by rw [cmpE_eq.1 h]
section
variable {α : Type} {c : α → α → Int}
/-- In order, each once. -/
def Ord (c : α → α → Int) (l : List α) : Prop := l.Pairwise fun a b => c a b < 0
/-- One more, at its place. -/
def insC (c : α → α → Int) (x : α) : List α → List α
  | [] => [x]
  | y :: r => if c y x < 0 then y :: insC c x r else x :: y :: r
theorem insC_perm (x : α) : ∀ l : List α, (insC c x l).Perm (x :: l)
  | [] => List.Perm.refl _
  | y :: r => by
    unfold insC
    split
    · exact ((insC_perm x r).cons y).trans (List.Perm.swap x y r)
    · exact List.Perm.refl _
theorem insC_ord (h : Cmp3 c) {x : α} : ∀ {l : List α}, Ord c l → (∀ y ∈ l, c y x ≠ 0) → Ord c (insC c x l)
  | [], _, _ => List.pairwise_singleton _ _
  | y :: r, hl, hn => by
    obtain ⟨h1, h2⟩ := List.pairwise_cons.1 hl
    unfold insC
    split
    · rename_i hlt
      refine List.pairwise_cons.2 ⟨fun z hz => ?_, insC_ord h h2 (fun z hz => hn z (by simp [hz]))⟩
      rcases List.mem_cons.1 ((insC_perm x r).mem_iff.1 hz) with rfl | hz
      · exact hlt
      · exact h1 z hz
    · rename_i hge
      have hxy : c x y < 0 := by
        have := hn y (by simp); have := h.neg x y; omega
      refine List.pairwise_cons.2 ⟨fun z hz => ?_, hl⟩
      rcases List.mem_cons.1 hz with rfl | hz
      · exact hxy
      · exact h.trans x y z hxy (h1 z hz)
theorem Ord.uniq (h : Cmp3 c) {l l' : List α} (hl : Ord c l) (hp : l'.Perm l) (hs : l'.Pairwise fun a b => ¬ c b a < 0) : l' = l := by
  have hnd : ∀ a ∈ l, ∀ b ∈ l, c a b = 0 → a = b := by
    clear hp hs
    induction l with
    | nil => intro a ha; cases ha
    | cons x r ih =>
      obtain ⟨h1, h2⟩ := List.pairwise_cons.1 hl
      intro a ha b hb e
      rcases List.mem_cons.1 ha with rfl | ha' <;> rcases List.mem_cons.1 hb with rfl | hb'
      · rfl
      · have := h1 b hb'; omega
      · have := h1 a ha'; have := h.neg a b; omega
      · exact ih h2 a ha' b hb' e
  exact List.Perm.eq_of_pairwise (le := fun a b : α => ¬ c b a < 0) (fun a b ha hb h1 h2 => hnd a (hp.mem_iff.1 ha) b hb (by have := h.neg a b; omega)) hs (hl.imp (fun {a b} hlt => by have := h.neg a b; omega)) hp
theorem Ord.filter (p : α → Bool) {l : List α} (h : Ord c l) : Ord c (l.filter p) := List.Pairwise.filter p h
end

/-- Other ways. -/
structure EL (l : List Ed) : Prop where
  diff : Diff ekl l
  fit : ∀ x ∈ l, EFit x
theorem EL.keys {l : List Ed} (h : EL l) : ∀ x ∈ l, KeysOf Tryz.prog 37 (ekl x) := fun x hx => ⟨_, keyOf_ed (h.fit x hx)⟩
theorem el_of {l : List Ed} (ho : Ord cmpE l) (hf : ∀ b ∈ l, EFit b) : EL l := by
  refine ⟨?_, hf⟩
  have : l.Pairwise fun a b => a ∈ l ∧ b ∈ l ∧ cmpE a b < 0 := List.Pairwise.imp_of_mem (fun ha hb h => ⟨ha, hb, h⟩) ho
  exact this.imp fun {a b} ⟨ha, hb, h⟩ e => by rw [ekl_inj (hf a ha) (hf b hb) e, cmpE3.self] at h; exact absurd h (by decide)
def ed (_ : Ed) : DataW Ed := .agg []
def EAt (w : World) (b : Nat) (l : List Ed) : Prop := w.ownsMap Tryz.prog 37 unitElem b l.length (DofG ekl ed l)
theorem EAt.same {w w' : World} {b : Nat} {l : List Ed} (h : EAt w b l) (hs : w'.heap[b]? = w.heap[b]?) : EAt w' b l := by
  obtain ⟨es, clock, hb, r⟩ := h
  exact ⟨es, clock, by rw [hs]; exact hb, r⟩
theorem EAt.lt {w : World} {b : Nat} {l : List Ed} (h : EAt w b l) : b < w.heap.size := World.ownsMap.lt h
theorem EAt.noCells {w : World} {b : Nat} {l : List Ed} (h : EAt w b l) {c : Array Value} {t : TypeId} {fz : Nat × Nat} : w.heap[b]? ≠ some (.cells c t fz) := fun e => by
  obtain ⟨es, clock, hb, _⟩ := h
  rw [e] at hb
  cases hb
theorem eAt_new (w : World) : EAt (w.alloc (.map #[] 0)) w.heap.size [] := World.ownsMap_made w _ _ _
theorem EAt.perm {w : World} {b n : Nat} {l l' : List Ed} (h : w.ownsMap Tryz.prog 37 unitElem b n (DofG ekl ed l')) (hl : EL l) (hp : l'.Perm l) : EAt w b l := by
  rw [DofG_perm eKeyed.one hl.keys hl.diff hp] at h
  exact ownsMapG_fit h
theorem e_entry {l : List Ed} (h : EL l) {c : Ed} {z : Lit} {yd : DataW Ed} {v : Value} {yp : List MemPlace} (hk : keyOf Tryz.prog 37 (ev c) = some z) (hv : unitElem v = some (yd, yp)) (hat : ∀ zd, (DofG ekl ed l).atKey z zd = yd) : c ∈ l ∧ ekl c = z := by
  obtain ⟨rfl, hz⟩ := unitElem_inv hv
  simp at hz
  obtain ⟨rfl, rfl⟩ := hz
  by_cases hn : ∃ y ∈ l, ekl y = z
  · obtain ⟨y, hy, rfl⟩ := hn
    have := eKeyed.inj hk (keyOf_ed (h.fit y hy))
    have e : c = y := by
      cases c; cases y
      simp at this
      simp [this]
    rw [e]
    exact ⟨hy, rfl⟩
  · have h1 := hat .nil
    rw [atKey_none (fun y hy e => hn ⟨y, hy, e⟩)] at h1
    cases h1
theorem EAt.look {w : World} {b : Nat} {l : List Ed} (h : EAt w b l) (hl : EL l) {x : Ed} (hx : EFit x) :
    (Instr.lookup 68 (.map (some b)) (ev x) true).run Tryz.prog w = .ok (.tuple #[.agg #[], .bool (decide (x ∈ l))]) w := by
  obtain ⟨v, ps, h1, h2⟩ := World.ownsMap.look_ok h eKeyed Tryz.underlying68 (Tryz.zeroValue87 w) (zd := .agg []) (zp := []) unitElem_mk (keyOf_ed hx)
  obtain ⟨rfl, _⟩ := unitElem_inv h2
  rw [h1]
  have hk : KeysOf Tryz.prog 37 (ekl x) := ⟨_, keyOf_ed hx⟩
  by_cases hm : x ∈ l
  · rw [(has_DofG eKeyed.one hk).2 ⟨x, hm, rfl⟩, decide_eq_true hm]
  · rw [has_DofG_false eKeyed.one hk (fun y hy e => hm (by rw [← ekl_inj (hl.fit y hy) hx e]; exact hy)), decide_eq_false hm]
theorem EAt.put {w : World} {b : Nat} {l : List Ed} (h : EAt w b l) (ho : Ord cmpE l) (hf : ∀ y ∈ l, EFit y) {x : Ed} (hx : EFit x) (hn : x ∉ l) (hlen : l.length ≤ 1000) :
    ∃ w', (Instr.mapUpdate 68 (.map (some b)) (ev x) (.agg #[])).run Tryz.prog w = .ok () w' ∧ EAt w' b (insC cmpE x l) ∧ w.grownBy w' (some b) := by
  have hl := el_of ho hf
  obtain ⟨w', h1, h2, h3⟩ := World.ownsMap.update h eKeyed Tryz.underlying68 (by unfold maxLen; omega) (keyOf_ed hx) unitElem_mk
  refine ⟨w', h1, ?_, h3⟩
  have e : (DofG ekl ed l).put (ekl x) (.agg []) = DofG ekl ed (x :: l) := put_new eKeyed.one hl.keys hl.diff (x := x) ⟨_, keyOf_ed hx⟩ (fun y hy e => hn (by rw [← ekl_inj (hf y hy) hx e]; exact hy))
  rw [e] at h2
  have hne : ∀ y ∈ l, cmpE y x ≠ 0 := fun y hy e => hn (by rw [← cmpE_eq.1 e]; exact hy)
  exact EAt.perm h2 (el_of (insC_ord cmpE3 ho hne) (fun y hy => by
    rcases List.mem_cons.1 ((insC_perm x l).mem_iff.1 hy) with rfl | hy
    · exact hx
    · exact hf y hy)) (insC_perm x l).symm
set_option maxRecDepth 20000 in
theorem EAt.del {w : World} {b : Nat} {l : List Ed} (h : EAt w b l) (ho : Ord cmpE l) (hf : ∀ y ∈ l, EFit y) {x : Ed} (hx : EFit x) :
    ∃ f : TypeId → World, ∀ ty, (Builtin.delete_ #[68, 37] ty #[.map (some b), ev x]).run Tryz.prog w = .ok (.tuple #[]) (f ty) ∧ EAt (f ty) b (l.filter fun y => decide (y ≠ x)) ∧ w.grownBy (f ty) (some b) := by
  have hl := el_of ho hf
  have each : ∀ ty : TypeId, ∃ w', (Builtin.delete_ #[68, 37] ty #[.map (some b), ev x]).run Tryz.prog w = .ok (.tuple #[]) w' ∧ EAt w' b (l.filter fun y => decide (y ≠ x)) ∧ w.grownBy w' (some b) := fun ty => by
    obtain ⟨w', h1, h2, h3⟩ := World.ownsMap.drop h eKeyed Tryz.underlying68 (keyOf_ed hx) ty
    refine ⟨w', h1, ?_, h3.grown⟩
    rw [del_DofG eKeyed.one hl.keys hl.diff] at h2
    have e : (l.filter fun y => !(ekl y).sameKey (ekl x)) = l.filter fun y => decide (y ≠ x) := List.filter_congr fun y hy => by
      rw [Bool.eq_iff_iff, Bool.not_eq_true', decide_eq_true_iff, ← Bool.not_eq_true, sameKey_iff eKeyed.one ⟨_, keyOf_ed hx⟩]
      exact ⟨fun e1 e2 => e1 (by rw [e2]), fun e1 e2 => e1 (ekl_inj (hf y hy) hx e2)⟩
    rw [e] at h2
    exact EAt.perm h2 (el_of (ho.filter _) (fun y hy => hf y (List.mem_filter.1 hy).1)) (List.Perm.refl _)
  obtain ⟨f, hf⟩ := Classical.axiomOfChoice each
  exact ⟨f, hf⟩
abbrev OwnE (w : World) (base : Nat) (v : Value) (l : List Ed) : Prop := OwnOf ecells 2 37 w base v l
end Go.Proofs.YtdbgojmjjkidbaaGreatDoor
