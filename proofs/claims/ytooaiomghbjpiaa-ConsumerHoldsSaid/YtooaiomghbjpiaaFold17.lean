/-
  A queue is forgotten, client by client: what that leaves; of no program. All rows of tags can be sorted.
-/
import Derived.Test.YtooaiomghbjpiaaPdqU
import Derived.Test.YtooaiomghbjpiaaLawTurns17
namespace Go.Proofs.Ytooaiomghbjpiaa
open Go.RowKit Go.Maps Go.Sort Go.Shelf
set_option maxRecDepth 20000

theorem sortsU_any {l : List Int} (h : l.length ≤ 1000000) : SortsU l := fun w base g cap xs hp hu => pdqU_any hu (by simp) (by rw [hp.length_eq]; exact h)
theorem LOk.sorts {L : List Se} (h : LOk L) : SortsL L := fun s hs => sortsU_any (by have := (h.ok s hs).len; have := (h.ok s hs).m2; omega)

def stepF (q : ByteArray) (z : List Se × List Int) (c : Int) : List Se × List Int := if (findC z.1 c).any (wantB q) then (cutC z.1 c, z.2 ++ [c]) else z
def foldF (q : ByteArray) (l : List Int) (z : List Se × List Int) : List Se × List Int := l.foldl (stepF q) z
theorem findC_cut {L : List Se} {c c' : Int} (h : c' ≠ c) : findC (cutC L c) c' = findC L c' := by
  unfold findC cutC
  rw [List.find?_filter]
  congr 1
  funext s
  by_cases e : s.c = c'
  · simp [e, h]
  · simp [e]
theorem stepF_find {L : List Se} {g : List Int} {q : ByteArray} {c c' : Int} (h : c' ≠ c) : findC (stepF q (L, g) c).1 c' = findC L c' := by
  unfold stepF
  split
  · exact findC_cut h
  · rfl
theorem LOk.step {L : List Se} {g : List Int} (h : LOk L) (q : ByteArray) (c : Int) : LOk (stepF q (L, g) c).1 := by
  unfold stepF
  split
  · exact h.cut c
  · exact h
theorem LOk.foldF (q : ByteArray) (l : List Int) : ∀ (L : List Se) (g : List Int), LOk L → LOk (foldF q l (L, g)).1 := by
  induction l with
  | nil => exact fun _ _ h => h
  | cons c l ih => exact fun L g h => ih _ _ (h.step q c)
theorem fold_is (q : ByteArray) (l : List Int) : ∀ (L : List Se) (g : List Int), LOk L → l.Nodup → foldF q l (L, g) = (L.filter (fun s => !(wantB q s && l.contains s.c)), g ++ l.filter fun c => (findC L c).any (wantB q)) := by
  induction l with
  | nil =>
    intro L g _ _
    unfold foldF
    simp
    exact (List.filter_eq_self.2 fun _ _ => rfl).symm
  | cons c l ih =>
    intro L g ok hn
    obtain ⟨hc, hn'⟩ := List.nodup_cons.1 hn
    show foldF q l (stepF q (L, g) c) = _
    have hf : ∀ L', (∀ c', c' ≠ c → findC L' c' = findC L c') → l.filter (fun c => (findC L' c).any (wantB q)) = l.filter (fun c => (findC L c).any (wantB q)) := fun L' h => List.filter_congr fun x hx => by rw [h x (fun e => hc (e ▸ hx))]
    by_cases hw : (findC L c).any (wantB q) = true
    · have e : stepF q (L, g) c = (cutC L c, g ++ [c]) := by unfold stepF; rw [if_pos hw]
      rw [e, ih _ _ (ok.cut c) hn', hf _ (fun c' h => findC_cut h), List.filter_cons (x := c), if_pos hw, List.append_assoc]
      refine Prod.ext ?_ rfl
      show (cutC L c).filter _ = _
      unfold cutC
      rw [List.filter_filter]
      refine List.filter_congr fun s hs => ?_
      by_cases hsc : s.c = c
      · have h1 := findC_mem ok hs
        rw [hsc] at h1
        rw [h1] at hw
        have h2 : wantB q s = true := hw
        simp [hsc, h2]
      · have h3 : (c :: l).contains s.c = l.contains s.c := by simp [hsc]
        rw [h3]
        simp [hsc]
    · have e : stepF q (L, g) c = (L, g) := by unfold stepF; rw [if_neg hw]
      rw [e, ih _ _ ok hn', List.filter_cons (x := c), if_neg hw]
      refine Prod.ext (List.filter_congr fun s hs => ?_) rfl
      by_cases hsc : s.c = c
      · have h1 := findC_mem ok hs
        rw [hsc] at h1
        rw [h1] at hw
        have h2 : wantB q s = false := by simpa using hw
        simp [h2]
      · have h3 : (c :: l).contains s.c = l.contains s.c := by simp [hsc]
        rw [h3]
theorem clientsL_perm (L : List Se) : (clientsL L).Perm (L.map Se.c) := List.mergeSort_perm _ _
theorem clientsL_le (L : List Se) : (clientsL L).Pairwise (fun a b => decide (a ≤ b) = true) := List.pairwise_mergeSort (fun a b c h1 h2 => by simp at *; omega) (fun a b => by simp; omega) _
theorem clientsL_nodup {L : List Se} (h : LOk L) : (clientsL L).Nodup := by
  rw [(clientsL_perm L).nodup_iff]
  exact (List.pairwise_map.2 h.diff)
theorem clientsL_up {L : List Se} (h : LOk L) : (clientsL L).Pairwise (· < ·) := by
  have h1 := clientsL_le L
  have h2 : (clientsL L).Pairwise (· ≠ ·) := clientsL_nodup h
  exact (h1.and h2).imp fun {a b} ⟨x, y⟩ => by simp at x; omega
theorem mem_clientsL {L : List Se} {c : Int} : c ∈ clientsL L ↔ ∃ s ∈ L, s.c = c := by rw [(clientsL_perm L).mem_iff, List.mem_map]
theorem clients_find {L : List Se} {c : Int} (h : c ∈ clientsL L) : ∃ s, findC L c = some s := by
  obtain ⟨s, hs, e⟩ := mem_clientsL.1 h
  cases hf : findC L c with
  | none => exact absurd e (findC_none hf s hs)
  | some y => exact ⟨y, rfl⟩
theorem clients_i64 {L : List Se} (ok : LOk L) {c : Int} (h : c ∈ clientsL L) : 1 ≤ c ∧ c ≤ 1000 := by
  obtain ⟨s, hs, e⟩ := mem_clientsL.1 h
  have := (ok.ok s hs).c1
  have := (ok.ok s hs).c2
  omega
theorem fold_all (q : ByteArray) {L : List Se} (ok : LOk L) : foldF q (clientsL L) (L, []) = (forgetL L q, goneL L q) := by
  rw [fold_is q _ L [] ok (clientsL_nodup ok), List.nil_append]
  refine Prod.ext (List.filter_congr fun s hs => ?_) ?_
  · have : (clientsL L).contains s.c = true := by simpa using mem_clientsL.2 ⟨s, hs, rfl⟩
    rw [this, Bool.and_true]
  · show _ = clientsL (L.filter (wantB q))
    refine List.Perm.eq_of_pairwise (le := fun a b : Int => decide (a ≤ b) = true) (fun a b _ _ h1 h2 => by simp at h1 h2; omega) ((clientsL_le L).sublist List.filter_sublist) (clientsL_le _) ?_
    refine (((clientsL_perm L).filter _).trans ?_).trans (clientsL_perm _).symm
    rw [List.filter_map]
    refine List.Perm.map _ (List.Perm.of_eq (List.filter_congr fun s hs => ?_))
    show (findC L s.c).any (wantB q) = _
    rw [findC_mem ok hs]
    rfl
end Go.Proofs.Ytooaiomghbjpiaa
