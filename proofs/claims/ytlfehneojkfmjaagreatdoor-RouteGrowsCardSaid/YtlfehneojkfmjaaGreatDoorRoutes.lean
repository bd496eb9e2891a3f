/-
  NAMES that rise, each once; what the queues of a table are. Of no program.
-/
import Derived.Test.YtlfehneojkfmjaaGreatDoorBind
import Derived.Lib.SlicesCompact
namespace Go.Proofs.YtlfehneojkfmjaaGreatDoor
open Go.RowKit Go.Sort

section
variable {α : Type} {c : α → α → Int}
theorem Ord.nodup (h : Cmp3 c) {l : List α} (hl : Ord c l) : l.Nodup := hl.imp (fun {a b} hlt e => by rw [e, h.self] at hlt; exact absurd hlt (by decide))
theorem Ord.ext (h : Cmp3 c) {l l' : List α} (hl : Ord c l) (hl' : Ord c l') (he : ∀ x, x ∈ l' ↔ x ∈ l) : l' = l :=
  Ord.uniq h hl ((List.perm_ext_iff_of_nodup (hl'.nodup h) (hl.nodup h)).2 he) (hl'.imp (fun {a b} hlt => by have := h.neg a b; omega))
theorem cpt_ord [Inhabited α] [DecidableEq α] (h : Cmp3 c) (hz : ∀ a b, c a b = 0 → a = b) (d : Array α) (hd : ∀ i j, i < j → j < d.size → c d[i]! d[j]! ≤ 0) : ∀ m, m ≤ d.size →
    Ord c (Lib.compactUpTo d m) ∧ (∀ x, x ∈ Lib.compactUpTo d m ↔ ∃ j, j < m ∧ d[j]! = x)
  | 0, _ => ⟨by simp [Lib.compactUpTo, Ord], fun x => by simp [Lib.compactUpTo]⟩
  | m + 1, hm => by
    obtain ⟨h1, h2⟩ := cpt_ord h hz d hd m (by omega)
    rw [Lib.compactUpTo_succ]
    by_cases hk : Lib.keeps d m = true
    · rw [if_pos hk]
      refine ⟨List.pairwise_append.2 ⟨h1, List.pairwise_singleton _ _, fun a ha b hb => ?_⟩, fun x => ?_⟩
      · obtain ⟨j, hj, rfl⟩ := (h2 a).1 ha
        obtain rfl : b = d[m]! := by simpa using hb
        have hne : d[m]! ≠ d[m - 1]! := by
          unfold Lib.keeps at hk
          rw [decide_eq_true_eq] at hk
          rcases hk with rfl | hk
          · omega
          · exact hk
        have l1 := hd (m - 1) m (by omega) (by omega)
        have l2 : c d[m - 1]! d[m]! < 0 := by
          rcases Int.lt_or_lt_of_ne (fun e : c d[m - 1]! d[m]! = 0 => hne (hz _ _ e).symm) with l | l
          · exact l
          · omega
        by_cases hj2 : j = m - 1
        · rw [hj2]; exact l2
        · have l3 := hd j (m - 1) (by omega) (by omega)
          by_cases e : c d[j]! d[m - 1]! = 0
          · rw [hz _ _ e]; exact l2
          · exact h.trans _ _ _ (by omega) l2
      · rw [List.mem_append, h2]
        constructor
        · rintro (⟨j, hj, rfl⟩ | hx)
          · exact ⟨j, by omega, rfl⟩
          · exact ⟨m, by omega, (List.mem_singleton.1 hx).symm⟩
        · rintro ⟨j, hj, rfl⟩
          by_cases e : j = m
          · subst e; right; simp
          · left; exact ⟨j, by omega, rfl⟩
    · rw [if_neg hk, List.append_nil]
      refine ⟨h1, fun x => ?_⟩
      rw [h2]
      have hk' : m ≠ 0 ∧ d[m]! = d[m - 1]! := by
        unfold Lib.keeps at hk
        rw [decide_eq_true_eq] at hk
        exact ⟨fun e => hk (.inl e), Classical.byContradiction fun e => hk (.inr e)⟩
      constructor
      · rintro ⟨j, hj, rfl⟩; exact ⟨j, by omega, rfl⟩
      · rintro ⟨j, hj, rfl⟩
        by_cases e : j = m
        · subst e; exact ⟨j - 1, by omega, hk'.2.symm⟩
        · exact ⟨j, by omega, rfl⟩
end

instance memS (x : ByteArray) (l : List ByteArray) : Decidable (x ∈ l) := decidable_of_iff (l.any (fun y => decide (y = x)) = true) (by simp)
/-- One name more, at its place, unless it is there. -/
def addS (x : ByteArray) (l : List ByteArray) : List ByteArray := if x ∈ l then l else insC cmpS x l
theorem mem_addS (x y : ByteArray) (l : List ByteArray) : y ∈ addS x l ↔ y = x ∨ y ∈ l := by
  unfold addS
  split
  · rename_i h
    constructor
    · exact .inr
    · rintro (rfl | h') <;> assumption
  · rw [(insC_perm x l).mem_iff, List.mem_cons]
theorem addS_ord {x : ByteArray} {l : List ByteArray} (h : Ord cmpS l) : Ord cmpS (addS x l) := by
  unfold addS
  split
  · exact h
  · rename_i hn
    exact insC_ord cmpS3 h (fun y hy e => hn (by rw [← cmpS_eq e]; exact hy))
/-- Names made one. -/
def mkS (l : List ByteArray) : List ByteArray := l.foldr addS []
theorem mkS_ord : ∀ l, Ord cmpS (mkS l)
  | [] => List.Pairwise.nil
  | _ :: r => addS_ord (mkS_ord r)
theorem mem_mkS (y : ByteArray) : ∀ l, y ∈ mkS l ↔ y ∈ l
  | [] => Iff.rfl
  | x :: r => by
    show y ∈ addS x (mkS r) ↔ _
    rw [mem_addS, mem_mkS y r, List.mem_cons]
theorem mkS_ext {l l' : List ByteArray} (h : ∀ x, x ∈ l ↔ x ∈ l') : mkS l = mkS l' :=
  Ord.ext cmpS3 (mkS_ord l') (mkS_ord l) (fun x => by rw [mem_mkS, mem_mkS]; exact h x)
theorem mkS_of_ord {l : List ByteArray} (h : Ord cmpS l) : mkS l = l := Ord.ext cmpS3 h (mkS_ord l) (fun x => mem_mkS x l)
theorem mkS_length (l : List ByteArray) : (mkS l).length ≤ l.length := by
  induction l with
  | nil => exact Nat.le_refl _
  | cons x r ih =>
    show (addS x (mkS r)).length ≤ r.length + 1
    unfold addS
    split
    · omega
    · rw [(insC_perm x (mkS r)).length_eq, List.length_cons]
      omega

/-- Does a pattern fit a key, of an exchange? -/
def fitsX (x : Ex) (pat key : ByteArray) : Bool := goodX x && keyB (txt key) && (if x.kind = 1 then pat.toList == key.toList else if x.kind = 2 then pat.toList.isEmpty else matchB (txt pat) (txt key))
def qsel (x : Ex) (e key : ByteArray) (b : Bd) : Bool := decide (b.ex = e) && fitsX x b.pat key
/-- Into which queues a message goes. -/
def queuesT (s : Tb) (e key : ByteArray) : List ByteArray := match findX s.xs e with
  | none => []
  | some x => mkS ((s.bs.filter (qsel x e key)).map Bd.que)
/-- From which exchanges a binding leads to a queue. -/
def whoT (s : Tb) (q : ByteArray) : List ByteArray := mkS ((s.bs.filter fun b => decide (b.que = q)).map Bd.ex)
theorem queuesT_ord (s : Tb) (e key : ByteArray) : Ord cmpS (queuesT s e key) := by
  unfold queuesT
  split
  · exact List.Pairwise.nil
  · exact mkS_ord _
theorem queuesT_length {s : Tb} (h : s.Ok) (e key : ByteArray) : (queuesT s e key).length ≤ 32 := by
  unfold queuesT
  split
  · simp
  · refine Nat.le_trans (mkS_length _) ?_
    rw [List.length_map]
    exact Nat.le_trans (List.length_filter_le _ _) h.nb
theorem whoT_length {s : Tb} (h : s.Ok) (q : ByteArray) : (whoT s q).length ≤ 32 := by
  refine Nat.le_trans (mkS_length _) ?_
  rw [List.length_map]
  exact Nat.le_trans (List.length_filter_le _ _) h.nb
theorem mem_queuesT {s : Tb} {e key q : ByteArray} : q ∈ queuesT s e key ↔ ∃ x, findX s.xs e = some x ∧ ∃ b ∈ s.bs, b.ex = e ∧ fitsX x b.pat key = true ∧ b.que = q := by
  unfold queuesT
  split
  · rename_i h
    simp [h]
  · rename_i x h
    rw [mem_mkS, List.mem_map]
    constructor
    · rintro ⟨b, hb, rfl⟩
      rw [List.mem_filter] at hb
      unfold qsel at hb
      simp at hb
      exact ⟨x, h, b, hb.1, hb.2.1, hb.2.2, rfl⟩
    · rintro ⟨y, hy, b, hb, h1, h2, h3⟩
      rw [h] at hy
      injection hy with hy
      subst hy
      exact ⟨b, List.mem_filter.2 ⟨hb, by unfold qsel; simp [h1, h2]⟩, h3⟩

/-- Bindings of one exchange: their queues rise. -/
theorem que_rise {a b : Bd} (h : cmpB a b < 0) (he : a.ex = b.ex) : cmpS a.que b.que ≤ 0 := by
  unfold cmpB cor at h
  simp only at h
  rw [he, cmpS3.self, if_pos rfl] at h
  by_cases h2 : cmpS a.que b.que = 0
  · omega
  · rw [if_neg h2] at h; omega
theorem ex_rise {a b : Bd} (h : cmpB a b < 0) : cmpS a.ex b.ex ≤ 0 := by
  unfold cmpB cor at h
  simp only at h
  by_cases h2 : cmpS a.ex b.ex = 0
  · omega
  · rw [if_neg h2] at h; omega
/-- What slices.Compact makes of names that rise. -/
theorem compact_rise {l : List ByteArray} (h : l.Pairwise fun a b => cmpS a b ≤ 0) : Lib.compact (l.map (·.data.toList)) = (mkS l).map (·.data.toList) := by
  have hC : Cmp3 (fun a b : List UInt8 => Lib.compareBytes a b) := ⟨fun _ _ => cb_neg _ _, fun _ _ _ => cb_trans _ _ _, fun a b e d => by rw [cb_eq a b e]⟩
  have hp : (l.map (·.data.toList)).Pairwise fun a b => Lib.compareBytes a b ≤ 0 := List.pairwise_map.2 h
  have hd : ∀ i j, i < j → j < (l.map (·.data.toList)).toArray.size → Lib.compareBytes (l.map (·.data.toList)).toArray[i]! (l.map (·.data.toList)).toArray[j]! ≤ 0 := fun i j hij hj => by
    have hj' : j < (l.map (·.data.toList)).length := by simpa using hj
    rw [getElem!_pos _ i (by simp at hj' ⊢; omega), getElem!_pos _ j hj]
    exact List.pairwise_iff_getElem.1 hp i j (by omega) hj' hij
  obtain ⟨h1, h2⟩ := cpt_ord hC (fun _ _ => cb_eq _ _) _ hd (l.map (·.data.toList)).length (by simp)
  refine Ord.ext hC ?_ h1 (fun x => ?_)
  · exact List.pairwise_map.2 (mkS_ord l)
  · refine (h2 x).trans ?_
    simp only [List.mem_map, mem_mkS]
    constructor
    · rintro ⟨j, hj, rfl⟩
      have hj' : j < l.length := by simpa using hj
      refine ⟨l[j], List.getElem_mem hj', ?_⟩
      rw [getElem!_pos _ j (by simpa using hj')]
      simp
    · rintro ⟨a, ha, rfl⟩
      obtain ⟨j, hj, rfl⟩ := List.mem_iff_getElem.1 ha
      refine ⟨j, by simpa using hj, ?_⟩
      rw [getElem!_pos _ j (by simpa using hj)]
      simp
end Go.Proofs.YtlfehneojkfmjaaGreatDoor
