/-
  A DESK, of no program: its line of seats, and what is done to it.
-/
import Derived.Test.YtooaiomghbjpiaaTexts
namespace Go.Proofs.Ytooaiomghbjpiaa

/-- A seat: a client, the queue that it wants, how many it may hold, the tags that it holds, rising. -/
structure Se where
  c : Int
  q : ByteArray
  m : Int
  t : List Int

def findC (L : List Se) (c : Int) : Option Se := L.find? fun s => decide (s.c = c)
theorem findC_some {L : List Se} {c : Int} {s : Se} (h : findC L c = some s) : s ∈ L ∧ s.c = c := ⟨List.mem_of_find?_eq_some h, by simpa using List.find?_some h⟩
theorem findC_none {L : List Se} {c : Int} (h : findC L c = none) : ∀ s ∈ L, s.c ≠ c := fun s hs => by simpa using List.find?_eq_none.1 h s hs
def cutC (L : List Se) (c : Int) : List Se := L.filter fun s => !decide (s.c = c)
def fullB (s : Se) : Bool := decide (s.m ≤ (s.t.length : Int))
def hasB (s : Se) (t : Int) : Bool := s.t.any fun u => decide (u = t)
def wantB (q : ByteArray) (s : Se) : Bool := decide (s.q = q)
def readyB (q : ByteArray) (s : Se) : Bool := wantB q s && !fullB s
def nextC (L : List Se) (q : ByteArray) : Option Se := L.find? (readyB q)
def ownB (q : ByteArray) (t : Int) (s : Se) : Bool := wantB q s && hasB s t
def heldB (L : List Se) (q : ByteArray) (t : Int) : Bool := L.any (ownB q t)
def insU (t : Int) : List Int → List Int
  | [] => [t]
  | u :: l => if t < u then t :: u :: l else u :: insU t l
def cutU (t : Int) (l : List Int) : List Int := l.filter fun u => !decide (u = t)
def mayS (c : Int) (q : ByteArray) (m : Int) : Bool := decide (1 ≤ c ∧ c ≤ 1000) && nameB q.data.toList && decide (1 ≤ m ∧ m ≤ 100)
def addE (L : List Se) (c : Int) (q : ByteArray) (m : Int) : Int := if mayS c q m then (if (findC L c).isSome then 4 else if 32 ≤ L.length then 5 else 0) else 2
def addL (L : List Se) (c : Int) (q : ByteArray) (m : Int) : List Se := if addE L c q m = 0 then L ++ [⟨c, q, m, []⟩] else L
def tookE (L : List Se) (c t : Int) : Int := match findC L c with
  | none => 3
  | some s => if fullB s then 5 else if heldB L s.q t then 4 else if t = 0 then 2 else 0
def tookS (s : Se) (t : Int) : Se := { s with t := insU t s.t }
def tookL (L : List Se) (c t : Int) : List Se := match findC L c with
  | none => L
  | some s => if tookE L c t = 0 then cutC L c ++ [tookS s t] else L
def settleE (L : List Se) (c t : Int) : Int := match findC L c with
  | none => 3
  | some s => if hasB s t then 0 else 10
def settleS (s : Se) (t : Int) : Se := { s with t := cutU t s.t }
def settleL (L : List Se) (c t : Int) : List Se := if settleE L c t = 0 then L.map fun s => if s.c = c then settleS s t else s else L
def dropE (L : List Se) (c : Int) : Int := if (findC L c).isSome then 0 else 3
def clientsL (L : List Se) : List Int := (L.map Se.c).mergeSort fun a b => decide (a ≤ b)
def goneL (L : List Se) (q : ByteArray) : List Int := clientsL (L.filter (wantB q))
def forgetL (L : List Se) (q : ByteArray) : List Se := L.filter fun s => !wantB q s

/-- What a seat always is. -/
structure SeOk (s : Se) : Prop where
  c1 : 1 ≤ s.c
  c2 : s.c ≤ 1000
  q : s.q.size ≤ 20
  m1 : 1 ≤ s.m
  m2 : s.m ≤ 100
  up : s.t.Pairwise (· < ·)
  pos : ∀ t ∈ s.t, 0 < t ∧ t < 18446744073709551616
  len : (s.t.length : Int) ≤ s.m
/-- What a line always is. -/
structure LOk (L : List Se) : Prop where
  diff : L.Pairwise fun a b => a.c ≠ b.c
  few : L.length ≤ 32
  ok : ∀ s ∈ L, SeOk s
  one : L.Pairwise fun a b => a.q = b.q → ∀ t ∈ a.t, t ∉ b.t

theorem LOk.unique {L : List Se} (h : LOk L) {a b : Se} (ha : a ∈ L) (hb : b ∈ L) (e : a.c = b.c) : a = b := by
  have hd := h.diff
  clear h
  induction L with
  | nil => cases ha
  | cons z r ih =>
    obtain ⟨h1, h2⟩ := List.pairwise_cons.1 hd
    rcases List.mem_cons.1 ha with rfl | ha'
    · rcases List.mem_cons.1 hb with rfl | hb'
      · rfl
      · exact absurd e (h1 b hb')
    · rcases List.mem_cons.1 hb with rfl | hb'
      · exact absurd e.symm (h1 a ha')
      · exact ih ha' hb' h2
theorem findC_mem {L : List Se} (h : LOk L) {s : Se} (hs : s ∈ L) : findC L s.c = some s := by
  cases hf : findC L s.c with
  | none => exact absurd rfl (findC_none hf s hs)
  | some y =>
    obtain ⟨h1, h2⟩ := findC_some hf
    rw [h.unique h1 hs h2]
theorem name_size {q : ByteArray} (h : nameB q.data.toList = true) : q.size ≤ 20 := by
  unfold nameB at h
  simp only [Bool.and_eq_true, decide_eq_true_eq] at h
  simpa using h.1
theorem lok_nil : LOk [] := ⟨List.Pairwise.nil, by simp, by simp, List.Pairwise.nil⟩
theorem LOk.sub {L L' : List Se} (h : LOk L) (hs : L'.Sublist L) : LOk L' := ⟨h.diff.sublist hs, Nat.le_trans hs.length_le h.few, fun s hx => h.ok s (hs.subset hx), h.one.sublist hs⟩
theorem LOk.cut {L : List Se} (h : LOk L) (c : Int) : LOk (cutC L c) := h.sub List.filter_sublist
theorem LOk.forget {L : List Se} (h : LOk L) (q : ByteArray) : LOk (forgetL L q) := h.sub List.filter_sublist
theorem cutC_ne {L : List Se} {c : Int} {s : Se} (h : s ∈ cutC L c) : s ∈ L ∧ s.c ≠ c := by
  obtain ⟨h1, h2⟩ := List.mem_filter.1 h
  exact ⟨h1, by simpa using h2⟩
theorem mayS_true {c m : Int} {q : ByteArray} (h : mayS c q m = true) : 1 ≤ c ∧ c ≤ 1000 ∧ nameB q.data.toList = true ∧ 1 ≤ m ∧ m ≤ 100 := by
  unfold mayS at h
  simp only [Bool.and_eq_true, decide_eq_true_eq] at h
  exact ⟨h.1.1.1, h.1.1.2, h.1.2, h.2.1, h.2.2⟩
theorem addE_zero {L : List Se} {c m : Int} {q : ByteArray} (h : addE L c q m = 0) : mayS c q m = true ∧ findC L c = none ∧ L.length < 32 := by
  unfold addE at h
  by_cases h1 : mayS c q m = true
  · rw [if_pos h1] at h
    cases hf : findC L c with
    | none =>
      rw [hf] at h
      simp only [Option.isSome_none, Bool.false_eq_true, if_false] at h
      by_cases h2 : 32 ≤ L.length
      · rw [if_pos h2] at h; omega
      · exact ⟨h1, rfl, by omega⟩
    | some y => rw [hf] at h; simp at h
  · rw [if_neg h1] at h; omega
theorem LOk.add {L : List Se} (h : LOk L) (c m : Int) (q : ByteArray) : LOk (addL L c q m) := by
  unfold addL
  by_cases h0 : addE L c q m = 0
  · rw [if_pos h0]
    obtain ⟨h1, h2, h3⟩ := addE_zero h0
    obtain ⟨c1, c2, hn, m1, m2⟩ := mayS_true h1
    refine ⟨?_, by simp; omega, ?_, ?_⟩
    · rw [List.pairwise_append]
      exact ⟨h.diff, List.pairwise_singleton _ _, fun a ha b hb => by rw [List.mem_singleton.1 hb]; exact findC_none h2 a ha⟩
    · intro s hs
      rcases List.mem_append.1 hs with hs | hs
      · exact h.ok s hs
      · rw [List.mem_singleton.1 hs]
        exact ⟨c1, c2, name_size hn, m1, m2, List.Pairwise.nil, by simp, by simp; omega⟩
    · rw [List.pairwise_append]
      exact ⟨h.one, List.pairwise_singleton _ _, fun a ha b hb => by rw [List.mem_singleton.1 hb]; simp⟩
  · rw [if_neg h0]; exact h
theorem insU_perm (t : Int) (l : List Int) : (insU t l).Perm (t :: l) := by
  induction l with
  | nil => exact List.Perm.refl _
  | cons u l ih =>
    unfold insU
    by_cases h : t < u
    · rw [if_pos h]
    · rw [if_neg h]
      exact (ih.cons u).trans (List.Perm.swap _ _ _)
theorem insU_mem {t u : Int} {l : List Int} : u ∈ insU t l ↔ u = t ∨ u ∈ l := by rw [(insU_perm t l).mem_iff, List.mem_cons]
theorem insU_len (t : Int) (l : List Int) : (insU t l).length = l.length + 1 := by rw [(insU_perm t l).length_eq, List.length_cons]
theorem insU_up {t : Int} {l : List Int} (h : l.Pairwise (· < ·)) (hn : t ∉ l) : (insU t l).Pairwise (· < ·) := by
  induction l with
  | nil => exact List.pairwise_singleton _ _
  | cons u l ih =>
    obtain ⟨h1, h2⟩ := List.pairwise_cons.1 h
    unfold insU
    by_cases hlt : t < u
    · rw [if_pos hlt]
      refine List.pairwise_cons.2 ⟨fun x hx => ?_, h⟩
      rcases List.mem_cons.1 hx with rfl | hx
      · exact hlt
      · have := h1 x hx; omega
    · rw [if_neg hlt]
      have hne : t ≠ u := fun e => hn (by rw [e]; simp)
      refine List.pairwise_cons.2 ⟨fun x hx => ?_, ih h2 (fun hx => hn (by simp [hx]))⟩
      rcases insU_mem.1 hx with rfl | hx
      · omega
      · exact h1 x hx
theorem hasB_iff {s : Se} {t : Int} : hasB s t = true ↔ t ∈ s.t := by
  unfold hasB
  rw [List.any_eq_true]
  exact ⟨fun ⟨u, hu, e⟩ => by rw [← of_decide_eq_true e]; exact hu, fun h => ⟨t, h, by simp⟩⟩
theorem heldB_false {L : List Se} {q : ByteArray} {t : Int} (h : heldB L q t = false) : ∀ s ∈ L, s.q = q → t ∉ s.t := by
  intro s hs hq ht
  unfold heldB at h
  rw [List.any_eq_false] at h
  refine h s hs ?_
  unfold ownB wantB
  rw [hasB_iff.2 ht, hq]
  simp
theorem tookE_zero {L : List Se} {c t : Int} (h : tookE L c t = 0) : ∃ s, findC L c = some s ∧ fullB s = false ∧ heldB L s.q t = false ∧ t ≠ 0 := by
  unfold tookE at h
  cases hf : findC L c with
  | none => rw [hf] at h; simp at h
  | some s =>
    rw [hf] at h
    simp only at h
    cases h1 : fullB s with
    | true => rw [h1] at h; simp at h
    | false =>
      cases h2 : heldB L s.q t with
      | true => rw [h1, h2] at h; simp at h
      | false =>
        rw [h1, h2] at h
        by_cases h3 : t = 0
        · rw [if_pos h3] at h; simp at h
        · exact ⟨s, rfl, h1, h2, h3⟩
theorem tookL_zero {L : List Se} {c t : Int} {s : Se} (h : tookE L c t = 0) (hf : findC L c = some s) : tookL L c t = cutC L c ++ [tookS s t] := by
  unfold tookL; rw [hf]; simp only; rw [if_pos h]
theorem tookL_bad {L : List Se} {c t : Int} (h : tookE L c t ≠ 0) : tookL L c t = L := by
  unfold tookL
  cases findC L c with
  | none => rfl
  | some s => simp only; rw [if_neg h]
theorem cutC_len {L : List Se} {c : Int} {s : Se} (hf : findC L c = some s) : (cutC L c).length < L.length := by
  obtain ⟨hs, hc⟩ := findC_some hf
  unfold cutC
  rcases Nat.lt_or_ge (L.filter fun s => !decide (s.c = c)).length L.length with h | h
  · exact h
  · have := List.length_filter_eq_length_iff.1 (Nat.le_antisymm (List.length_filter_le _ _) h) s hs
    simp [hc] at this
theorem took_ok {L : List Se} (h : LOk L) {c t : Int} {s : Se} (hf : findC L c = some s) (hfull : fullB s = false) (hh : heldB L s.q t = false) (h0 : t ≠ 0) (ht : 0 ≤ t ∧ t < 18446744073709551616) : SeOk (tookS s t) := by
  obtain ⟨hs, hc⟩ := findC_some hf
  have ho := h.ok s hs
  have hn := heldB_false hh s hs rfl
  unfold fullB at hfull
  simp only [decide_eq_false_iff_not] at hfull
  refine ⟨ho.c1, ho.c2, ho.q, ho.m1, ho.m2, insU_up ho.up hn, fun u hu => ?_, ?_⟩
  · rcases insU_mem.1 hu with rfl | hu
    · omega
    · exact ho.pos u hu
  · show ((insU t s.t).length : Int) ≤ s.m
    rw [insU_len]; omega
theorem LOk.took {L : List Se} (h : LOk L) (c t : Int) (ht : 0 ≤ t ∧ t < 18446744073709551616) : LOk (tookL L c t) := by
  by_cases h0 : tookE L c t = 0
  · obtain ⟨s, hf, h1, h2, h3⟩ := tookE_zero h0
    rw [tookL_zero h0 hf]
    obtain ⟨hs, hc⟩ := findC_some hf
    have hk := took_ok h hf h1 h2 h3 ht
    have hcut := h.cut c
    refine ⟨?_, by have := cutC_len hf; have := h.few; simp; omega, ?_, ?_⟩
    · rw [List.pairwise_append]
      exact ⟨hcut.diff, List.pairwise_singleton _ _, fun a ha b hb => by rw [List.mem_singleton.1 hb]; show a.c ≠ s.c; rw [hc]; exact (cutC_ne ha).2⟩
    · intro x hx
      rcases List.mem_append.1 hx with hx | hx
      · exact hcut.ok x hx
      · rw [List.mem_singleton.1 hx]; exact hk
    · rw [List.pairwise_append]
      refine ⟨hcut.one, List.pairwise_singleton _ _, fun a ha b hb => ?_⟩
      rw [List.mem_singleton.1 hb]
      intro hq u hu hu2
      obtain ⟨ha1, ha2⟩ := cutC_ne ha
      rcases insU_mem.1 hu2 with rfl | hu2
      · exact heldB_false h2 a ha1 hq hu
      · have hpair : ∀ x ∈ L, ∀ y ∈ L, x.c ≠ y.c → x.q = y.q → ∀ t ∈ x.t, t ∉ y.t := by
          intro x hx y hy hxy
          rcases List.pairwise_iff_getElem.1 h.one with hp
          obtain ⟨i, hi, rfl⟩ := List.getElem_of_mem hx
          obtain ⟨j, hj, rfl⟩ := List.getElem_of_mem hy
          rcases Nat.lt_trichotomy i j with hij | rfl | hij
          · exact hp i j hi hj hij
          · exact absurd rfl hxy
          · intro e t ht1 ht2
            exact hp j i hj hi hij e.symm t ht2 ht1
        exact hpair a ha1 s hs (by rw [hc]; exact ha2) hq u hu hu2
  · rw [tookL_bad h0]; exact h
theorem settleE_zero {L : List Se} {c t : Int} (h : settleE L c t = 0) : ∃ s, findC L c = some s ∧ hasB s t = true := by
  unfold settleE at h
  cases hf : findC L c with
  | none => rw [hf] at h; simp at h
  | some s =>
    rw [hf] at h
    simp only at h
    cases h1 : hasB s t with
    | true => exact ⟨s, rfl, h1⟩
    | false => rw [h1] at h; simp at h
theorem LOk.settle {L : List Se} (h : LOk L) (c t : Int) : LOk (settleL L c t) := by
  unfold settleL
  by_cases h0 : settleE L c t = 0
  · rw [if_pos h0]
    have hsub : ∀ s : Se, (if s.c = c then settleS s t else s).c = s.c ∧ (if s.c = c then settleS s t else s).q = s.q ∧ ∀ u ∈ (if s.c = c then settleS s t else s).t, u ∈ s.t := by
      intro s
      by_cases e : s.c = c
      · rw [if_pos e]; exact ⟨rfl, rfl, fun u hu => (List.mem_filter.1 hu).1⟩
      · rw [if_neg e]; exact ⟨rfl, rfl, fun u hu => hu⟩
    refine ⟨?_, by rw [List.length_map]; exact h.few, ?_, ?_⟩
    · rw [List.pairwise_map]
      exact h.diff.imp fun {a b} hab => by rw [(hsub a).1, (hsub b).1]; exact hab
    · intro s hs
      obtain ⟨x, hx, rfl⟩ := List.mem_map.1 hs
      have ho := h.ok x hx
      by_cases e : x.c = c
      · rw [if_pos e]
        refine ⟨ho.c1, ho.c2, ho.q, ho.m1, ho.m2, ho.up.filter _, fun u hu => ho.pos u (List.mem_filter.1 hu).1, ?_⟩
        have : (cutU t x.t).length ≤ x.t.length := List.length_filter_le _ _
        have := ho.len
        show ((cutU t x.t).length : Int) ≤ x.m
        omega
      · rw [if_neg e]; exact ho
    · rw [List.pairwise_map]
      refine h.one.imp fun {a b} hab hq u hu hu2 => ?_
      rw [(hsub a).2.1, (hsub b).2.1] at hq
      exact hab hq u ((hsub a).2.2 u hu) ((hsub b).2.2 u hu2)
  · rw [if_neg h0]; exact h
end Go.Proofs.Ytooaiomghbjpiaa
