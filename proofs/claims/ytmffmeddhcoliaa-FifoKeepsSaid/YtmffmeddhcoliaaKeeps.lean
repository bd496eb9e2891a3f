/-
  WHAT A QUEUE KEEPS, by tags and messages. Of no program.
-/
import Derived.Test.YtmffmeddhcoliaaActs
namespace Go.Proofs.Ytmffmeddhcoliaa
open Go.RowKit Go.Sort

/-- A tag and a message. -/
structure Tm where
  t : Nat
  m : Msg
/-- One with this tag and this message is there. -/
def HasM (r o : List It) (x : Tm) : Prop := ∃ y, (y ∈ r ∨ y ∈ o) ∧ y.tag = x.t ∧ y.m = x.m
def Up (l : List Tm) : Prop := l.Pairwise fun a b => a.t < b.t
/-- The two lists hold just these. -/
structure Mx (r o : List It) (l : List Tm) : Prop where
  rr : Rise r
  ro : Rise o
  ap : ∀ x ∈ r, ∀ y ∈ o, x.tag ≠ y.tag
  up : Up l
  iff : ∀ x, x ∈ l ↔ HasM r o x

theorem Mx.nil {r o : List It} (h : Mx r o []) : r = [] ∧ o = [] := by
  constructor
  · cases r with
    | nil => rfl
    | cons x r => exact absurd ((h.iff ⟨x.tag, x.m⟩).2 ⟨x, .inl (by simp), rfl, rfl⟩) (by simp)
  · cases o with
    | nil => rfl
    | cons x o => exact absurd ((h.iff ⟨x.tag, x.m⟩).2 ⟨x, .inr (by simp), rfl, rfl⟩) (by simp)
theorem Mx.ge {r o : List It} {p : Tm} {l : List Tm} (h : Mx r o (p :: l)) {y : It} (hy : y ∈ r ∨ y ∈ o) : p.t ≤ y.tag := by
  have := (h.iff ⟨y.tag, y.m⟩).2 ⟨y, hy, rfl, rfl⟩
  rcases List.mem_cons.1 this with e | e
  · rw [← e]; exact Nat.le_refl _
  · exact Nat.le_of_lt ((List.pairwise_cons.1 h.up).1 _ e)
theorem rise_head {r : List It} (h : Rise r) {x : It} (hx : x ∈ r) (hle : ∀ y ∈ r, x.tag ≤ y.tag) : ∃ r', r = x :: r' := by
  cases r with
  | nil => cases hx
  | cons y r =>
    rcases List.mem_cons.1 hx with rfl | hx
    · exact ⟨r, rfl⟩
    · have := (List.pairwise_cons.1 h).1 x hx
      have := hle y (by simp)
      omega
/-- The least one stands at one of the two heads. -/
theorem Mx.step {r o : List It} {p : Tm} {l : List Tm} (h : Mx r o (p :: l)) :
    (∃ x r', r = x :: r' ∧ x.tag = p.t ∧ x.m = p.m ∧ Mx r' o l) ∨ ((∀ y ∈ r, y.tag ≠ p.t) ∧ ∃ x o', o = x :: o' ∧ x.tag = p.t ∧ x.m = p.m ∧ Mx r o' l) := by
  obtain ⟨up1, up2⟩ := List.pairwise_cons.1 h.up
  obtain ⟨x, hx, ht, hm⟩ := (h.iff p).1 (by simp)
  rcases hx with hx | hx
  · left
    obtain ⟨r', rfl⟩ := rise_head h.rr hx (fun y hy => by rw [ht]; exact h.ge (.inl hy))
    obtain ⟨r1, r2⟩ := List.pairwise_cons.1 h.rr
    refine ⟨x, r', rfl, ht, hm, r2, h.ro, fun a ha b hb => h.ap a (by simp [ha]) b hb, up2, fun q => ?_⟩
    constructor
    · intro hq
      obtain ⟨y, hy, e1, e2⟩ := (h.iff q).1 (by simp [hq])
      have := up1 q hq
      refine ⟨y, ?_, e1, e2⟩
      rcases hy with hy | hy
      · rcases List.mem_cons.1 hy with rfl | hy
        · omega
        · exact .inl hy
      · exact .inr hy
    · rintro ⟨y, hy, e1, e2⟩
      have hq := (h.iff q).2 ⟨y, hy.imp (fun h => by simp [h]) id, e1, e2⟩
      rcases List.mem_cons.1 hq with rfl | hq
      · rcases hy with hy | hy
        · have := r1 y hy; omega
        · exact absurd (by rw [ht, e1]) (h.ap x (by simp) y hy)
      · exact hq
  · right
    obtain ⟨o', rfl⟩ := rise_head h.ro hx (fun y hy => by rw [ht]; exact h.ge (.inr hy))
    obtain ⟨o1, o2⟩ := List.pairwise_cons.1 h.ro
    refine ⟨fun y hy e => h.ap y hy x (by simp) (by rw [e, ht]), x, o', rfl, ht, hm, h.rr, o2, fun a ha b hb => h.ap a ha b (by simp [hb]), up2, fun q => ?_⟩
    constructor
    · intro hq
      obtain ⟨y, hy, e1, e2⟩ := (h.iff q).1 (by simp [hq])
      have := up1 q hq
      refine ⟨y, ?_, e1, e2⟩
      rcases hy with hy | hy
      · exact .inl hy
      · rcases List.mem_cons.1 hy with rfl | hy
        · omega
        · exact .inr hy
    · rintro ⟨y, hy, e1, e2⟩
      have hq := (h.iff q).2 ⟨y, hy.imp id (fun h => by simp [h]), e1, e2⟩
      rcases List.mem_cons.1 hq with rfl | hq
      · rcases hy with hy | hy
        · exact absurd (by rw [ht, e1]) (h.ap y hy x (by simp))
        · have := o1 y hy; omega
      · exact hq
theorem Mx.length : ∀ {l : List Tm} {r o : List It}, Mx r o l → r.length + o.length = l.length := by
  intro l
  induction l with
  | nil => intro r o h; obtain ⟨rfl, rfl⟩ := h.nil; rfl
  | cons p l ih =>
    intro r o h
    rcases h.step with ⟨x, r', rfl, _, _, k⟩ | ⟨_, x, o', rfl, _, _, k⟩
    · have := ih k; simp; omega
    · have := ih k; simp; omega

/-- A queue keeps just these. -/
def Kept (s : St) (l : List Tm) : Prop := Up l ∧ ∀ x, x ∈ l ↔ HasM s.rdy s.out x
theorem Kept.mx {s : St} {l : List Tm} (h : Kept s l) (ok : s.Ok) : Mx s.rdy s.out l := ⟨ok.r, ok.o, ok.ap, h.1, h.2⟩
theorem kept_new (n : Nat) : Kept (newS n) [] := ⟨List.Pairwise.nil, fun x => by
  constructor
  · intro h; cases h
  · rintro ⟨y, hy | hy, _⟩ <;> cases hy⟩
theorem Kept.next {s : St} {l : List Tm} (h : Kept s l) (ok : s.Ok) {x : Tm} (hx : x ∈ l) : x.t < s.next := by
  obtain ⟨y, hy | hy, e1, _⟩ := (h.2 x).1 hx
  · rw [← e1]; exact ok.ur y hy
  · rw [← e1]; exact ok.uo y hy
theorem Kept.push {s : St} {l : List Tm} (h : Kept s l) (ok : s.Ok) (m : Msg) : Kept { s with next := s.next + 1, rdy := s.rdy ++ [⟨s.next, m, false⟩] } (l ++ [⟨s.next, m⟩]) := by
  refine ⟨List.pairwise_append.2 ⟨h.1, List.pairwise_singleton _ _, fun a ha b hb => ?_⟩, fun x => ?_⟩
  · rw [List.mem_singleton.1 hb]; exact h.next ok ha
  · constructor
    · intro hx
      rcases List.mem_append.1 hx with hx | hx
      · obtain ⟨y, hy, e⟩ := (h.2 x).1 hx
        exact ⟨y, hy.imp (fun h => by simp [h]) id, e⟩
      · rw [List.mem_singleton.1 hx]
        exact ⟨⟨s.next, m, false⟩, .inl (by simp), rfl, rfl⟩
    · rintro ⟨y, hy, e1, e2⟩
      rcases hy with hy | hy
      · rcases List.mem_append.1 hy with hy | hy
        · exact List.mem_append_left _ ((h.2 x).2 ⟨y, .inl hy, e1, e2⟩)
        · rw [List.mem_singleton.1 hy] at e1 e2
          refine List.mem_append_right _ (List.mem_singleton.2 ?_)
          cases x
          simp only at e1 e2
          rw [e1, e2]
      · exact List.mem_append_left _ ((h.2 x).2 ⟨y, .inr hy, e1, e2⟩)
theorem Kept.of {s s' : St} {l : List Tm} (h : Kept s l) (hs : ∀ x, HasM s'.rdy s'.out x ↔ HasM s.rdy s.out x) : Kept s' l := ⟨h.1, fun x => (h.2 x).trans (hs x).symm⟩
theorem Kept.give {s : St} {l : List Tm} (h : Kept s l) : Kept s.give.2.2 l := by
  refine h.of fun x => ?_
  cases hr : s.rdy with
  | nil => rw [give_none hr, hr]
  | cons a r =>
    rw [give_some hr]
    unfold HasM
    simp only
    constructor
    · rintro ⟨y, hy | hy, e⟩
      · exact ⟨y, .inl (by simp [hy]), e⟩
      · rcases mem_ins.1 hy with rfl | hy
        · exact ⟨y, .inl (by simp), e⟩
        · exact ⟨y, .inr hy, e⟩
    · rintro ⟨y, hy | hy, e⟩
      · rcases List.mem_cons.1 hy with rfl | hy
        · exact ⟨y, .inr (mem_ins.2 (.inl rfl)), e⟩
        · exact ⟨y, .inl hy, e⟩
      · exact ⟨y, .inr (mem_ins.2 (.inr hy)), e⟩
theorem back_hasM {s : St} (ok : s.Ok) (t' : Nat) (x : Tm) : HasM (s.back t').2.rdy (s.back t').2.out x ↔ HasM s.rdy s.out x := by
  cases hf : findT s.out t' with
  | none => rw [back_none hf]
  | some a =>
    rw [back_some hf]
    obtain ⟨hx, ht⟩ := findT_some hf
    unfold HasM
    simp only
    constructor
    · rintro ⟨y, hy | hy, e⟩
      · rcases mem_ins.1 hy with rfl | hy
        · exact ⟨a, .inr hx, e⟩
        · exact ⟨y, .inl hy, e⟩
      · exact ⟨y, .inr (mem_dropT.1 hy).1, e⟩
    · rintro ⟨y, hy | hy, e⟩
      · exact ⟨y, .inl (mem_ins.2 (.inr hy)), e⟩
      · by_cases h : y.tag = t'
        · have : y = a := ok.o.unique hy hx (by rw [h, ht])
          subst this
          exact ⟨mark y, .inl (mem_ins.2 (.inl rfl)), e⟩
        · exact ⟨y, .inr (mem_dropT.2 ⟨hy, h⟩), e⟩
theorem Kept.back {s : St} {l : List Tm} (h : Kept s l) (ok : s.Ok) (t : Nat) : Kept (s.back t).2 l := h.of fun x => back_hasM ok t x
theorem Kept.backs {n : Nat} : ∀ {s : St} {l : List Tm}, Kept s l → s.Ok → Kept (Go.Proofs.Ytmffmeddhcoliaa.backs n s) l := by
  induction n with
  | zero => intro s l h _; exact h
  | succ n ih =>
    intro s l h ok
    unfold Go.Proofs.Ytmffmeddhcoliaa.backs
    split
    · exact h
    · exact ih (h.back ok _) (ok.back _)
theorem Kept.reset {s : St} {l : List Tm} (h : Kept s l) (ok : s.Ok) : Kept s.reset.2 l := h.backs ok
/-- One that is out is done: where its tag stands, and what is left. -/
theorem Kept.done {s : St} {l : List Tm} (h : Kept s l) (ok : s.Ok) {t : Nat} {x : It} (hf : findT s.out t = some x) :
    ∃ k, ∃ hk : k < l.length, l[k].t = t ∧ (∀ i (hi : i < l.length), l[i].t = t → i = k) ∧ Kept { s with out := dropT s.out t } (l.take k ++ l.drop (k + 1)) := by
  obtain ⟨hx, ht⟩ := findT_some hf
  have hm := (h.2 ⟨x.tag, x.m⟩).2 ⟨x, .inr hx, rfl, rfl⟩
  obtain ⟨k, hk, he⟩ := List.mem_iff_getElem.1 hm
  have hkt : l[k].t = t := by rw [he]; exact ht
  have huni : ∀ i (hi : i < l.length), l[i].t = t → i = k := by
    intro i hi e
    rcases Nat.lt_trichotomy i k with c | c | c
    · have := List.pairwise_iff_getElem.1 h.1 i k hi hk c; omega
    · exact c
    · have := List.pairwise_iff_getElem.1 h.1 k i hk hi c; omega
  have hmem : ∀ q, q ∈ l.take k ++ l.drop (k + 1) ↔ q ∈ l ∧ q.t ≠ t := by
    intro q
    rw [List.mem_append]
    constructor
    · rintro (hq | hq)
      · obtain ⟨i, hi, rfl⟩ := List.mem_iff_getElem.1 hq
        rw [List.length_take] at hi
        rw [List.getElem_take]
        exact ⟨List.getElem_mem _, fun e => by have := huni i (by omega) e; omega⟩
      · obtain ⟨i, hi, rfl⟩ := List.mem_iff_getElem.1 hq
        rw [List.length_drop] at hi
        rw [List.getElem_drop]
        exact ⟨List.getElem_mem _, fun e => by have := huni (k + 1 + i) (by omega) e; omega⟩
    · rintro ⟨hq, hne⟩
      obtain ⟨i, hi, rfl⟩ := List.mem_iff_getElem.1 hq
      rcases Nat.lt_trichotomy i k with c | c | c
      · left; exact List.mem_iff_getElem.2 ⟨i, by rw [List.length_take]; omega, by rw [List.getElem_take]⟩
      · subst c; exact absurd hkt hne
      · right
        refine List.mem_iff_getElem.2 ⟨i - (k + 1), by rw [List.length_drop]; omega, ?_⟩
        rw [List.getElem_drop]
        congr 1
        omega
  refine ⟨k, hk, hkt, huni, ?_, fun q => ?_⟩
  · refine h.1.sublist ?_
    conv => rhs; rw [← List.take_append_drop k l]
    exact List.Sublist.append (List.Sublist.refl _) (by rw [List.drop_eq_getElem_cons hk]; exact List.sublist_cons_self _ _)
  · rw [hmem, h.2]
    unfold HasM
    simp only
    constructor
    · rintro ⟨⟨y, hy, e1, e2⟩, hne⟩
      exact ⟨y, hy.imp id (fun h => mem_dropT.2 ⟨h, by rw [e1]; exact hne⟩), e1, e2⟩
    · rintro ⟨y, hy, e1, e2⟩
      refine ⟨⟨y, hy.imp id (fun h => (mem_dropT.1 h).1), e1, e2⟩, ?_⟩
      rcases hy with hy | hy
      · intro e
        exact ok.ap y hy x hx (by rw [e1, e, ht])
      · rw [← e1]; exact (mem_dropT.1 hy).2
end Go.Proofs.Ytmffmeddhcoliaa
