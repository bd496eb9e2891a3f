/-
  THE QUEUE of chapter 6, as lists. Of no program.
-/
import Derived.Test.YtocdfcaakflgpaaSearch
namespace Go.Proofs.Ytocdfcaakflgpaa

/-- One more, at its place. -/
def ins (x : It) (l : List It) : List It := l.take (lessT l x.tag) ++ x :: l.drop (lessT l x.tag)
/-- Those with another tag. -/
def dropT (l : List It) (t : Nat) : List It := l.filter fun x => x.tag != t
/-- The one with a tag. -/
def findT (l : List It) (t : Nat) : Option It := l.find? fun x => x.tag == t

theorem lessT_cons_lt {x : It} {l : List It} {t : Nat} (h : x.tag < t) : lessT (x :: l) t = lessT l t + 1 := by unfold lessT; rw [List.countP_cons]; simp [h]
theorem lessT_cons_ge {x : It} {l : List It} {t : Nat} (hl : Rise (x :: l)) (h : t ≤ x.tag) : lessT (x :: l) t = 0 := by
  unfold lessT
  rw [List.countP_eq_zero]
  intro y hy
  rcases List.mem_cons.1 hy with rfl | hy
  · simp; omega
  · have := (List.pairwise_cons.1 hl).1 y hy
    simp; omega
theorem ins_nil (x : It) : ins x [] = [x] := rfl
theorem ins_cons_lt {x y : It} {l : List It} (h : y.tag < x.tag) : ins x (y :: l) = y :: ins x l := by
  unfold ins; rw [lessT_cons_lt h]; simp
theorem ins_cons_ge {x y : It} {l : List It} (hl : Rise (y :: l)) (h : x.tag ≤ y.tag) : ins x (y :: l) = x :: y :: l := by
  unfold ins; rw [lessT_cons_ge hl h]; simp
theorem mem_ins {x y : It} {l : List It} : y ∈ ins x l ↔ y = x ∨ y ∈ l := by
  unfold ins
  rw [List.mem_append, List.mem_cons]
  have : y ∈ l ↔ y ∈ l.take (lessT l x.tag) ∨ y ∈ l.drop (lessT l x.tag) := by rw [← List.mem_append, List.take_append_drop]
  rw [this]
  constructor
  · rintro (h | h | h)
    · exact .inr (.inl h)
    · exact .inl h
    · exact .inr (.inr h)
  · rintro (h | h | h)
    · exact .inr (.inl h)
    · exact .inl h
    · exact .inr (.inr h)
theorem length_ins (x : It) (l : List It) : (ins x l).length = l.length + 1 := by
  unfold ins
  have := lessT_le l x.tag
  simp; omega
theorem Rise.ins {x : It} {l : List It} (h : Rise l) (hn : ∀ y ∈ l, y.tag ≠ x.tag) : Rise (ins x l) := by
  induction l with
  | nil => exact List.pairwise_singleton _ _
  | cons y r ih =>
    obtain ⟨h1, h2⟩ := List.pairwise_cons.1 h
    have hne := hn y (by simp)
    by_cases hlt : y.tag < x.tag
    · rw [ins_cons_lt hlt]
      refine List.pairwise_cons.2 ⟨fun z hz => ?_, ih h2 (fun z hz => hn z (by simp [hz]))⟩
      rcases mem_ins.1 hz with rfl | hz
      · exact hlt
      · exact h1 z hz
    · rw [ins_cons_ge h (by omega)]
      refine List.pairwise_cons.2 ⟨fun z hz => ?_, h⟩
      rcases List.mem_cons.1 hz with rfl | hz
      · omega
      · have := h1 z hz; omega
theorem Rise.drop {l : List It} (h : Rise l) (t : Nat) : Rise (dropT l t) := h.filter _
theorem Rise.tail {x : It} {l : List It} (h : Rise (x :: l)) : Rise l := (List.pairwise_cons.1 h).2
theorem mem_dropT {l : List It} {t : Nat} {x : It} : x ∈ dropT l t ↔ x ∈ l ∧ x.tag ≠ t := by
  unfold dropT; rw [List.mem_filter]; simp
theorem hasT_of_mem {l : List It} {x : It} (h : x ∈ l) : hasT l x.tag = true := List.any_eq_true.2 ⟨x, h, by simp⟩
theorem hasT_false {l : List It} {t : Nat} : hasT l t = false ↔ ∀ x ∈ l, x.tag ≠ t := by
  unfold hasT; rw [List.any_eq_false]
  constructor <;> intro h x hx <;> simpa using h x hx
theorem dropT_none {l : List It} {t : Nat} (h : hasT l t = false) : dropT l t = l := by
  unfold dropT
  rw [List.filter_eq_self]
  intro x hx
  simpa using hasT_false.1 h x hx
theorem findT_some {l : List It} {t : Nat} {x : It} (h : findT l t = some x) : x ∈ l ∧ x.tag = t := ⟨List.mem_of_find?_eq_some h, by simpa using List.find?_some h⟩
theorem findT_none {l : List It} {t : Nat} (h : findT l t = none) : hasT l t = false := by
  rw [hasT_false]
  intro x hx
  simpa using List.find?_eq_none.1 h x hx
theorem hasT_findT {l : List It} {t : Nat} {x : It} (h : findT l t = some x) : hasT l t = true := by
  obtain ⟨h1, rfl⟩ := findT_some h
  exact hasT_of_mem h1
/-- The one with a tag, and those beside it. -/
theorem dropT_length {l : List It} {t : Nat} {x : It} (hl : Rise l) (h : findT l t = some x) : (dropT l t).length + 1 = l.length := by
  induction l with
  | nil => cases h
  | cons y r ih =>
    obtain ⟨h1, h2⟩ := List.pairwise_cons.1 hl
    by_cases hy : y.tag = t
    · have hr : dropT r t = r := dropT_none (hasT_false.2 fun z hz => by have := h1 z hz; omega)
      have e : dropT (y :: r) t = dropT r t := by unfold dropT; rw [List.filter_cons]; simp [hy]
      rw [e, hr]; simp
    · have e : dropT (y :: r) t = y :: dropT r t := by unfold dropT; rw [List.filter_cons]; simp [hy]
      have f : findT (y :: r) t = findT r t := by unfold findT; exact List.find?_cons_of_neg (by simpa using hy)
      rw [f] at h
      rw [e, List.length_cons, ih h2 h, List.length_cons]
theorem dropT_head {x : It} {l : List It} (h : Rise (x :: l)) : dropT (x :: l) x.tag = l := by
  have hr : dropT l x.tag = l := dropT_none (hasT_false.2 fun z hz => by have := (List.pairwise_cons.1 h).1 z hz; omega)
  have e : dropT (x :: l) x.tag = dropT l x.tag := by unfold dropT; rw [List.filter_cons, if_neg (by simp)]
  rw [e, hr]
theorem findT_head {x : It} {l : List It} : findT (x :: l) x.tag = some x := by unfold findT; rw [List.find?_cons]; simp

/-- A queue. -/
structure St where
  most : Nat
  next : Nat
  rdy : List It
  out : List It
structure St.Ok (s : St) : Prop where
  r : Rise s.rdy
  o : Rise s.out
  ap : ∀ x ∈ s.rdy, ∀ y ∈ s.out, x.tag ≠ y.tag
  ur : ∀ x ∈ s.rdy, x.tag < s.next
  uo : ∀ x ∈ s.out, x.tag < s.next
  room : s.rdy.length + s.out.length ≤ s.most
  m : s.most ≤ 1000
  m1 : 1 ≤ s.most
  n : s.next < 18446744073709551616

def zeroMsg : Msg := ⟨0, 0, 0, ⟨#[]⟩, ⟨#[]⟩, ⟨#[]⟩⟩
def zeroIt : It := ⟨0, zeroMsg, false⟩
def newS (most : Nat) : St := ⟨most, 1, [], []⟩
theorem newS_ok {most : Nat} (h1 : 1 ≤ most) (h2 : most ≤ 1000) : (newS most).Ok :=
  ⟨List.Pairwise.nil, List.Pairwise.nil, by simp [newS], by simp [newS], by simp [newS], by simp [newS], h2, h1, by simp [newS]⟩
def St.push (s : St) (m : Msg) : Int × St :=
  if s.most ≤ s.rdy.length + s.out.length then (6, s) else if s.next = 18446744073709551615 then (11, s) else (0, { s with next := s.next + 1, rdy := s.rdy ++ [⟨s.next, m, false⟩] })
def St.give (s : St) : It × Bool × St := match s.rdy with
  | [] => (zeroIt, false, s)
  | x :: t => (x, true, { s with rdy := t, out := ins x s.out })
def St.done (s : St) (t : Nat) : Int × St := match findT s.out t with
  | none => (10, s)
  | some _ => (0, { s with out := dropT s.out t })
def mark (x : It) : It := { x with again := true }
def St.back (s : St) (t : Nat) : Int × St := match findT s.out t with
  | none => (10, s)
  | some x => (0, { s with out := dropT s.out t, rdy := ins (mark x) s.rdy })

theorem St.Ok.push {s : St} (h : s.Ok) (m : Msg) : (s.push m).2.Ok := by
  unfold St.push
  split
  · exact h
  · split
    · exact h
    · refine ⟨?_, h.o, ?_, ?_, ?_, ?_, h.m, h.m1, ?_⟩
      · refine List.pairwise_append.2 ⟨h.r, List.pairwise_singleton _ _, fun a ha b hb => ?_⟩
        rw [List.mem_singleton.1 hb]; exact h.ur a ha
      · intro x hx y hy
        rcases List.mem_append.1 hx with hx | hx
        · exact h.ap x hx y hy
        · rw [List.mem_singleton.1 hx]; have := h.uo y hy; show s.next ≠ _; omega
      · intro x hx
        show x.tag < s.next + 1
        rcases List.mem_append.1 hx with hx | hx
        · have := h.ur x hx; omega
        · rw [List.mem_singleton.1 hx]; exact Nat.lt_succ_self _
      · intro x hx; have := h.uo x hx; show x.tag < s.next + 1; omega
      · show (s.rdy ++ [_]).length + _ ≤ _
        simp; omega
      · show s.next + 1 < _
        have := h.n; omega
theorem St.Ok.give {s : St} (h : s.Ok) : s.give.2.2.Ok := by
  unfold St.give
  split
  · exact h
  · rename_i x t he
    have hx : x ∈ s.rdy := by rw [he]; simp
    have ht : ∀ y ∈ t, y ∈ s.rdy := fun y hy => by rw [he]; simp [hy]
    have hr := h.r
    rw [he] at hr
    refine ⟨hr.tail, h.o.ins (fun y hy => (h.ap x hx y hy).symm), ?_, fun y hy => h.ur y (ht y hy), ?_, ?_, h.m, h.m1, h.n⟩
    · intro y hy z hz
      rcases mem_ins.1 hz with rfl | hz
      · have := (List.pairwise_cons.1 hr).1 y hy; omega
      · exact h.ap y (ht y hy) z hz
    · intro y hy
      rcases mem_ins.1 hy with rfl | hy
      · exact h.ur _ hx
      · exact h.uo y hy
    · have := h.room
      rw [he] at this
      show t.length + (ins x s.out).length ≤ s.most
      rw [length_ins]
      simp at this; omega
theorem St.Ok.done {s : St} (h : s.Ok) (t : Nat) : (s.done t).2.Ok := by
  unfold St.done
  split
  · exact h
  · rename_i x he
    have hd := dropT_length h.o he
    refine ⟨h.r, h.o.drop t, fun y hy z hz => h.ap y hy z (mem_dropT.1 hz).1, h.ur, fun y hy => h.uo y (mem_dropT.1 hy).1, ?_, h.m, h.m1, h.n⟩
    have := h.room
    show s.rdy.length + (dropT s.out t).length ≤ s.most
    omega
theorem St.Ok.back {s : St} (h : s.Ok) (t : Nat) : (s.back t).2.Ok := by
  unfold St.back
  split
  · exact h
  · rename_i x he
    have hd := dropT_length h.o he
    obtain ⟨hx, rfl⟩ := findT_some he
    refine ⟨h.r.ins (fun y hy => h.ap y hy x hx), h.o.drop _, ?_, ?_, fun y hy => h.uo y (mem_dropT.1 hy).1, ?_, h.m, h.m1, h.n⟩
    · intro y hy z hz
      obtain ⟨hz1, hz2⟩ := mem_dropT.1 hz
      rcases mem_ins.1 hy with rfl | hy
      · exact fun e => hz2 e.symm
      · exact h.ap y hy z hz1
    · intro y hy
      rcases mem_ins.1 hy with rfl | hy
      · exact h.uo x hx
      · exact h.ur y hy
    · have := h.room
      show (ins (mark x) s.rdy).length + (dropT s.out x.tag).length ≤ s.most
      rw [length_ins]
      omega

/-- All that are out come back, the least first. -/
def backs : Nat → St → St
  | 0, s => s
  | n + 1, s => match s.out with
    | [] => s
    | x :: _ => backs n (s.back x.tag).2
def St.reset (s : St) : Int × St := (s.out.length, backs s.out.length s)
theorem St.Ok.backs {n : Nat} : ∀ {s : St}, s.Ok → (Go.Proofs.Ytocdfcaakflgpaa.backs n s).Ok := by
  induction n with
  | zero => intro s h; exact h
  | succ n ih =>
    intro s h
    unfold Go.Proofs.Ytocdfcaakflgpaa.backs
    split
    · exact h
    · exact ih (h.back _)
theorem St.Ok.reset {s : St} (h : s.Ok) : s.reset.2.Ok := h.backs
/-- What the first one that is out does when it comes back. -/
theorem back_head {s : St} (h : s.Ok) {x : It} {t : List It} (he : s.out = x :: t) : s.back x.tag = (0, { s with out := t, rdy := ins (mark x) s.rdy }) := by
  have ho := h.o
  rw [he] at ho
  unfold St.back
  rw [he, findT_head]
  simp only
  rw [dropT_head ho]
theorem backs_out {n : Nat} : ∀ {s : St}, s.Ok → (backs n s).out = s.out.drop n ∧ (backs n s).most = s.most ∧ (backs n s).next = s.next := by
  induction n with
  | zero => intro s h; exact ⟨rfl, rfl, rfl⟩
  | succ n ih =>
    intro s h
    unfold backs
    split
    · rename_i he; rw [he]; exact ⟨rfl, rfl, rfl⟩
    · rename_i x t he
      have hb := back_head h he
      have hk := h.back x.tag
      rw [hb] at hk ⊢
      obtain ⟨h1, h2, h3⟩ := ih hk
      rw [he]
      exact ⟨h1, h2, h3⟩
theorem backs_succ {n : Nat} : ∀ {s : St}, backs (n + 1) s = match (backs n s).out with
    | [] => backs n s
    | x :: _ => ((backs n s).back x.tag).2 := by
  induction n with
  | zero => intro s; rfl
  | succ n ih =>
    intro s
    rw [show backs (n + 1 + 1) s = match s.out with | [] => s | x :: _ => backs (n + 1) (s.back x.tag).2 from rfl]
    cases he : s.out with
    | nil =>
      have : backs (n + 1) s = s := by unfold backs; rw [he]
      simp only [this, he]
    | cons x t =>
      have : backs (n + 1) s = backs n (s.back x.tag).2 := by rw [backs]; rw [he]
      simp only [this]
      exact ih
theorem backs_step {s : St} (h : s.Ok) (n : Nat) {x : It} (hx : s.out[n]? = some x) : backs (n + 1) s = ((backs n s).back x.tag).2 := by
  rw [backs_succ, (backs_out h).1]
  have hn := (List.getElem?_eq_some_iff.1 hx).1
  rw [List.drop_eq_getElem_cons hn, (List.getElem?_eq_some_iff.1 hx).2]

/-- Where a list that rises is cut by a tag. -/
theorem lessT_at {l : List It} {t i : Nat} (hi : i ≤ l.length) (h1 : ∀ j (hj : j < l.length), j < i → l[j].tag < t) (h2 : ∀ j (hj : j < l.length), i ≤ j → t ≤ l[j].tag) : lessT l t = i := by
  unfold lessT
  conv => lhs; rw [← List.take_append_drop i l]
  rw [List.countP_append, List.countP_eq_length.2, List.countP_eq_zero.2]
  · simp; omega
  · intro x hx
    obtain ⟨j, hj, rfl⟩ := List.mem_iff_getElem.1 hx
    rw [List.length_drop] at hj
    have := h2 (i + j) (by omega) (by omega)
    rw [List.getElem_drop]; simp; omega
  · intro x hx
    obtain ⟨j, hj, rfl⟩ := List.mem_iff_getElem.1 hx
    rw [List.length_take] at hj
    have := h1 j (by omega) (by omega)
    rw [List.getElem_take]; simp; omega
end Go.Proofs.Ytocdfcaakflgpaa
