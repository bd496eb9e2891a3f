/-
  WHAT A QUEUE HOLDS, by tags and bodies; slices of texts and of numbers. Of no program.
-/
import Derived.Test.YtocdfcaakflgpaaReset
import Derived.Test.YtocdfcaakflgpaaLives
namespace Go.Proofs.Ytocdfcaakflgpaa
open Go.RowKit Go.Sort

def scell (b : ByteArray) : List Value := [.string b]
def ncell (n : Nat) : List Value := [.int .u64 (n : Int)]
instance : Enc scell 1 := ⟨fun _ => rfl, fun m u hu => by simp [scell] at hu; rw [hu]; rfl, by decide⟩
instance : Enc ncell 1 := ⟨fun _ => rfl, fun m u hu => by simp [ncell] at hu; rw [hu]; rfl, by decide⟩
theorem RowOf.ones {α : Type} {enc : α → List Value} [Enc enc 1] {w : World} {a : Option Addr} {n cap : Nat} {l : List α} (h : RowOf enc w (.slice a n cap) l) : n = l.length ∧ cap ≤ maxLen ∧ ∀ i (hi : i < l.length), ∃ b off, a = some ⟨b, off, none⟩ ∧ ∀ u, (enc l[i])[0]? = some u → w.cell? ⟨b, off + i, none⟩ = some u := by
  have hn : n = l.length := by
    obtain ⟨a', cap', hv⟩ := h.slice
    injection hv
  have hcm : cap ≤ maxLen := by
    rcases h with ⟨hv, _⟩ | ⟨_, _, hv, _, h2, _⟩
    · injection hv with _ _ h3; subst h3; exact Nat.zero_le _
    · injection hv with _ _ h3; subst h3; exact h2
  refine ⟨hn, hcm, fun i hi => ?_⟩
  obtain ⟨b, off, cap', hv, _, _, hc⟩ := h.at (by omega)
  injection hv with hv1 _ _
  refine ⟨b, off, hv1, fun u hu => ?_⟩
  have := row_cell hc i hi 0 (by decide) u hu
  simpa using this

/-- A queue of the call's own. -/
structure Hold (w wr : World) (p : Nat) (F : Nat → Prop) (s : St) : Prop where
  q : Q wr p F s
  ok : s.Ok
  frm : ∀ k, F k → w.heap.size ≤ k
  bel : Below w.heap.size w wr
theorem Hold.go {w wr wr' : World} {p : Nat} {F F' : Nat → Prop} {s s' : St} (h : Hold w wr p F s) (q : Q wr' p F' s') (m : Moved wr wr' F F') (ok : s'.Ok) : Hold w wr' p F' s' :=
  ⟨q, ok, m.from h.frm h.bel.size, m.below h.frm h.bel h.bel.size⟩
theorem Hold.below {w wr wr' : World} {p : Nat} {F : Nat → Prop} {s : St} (h : Hold w wr p F s) (b : Below wr.heap.size wr wr') : Hold w wr' p F s := h.go (h.q.kept b) (.of_below b) h.ok

/-- One with this tag and this body is there. -/
def Has (s : St) (t : Nat) (b : ByteArray) : Prop := ∃ x, (x ∈ s.rdy ∨ x ∈ s.out) ∧ x.tag = t ∧ x.m.body = b
/-- Just the bodies from k on are there, by their tags. -/
def Full (s : St) (bs : List ByteArray) (k : Nat) : Prop := ∀ t b, Has s t b ↔ ∃ i, k ≤ i ∧ t = i + 1 ∧ bs[i]? = some b
theorem give_has (s : St) (t : Nat) (b : ByteArray) : Has s.give.2.2 t b ↔ Has s t b := by
  cases hr : s.rdy with
  | nil => rw [give_none hr]
  | cons x r =>
    rw [give_some hr]
    unfold Has
    simp only [hr]
    constructor
    · rintro ⟨y, hy | hy, e⟩
      · exact ⟨y, .inl (by simp [hy]), e⟩
      · rcases mem_ins.1 hy with rfl | hy
        · exact ⟨y, .inl (by simp), e⟩
        · exact ⟨y, .inr hy, e⟩
    · rintro ⟨y, hy | hy, e⟩
      · rcases List.mem_cons.1 hy with rfl | hy
        · exact ⟨y, .inr (mem_ins.2 (.inl rfl)), e⟩
        · exact ⟨y, .inl hy, e⟩
      · exact ⟨y, .inr (mem_ins.2 (.inr hy)), e⟩
theorem back_has {s : St} (ok : s.Ok) (t' t : Nat) (b : ByteArray) : Has (s.back t').2 t b ↔ Has s t b := by
  cases hf : findT s.out t' with
  | none => rw [back_none hf]
  | some x =>
    rw [back_some hf]
    obtain ⟨hx, ht⟩ := findT_some hf
    unfold Has
    constructor
    · rintro ⟨y, hy | hy, e⟩
      · rcases mem_ins.1 hy with rfl | hy
        · exact ⟨x, .inr hx, e⟩
        · exact ⟨y, .inl hy, e⟩
      · exact ⟨y, .inr (mem_dropT.1 hy).1, e⟩
    · rintro ⟨y, hy | hy, e⟩
      · exact ⟨y, .inl (mem_ins.2 (.inr hy)), e⟩
      · by_cases h : y.tag = t'
        · have : y = x := ok.o.unique hy hx (by rw [h, ht])
          subst this
          exact ⟨mark y, .inl (mem_ins.2 (.inl rfl)), e⟩
        · exact ⟨y, .inr (mem_dropT.2 ⟨hy, h⟩), e⟩
theorem backs_has {n : Nat} : ∀ {s : St}, s.Ok → ∀ t b, Has (backs n s) t b ↔ Has s t b := by
  induction n with
  | zero => intro s _ t b; exact Iff.rfl
  | succ n ih =>
    intro s ok t b
    unfold backs
    split
    · exact Iff.rfl
    · rw [ih (ok.back _), back_has ok]
theorem give_keep (s : St) : s.give.2.2.most = s.most ∧ s.give.2.2.next = s.next := by
  cases hr : s.rdy with
  | nil => rw [give_none hr]; exact ⟨rfl, rfl⟩
  | cons x r => rw [give_some hr]; exact ⟨rfl, rfl⟩
theorem back_keep (s : St) (t : Nat) : (s.back t).2.most = s.most ∧ (s.back t).2.next = s.next := by
  cases hf : findT s.out t with
  | none => rw [back_none hf]; exact ⟨rfl, rfl⟩
  | some x => rw [back_some hf]; exact ⟨rfl, rfl⟩
theorem reset_keep {s : St} (ok : s.Ok) : s.reset.2.most = s.most ∧ s.reset.2.out = [] ∧ ∀ t b, Has s.reset.2 t b ↔ Has s t b := by
  have := backs_out (n := s.out.length) ok
  refine ⟨this.2.1, ?_, backs_has ok⟩
  show (backs s.out.length s).out = []
  rw [this.1]; simp
theorem push_full {s : St} {bs : List ByteArray} {k : Nat} {m : Msg} (hm : s.most = 1000) (ho : s.out = []) (hl : s.rdy.length = k) (hn : s.next = k + 1) (hk : k < 1000) (hb : bs[k]? = some m.body) (hf : ∀ t b, Has s t b ↔ ∃ i, i < k ∧ t = i + 1 ∧ bs[i]? = some b) :
    s.push m = (0, { s with next := k + 2, rdy := s.rdy ++ [⟨k + 1, m, false⟩] }) ∧ ∀ t b, Has { s with next := k + 2, rdy := s.rdy ++ [⟨k + 1, m, false⟩] } t b ↔ ∃ i, i < k + 1 ∧ t = i + 1 ∧ bs[i]? = some b := by
  constructor
  · rw [push_ok m (by rw [hm, ho, hl]; simp; omega) (by omega), hn]
  · intro t b
    constructor
    · rintro ⟨y, hy | hy, e1, e2⟩
      · rcases List.mem_append.1 hy with hy | hy
        · obtain ⟨i, h1, h2, h3⟩ := (hf t b).1 ⟨y, .inl hy, e1, e2⟩
          exact ⟨i, by omega, h2, h3⟩
        · rw [List.mem_singleton.1 hy] at e1 e2
          exact ⟨k, by omega, e1.symm, by rw [hb, ← e2]⟩
      · rw [ho] at hy; cases hy
    · rintro ⟨i, h1, h2, h3⟩
      by_cases hik : i = k
      · subst hik
        rw [hb] at h3
        injection h3 with h3
        exact ⟨⟨i + 1, m, false⟩, .inl (by simp), h2.symm, h3⟩
      · obtain ⟨y, hy, e⟩ := (hf t b).2 ⟨i, by omega, h2, h3⟩
        rcases hy with hy | hy
        · exact ⟨y, .inl (by simp [hy]), e⟩
        · exact ⟨y, .inr hy, e⟩
/-- The first one that is ready. -/
theorem order_step {s : St} (ok : s.Ok) {bs : List ByteArray} {k : Nat} (ho : s.out = []) (hf : Full s bs k) (hk : k < bs.length) :
    ∃ x r, s.rdy = x :: r ∧ x.tag = k + 1 ∧ x.m.body = bs[k] ∧ s.give.2.2.done x.tag = (0, { s with rdy := r, out := [] }) ∧ Full { s with rdy := r, out := [] } bs (k + 1) := by
  obtain ⟨y, hy, hyt, _⟩ := (hf (k + 1) bs[k]).2 ⟨k, Nat.le_refl _, rfl, List.getElem?_eq_getElem hk⟩
  have hy' : y ∈ s.rdy := by
    rcases hy with hy | hy
    · exact hy
    · rw [ho] at hy; cases hy
  cases hr : s.rdy with
  | nil => rw [hr] at hy'; cases hy'
  | cons x r =>
    have hrise := ok.r
    rw [hr] at hrise
    have hx : x ∈ s.rdy := by rw [hr]; simp
    obtain ⟨i, h1, h2, h3⟩ := (hf x.tag x.m.body).1 ⟨x, .inl hx, rfl, rfl⟩
    have hle : x.tag ≤ y.tag := by
      rw [hr] at hy'
      rcases List.mem_cons.1 hy' with rfl | hy'
      · exact Nat.le_refl _
      · exact Nat.le_of_lt ((List.pairwise_cons.1 hrise).1 y hy')
    have hik : i = k := by omega
    subst hik
    have hb : x.m.body = bs[i] := by
      rw [List.getElem?_eq_getElem hk] at h3
      injection h3 with h3
      exact h3.symm
    refine ⟨x, r, rfl, h2, hb, ?_, ?_⟩
    · rw [give_some hr]
      have e : ins x s.out = [x] := by rw [ho]; rfl
      have hfi : findT (ins x s.out) x.tag = some x := by rw [e]; exact findT_head
      have hd : dropT (ins x s.out) x.tag = [] := by rw [e]; exact dropT_head (List.pairwise_singleton _ _)
      rw [done_some (x := x) hfi]
      simp only [hd]
    · intro t b
      constructor
      · rintro ⟨z, hz | hz, e1, e2⟩
        · obtain ⟨j, j1, j2, j3⟩ := (hf t b).1 ⟨z, .inl (by rw [hr]; exact List.mem_cons_of_mem _ hz), e1, e2⟩
          have := (List.pairwise_cons.1 hrise).1 z hz
          exact ⟨j, by omega, j2, j3⟩
        · cases hz
      · rintro ⟨j, j1, j2, j3⟩
        obtain ⟨z, hz, e1, e2⟩ := (hf t b).2 ⟨j, by omega, j2, j3⟩
        rcases hz with hz | hz
        · rw [hr] at hz
          rcases List.mem_cons.1 hz with rfl | hz
          · omega
          · exact ⟨z, .inl hz, e1, e2⟩
        · rw [ho] at hz; cases hz
theorem order_end {s : St} {bs : List ByteArray} (hf : Full s bs bs.length) : s.rdy = [] := by
  cases hr : s.rdy with
  | nil => rfl
  | cons x r =>
    obtain ⟨i, h1, _, h3⟩ := (hf x.tag x.m.body).1 ⟨x, .inl (by rw [hr]; simp), rfl, rfl⟩
    have := (List.getElem?_eq_some_iff.1 h3).1
    omega
end Go.Proofs.Ytocdfcaakflgpaa
