/-
  WHAT LOAD ASKS OF A QUEUE: kept by every act. Of no program.
-/
import Derived.Test.YtocdfcaakflgpaaAct
import Derived.Test.YtocdfcaakflgpaaLoad
namespace Go.Proofs.Ytocdfcaakflgpaa

/-- Every tag is at least 1, and so is the next one; room for M. -/
structure Pos (M : Nat) (s : St) : Prop where
  n : 1 ≤ s.next
  r : ∀ x ∈ s.rdy, 1 ≤ x.tag
  o : ∀ x ∈ s.out, 1 ≤ x.tag
  m : s.most = M
theorem Pos.new (M : Nat) : Pos M (newS M) := ⟨Nat.le_refl _, fun x h => by simp [newS] at h, fun x h => by simp [newS] at h, rfl⟩
theorem Pos.push {M : Nat} {s : St} (h : Pos M s) (m : Msg) : Pos M (s.push m).2 := by
  unfold St.push
  split
  · exact h
  · split
    · exact h
    · refine ⟨by show 1 ≤ s.next + 1; omega, fun x hx => ?_, h.o, h.m⟩
      rcases List.mem_append.1 hx with hx | hx
      · exact h.r x hx
      · rw [List.mem_singleton.1 hx]; exact h.n
theorem Pos.give {M : Nat} {s : St} (h : Pos M s) : Pos M s.give.2.2 := by
  unfold St.give
  split
  · exact h
  · rename_i x t he
    refine ⟨h.n, fun y hy => h.r y (by rw [he]; simp [show y ∈ t from hy]), fun y hy => ?_, h.m⟩
    rcases mem_ins.1 hy with rfl | hy
    · exact h.r _ (by rw [he]; simp)
    · exact h.o y hy
theorem Pos.done {M : Nat} {s : St} (h : Pos M s) (t : Nat) : Pos M (s.done t).2 := by
  unfold St.done
  split
  · exact h
  · exact ⟨h.n, h.r, fun y hy => h.o y (mem_dropT.1 hy).1, h.m⟩
theorem Pos.back {M : Nat} {s : St} (h : Pos M s) (t : Nat) : Pos M (s.back t).2 := by
  unfold St.back
  split
  · exact h
  · rename_i x he
    obtain ⟨hx, _⟩ := findT_some he
    refine ⟨h.n, fun y hy => ?_, fun y hy => h.o y (mem_dropT.1 hy).1, h.m⟩
    rcases mem_ins.1 hy with rfl | hy
    · exact h.o x hx
    · exact h.r y hy
theorem Pos.backs {M n : Nat} : ∀ {s : St}, Pos M s → Pos M (Go.Proofs.Ytocdfcaakflgpaa.backs n s) := by
  induction n with
  | zero => intro s h; exact h
  | succ n ih =>
    intro s h
    unfold Go.Proofs.Ytocdfcaakflgpaa.backs
    split
    · exact h
    · exact ih (h.back _)
theorem Pos.act {M : Nat} {s : St} (h : Pos M s) (a : Ac) : Pos M (actT s a) := by
  unfold actT
  split
  · exact h.push _
  · split
    · exact h.give
    · split
      · exact h.done _
      · split
        · exact h.back _
        · split
          · exact h.backs
          · exact h
theorem riseB_of : ∀ {l : List It} {lo n : Nat}, Rise l → (∀ x ∈ l, lo < x.tag ∧ x.tag < n) → riseB l lo n = true
  | [], _, _, _, _ => rfl
  | x :: r, lo, n, hr, h => by
    obtain ⟨h1, h2⟩ := List.pairwise_cons.1 hr
    simp only [riseB, Bool.and_eq_true, decide_eq_true_eq]
    exact ⟨h x (by simp), riseB_of h2 fun y hy => ⟨h1 y hy, (h y (by simp [hy])).2⟩⟩
theorem Pos.load {M : Nat} {s : St} (h : Pos M s) (ok : s.Ok) : LoadOk M s.next s.rdy s.out := by
  have h1 := h.m
  have h2 := ok.m
  have h3 := ok.m1
  have h4 := ok.room
  exact ⟨by omega, h.n, by omega, riseB_of ok.r fun x hx => ⟨h.r x hx, ok.ur x hx⟩, riseB_of ok.o fun x hx => ⟨h.o x hx, ok.uo x hx⟩, fun y hy => hasT_false.2 fun x hx he => ok.ap x hx y hy he⟩
/-- All that were out are ready again. -/
theorem backs_ready {n : Nat} : ∀ {s : St}, s.Ok → n ≤ s.out.length → (backs n s).rdy.length = s.rdy.length + n := by
  induction n with
  | zero => intro s h _; rfl
  | succ n ih =>
    intro s h hn
    unfold backs
    split
    · rename_i he; rw [he] at hn; simp at hn
    · rename_i x t he
      have hb := back_head h he
      have hk := h.back x.tag
      rw [hb] at hk ⊢
      have := ih hk (by rw [he] at hn; simpa using hn)
      rw [this]
      show (ins (mark x) s.rdy).length + n = _
      rw [length_ins]; omega
theorem reset_len {s : St} (h : s.Ok) : s.reset.2.out.length = 0 ∧ s.reset.2.rdy.length = s.rdy.length + s.out.length := by
  unfold St.reset
  refine ⟨?_, backs_ready h (Nat.le_refl _)⟩
  show (backs s.out.length s).out.length = 0
  rw [(backs_out h).1]; simp
end Go.Proofs.Ytocdfcaakflgpaa
