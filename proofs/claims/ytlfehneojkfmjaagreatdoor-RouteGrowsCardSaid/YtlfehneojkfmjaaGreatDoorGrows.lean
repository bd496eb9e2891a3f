/-
  A BINDING MORE: what the queues of a table are behind it. Of no program.
-/
import Derived.Test.YtlfehneojkfmjaaGreatDoorRoutes
namespace Go.Proofs.YtlfehneojkfmjaaGreatDoor
open Go.RowKit Go.Sort

theorem bind_snd (s : Tb) (b : Bd) : (s.bind b).2 = s ∨ ((s.bind b).2 = { s with bs := insC cmpB b s.bs } ∧ b ∉ s.bs) := by
  unfold Tb.bind
  split
  · exact .inl rfl
  · split
    · exact .inl rfl
    · split
      · exact .inl rfl
      · split
        · exact .inl rfl
        · split
          · exact .inl rfl
          · rename_i h _
            exact .inr ⟨rfl, h⟩
theorem bind_xs (s : Tb) (b : Bd) : (s.bind b).2.xs = s.xs := by
  rcases bind_snd s b with h | ⟨h, _⟩ <;> rw [h]
theorem insC_split {α : Type} {c : α → α → Int} (x : α) : ∀ l : List α, ∃ p1 p2, insC c x l = p1 ++ x :: p2 ∧ l = p1 ++ p2
  | [] => ⟨[], [], rfl, rfl⟩
  | y :: r => by
    unfold insC
    split
    · obtain ⟨p1, p2, h1, h2⟩ := insC_split x r
      exact ⟨y :: p1, p2, by rw [h1]; rfl, by rw [h2]; rfl⟩
    · exact ⟨[], y :: r, rfl, rfl⟩
theorem grows_other {s : Tb} {b : Bd} {e : ByteArray} (key : ByteArray) (h : e ≠ b.ex) : queuesT (s.bind b).2 e key = queuesT s e key := by
  refine Ord.ext cmpS3 (queuesT_ord _ _ _) (queuesT_ord _ _ _) (fun q => ?_)
  rw [mem_queuesT, mem_queuesT, bind_xs]
  rcases bind_snd s b with hb | ⟨hb, _⟩
  · rw [hb]
  · rw [hb]
    constructor
    · rintro ⟨x, hx, c, hc, h1, h2⟩
      rcases mem_insC.1 hc with rfl | hc
      · exact absurd h1.symm h
      · exact ⟨x, hx, c, hc, h1, h2⟩
    · rintro ⟨x, hx, c, hc, h1, h2⟩
      exact ⟨x, hx, c, mem_insC.2 (.inr hc), h1, h2⟩
/-- It adds its own queue at most, at one place. -/
theorem grows_own (s : Tb) (b : Bd) (key : ByteArray) : ∃ p1 mid p2, queuesT (s.bind b).2 b.ex key = p1 ++ (mid ++ p2) ∧ queuesT s b.ex key = p1 ++ p2 ∧ (mid = [] ∨ mid = [b.que] ∧ b.que ∉ queuesT s b.ex key) := by
  have key2 : queuesT (s.bind b).2 b.ex key = queuesT s b.ex key ∨ (queuesT (s.bind b).2 b.ex key = insC cmpS b.que (queuesT s b.ex key) ∧ b.que ∉ queuesT s b.ex key) := by
    rcases bind_snd s b with hb | ⟨hb, _⟩
    · left; rw [hb]
    · by_cases hin : b.que ∈ queuesT (s.bind b).2 b.ex key
      · by_cases hold : b.que ∈ queuesT s b.ex key
        · left
          refine Ord.ext cmpS3 (queuesT_ord _ _ _) (queuesT_ord _ _ _) (fun q => ?_)
          constructor
          · intro hq
            rw [mem_queuesT, bind_xs, hb] at hq
            obtain ⟨x, hx, c, hc, h1, h2, h3⟩ := hq
            rcases mem_insC.1 hc with rfl | hc
            · rw [← h3]; exact hold
            · rw [mem_queuesT]; exact ⟨x, hx, c, hc, h1, h2, h3⟩
          · intro hq
            rw [mem_queuesT] at hq
            rw [mem_queuesT, bind_xs, hb]
            obtain ⟨x, hx, c, hc, h1⟩ := hq
            exact ⟨x, hx, c, mem_insC.2 (.inr hc), h1⟩
        · right
          refine ⟨Ord.ext cmpS3 (insC_ord cmpS3 (queuesT_ord _ _ _) (fun y hy e => hold (by rw [← cmpS_eq e]; exact hy))) (queuesT_ord _ _ _) (fun q => ?_), hold⟩
          rw [mem_insC]
          constructor
          · intro hq
            rw [mem_queuesT, bind_xs, hb] at hq
            obtain ⟨x, hx, c, hc, h1, h2, h3⟩ := hq
            rcases mem_insC.1 hc with rfl | hc
            · exact .inl h3.symm
            · right; rw [mem_queuesT]; exact ⟨x, hx, c, hc, h1, h2, h3⟩
          · rintro (rfl | hq)
            · exact hin
            · rw [mem_queuesT] at hq
              rw [mem_queuesT, bind_xs, hb]
              obtain ⟨x, hx, c, hc, h1⟩ := hq
              exact ⟨x, hx, c, mem_insC.2 (.inr hc), h1⟩
      · left
        refine Ord.ext cmpS3 (queuesT_ord _ _ _) (queuesT_ord _ _ _) (fun q => ?_)
        constructor
        · intro hq
          have hq' := hq
          rw [mem_queuesT, bind_xs, hb] at hq
          obtain ⟨x, hx, c, hc, h1, h2, h3⟩ := hq
          rcases mem_insC.1 hc with rfl | hc
          · exact absurd (by rw [h3]; exact hq') hin
          · rw [mem_queuesT]; exact ⟨x, hx, c, hc, h1, h2, h3⟩
        · intro hq
          rw [mem_queuesT] at hq
          rw [mem_queuesT, bind_xs, hb]
          obtain ⟨x, hx, c, hc, h1⟩ := hq
          exact ⟨x, hx, c, mem_insC.2 (.inr hc), h1⟩
  rcases key2 with h | ⟨h, hn⟩
  · exact ⟨queuesT s b.ex key, [], [], by rw [h]; simp, by simp, .inl rfl⟩
  · obtain ⟨p1, p2, h1, h2⟩ := insC_split (c := cmpS) b.que (queuesT s b.ex key)
    exact ⟨p1, [b.que], p2, by rw [h, h1]; rfl, h2, .inr ⟨rfl, hn⟩⟩

/-- The document's add: names with one more, rising, each once. -/
def radd (s : ByteArray) (done : Bool) : List ByteArray → List ByteArray
  | [] => if done then [] else [s]
  | x :: r => (if ¬ cmpS x s < 0 ∧ done = false then [s] else []) ++ ((if x = s then [] else [x]) ++ radd s (done || !decide (cmpS x s < 0)) r)
theorem radd_done {s : ByteArray} : ∀ {l : List ByteArray}, (∀ y ∈ l, y ≠ s) → radd s true l = l
  | [], _ => rfl
  | x :: r, h => by
    unfold radd
    have hx : x ≠ s := h x (by simp)
    simp only [Bool.true_or]
    rw [radd_done (fun y hy => h y (by simp [hy])), if_neg (by simp), if_neg hx]
    rfl
theorem radd_addS {s : ByteArray} : ∀ {l : List ByteArray}, Ord cmpS l → radd s false l = addS s l
  | [], _ => by simp [radd, addS, insC]
  | x :: r, h => by
    obtain ⟨h1, h2⟩ := List.pairwise_cons.1 h
    unfold radd
    by_cases hx : cmpS x s < 0
    · have hne : x ≠ s := fun e => by rw [e, cmpS3.self] at hx; exact absurd hx (by decide)
      rw [if_neg (fun hh => hh.1 hx), if_neg hne, decide_eq_true hx]
      simp only [Bool.false_or, Bool.not_true]
      rw [radd_addS h2]
      unfold addS
      by_cases hm : s ∈ r
      · rw [if_pos hm, if_pos (by simp [hm])]
        rfl
      · rw [if_neg hm, if_neg (by simp [hm, Ne.symm hne]), insC, if_pos hx]
        rfl
    · rw [if_pos ⟨hx, rfl⟩, decide_eq_false hx]
      simp only [Bool.false_or, Bool.not_false]
      have hr : ∀ y ∈ r, y ≠ s := fun y hy e => by
        have := h1 y hy
        rw [e] at this
        exact hx this
      rw [radd_done hr]
      unfold addS
      by_cases he : x = s
      · rw [if_pos he, if_pos (by simp [he]), he]
        rfl
      · have hm : s ∉ x :: r := by
          simp only [List.mem_cons, not_or]
          exact ⟨Ne.symm he, fun hs => hr s hs rfl⟩
        rw [if_neg he, if_neg hm, insC, if_neg hx]
        rfl
theorem mkS_snoc (l : List ByteArray) (x : ByteArray) : mkS (l ++ [x]) = addS x (mkS l) :=
  Ord.ext cmpS3 (addS_ord (mkS_ord l)) (mkS_ord _) (fun y => by rw [mem_mkS, mem_addS, mem_mkS]; simp [or_comm])
end Go.Proofs.YtlfehneojkfmjaaGreatDoor
