/-
  THE DOCUMENT's Plan, Power, by their contracts.
-/
import Derived.Test.YtndinjekocgjhaaRFirst
namespace Go.Proofs.Ytndinjekocgjhaa
open Go.RowKit

theorem own_ty {α : Type} {enc : α → List Value} {c : Nat} {T : TypeId} {w : World} {v : Value} {l : List α} (h : K.OwnOf enc c T w 0 v l) {g : Nat} (hg : v.ownBlock = some g) : ∃ cur, w.heap[g]? = some (.cells cur T (0, 0)) := by
  rcases h.2 with ⟨rfl, _⟩ | ⟨g', cap, cur, rfl, h3, h4, h5⟩
  · simp [Value.ownBlock] at hg
  · simp only [Value.ownBlock, Option.some.injEq] at hg
    subst hg
    exact ⟨cur, h4⟩
section
variable {w V : World} {p : Nat} {A D S : Value} {L : List Rf} {kp kp' : Int} {m m' : M}
theorem RAt.ne (h : RAt w p A D S L kp m) {k : Nat} (hk : A.ownBlock = some k ∨ D.ownBlock = some k ∨ S.ownBlock = some k ∨ ∃ x ∈ L, x.now.ownBlock = some k ∨ x.sure.ownBlock = some k) : k ≠ p := by
  have : ∃ c t, w.heap[k]? = some (.cells c t (0, 0)) ∧ t ≠ 40 := by
    rcases hk with hk | hk | hk | ⟨x, hx, hk⟩
    · obtain ⟨c, hc⟩ := own_ty h.all hk; exact ⟨c, _, hc, by decide⟩
    · obtain ⟨c, hc⟩ := own_ty h.dir hk; exact ⟨c, _, hc, by decide⟩
    · obtain ⟨c, hc⟩ := own_ty h.sur hk; exact ⟨c, _, hc, by decide⟩
    · obtain ⟨i, hi, rfl⟩ := List.mem_iff_getElem.1 hx
      rcases hk with hk | hk
      · obtain ⟨c, hc⟩ := (h.now i hi).blk hk; exact ⟨c, _, hc, by decide⟩
      · obtain ⟨c, hc⟩ := (h.sure i hi).blk hk; exact ⟨c, _, hc, by decide⟩
  obtain ⟨c, t, hc, ht⟩ := this
  rintro rfl
  rw [h.blk] at hc
  simp only [Option.some.injEq, Obj.cells.injEq] at hc
  exact ht hc.2.1.symm
theorem RAt.frozen (h : RAt w p A D S L kp m) (i : Nat) : w.frozen? ⟨p, i, none⟩ = false := by
  simp only [World.frozen?]
  rw [h.blk]
  simp
/-- The store's own cells were changed, no slice of them. -/
theorem RAt.turn (h : RAt w p A D S L kp m) (hp : V.heap[p]? = some (.cells (rcell m' A D S kp').toArray 40 (0, 0))) (ho : ∀ k, k ≠ p → V.heap[k]? = w.heap[k]?) (hk : 0 < m'.left → kp' = m'.keep) (hd : m'.dir = m.dir) (hsu : m'.sur = m.sur) (ha : m'.all = m.all) : RAt V p A D S L kp' m' := by
  have hf : ∀ i, m'.fl i = m.fl i := fun i => by unfold M.fl; rw [ha]
  refine ⟨hp, hk, own_same h.all fun g hg => ho g (h.ne (.inl hg)), ?_, ?_, by rw [ha]; exact h.len, fun i hi => ?_, fun i hi => ?_⟩
  · rw [hd]; exact own_same h.dir fun g hg => ho g (h.ne (.inr (.inl hg)))
  · rw [hsu]; exact own_same h.sur fun g hg => ho g (h.ne (.inr (.inr (.inl hg))))
  · rw [hf]; exact (h.now i hi).same fun g hg => ho g (h.ne (.inr (.inr (.inr ⟨_, List.getElem_mem hi, .inl hg⟩))))
  · rw [hf]; exact (h.sure i hi).same fun g hg => ho g (h.ne (.inr (.inr (.inr ⟨_, List.getElem_mem hi, .inr hg⟩))))
theorem RAt.retold (h : RAt w p A D S L kp m) (hp : V.heap[p]? = some (.cells (rcell m' A D S kp').toArray 40 (0, 0))) (ho : ∀ k, k ≠ p → V.heap[k]? = w.heap[k]?) (hs : V.heap.size = w.heap.size) (h1 : V.os = w.os) (h2 : V.tape = w.tape) (h3 : V.output = w.output) (hk : 0 < m'.left → kp' = m'.keep) (hd : m'.dir = m.dir) (hsu : m'.sur = m.sur) (ha : m'.all = m.all) : ∃ F', R V p F' m' ∧ Moved w V (rfoot p A D S L) F' :=
  ⟨_, ⟨_, _, _, _, _, h.turn hp ho hk hd hsu ha, rfl⟩, ⟨h1, h2, h3, by omega, fun k _ hn => ho k fun e => hn (.inl e), fun k hk => .inl hk⟩⟩
end
set_option maxRecDepth 20000 in
set_option maxHeartbeats 1000000 in
theorem rpower_any (p : Nat) (F : Nat → Prop) (m : M) (w : World) (h : R w p F m) :
    Calls Try.prog 41 #[.pointer (some ⟨p, 0, none⟩)] w fun e w' => e = .returned (.tuple #[]) ∧ ∃ F', R w' p F' m.power ∧ Moved w w' F F' := by
  obtain ⟨A, D, S, L, kp, hst, rfl⟩ := h
  obtain ⟨_, _, _, _, c4, c5, c6, _⟩ := hst.cells
  have f4 := hst.frozen 4
  have f6 := hst.frozen 6
  have HE : Hid (∀ V : World, V.heap = ((w.setCell ⟨p, 4, none⟩ (.bool false)).setCell ⟨p, 6, none⟩ (.int .i64 0)).heap → V.os = w.os → V.tape = w.tape → V.output = w.output → ∃ F', R V p F' m.power ∧ Moved w V (rfoot p A D S L) F') := fun V hV h1 h2 h3 => by
    refine hst.retold (kp' := kp) ?_ (fun k hk => ?_) (by rw [hV]; simp) h1 h2 h3 (fun h => by simp [M.power] at h) rfl rfl rfl
    · rw [hV]
      exact heap_set_list (i := 6) (heap_set_list (i := 4) hst.blk (.bool false)) (.int .i64 0)
    · rw [hV, Below.heap_setCell _ _ _ _ hk, Below.heap_setCell _ _ _ _ hk]
  clear hst
  go_enter Try.func41, Try.ntmps41
  go_wp2
  go_end0
  exact ⟨rfl, HE.out _ rfl rfl rfl rfl⟩
set_option maxRecDepth 20000 in
set_option maxHeartbeats 1000000 in
theorem rplan_any (p : Nat) (F : Nat → Prop) (m : M) (n k : Int) (w : World) (h : R w p F m) :
    Calls Try.prog 39 #[.pointer (some ⟨p, 0, none⟩), .int .i64 n, .int .i64 k] w fun e w' => e = .returned (.int .i64 (m.plan n k).1) ∧ ∃ F', R w' p F' (m.plan n k).2 ∧ Moved w w' F F' := by
  obtain ⟨A, D, S, L, kp, hst, rfl⟩ := h
  obtain ⟨_, _, _, _, c4, _, c6, c7⟩ := hst.cells
  have HS : Hid (∃ F', R w p F' m ∧ Moved w w (rfoot p A D S L) F') := ⟨_, ⟨_, _, _, _, _, hst, rfl⟩, .refl _ _⟩
  cases hd : m.dark with
  | true =>
    have hF : m.plan n k = (9, m) := by unfold M.plan; rw [hd]; rfl
    rw [hF]
    rw [hd] at c4
    clear hst
    go_enter Try.func39, Try.ntmps39
    go_wp2
    go_ret
    exact ⟨rfl, HS.out⟩
  | false =>
    rw [hd] at c4
    by_cases hn : n < 0
    · have hF : m.plan n k = (2, m) := by unfold M.plan; rw [hd]; simp [hn]
      rw [hF]
      clear hst
      go_enter Try.func39, Try.ntmps39
      go_wp2
      go_ret
      exact ⟨rfl, HS.out⟩
    · have hF : m.plan n k = (0, { m with left := n, keep := k }) := by unfold M.plan; rw [hd]; simp [hn]
      rw [hF]
      have f6 := hst.frozen 6
      have f7 := hst.frozen 7
      have HE : Hid (∀ V : World, V.heap = ((w.setCell ⟨p, 6, none⟩ (.int .i64 n)).setCell ⟨p, 7, none⟩ (.int .i64 k)).heap → V.os = w.os → V.tape = w.tape → V.output = w.output → ∃ F', R V p F' { m with left := n, keep := k } ∧ Moved w V (rfoot p A D S L) F') := fun V hV h1 h2 h3 => by
        refine hst.retold (kp' := k) ?_ (fun i hi => ?_) (by rw [hV]; simp) h1 h2 h3 (fun _ => rfl) rfl rfl rfl
        · rw [hV]
          exact heap_set_list (i := 7) (heap_set_list (i := 6) hst.blk (.int .i64 n)) (.int .i64 k)
        · rw [hV, Below.heap_setCell _ _ _ _ hi, Below.heap_setCell _ _ _ _ hi]
      clear hst hd
      go_enter Try.func39, Try.ntmps39
      go_wp2
      go_ret
      exact ⟨rfl, HE.out _ rfl rfl rfl rfl⟩
end Go.Proofs.Ytndinjekocgjhaa
