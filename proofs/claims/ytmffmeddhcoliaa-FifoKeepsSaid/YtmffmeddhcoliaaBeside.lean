/-
  A QUEUE of the call's own, and two rows of the call's own beside it: tags, messages.
-/
import Derived.Test.YtmffmeddhcoliaaKeeps
namespace Go.Proofs.Ytmffmeddhcoliaa
open Go.RowKit Go.Sort

structure Kp (w wr : World) (p : Nat) (F : Nat → Prop) (s : St) (vt : Value) (ts : List Nat) (vm : Value) (ms : List Msg) : Prop where
  h : Hold w wr p F s
  t : OwnOf ncell 1 29 wr w.heap.size vt ts
  m : OwnOf mcells 6 33 wr w.heap.size vm ms
  ft : ∀ g, vt.ownBlock = some g → ¬ F g
  fm : ∀ g, vm.ownBlock = some g → ¬ F g
variable {w wr wr' : World} {p : Nat} {F F' : Nat → Prop} {s s' : St} {vt vt' vm vm' : Value} {ts ts' : List Nat} {ms ms' : List Msg}
theorem Kp.apart (k : Kp w wr p F s vt ts vm ms) {g : Nat} (h1 : vt.ownBlock = some g) (h2 : vm.ownBlock = some g) : False := by
  rcases k.t.split with ⟨rfl, _⟩ | ⟨a, c, R, rfl, _, ha, _⟩
  · cases h1
  · rcases k.m.split with ⟨rfl, _⟩ | ⟨b, c', R', rfl, _, hb, _⟩
    · cases h2
    · injection h1 with h1
      injection h2 with h2
      simp only at h1 h2
      subst h1
      subst h2
      rw [ha] at hb
      injection hb with hb
      injection hb with _ hb _
      exact absurd hb (by decide)
theorem Kp.go (k : Kp w wr p F s vt ts vm ms) (q : Q wr' p F' s') (mv : Moved wr wr' F F') (ok : s'.Ok) : Kp w wr' p F' s' vt ts vm ms :=
  ⟨k.h.go q mv ok, k.t.same fun g hg => mv.block g (k.t.lt hg).2 (k.ft g hg), k.m.same fun g hg => mv.block g (k.m.lt hg).2 (k.fm g hg),
   fun g hg hf => (mv.sub g hf).elim (k.ft g hg) (fun h => by have := (k.t.lt hg).2; omega), fun g hg hf => (mv.sub g hf).elim (k.fm g hg) (fun h => by have := (k.m.lt hg).2; omega)⟩
theorem Kp.below (k : Kp w wr p F s vt ts vm ms) (b : Below wr.heap.size wr wr') : Kp w wr' p F s vt ts vm ms := k.go (k.h.q.kept b) (.of_below b) k.h.ok
/-- A tag more. -/
theorem Kp.appT (k : Kp w wr p F s vt ts vm ms) (own : OwnOf ncell 1 29 wr' w.heap.size vt' ts') (gr : wr.grownBy wr' vt.ownBlock) (nw : NewOr wr vt vt') : Kp w wr' p F s vt' ts' vm ms := by
  refine ⟨⟨k.h.q.same fun j hj => gr.block j (k.h.q.lts j hj) (fun e => k.ft j e.symm hj), k.h.ok, k.h.frm, k.t.below gr k.h.bel k.h.bel.size (Nat.le_refl _)⟩, own, k.m.same fun g hg => gr.block g (k.m.lt hg).2 (fun e => k.apart e.symm hg), fun g hg hf => ?_, k.fm⟩
  rcases nw with e | ⟨g', e, hge⟩
  · exact k.ft g (by rw [← e]; exact hg) hf
  · rw [e] at hg
    injection hg with hg
    have := k.h.q.lts g hf
    omega
/-- A message more. -/
theorem Kp.appM (k : Kp w wr p F s vt ts vm ms) (own : OwnOf mcells 6 33 wr' w.heap.size vm' ms') (gr : wr.grownBy wr' vm.ownBlock) (nw : NewOr wr vm vm') : Kp w wr' p F s vt ts vm' ms' := by
  refine ⟨⟨k.h.q.same fun j hj => gr.block j (k.h.q.lts j hj) (fun e => k.fm j e.symm hj), k.h.ok, k.h.frm, k.m.below gr k.h.bel k.h.bel.size (Nat.le_refl _)⟩, k.t.same fun g hg => gr.block g (k.t.lt hg).2 (fun e => k.apart hg e.symm), own, k.ft, fun g hg hf => ?_⟩
  rcases nw with e | ⟨g', e, hge⟩
  · exact k.fm g (by rw [← e]; exact hg) hf
  · rw [e] at hg
    injection hg with hg
    have := k.h.q.lts g hf
    omega
/-- Other tags, in new memory. -/
theorem Kp.setT (k : Kp w wr p F s vt ts vm ms) (b : Below wr.heap.size wr wr') (own : OwnOf ncell 1 29 wr' wr.heap.size vt' ts') : Kp w wr' p F s vt' ts' vm ms := by
  have k' := k.below b
  exact ⟨k'.h, own.mono k.h.bel.size, k'.m, fun g hg hf => by have := (own.lt hg).1; have := k.h.q.lts g hf; omega, k'.fm⟩
theorem Kp.setM (k : Kp w wr p F s vt ts vm ms) (b : Below wr.heap.size wr wr') (own : OwnOf mcells 6 33 wr' wr.heap.size vm' ms') : Kp w wr' p F s vt ts vm' ms' := by
  have k' := k.below b
  exact ⟨k'.h, k'.t, own.mono k.h.bel.size, k'.ft, fun g hg hf => by have := (own.lt hg).1; have := k.h.q.lts g hf; omega⟩
theorem kp_new (h : Hold w wr p F s) : Kp w wr p F s (.slice none 0 0) [] (.slice none 0 0) [] := ⟨h, ownOf_nil _ _, ownOf_nil _ _, (fun g hg => by cases hg), (fun g hg => by cases hg)⟩
theorem u64Info : ∃ i, Try.prog.info? 29 = some i ∧ i.zero = some (.int .u64 0) ∧ i.size = 1 ∧ i.bytes = 8 := by
  have hinfo : (Try.prog.info? 29).map (fun i => (i.zero, i.size, i.bytes)) = some (some (.int .u64 0), 1, 8) := by kernel_rfl
  exact info_parts hinfo

section
variable {α : Type} {enc : α → List Value} {K : Nat} [E : Enc enc K]
include E in
/-- The first k of a row, and those from k on. -/
theorem RowOf.upto {w : World} {a : Option Addr} {n cap : Nat} {l : List α} (h : RowOf enc w (.slice a n cap) l) (k : Nat) (hk : k ≤ l.length) : RowOf enc w (.slice a k cap) (l.take k) := by
  have hlk : (l.take k).length = k := by rw [List.length_take]; omega
  rcases h with ⟨hv, rfl⟩ | ⟨ad, c, hv, h1, h2, h3⟩
  · injection hv with h1 h2 h3
    subst h1; subst h3
    obtain rfl : k = 0 := by simpa using hk
    exact .inl ⟨rfl, rfl⟩
  · injection hv with e1 e2 e3
    subst e1; subst e3
    refine .inr ⟨ad, cap, by rw [hlk], by rw [hlk]; omega, h2, fun j u hj => h3 j u ?_⟩
    rw [← cellsOf_take] at hj
    rw [List.getElem?_take] at hj
    split at hj
    · exact hj
    · cases hj
theorem RowOf.since {w : World} {b off n cap : Nat} {l : List α} (h : RowOf enc w (.slice (some ⟨b, off, none⟩) n cap) l) (k : Nat) (hk : k ≤ l.length) (m c o : Nat) (hm : m = l.length - k) (hc : c = cap - k) (ho : k < cap → o = off + k * K) : RowOf enc w (.slice (some ⟨b, o, none⟩) m c) (l.drop k) := by
  subst hm; subst hc
  have hlk : (l.drop k).length = l.length - k := List.length_drop
  rcases h with ⟨hv, _⟩ | ⟨ad, c, hv, h1, h2, h3⟩
  · cases hv
  · injection hv with e1 e2 e3
    injection e1 with e1
    subst e1; subst e3
    refine .inr ⟨_, _, by rw [hlk], by rw [hlk]; omega, by omega, fun j u hj => ?_⟩
    have hj' := hj
    rw [← cellsOf_drop, List.getElem?_drop] at hj'
    by_cases hkc : k < cap
    · rw [ho hkc, Addr.add_lit]
      have := h3 _ u hj'
      rw [Addr.add_lit] at this
      rw [← this]
      congr 2
      omega
    · have : l.drop k = [] := List.drop_eq_nil_of_le (by omega)
      rw [this] at hj
      cases hj
end
end Go.Proofs.Ytmffmeddhcoliaa
