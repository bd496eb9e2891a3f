/-
  do, by its contract.
-/
import Derived.Test.YtjgdmbfkondakaaFail
namespace Go.Proofs.Ytjgdmbfkondakaa
open Go.RowKit Go.Maps

section
variable {w : World} {p nb sb : Nat} {ptr : Nat → Nat} {vb vs : Nat → Value} {L : Nat → Prop} {m : M}
theorem moved_turn {W : World} (ho : ∀ k, k ≠ p → W.heap[k]? = w.heap[k]?) (h1 : W.os = w.os) (h2 : W.tape = w.tape) (h3 : W.output = w.output) (hs : W.heap.size = w.heap.size) : Moved w W (footS p nb sb ptr vb vs L) (footS p nb sb ptr vb vs L) :=
  ⟨h1, h2, h3, Nat.le_of_eq hs.symm, fun k _ hn => ho k (fun e => hn (.inl e)), fun _ h => .inl h⟩
theorem step_go {m : M} {g : M → M} (h : m.left ≠ 1) : m.step g = (0, g m.tick) := by unfold M.step; rw [if_neg h]
theorem step_dark {m : M} {g : M → M} (h : m.left = 1) : m.step g = (9, m.tick.fail m.keep) := by unfold M.step; rw [if_pos h]

set_option maxRecDepth 20000 in
set_option maxHeartbeats 4000000 in
theorem do_at (h : StAt w p nb sb ptr vb vs L m) (ok : m.Ok) (hc : m.count ≤ 900000) (f : Nat) (caps : Array Value) (ef : ∀ args w, (callFunc f args).run Try.prog w = .ok (.enter f args) w) (g : M → M)
    (hcl : ∀ W, StAt W p nb sb ptr vb vs L m.tick → (∀ k, k ≠ p → W.heap[k]? = w.heap[k]?) → W.heap.size = w.heap.size → Calls Try.prog f caps W fun e w' => e = .returned (.tuple #[]) ∧ ∃ F', St w' p F' (g m.tick) ∧ Moved W w' (footS p nb sb ptr vb vs L) F') :
    Calls Try.prog 28 #[.pointer (some ⟨p, 0, none⟩), .func (.func f) #[] caps] w fun e w' => e = .returned (.int .i64 (m.step g).1) ∧ ∃ F', St w' p F' (m.step g).2 ∧ Moved w w' (footS p nb sb ptr vb vs L) F' := by
  obtain ⟨_, _, c2, _, c4, c5, _, _⟩ := h.cells
  have f2 := h.frozen 2
  obtain ⟨cn, hcn⟩ : ∃ cn : Int, cn = ((m.count + 1 : Nat) : Int) := ⟨_, rfl⟩
  have hw2 : IntKind.i64.wrap ((m.count : Int) + 1) = cn := by rw [IntKind.wrap_i64]; omega
  obtain ⟨W1, fold1⟩ : ∃ W1, w.setCell ⟨p, 2, none⟩ (.int .i64 cn) = W1 := ⟨_, rfl⟩
  have p1 : W1.heap[p]? = some (.cells [.int .i64 m.room, .bool (!m.dark), .int .i64 ((m.count + 1 : Nat) : Int), .int .i64 (m.need : Int), .int .i64 m.left, .int .i64 m.keep, .map (some nb), .map (some sb)].toArray 30 (0, 0)) := by
    rw [← fold1, ← hcn]; exact heap_set_list (i := 2) h.blk (.int .i64 cn)
  have o1 : ∀ k, k ≠ p → W1.heap[k]? = w.heap[k]? := fun k hk => by rw [← fold1]; exact Below.heap_setCell _ _ _ _ hk
  have s1 : W1.heap.size = w.heap.size := by rw [← fold1]; simp
  have d4 : W1.cell? ⟨p, 4, none⟩ = some (.int .i64 m.left) := by simp [World.cell?, p1]
  have hkp := ok.kp
  have l0 := ok.left0
  have l1 := ok.left1
  by_cases hl : 0 < m.left
  · have hl' : (0 : Int) < m.left := hl
    obtain ⟨lf, hlf⟩ : ∃ lf : Int, lf = m.left - 1 := ⟨_, rfl⟩
    have hw4 : IntKind.i64.wrap (m.left - 1) = lf := by rw [IntKind.wrap_i64]; omega
    have g4 : W1.frozen? ⟨p, 4, none⟩ = false := by simp [World.frozen?, p1]
    obtain ⟨W2, fold2⟩ : ∃ W2, W1.setCell ⟨p, 4, none⟩ (.int .i64 lf) = W2 := ⟨_, rfl⟩
    have ht : scell m.tick nb sb = [.int .i64 m.room, .bool (!m.dark), .int .i64 ((m.count + 1 : Nat) : Int), .int .i64 (m.need : Int), .int .i64 (m.left - 1), .int .i64 m.keep, .map (some nb), .map (some sb)] := by
      have : m.tick.left = m.left - 1 := by unfold M.tick M.less; rw [if_pos hl]
      unfold scell
      rw [this]
      rfl
    have p2 : W2.heap[p]? = some (.cells (scell m.tick nb sb).toArray 30 (0, 0)) := by
      rw [← fold2, ht, ← hlf]; exact heap_set_list (i := 4) p1 (.int .i64 lf)
    have o2 : ∀ k, k ≠ p → W2.heap[k]? = w.heap[k]? := fun k hk => by rw [← fold2, Below.heap_setCell _ _ _ _ hk]; exact o1 k hk
    have s2 : W2.heap.size = w.heap.size := by rw [← fold2]; simpa using s1
    have e4 : W2.cell? ⟨p, 4, none⟩ = some (.int .i64 lf) := by rw [hlf]; simp [World.cell?, p2, ht]
    have e5 : W2.cell? ⟨p, 5, none⟩ = some (.int .i64 m.keep) := by simp [World.cell?, p2, ht]
    have st2 : StAt W2 p nb sb ptr vb vs L m.tick := h.turn p2 o2 rfl rfl rfl
    have mv2 : Moved w W2 (footS p nb sb ptr vb vs L) (footS p nb sb ptr vb vs L) := moved_turn o2 (by rw [← fold2, ← fold1]; rfl) (by rw [← fold2, ← fold1]; rfl) (by rw [← fold2, ← fold1]; rfl) s2
    by_cases hz : m.left = 1
    · rw [step_dark hz]
      have hF := fail_at st2 ok.tick (by show m.count + 1 ≤ _; omega) m.keep hkp
      have HM : Hid (∀ w' F', Moved W2 w' (footS p nb sb ptr vb vs L) F' → Moved w w' (footS p nb sb ptr vb vs L) F') := fun w' F' k => mv2.trans k
      have hz' : (lf == 0) = true := by rw [hlf, hz]; rfl
      clear hcl h p1 p2 o1 o2 s1 s2 st2 mv2 ht ok hlf hcn hz
      go_enter Try.func28, Try.ntmps28
      go_wp2_with (first | (go_at_call 4; refine hF.mono ?_; rintro e w' ⟨rfl, F', s', m'⟩))
      go_ret
      exact ⟨rfl, F', s', HM.out _ _ m'⟩
    · rw [step_go hz]
      have hC := hcl W2 st2 o2 s2
      have HM : Hid (∀ w' F', Moved W2 w' (footS p nb sb ptr vb vs L) F' → Moved w w' (footS p nb sb ptr vb vs L) F') := fun w' F' k => mv2.trans k
      have hz2 : ¬ lf = 0 := by omega
      clear hcl h p1 p2 o1 o2 s1 s2 st2 mv2 ht ok hz hlf hcn
      go_enter Try.func28, Try.ntmps28
      go_wp2_with (first | (go_at_fn f; refine hC.mono ?_; rintro e w' ⟨rfl, F', s', m'⟩))
      go_ret
      exact ⟨rfl, F', s', HM.out _ _ m'⟩
  · have hz : m.left ≠ 1 := by omega
    rw [step_go hz]
    have ht : scell m.tick nb sb = [.int .i64 m.room, .bool (!m.dark), .int .i64 ((m.count + 1 : Nat) : Int), .int .i64 (m.need : Int), .int .i64 m.left, .int .i64 m.keep, .map (some nb), .map (some sb)] := by
      have : m.tick.left = m.left := by unfold M.tick M.less; rw [if_neg hl]
      unfold scell
      rw [this]
      rfl
    have st1 : StAt W1 p nb sb ptr vb vs L m.tick := h.turn (by rw [ht]; exact p1) o1 rfl rfl rfl
    have mv1 : Moved w W1 (footS p nb sb ptr vb vs L) (footS p nb sb ptr vb vs L) := moved_turn o1 (by rw [← fold1]; rfl) (by rw [← fold1]; rfl) (by rw [← fold1]; rfl) s1
    have hC := hcl W1 st1 o1 s1
    have HM : Hid (∀ w' F', Moved W1 w' (footS p nb sb ptr vb vs L) F' → Moved w w' (footS p nb sb ptr vb vs L) F') := fun w' F' k => mv1.trans k
    have hl' : ¬ (0 : Int) < m.left := hl
    clear hcl h p1 o1 s1 st1 mv1 ht ok hz hcn
    go_enter Try.func28, Try.ntmps28
    go_wp2_with (first | (go_at_fn f; refine hC.mono ?_; rintro e w' ⟨rfl, F', s', m'⟩))
    go_ret
    exact ⟨rfl, F', s', HM.out _ _ m'⟩
end
end Go.Proofs.Ytjgdmbfkondakaa
