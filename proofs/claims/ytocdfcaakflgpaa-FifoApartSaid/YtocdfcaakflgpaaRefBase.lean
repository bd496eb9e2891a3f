/-
  THE DOCUMENT's QUEUE in memory; New, Room, Same, by their contracts.
-/
import Derived.Test.YtocdfcaakflgpaaOrders
namespace Go.Proofs.Ytocdfcaakflgpaa
open Go.RowKit Go.Sort

/-- The document's queue. -/
structure RAt (w : World) (p : Nat) (vr vo : Value) (s : St) : Prop where
  blk : w.heap[p]? = some (.cells #[.int .i64 (s.most : Int), .int .u64 (s.next : Int), vr, vo] 67 (0, 0))
  rdy : Rows w vr s.rdy
  out : Rows w vo s.out
  nr : vr.ownBlock ≠ some p
  no : vo.ownBlock ≠ some p
def rfoot (p : Nat) (vr vo : Value) (k : Nat) : Prop := k = p ∨ vr.ownBlock = some k ∨ vo.ownBlock = some k
def R (w : World) (p : Nat) (F : Nat → Prop) (s : St) : Prop := ∃ vr vo, RAt w p vr vo s ∧ (∀ k, F k ↔ rfoot p vr vo k) ∧ ∀ k, F k → k < w.heap.size
theorem RAt.same {w w' : World} {p : Nat} {vr vo : Value} {s : St} (h : RAt w p vr vo s) (hs : ∀ k, rfoot p vr vo k → w'.heap[k]? = w.heap[k]?) : RAt w' p vr vo s :=
  ⟨by rw [hs p (.inl rfl)]; exact h.blk, h.rdy.same fun g hg => hs g (.inr (.inl hg)), h.out.same fun g hg => hs g (.inr (.inr hg)), h.nr, h.no⟩
theorem R.lts {w : World} {p : Nat} {F : Nat → Prop} {s : St} (h : R w p F s) : ∀ k, F k → k < w.heap.size := by
  obtain ⟨_, _, _, _, h⟩ := h
  exact h
theorem R.same {w w' : World} {p : Nat} {F : Nat → Prop} {s : St} (h : R w p F s) (hs : ∀ k, F k → w'.heap[k]? = w.heap[k]?) (hz : w.heap.size ≤ w'.heap.size) : R w' p F s := by
  obtain ⟨vr, vo, hq, hF, hl⟩ := h
  exact ⟨vr, vo, hq.same fun k hk => hs k ((hF k).2 hk), hF, fun k hk => Nat.lt_of_lt_of_le (hl k hk) hz⟩
theorem R.kept {w w' : World} {p : Nat} {F : Nat → Prop} {s : St} (h : R w p F s) (hb : Below w.heap.size w w') : R w' p F s := h.same (fun k hk => hb.block k (h.lts k hk)) hb.size
theorem R.beside {w w' : World} {p : Nat} {F G G' : Nat → Prop} {s : St} (h : R w p F s) (m : Moved w w' G G') (ha : ∀ k, G k → ¬ F k) : R w' p F s := h.same (fun k hk => m.block k (h.lts k hk) (fun hg => ha k hg hk)) m.size

set_option maxHeartbeats 400000 in
theorem rnew_any (n : Nat) (w : World) (h1 : 1 ≤ n) (h2 : n ≤ 1000) :
    Calls Try.prog 10 #[.int .i64 (n : Int)] w fun e w' => ∃ p, e = .returned (.pointer (some ⟨p, 0, none⟩)) ∧ ∃ F, R w' p F (newS n) ∧ (∀ k, F k → w.heap.size ≤ k) ∧ Below w.heap.size w w' := by
  have h1 : ¬ (n : Int) < 1 := by omega
  have h1' : ¬ n = 0 := by omega
  have h2 : ¬ 1000 < (n : Int) := by omega
  go_enter Try.func10, Try.ntmps10
  go_wp2
  go_ret
  refine ⟨w.heap.size, rfl, rfoot w.heap.size (.slice none 0 0) (.slice none 0 0), ⟨_, _, ⟨heap_alloc_new w _, rowOf_nil _, rowOf_nil _, by simp [Value.ownBlock], by simp [Value.ownBlock]⟩, fun _ => Iff.rfl, ?_⟩, ?_, below_alloc _ _⟩
  · rintro k (rfl | hk | hk)
    · simp
    · simp [Value.ownBlock] at hk
    · simp [Value.ownBlock] at hk
  · rintro k (rfl | hk | hk)
    · exact Nat.le_refl _
    · simp [Value.ownBlock] at hk
    · simp [Value.ownBlock] at hk
set_option maxHeartbeats 400000 in
theorem rnew_none (n : Int) (w : World) (h : ¬ (1 ≤ n ∧ n ≤ 1000)) : Calls Try.prog 10 #[.int .i64 n] w fun e w' => e = .returned (.pointer none) ∧ w' = w := by
  by_cases h1 : n < 1
  · clear h
    go_enter Try.func10, Try.ntmps10
    go_wp2
    go_ret
    exact ⟨rfl, rfl⟩
  · have h2 : 1000 < n := by omega
    clear h
    go_enter Try.func10, Try.ntmps10
    go_wp2
    go_ret
    exact ⟨rfl, rfl⟩
set_option maxHeartbeats 400000 in
theorem rroom_any (p : Nat) (F : Nat → Prop) (s : St) (w : World) (h : R w p F s) (ok : s.Ok) : Calls Try.prog 38 #[.pointer (some ⟨p, 0, none⟩)] w fun e w' => e = .returned (.int .i64 ((s.most : Int) - s.rdy.length - s.out.length)) ∧ ∃ q, w' = w.drewN q := by
  obtain ⟨vr, vo, hq, _, _⟩ := h
  obtain ⟨⟨c0, c1, c2, c3⟩, _⟩ := cells4 hq.blk
  obtain ⟨a, cap, rfl⟩ := hq.rdy.slice
  obtain ⟨a2, cap2, rfl⟩ := hq.out.slice
  have h1 := ok.room
  have h2 := ok.m
  have h3 : IntKind.i64.wrap ((s.most : Int) - (s.rdy.length : Int)) = (s.most : Int) - (s.rdy.length : Int) := by rw [IntKind.wrap_i64]; omega
  have h4 : IntKind.i64.wrap ((s.most : Int) - (s.rdy.length : Int) - (s.out.length : Int)) = (s.most : Int) - (s.rdy.length : Int) - (s.out.length : Int) := by rw [IntKind.wrap_i64]; omega
  clear hq
  go_enter Try.func38, Try.ntmps38
  go_wp2
  go_quiet (fail)
  go_wp2
  go_ret
  exact ⟨rfl, _, rfl⟩

set_option maxRecDepth 20000 in
set_option maxHeartbeats 2000000 in
/-- Two rows of the same items. -/
theorem same_any (va vb : Value) (l : List It) (w : World) (ha : Rows w va l) (hb : Rows w vb l) : Calls Try.prog 28 #[va, vb] w fun e w' => e = .returned (.bool true) ∧ Below w.heap.size w w' := by
  obtain ⟨a, cap, rfl⟩ := ha.slice
  obtain ⟨a2, cap2, rfl⟩ := hb.slice
  obtain ⟨_, hl, hA⟩ := ha.items
  obtain ⟨_, _, hB⟩ := hb.items
  have l63 : l.length ≤ 9223372036854775807 := by
    rcases ha with ⟨_, rfl⟩ | ⟨_, _, hv, h1, h2, _⟩
    · simp
    · unfold maxLen at h2; omega
  clear ha hb
  go_enter Try.func28, Try.ntmps28
  go_wp2
  go_loopw [5, 13] (fun u5 u13 wr => ∃ k : Nat, u13 = .int .i64 k ∧ k ≤ l.length ∧ Below w.heap.size w wr) (fun u5 u13 wr => l.length - (intOf u13).toNat)
  case atStart => exact ⟨0, rfl, Nat.zero_le _, Below.refl _ _⟩
  case round =>
    obtain ⟨k, rfl, hk, hb⟩ := hrel
    by_cases hlt2 : k < l.length
    · have hlt : (k : Int) < (l.length : Int) := by omega
      obtain ⟨b, off, rfl, hi⟩ := hA k hlt2
      obtain ⟨b2, off2, rfl, hi2⟩ := hB k hlt2
      obtain ⟨e0, e1, e2, e3, e4, e5, e6, e7⟩ := hi.below hb (Nat.le_refl _)
      obtain ⟨g0, g1, g2, g3, g4, g5, g6, g7⟩ := hi2.below hb (Nat.le_refl _)
      clear hA hB hi hi2
      generalize l[k] = x at *
      go_wp2
      go_quiet (fail)
      go_wp2
      go_roundw
      case rel => exact ⟨k + 1, by go_num, by omega, hb.trans ⟨rfl, rfl, rfl, Nat.le_refl _, fun _ _ => rfl⟩⟩
      case measure => simp [intOf]; omega
    · obtain rfl : k = l.length := by omega
      go_wp2
      go_ret
      exact ⟨rfl, hb⟩
end Go.Proofs.Ytocdfcaakflgpaa
