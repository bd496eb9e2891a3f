/-
  PACKAGE fifo: a queue in memory; New, Most, Next, Room, Ready, Push, by their contracts.
-/
import Derived.Test.YtocdfcaakflgpaaMaps
import Derived.Test.YtocdfcaakflgpaaDelete
import Derived.Deep.QuietTactic
namespace Go.Proofs.Ytocdfcaakflgpaa
open Go.RowKit Go.Sort

/-- Of what was there nothing but the blocks F has changed; F' are of them, or new. -/
structure Moved (w w' : World) (F F' : Nat → Prop) : Prop where
  os : w'.os = w.os
  tape : w'.tape = w.tape
  output : w'.output = w.output
  size : w.heap.size ≤ w'.heap.size
  block : ∀ k, k < w.heap.size → ¬ F k → w'.heap[k]? = w.heap[k]?
  sub : ∀ k, F' k → F k ∨ w.heap.size ≤ k
theorem Moved.refl (w : World) (F : Nat → Prop) : Moved w w F F := ⟨rfl, rfl, rfl, Nat.le_refl _, fun _ _ _ => rfl, fun _ h => .inl h⟩
theorem Moved.trans {a b c : World} {F G H : Nat → Prop} (h : Moved a b F G) (k : Moved b c G H) : Moved a c F H := by
  refine ⟨k.os.trans h.os, k.tape.trans h.tape, k.output.trans h.output, Nat.le_trans h.size k.size, fun i hi hn => ?_, fun i hi => ?_⟩
  · have h1 : ¬ G i := fun hg => (h.sub i hg).elim hn (by omega)
    exact (k.block i (Nat.lt_of_lt_of_le hi h.size) h1).trans (h.block i hi hn)
  · rcases k.sub i hi with hg | hg
    · exact h.sub i hg
    · exact .inr (Nat.le_trans h.size hg)
theorem Moved.of_below {w w' : World} {F : Nat → Prop} (h : Below w.heap.size w w') : Moved w w' F F := ⟨h.os, h.tape, h.output, h.size, fun k hk _ => h.block k hk, fun _ h => .inl h⟩
theorem Moved.weak {w w' : World} {F F' G : Nat → Prop} (h : Moved w w' F F') (hs : ∀ k, F k → G k) : Moved w w' G F' :=
  ⟨h.os, h.tape, h.output, h.size, fun k hk hn => h.block k hk (fun hf => hn (hs k hf)), fun k hk => (h.sub k hk).imp (hs k) id⟩
/-- What lies below base stays, where all that changes lies from base on. -/
theorem Moved.below {w0 w w' : World} {F F' : Nat → Prop} {base : Nat} (h : Moved w w' F F') (hF : ∀ k, F k → base ≤ k) (h0 : Below base w0 w) (hb : base ≤ w.heap.size) : Below base w0 w' :=
  h0.trans ⟨h.os, h.tape, h.output, h.size, fun k hk => h.block k (by omega) (fun hf => by have := hF k hf; omega)⟩
theorem Moved.from {w w' : World} {F F' : Nat → Prop} {base : Nat} (h : Moved w w' F F') (hF : ∀ k, F k → base ≤ k) (hb : base ≤ w.heap.size) : ∀ k, F' k → base ≤ k := fun k hk => (h.sub k hk).elim (hF k) (fun h => by omega)
theorem Moved.apart {w w' : World} {F F' G : Nat → Prop} (h : Moved w w' F F') (hG : ∀ k, G k → k < w.heap.size) (ha : ∀ k, F k → ¬ G k) : ∀ k, F' k → ¬ G k := fun k hk hg => (h.sub k hk).elim (fun hf => ha k hf hg) (fun h => by have := hG k hg; omega)

/-- A queue that a call made, in memory. -/
structure QAt (w : World) (p : Nat) (v : Value) (b : Nat) (s : St) : Prop where
  blk : w.heap[p]? = some (.cells #[.int .i64 (s.most : Int), .int .u64 (s.next : Int), v, .map (some b)] 64 (0, 0))
  rows : Own8 w 0 v s.rdy
  out : OutAt w b s.out
/-- Its blocks. -/
def foot (p : Nat) (v : Value) (b : Nat) (k : Nat) : Prop := k = p ∨ v.ownBlock = some k ∨ k = b
/-- .. and which blocks it has. -/
def Q (w : World) (p : Nat) (F : Nat → Prop) (s : St) : Prop := ∃ v b, QAt w p v b s ∧ ∀ k, F k ↔ foot p v b k
theorem QAt.lt {w : World} {p : Nat} {v : Value} {b : Nat} {s : St} (h : QAt w p v b s) : p < w.heap.size := (Array.getElem?_eq_some_iff.1 h.blk).1
theorem QAt.lts {w : World} {p : Nat} {v : Value} {b : Nat} {s : St} (h : QAt w p v b s) : ∀ k, foot p v b k → k < w.heap.size := by
  rintro k (rfl | hk | rfl)
  · exact h.lt
  · exact (h.rows.lt hk).2
  · exact h.out.lt
theorem Q.lts {w : World} {p : Nat} {F : Nat → Prop} {s : St} (h : Q w p F s) : ∀ k, F k → k < w.heap.size := by
  obtain ⟨v, b, hq, hF⟩ := h
  exact fun k hk => hq.lts k ((hF k).1 hk)
theorem QAt.same {w w' : World} {p : Nat} {v : Value} {b : Nat} {s : St} (h : QAt w p v b s) (hs : ∀ k, foot p v b k → w'.heap[k]? = w.heap[k]?) : QAt w' p v b s :=
  ⟨by rw [hs p (.inl rfl)]; exact h.blk, h.rows.same fun g hg => hs g (.inr (.inl hg)), h.out.same (hs b (.inr (.inr rfl)))⟩
theorem Q.same {w w' : World} {p : Nat} {F : Nat → Prop} {s : St} (h : Q w p F s) (hs : ∀ k, F k → w'.heap[k]? = w.heap[k]?) : Q w' p F s := by
  obtain ⟨v, b, hq, hF⟩ := h
  exact ⟨v, b, hq.same fun k hk => hs k ((hF k).2 hk), hF⟩
theorem Q.kept {w w' : World} {p : Nat} {F : Nat → Prop} {s : St} (h : Q w p F s) (hb : Below w.heap.size w w') : Q w' p F s := h.same fun k hk => hb.block k (h.lts k hk)
/-- .. while another one, apart from it, is changed. -/
theorem Q.beside {w w' : World} {p : Nat} {F G G' : Nat → Prop} {s : St} (h : Q w p F s) (m : Moved w w' G G') (ha : ∀ k, G k → ¬ F k) : Q w' p F s := h.same fun k hk => m.block k (h.lts k hk) (fun hg => ha k hg hk)
theorem QAt.ne_row {w : World} {p : Nat} {v : Value} {b : Nat} {s : St} (h : QAt w p v b s) : v.ownBlock ≠ some p := by
  rcases h.rows.2 with ⟨rfl, _⟩ | ⟨g, cap, cur, rfl, _, hg, _⟩
  · simp [Value.ownBlock]
  · intro he
    simp only [Value.ownBlock, Option.some.injEq] at he
    subst he
    rw [h.blk] at hg
    simp at hg
theorem QAt.ne_map {w : World} {p : Nat} {v : Value} {b : Nat} {s : St} (h : QAt w p v b s) : b ≠ p := by
  rintro rfl
  obtain ⟨es, c, hm⟩ := h.out.isMap
  rw [h.blk] at hm
  cases hm
theorem QAt.row_map {w : World} {p : Nat} {v : Value} {b : Nat} {s : St} (h : QAt w p v b s) : v.ownBlock ≠ some b := by
  rcases h.rows.2 with ⟨rfl, _⟩ | ⟨g, cap, cur, rfl, _, hg, _⟩
  · simp [Value.ownBlock]
  · intro he
    simp only [Value.ownBlock, Option.some.injEq] at he
    subst he
    obtain ⟨es, c, hm⟩ := h.out.isMap
    rw [hg] at hm
    cases hm
theorem cells4 {w : World} {b : Nat} {v0 v1 v2 v3 : Value} {t : TypeId} (h : w.heap[b]? = some (.cells #[v0, v1, v2, v3] t (0, 0))) : (w.cell? ⟨b, 0, none⟩ = some v0 ∧ w.cell? ⟨b, 1, none⟩ = some v1 ∧ w.cell? ⟨b, 2, none⟩ = some v2 ∧ w.cell? ⟨b, 3, none⟩ = some v3) ∧ w.frozen? ⟨b, 0, none⟩ = false ∧ w.frozen? ⟨b, 1, none⟩ = false ∧ w.frozen? ⟨b, 2, none⟩ = false ∧ w.frozen? ⟨b, 3, none⟩ = false := by
  simp [World.cell?, World.frozen?, h]

set_option maxHeartbeats 400000 in
theorem new_any (n : Nat) (w : World) (h1 : 1 ≤ n) (h2 : n ≤ 1000) :
    Calls Try.prog 9 #[.int .i64 (n : Int)] w fun e w' => ∃ p, e = .returned (.pointer (some ⟨p, 0, none⟩)) ∧ ∃ F, Q w' p F (newS n) ∧ (∀ k, F k → w.heap.size ≤ k) ∧ Below w.heap.size w w' := by
  have hmm := @run_makeMap Try.prog
  have h1 : ¬ (n : Int) < 1 := by omega
  have h1' : ¬ n = 0 := by omega
  have h2 : ¬ 1000 < (n : Int) := by omega
  go_enter Try.func9, Try.ntmps9
  go_wp2
  go_ret
  refine ⟨w.heap.size + 1, rfl, foot (w.heap.size + 1) (.slice none 0 0) w.heap.size, ⟨_, _, ⟨?_, ownOf_nil _ _, ?_⟩, fun _ => Iff.rfl⟩, ?_, ?_⟩
  · simp only [newS]
    rw [← World.size_alloc w (.map #[] 0)]
    exact heap_alloc_new _ _
  · exact (outAt_new w).same (Below.heap_alloc _ _ _ (by simp))
  · rintro k (rfl | hk | rfl)
    · omega
    · simp [Value.ownBlock] at hk
    · exact Nat.le_refl _
  · exact ((Below.refl _ w).alloc (Nat.le_refl _) _).alloc (by simp) _
set_option maxHeartbeats 400000 in
theorem new_none (n : Int) (w : World) (h : ¬ (1 ≤ n ∧ n ≤ 1000)) : Calls Try.prog 9 #[.int .i64 n] w fun e w' => e = .returned (.pointer none) ∧ w' = w := by
  by_cases h1 : n < 1
  · clear h
    go_enter Try.func9, Try.ntmps9
    go_wp2
    go_ret
    exact ⟨rfl, rfl⟩
  · have h2 : 1000 < n := by omega
    clear h
    go_enter Try.func9, Try.ntmps9
    go_wp2
    go_ret
    exact ⟨rfl, rfl⟩

set_option maxHeartbeats 400000 in
theorem most_any (p : Nat) (F : Nat → Prop) (s : St) (w : World) (h : Q w p F s) : Calls Try.prog 27 #[.pointer (some ⟨p, 0, none⟩)] w fun e w' => e = .returned (.int .i64 (s.most : Int)) ∧ w' = w := by
  obtain ⟨v, b, hq, _⟩ := h
  obtain ⟨⟨c0, c1, c2, c3⟩, _⟩ := cells4 hq.blk
  clear hq
  go_enter Try.func27, Try.ntmps27
  go_wp2
  go_ret
  exact ⟨rfl, rfl⟩
set_option maxHeartbeats 400000 in
theorem next_any (p : Nat) (F : Nat → Prop) (s : St) (w : World) (h : Q w p F s) : Calls Try.prog 21 #[.pointer (some ⟨p, 0, none⟩)] w fun e w' => e = .returned (.int .u64 (s.next : Int)) ∧ w' = w := by
  obtain ⟨v, b, hq, _⟩ := h
  obtain ⟨⟨c0, c1, c2, c3⟩, _⟩ := cells4 hq.blk
  clear hq
  go_enter Try.func21, Try.ntmps21
  go_wp2
  go_ret
  exact ⟨rfl, rfl⟩
set_option maxHeartbeats 400000 in
theorem made_any (p : Nat) (F : Nat → Prop) (s : St) (w : World) (h : Q w p F s) (h1 : 1 ≤ s.most) : Calls Try.prog 29 #[.pointer (some ⟨p, 0, none⟩)] w fun e w' => e = .returned (.bool true) ∧ w' = w := by
  obtain ⟨v, b, hq, _⟩ := h
  obtain ⟨⟨c0, c1, c2, c3⟩, _⟩ := cells4 hq.blk
  have h0 : 0 < s.most := by omega
  clear hq
  go_enter Try.func29, Try.ntmps29
  go_wp2
  go_ret
  exact ⟨rfl, rfl⟩
set_option maxHeartbeats 400000 in
theorem room_any (p : Nat) (F : Nat → Prop) (s : St) (w : World) (h : Q w p F s) (ok : s.Ok) : Calls Try.prog 26 #[.pointer (some ⟨p, 0, none⟩)] w fun e w' => e = .returned (.int .i64 ((s.most : Int) - s.rdy.length - s.out.length)) ∧ ∃ q, w' = w.drewN q := by
  obtain ⟨v, b, hq, _⟩ := h
  obtain ⟨⟨c0, c1, c2, c3⟩, _⟩ := cells4 hq.blk
  obtain ⟨a, cap, rfl⟩ := hq.rows.rng.slice
  have hlen : ∀ ty q, (Builtin.len_ #[62] ty #[.map (some b)]).run Try.prog (w.drewN q) = .ok (.int .i64 (s.out.length : Nat)) (w.drewN q) := fun ty q => by
    have := World.ownsMap.len (w := w.drewN q) hq.out Try.underlying62 ty
    rw [size_Dof] at this
    exact this
  have h1 := ok.room
  have h2 := ok.m
  have h3 : IntKind.i64.wrap ((s.most : Int) - (s.rdy.length : Int)) = (s.most : Int) - (s.rdy.length : Int) := by rw [IntKind.wrap_i64]; omega
  have h4 : IntKind.i64.wrap ((s.most : Int) - (s.rdy.length : Int) - (s.out.length : Int)) = (s.most : Int) - (s.rdy.length : Int) - (s.out.length : Int) := by rw [IntKind.wrap_i64]; omega
  clear hq
  go_enter Try.func26, Try.ntmps26
  go_wp2
  go_quiet (fail)
  go_wp2
  go_ret
  exact ⟨rfl, _, rfl⟩
set_option maxHeartbeats 400000 in
theorem ready_any (p : Nat) (F : Nat → Prop) (s : St) (w : World) (h : Q w p F s) (ok : s.Ok) : Calls Try.prog 24 #[.pointer (some ⟨p, 0, none⟩)] w fun e w' => ∃ v', e = .returned v' ∧ Own8 w' w.heap.size v' s.rdy ∧ Below w.heap.size w w' := by
  obtain ⟨v, b, hq, _⟩ := h
  obtain ⟨⟨c0, c1, c2, c3⟩, _⟩ := cells4 hq.blk
  have hA := another_any v s.rdy w hq.rows.rng (by have := ok.room; have := ok.m; omega)
  obtain ⟨a, cap, rfl⟩ := hq.rows.rng.slice
  clear hq
  go_enter Try.func24, Try.ntmps24
  go_wp2_with fail
  refine hA.mono ?_
  rintro e w' ⟨v', rfl, own, bel⟩
  obtain ⟨va, vc, rfl⟩ := own.rng.slice
  go_wp2
  go_ret
  exact ⟨_, rfl, own, bel⟩
end Go.Proofs.Ytocdfcaakflgpaa
