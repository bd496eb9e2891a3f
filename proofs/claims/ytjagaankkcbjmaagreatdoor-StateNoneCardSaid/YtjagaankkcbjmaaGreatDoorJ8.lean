/-
  PACKAGE fifo: a queue in memory; New, Most, Next, Room, Ready, Push, by their contracts.
-/
import Derived.Test.YtjagaankkcbjmaaGreatDoorJ6
import Derived.Test.YtjagaankkcbjmaaGreatDoorJ7
import Derived.Deep.QuietTactic
import Derived.Test.YtjagaankkcbjmaaGreatDoorJ5
import Derived.RangeFuncNested
import Derived.RangeFuncBound
import Derived.RangeFuncCalls
import Derived.RangeFuncLeaves
import Derived.Shelf.Abstract
import Derived.Shelf.AbstractIn
import Derived.Shelf.RegionOpen
import Derived.Sort.MapsRangeIn
import Derived.Sort.KeysCollected
import Derived.WalkKit
import Derived.OwnWalkIn
import Derived.TacticsInMore
import Derived.RegionIn
import Derived.LoopNIn
import Derived.LoopIn
import Derived.Shelf.SlSortCmp.WholeK
import Derived.Shelf.SlSortCmp.NoneTotal
import Derived.Shelf.Small.Strs
import Derived.Test.YtjagaankkcbjmaaGreatDoorProg
namespace Go.Proofs.YtjagaankkcbjmaaGreatDoor.K
end Go.Proofs.YtjagaankkcbjmaaGreatDoor.K
namespace Go.Proofs.YtjagaankkcbjmaaGreatDoor.F
open Go.Proofs.YtjagaankkcbjmaaGreatDoor.K
open Go.RowKit Go.Sort


/-- A queue that a call made, in memory. -/
structure QAt (w : World) (p : Nat) (v : Value) (b : Nat) (s : St) : Prop where
  blk : w.heap[p]? = some (.cells #[.int .i64 (s.most : Int), .int .u64 (s.next : Int), v, .map (some b)] 238 (0, 0))
  rows : Own8 w 0 v s.rdy
  out : OutAt w b s.out
/-- Its blocks. -/
def foot (p : Nat) (v : Value) (b : Nat) (k : Nat) : Prop := k = p ∨ v.ownBlock = some k ∨ k = b
/-- .. and which blocks it has. -/
def Q (w : World) (p : Nat) (F : Nat → Prop) (s : St) : Prop := ∃ v b, QAt w p v b s ∧ ∀ k, F k ↔ foot p v b k
theorem QAt.lt {w : World} {p : Nat} {v : Value} {b : Nat} {s : St} (h : QAt w p v b s) : p < w.heap.size := (Array.getElem?_eq_some_iff.1 h.blk).1
theorem QAt.lts {w : World} {p : Nat} {v : Value} {b : Nat} {s : St} (h : QAt w p v b s) : ∀ k, foot p v b k → k < w.heap.size := by
  rintro k (rfl | hk | rfl)
  · exact h.lt
  · exact (h.rows.lt hk).2
  · exact h.out.lt
theorem Q.lts {w : World} {p : Nat} {F : Nat → Prop} {s : St} (h : Q w p F s) : ∀ k, F k → k < w.heap.size := by
  obtain ⟨v, b, hq, hF⟩ := h
  exact fun k hk => hq.lts k ((hF k).1 hk)
theorem QAt.same {w w' : World} {p : Nat} {v : Value} {b : Nat} {s : St} (h : QAt w p v b s) (hs : ∀ k, foot p v b k → w'.heap[k]? = w.heap[k]?) : QAt w' p v b s :=
  ⟨by rw [hs p (.inl rfl)]; exact h.blk, h.rows.same fun g hg => hs g (.inr (.inl hg)), h.out.same (hs b (.inr (.inr rfl)))⟩
theorem Q.same {w w' : World} {p : Nat} {F : Nat → Prop} {s : St} (h : Q w p F s) (hs : ∀ k, F k → w'.heap[k]? = w.heap[k]?) : Q w' p F s := by
  obtain ⟨v, b, hq, hF⟩ := h
  exact ⟨v, b, hq.same fun k hk => hs k ((hF k).2 hk), hF⟩
theorem Q.kept {w w' : World} {p : Nat} {F : Nat → Prop} {s : St} (h : Q w p F s) (hb : Below w.heap.size w w') : Q w' p F s := h.same fun k hk => hb.block k (h.lts k hk)
/-- .. while another one, apart from it, is changed. -/
theorem Q.beside {w w' : World} {p : Nat} {F G G' : Nat → Prop} {s : St} (h : Q w p F s) (m : Moved w w' G G') (ha : ∀ k, G k → ¬ F k) : Q w' p F s := h.same fun k hk => m.block k (h.lts k hk) (fun hg => ha k hg hk)
theorem QAt.ne_row {w : World} {p : Nat} {v : Value} {b : Nat} {s : St} (h : QAt w p v b s) : v.ownBlock ≠ some p := by
  rcases h.rows.2 with ⟨rfl, _⟩ | ⟨g, cap, cur, rfl, _, hg, _⟩
  · simp [Value.ownBlock]
  · intro he
    simp only [Value.ownBlock, Option.some.injEq] at he
    subst he
    rw [h.blk] at hg
    simp at hg
theorem QAt.ne_map {w : World} {p : Nat} {v : Value} {b : Nat} {s : St} (h : QAt w p v b s) : b ≠ p := by
  rintro rfl
  obtain ⟨es, c, hm⟩ := h.out.isMap
  rw [h.blk] at hm
  cases hm
theorem QAt.row_map {w : World} {p : Nat} {v : Value} {b : Nat} {s : St} (h : QAt w p v b s) : v.ownBlock ≠ some b := by
  rcases h.rows.2 with ⟨rfl, _⟩ | ⟨g, cap, cur, rfl, _, hg, _⟩
  · simp [Value.ownBlock]
  · intro he
    simp only [Value.ownBlock, Option.some.injEq] at he
    subst he
    obtain ⟨es, c, hm⟩ := h.out.isMap
    rw [hg] at hm
    cases hm
theorem cells4 {w : World} {b : Nat} {v0 v1 v2 v3 : Value} {t : TypeId} (h : w.heap[b]? = some (.cells #[v0, v1, v2, v3] t (0, 0))) : (w.cell? ⟨b, 0, none⟩ = some v0 ∧ w.cell? ⟨b, 1, none⟩ = some v1 ∧ w.cell? ⟨b, 2, none⟩ = some v2 ∧ w.cell? ⟨b, 3, none⟩ = some v3) ∧ w.frozen? ⟨b, 0, none⟩ = false ∧ w.frozen? ⟨b, 1, none⟩ = false ∧ w.frozen? ⟨b, 2, none⟩ = false ∧ w.frozen? ⟨b, 3, none⟩ = false := by
  simp [World.cell?, World.frozen?, h]

set_option maxHeartbeats 400000 in
theorem new_any (n : Nat) (w : World) (h1 : 1 ≤ n) (h2 : n ≤ 1000) :
    Calls Tryz.prog 175 #[.int .i64 (n : Int)] w fun e w' => ∃ p, e = .returned (.pointer (some ⟨p, 0, none⟩)) ∧ ∃ F, Q w' p F (newS n) ∧ (∀ k, F k → w.heap.size ≤ k) ∧ Below w.heap.size w w' := by
  have hmm := @run_makeMap Tryz.prog
  have h1 : ¬ (n : Int) < 1 := by omega
  have h1' : ¬ n = 0 := by omega
  have h2 : ¬ 1000 < (n : Int) := by omega
  go_enter Tryz.func175, Tryz.ntmps175
  go_wp2
  go_ret
  refine ⟨w.heap.size + 1, rfl, foot (w.heap.size + 1) (.slice none 0 0) w.heap.size, ⟨_, _, ⟨?_, ownOf_nil _ _, ?_⟩, fun _ => Iff.rfl⟩, ?_, ?_⟩
  · simp only [newS]
    rw [← World.size_alloc w (.map #[] 0)]
    exact heap_alloc_new _ _
  · exact (outAt_new w).same (Below.heap_alloc _ _ _ (by simp))
  · rintro k (rfl | hk | rfl)
    · omega
    · simp [Value.ownBlock] at hk
    · exact Nat.le_refl _
  · exact ((Below.refl _ w).alloc (Nat.le_refl _) _).alloc (by simp) _

set_option maxHeartbeats 400000 in
theorem most_any (p : Nat) (F : Nat → Prop) (s : St) (w : World) (h : Q w p F s) : Calls Tryz.prog 80 #[.pointer (some ⟨p, 0, none⟩)] w fun e w' => e = .returned (.int .i64 (s.most : Int)) ∧ w' = w := by
  obtain ⟨v, b, hq, _⟩ := h
  obtain ⟨⟨c0, c1, c2, c3⟩, _⟩ := cells4 hq.blk
  clear hq
  go_enter Tryz.func80, Tryz.ntmps80
  go_wp2
  go_ret
  exact ⟨rfl, rfl⟩
set_option maxHeartbeats 400000 in
theorem next_any (p : Nat) (F : Nat → Prop) (s : St) (w : World) (h : Q w p F s) : Calls Tryz.prog 81 #[.pointer (some ⟨p, 0, none⟩)] w fun e w' => e = .returned (.int .u64 (s.next : Int)) ∧ w' = w := by
  obtain ⟨v, b, hq, _⟩ := h
  obtain ⟨⟨c0, c1, c2, c3⟩, _⟩ := cells4 hq.blk
  clear hq
  go_enter Tryz.func81, Tryz.ntmps81
  go_wp2
  go_ret
  exact ⟨rfl, rfl⟩
set_option maxHeartbeats 400000 in
theorem made_any (p : Nat) (F : Nat → Prop) (s : St) (w : World) (h : Q w p F s) (h1 : 1 ≤ s.most) : Calls Tryz.prog 158 #[.pointer (some ⟨p, 0, none⟩)] w fun e w' => e = .returned (.bool true) ∧ w' = w := by
  obtain ⟨v, b, hq, _⟩ := h
  obtain ⟨⟨c0, c1, c2, c3⟩, _⟩ := cells4 hq.blk
  have h0 : 0 < s.most := by omega
  clear hq
  go_enter Tryz.func158, Tryz.ntmps158
  go_wp2
  go_ret
  exact ⟨rfl, rfl⟩
set_option maxHeartbeats 400000 in
theorem room_any (p : Nat) (F : Nat → Prop) (s : St) (w : World) (h : Q w p F s) (ok : s.Ok) : Calls Tryz.prog 247 #[.pointer (some ⟨p, 0, none⟩)] w fun e w' => e = .returned (.int .i64 ((s.most : Int) - s.rdy.length - s.out.length)) ∧ ∃ q, w' = w.drewN q := by
  obtain ⟨v, b, hq, _⟩ := h
  obtain ⟨⟨c0, c1, c2, c3⟩, _⟩ := cells4 hq.blk
  obtain ⟨a, cap, rfl⟩ := hq.rows.rng.slice
  have hlen : ∀ ty q, (Builtin.len_ #[236] ty #[.map (some b)]).run Tryz.prog (w.drewN q) = .ok (.int .i64 (s.out.length : Nat)) (w.drewN q) := fun ty q => by
    have := World.ownsMap.len (w := w.drewN q) hq.out Tryz.underlying236 ty
    rw [size_Dof] at this
    exact this
  have h1 := ok.room
  have h2 := ok.m
  have h3 : IntKind.i64.wrap ((s.most : Int) - (s.rdy.length : Int)) = (s.most : Int) - (s.rdy.length : Int) := by rw [IntKind.wrap_i64]; omega
  have h4 : IntKind.i64.wrap ((s.most : Int) - (s.rdy.length : Int) - (s.out.length : Int)) = (s.most : Int) - (s.rdy.length : Int) - (s.out.length : Int) := by rw [IntKind.wrap_i64]; omega
  clear hq
  go_enter Tryz.func247, Tryz.ntmps247
  go_wp2
  go_quiet (fail)
  go_wp2
  go_ret
  exact ⟨rfl, _, rfl⟩
set_option maxHeartbeats 400000 in
theorem ready_any (p : Nat) (F : Nat → Prop) (s : St) (w : World) (h : Q w p F s) (ok : s.Ok) : Calls Tryz.prog 82 #[.pointer (some ⟨p, 0, none⟩)] w fun e w' => ∃ v', e = .returned v' ∧ Own8 w' w.heap.size v' s.rdy ∧ Below w.heap.size w w' := by
  obtain ⟨v, b, hq, _⟩ := h
  obtain ⟨⟨c0, c1, c2, c3⟩, _⟩ := cells4 hq.blk
  have hA := another_any v s.rdy w hq.rows.rng (by have := ok.room; have := ok.m; omega)
  obtain ⟨a, cap, rfl⟩ := hq.rows.rng.slice
  clear hq
  go_enter Tryz.func82, Tryz.ntmps82
  go_wp2_with fail
  refine hA.mono ?_
  rintro e w' ⟨v', rfl, own, bel⟩
  obtain ⟨va, vc, rfl⟩ := own.rng.slice
  go_wp2
  go_ret
  exact ⟨_, rfl, own, bel⟩
end Go.Proofs.YtjagaankkcbjmaaGreatDoor.F

/-
  A TABLE's TWO MAPS in memory, told by lists.
-/
namespace Go.Proofs.YtjagaankkcbjmaaGreatDoor.K
end Go.Proofs.YtjagaankkcbjmaaGreatDoor.K
namespace Go.Proofs.YtjagaankkcbjmaaGreatDoor.B
open Go.Proofs.YtjagaankkcbjmaaGreatDoor.K
open Go.RowKit Go.Maps Go.Sort

def xd (x : Ex) : DataW Ex := .held x
def bd (_ : Bd) : DataW Ex := .agg []
/-- Exchanges with other names, names no longer than a text can be. -/
structure XL (l : List Ex) : Prop where
  diff : Diff xkl l
  fit : ∀ x ∈ l, x.name.size ≤ maxLen
structure BL (l : List Bd) : Prop where
  diff : Diff bkl l
  fit : ∀ x ∈ l, x.Fit
def XAt (w : World) (b : Nat) (l : List Ex) : Prop := w.ownsMap Tryz.prog 9 rdEx b l.length (DofG xkl xd l)
def BAt (w : World) (b : Nat) (l : List Bd) : Prop := w.ownsMap Tryz.prog 36 unitElem b l.length (DofG bkl bd l)
theorem XL.keys {l : List Ex} (h : XL l) : ∀ x ∈ l, KeysOf Tryz.prog 9 (xkl x) := fun x hx => ⟨_, keyOf_str (h.fit x hx)⟩
theorem BL.keys {l : List Bd} (h : BL l) : ∀ x ∈ l, KeysOf Tryz.prog 36 (bkl x) := fun x hx => ⟨_, keyOf_bd (h.fit x hx)⟩
/-- The entry that has come is one of the list's. -/
theorem x_entry {l : List Ex} (h : XL l) {s : ByteArray} {c : Ex} {z : Lit} {yd : DataW Ex} {yp : List MemPlace} (hk : keyOf Tryz.prog 9 (.string s) = some z) (hv : rdEx (xv c) = some (yd, yp)) (hat : ∀ zd, (DofG xkl xd l).atKey z zd = yd) : c ∈ l ∧ xkl c = z := by
  rw [rdEx_xv] at hv
  simp at hv
  obtain ⟨rfl, rfl⟩ := hv
  by_cases hn : ∃ y ∈ l, xkl y = z
  · obtain ⟨y, hy, rfl⟩ := hn
    have h1 := hat .nil
    rw [atKey_mem xKeyed.one h.keys h.diff hy] at h1
    injection h1 with h1
    rw [← h1]
    exact ⟨hy, rfl⟩
  · have h1 := hat .nil
    rw [atKey_none (fun y hy e => hn ⟨y, hy, e⟩)] at h1
    cases h1
theorem b_entry {l : List Bd} (h : BL l) {c : Bd} {z : Lit} {yd : DataW Ex} {v : Value} {yp : List MemPlace} (hk : keyOf Tryz.prog 36 (bv c) = some z) (hv : unitElem v = some (yd, yp)) (hat : ∀ zd, (DofG bkl bd l).atKey z zd = yd) : c ∈ l ∧ bkl c = z := by
  obtain ⟨rfl, hz⟩ := unitElem_inv hv
  simp at hz
  obtain ⟨rfl, rfl⟩ := hz
  by_cases hn : ∃ y ∈ l, bkl y = z
  · obtain ⟨y, hy, rfl⟩ := hn
    have := bKeyed.inj hk (keyOf_bd (h.fit y hy))
    have e : c = y := by
      cases c; cases y
      simp at this
      simp [this]
    rw [e]
    exact ⟨hy, rfl⟩
  · have h1 := hat .nil
    rw [atKey_none (fun y hy e => hn ⟨y, hy, e⟩)] at h1
    cases h1
theorem XAt.same {w w' : World} {b : Nat} {l : List Ex} (h : XAt w b l) (hs : w'.heap[b]? = w.heap[b]?) : XAt w' b l := by
  obtain ⟨es, clock, hb, r⟩ := h
  exact ⟨es, clock, by rw [hs]; exact hb, r⟩
theorem BAt.same {w w' : World} {b : Nat} {l : List Bd} (h : BAt w b l) (hs : w'.heap[b]? = w.heap[b]?) : BAt w' b l := by
  obtain ⟨es, clock, hb, r⟩ := h
  exact ⟨es, clock, by rw [hs]; exact hb, r⟩
theorem XAt.lt {w : World} {b : Nat} {l : List Ex} (h : XAt w b l) : b < w.heap.size := World.ownsMap.lt h
theorem BAt.lt {w : World} {b : Nat} {l : List Bd} (h : BAt w b l) : b < w.heap.size := World.ownsMap.lt h
theorem xAt_new (w : World) : XAt (w.alloc (.map #[] 0)) w.heap.size [] := World.ownsMap_made w _ _ _
theorem bAt_new (w : World) : BAt (w.alloc (.map #[] 0)) w.heap.size [] := World.ownsMap_made w _ _ _
abbrev OwnX (w : World) (base : Nat) (v : Value) (l : List Ex) : Prop := OwnOf xcells 3 34 w base v l
abbrev OwnB (w : World) (base : Nat) (v : Value) (l : List Bd) : Prop := OwnOf bcells 3 36 w base v l
end Go.Proofs.YtjagaankkcbjmaaGreatDoor.B

/-
  THE SHELF's CONTRACTS of strings.Compare and of slices.SortFunc at exchanges and bindings, at this dump.
-/
namespace Go.Proofs
open Go.Shelf
def Tryz.lays106_ren : Go.Shelf.Ren := ⟨fun | 106 => 127 | 213 => 205 | 265 => 262 | n => n, fun | 9 => 9 | 3 => 3 | n => n, fun | n => n⟩
theorem Tryz.lays106 : Go.Proofs.Lays.n106 Tryz.prog Tryz.lays106_ren := {
  mixed := by kernel_rfl
  f106 := Tryz.func127.trans (congrArg some (by kernel_rfl))
  f213 := Tryz.func205.trans (congrArg some (by kernel_rfl))
  f265 := Tryz.func262.trans (congrArg some (by kernel_rfl))
  t3 := Tryz.underlying3
  a3 := Tryz.isAgg3
  z3 := Tryz.sizeOf3
  v3 := Tryz.zeroValue3
  t9 := Tryz.underlying9
  a9 := Tryz.isAgg9
  z9 := Tryz.sizeOf9
  v9 := Tryz.zeroValue9 }
def Tryz.sortX_ren : Go.Shelf.Ren := ⟨fun | 6 => 203 | 15 => 233 | 14 => 261 | 28 => 284 | 29 => 285 | 20 => 300 | 21 => 301 | 22 => 302 | 23 => 303 | 24 => 304 | 25 => 305 | 26 => 306 | 27 => 307 | 46 => 351 | 47 => 326 | 48 => 327 | 49 => 352 | 50 => 353 | 57 => 373 | n => n, fun | 22 => 51 | 24 => 34 | 25 => 199 | 3 => 3 | 39 => 72 | 0 => 0 | 53 => 334 | 55 => 32 | 4 => 4 | 46 => 326 | 45 => 325 | 50 => 331 | 5 => 5 | 9 => 9 | 66 => 361 | 70 => 364 | 76 => 384 | 77 => 341 | n => n, fun | n => n⟩
theorem Tryz.sortX : Go.Proofs.SlLaysF0.n6 Tryz.prog Tryz.sortX_ren := {
  mixed := by kernel_rfl
  f6 := ⟨Tryz.f203.name, by decide, Tryz.func203.trans (congrArg some (by kernel_rfl))⟩
  f14 := ⟨Tryz.f261.name, by decide, Tryz.func261.trans (congrArg some (by kernel_rfl))⟩
  f15 := Tryz.func233.trans (congrArg some (by kernel_rfl))
  f20 := ⟨Tryz.f300.name, by decide, Tryz.func300.trans (congrArg some (by kernel_rfl))⟩
  f21 := ⟨Tryz.f301.name, by decide, Tryz.func301.trans (congrArg some (by kernel_rfl))⟩
  f22 := ⟨Tryz.f302.name, by decide, Tryz.func302.trans (congrArg some (by kernel_rfl))⟩
  f23 := ⟨Tryz.f303.name, by decide, Tryz.func303.trans (congrArg some (by kernel_rfl))⟩
  f24 := ⟨Tryz.f304.name, by decide, Tryz.func304.trans (congrArg some (by kernel_rfl))⟩
  f25 := ⟨Tryz.f305.name, by decide, Tryz.func305.trans (congrArg some (by kernel_rfl))⟩
  f26 := ⟨Tryz.f306.name, by decide, Tryz.func306.trans (congrArg some (by kernel_rfl))⟩
  f27 := ⟨Tryz.f307.name, by decide, Tryz.func307.trans (congrArg some (by kernel_rfl))⟩
  f28 := Tryz.func284.trans (congrArg some (by kernel_rfl))
  f29 := Tryz.func285.trans (congrArg some (by kernel_rfl))
  f46 := ⟨Tryz.f351.name, by decide, Tryz.func351.trans (congrArg some (by kernel_rfl))⟩
  f47 := Tryz.func326.trans (congrArg some (by kernel_rfl))
  f48 := Tryz.func327.trans (congrArg some (by kernel_rfl))
  f49 := ⟨Tryz.f352.name, by decide, Tryz.func352.trans (congrArg some (by kernel_rfl))⟩
  f50 := ⟨Tryz.f353.name, by decide, Tryz.func353.trans (congrArg some (by kernel_rfl))⟩
  f57 := ⟨Tryz.f373.name, by decide, Tryz.func373.trans (congrArg some (by kernel_rfl))⟩
  t0 := Tryz.underlying0
  a0 := Tryz.isAgg0
  z0 := Tryz.sizeOf0
  v0 := Tryz.zeroValue0
  t3 := Tryz.underlying3
  a3 := Tryz.isAgg3
  z3 := Tryz.sizeOf3
  v3 := Tryz.zeroValue3
  t4 := Tryz.underlying4
  a4 := Tryz.isAgg4
  z4 := Tryz.sizeOf4
  v4 := Tryz.zeroValue4
  t5 := Tryz.underlying5
  a5 := Tryz.isAgg5
  z5 := Tryz.sizeOf5
  v5 := Tryz.zeroValue5
  t9 := Tryz.underlying9
  a9 := Tryz.isAgg9
  z9 := Tryz.sizeOf9
  v9 := Tryz.zeroValue9
  t22 := Tryz.underlying51
  a22 := Tryz.isAgg51
  z22 := Tryz.sizeOf51
  v22 := Tryz.zeroValue51
  t25 := Tryz.underlying199
  a25 := Tryz.isAgg199
  z25 := Tryz.sizeOf199
  v25 := Tryz.zeroValue199
  t39 := Tryz.underlying72
  a39 := Tryz.isAgg72
  z39 := Tryz.sizeOf72
  v39 := Tryz.zeroValue72
  t45 := Tryz.underlying325
  a45 := Tryz.isAgg325
  z45 := Tryz.sizeOf325
  v45 := Tryz.zeroValue325
  t46 := Tryz.underlying326
  a46 := Tryz.isAgg326
  z46 := Tryz.sizeOf326
  v46 := Tryz.zeroValue326
  t50 := Tryz.underlying331
  a50 := Tryz.isAgg331
  z50 := Tryz.sizeOf331
  v50 := Tryz.zeroValue331
  t53 := Tryz.underlying334
  a53 := Tryz.isAgg334
  z53 := Tryz.sizeOf334
  v53 := Tryz.zeroValue334
  t55 := Tryz.underlying32
  a55 := Tryz.isAgg32
  z55 := Tryz.sizeOf32
  v55 := Tryz.zeroValue32
  t66 := Tryz.underlying361
  a66 := Tryz.isAgg361
  z66 := Tryz.sizeOf361
  v66 := Tryz.zeroValue361
  t70 := Tryz.underlying364
  a70 := Tryz.isAgg364
  z70 := Tryz.sizeOf364
  v70 := Tryz.zeroValue364
  t76 := Tryz.underlying384
  a76 := Tryz.isAgg384
  z76 := Tryz.sizeOf384
  v76 := Tryz.zeroValue384
  t77 := Tryz.underlying341
  a77 := Tryz.isAgg341
  z77 := Tryz.sizeOf341
  v77 := Tryz.zeroValue341 }
def Tryz.sortB_ren : Go.Shelf.Ren := ⟨fun | 6 => 207 | 15 => 233 | 14 => 264 | 28 => 284 | 29 => 285 | 20 => 308 | 21 => 309 | 22 => 310 | 23 => 311 | 24 => 312 | 25 => 313 | 26 => 314 | 27 => 315 | 46 => 354 | 47 => 326 | 48 => 327 | 49 => 355 | 50 => 356 | 57 => 374 | n => n, fun | 22 => 52 | 24 => 36 | 25 => 205 | 3 => 3 | 39 => 72 | 0 => 0 | 53 => 334 | 55 => 32 | 4 => 4 | 46 => 326 | 45 => 325 | 50 => 331 | 5 => 5 | 9 => 9 | 66 => 361 | 70 => 364 | 76 => 384 | 77 => 341 | n => n, fun | n => n⟩
theorem Tryz.sortB : Go.Proofs.SlLaysF0.n6 Tryz.prog Tryz.sortB_ren := {
  mixed := by kernel_rfl
  f6 := ⟨Tryz.f207.name, by decide, Tryz.func207.trans (congrArg some (by kernel_rfl))⟩
  f14 := ⟨Tryz.f264.name, by decide, Tryz.func264.trans (congrArg some (by kernel_rfl))⟩
  f15 := Tryz.func233.trans (congrArg some (by kernel_rfl))
  f20 := ⟨Tryz.f308.name, by decide, Tryz.func308.trans (congrArg some (by kernel_rfl))⟩
  f21 := ⟨Tryz.f309.name, by decide, Tryz.func309.trans (congrArg some (by kernel_rfl))⟩
  f22 := ⟨Tryz.f310.name, by decide, Tryz.func310.trans (congrArg some (by kernel_rfl))⟩
  f23 := ⟨Tryz.f311.name, by decide, Tryz.func311.trans (congrArg some (by kernel_rfl))⟩
  f24 := ⟨Tryz.f312.name, by decide, Tryz.func312.trans (congrArg some (by kernel_rfl))⟩
  f25 := ⟨Tryz.f313.name, by decide, Tryz.func313.trans (congrArg some (by kernel_rfl))⟩
  f26 := ⟨Tryz.f314.name, by decide, Tryz.func314.trans (congrArg some (by kernel_rfl))⟩
  f27 := ⟨Tryz.f315.name, by decide, Tryz.func315.trans (congrArg some (by kernel_rfl))⟩
  f28 := Tryz.func284.trans (congrArg some (by kernel_rfl))
  f29 := Tryz.func285.trans (congrArg some (by kernel_rfl))
  f46 := ⟨Tryz.f354.name, by decide, Tryz.func354.trans (congrArg some (by kernel_rfl))⟩
  f47 := Tryz.func326.trans (congrArg some (by kernel_rfl))
  f48 := Tryz.func327.trans (congrArg some (by kernel_rfl))
  f49 := ⟨Tryz.f355.name, by decide, Tryz.func355.trans (congrArg some (by kernel_rfl))⟩
  f50 := ⟨Tryz.f356.name, by decide, Tryz.func356.trans (congrArg some (by kernel_rfl))⟩
  f57 := ⟨Tryz.f374.name, by decide, Tryz.func374.trans (congrArg some (by kernel_rfl))⟩
  t0 := Tryz.underlying0
  a0 := Tryz.isAgg0
  z0 := Tryz.sizeOf0
  v0 := Tryz.zeroValue0
  t3 := Tryz.underlying3
  a3 := Tryz.isAgg3
  z3 := Tryz.sizeOf3
  v3 := Tryz.zeroValue3
  t4 := Tryz.underlying4
  a4 := Tryz.isAgg4
  z4 := Tryz.sizeOf4
  v4 := Tryz.zeroValue4
  t5 := Tryz.underlying5
  a5 := Tryz.isAgg5
  z5 := Tryz.sizeOf5
  v5 := Tryz.zeroValue5
  t9 := Tryz.underlying9
  a9 := Tryz.isAgg9
  z9 := Tryz.sizeOf9
  v9 := Tryz.zeroValue9
  t22 := Tryz.underlying52
  a22 := Tryz.isAgg52
  z22 := Tryz.sizeOf52
  v22 := Tryz.zeroValue52
  t25 := Tryz.underlying205
  a25 := Tryz.isAgg205
  z25 := Tryz.sizeOf205
  v25 := Tryz.zeroValue205
  t39 := Tryz.underlying72
  a39 := Tryz.isAgg72
  z39 := Tryz.sizeOf72
  v39 := Tryz.zeroValue72
  t45 := Tryz.underlying325
  a45 := Tryz.isAgg325
  z45 := Tryz.sizeOf325
  v45 := Tryz.zeroValue325
  t46 := Tryz.underlying326
  a46 := Tryz.isAgg326
  z46 := Tryz.sizeOf326
  v46 := Tryz.zeroValue326
  t50 := Tryz.underlying331
  a50 := Tryz.isAgg331
  z50 := Tryz.sizeOf331
  v50 := Tryz.zeroValue331
  t53 := Tryz.underlying334
  a53 := Tryz.isAgg334
  z53 := Tryz.sizeOf334
  v53 := Tryz.zeroValue334
  t55 := Tryz.underlying32
  a55 := Tryz.isAgg32
  z55 := Tryz.sizeOf32
  v55 := Tryz.zeroValue32
  t66 := Tryz.underlying361
  a66 := Tryz.isAgg361
  z66 := Tryz.sizeOf361
  v66 := Tryz.zeroValue361
  t70 := Tryz.underlying364
  a70 := Tryz.isAgg364
  z70 := Tryz.sizeOf364
  v70 := Tryz.zeroValue364
  t76 := Tryz.underlying384
  a76 := Tryz.isAgg384
  z76 := Tryz.sizeOf384
  v76 := Tryz.zeroValue384
  t77 := Tryz.underlying341
  a77 := Tryz.isAgg341
  z77 := Tryz.sizeOf341
  v77 := Tryz.zeroValue341 }
end Go.Proofs
