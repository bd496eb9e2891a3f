/-
  PACKAGE inbox: made, near, has, New, Next, Take, Head, Pop, Held, Reset, by their contracts.
-/
import Derived.Test.YtkdjpleedaldcaaIMap21
import Derived.WalkMore
import Derived.WalkSpells
import Derived.Deep.RegionHeld3
import Derived.Deep.CutRange
namespace Go.Proofs.Ytkdjpleedaldcaa
open Go.RowKit Go.Maps
set_option maxRecDepth 20000

theorem ret_b {a b : Bool} (h : a = b) : Ending.returned (.bool a) = .returned (.bool b) := by rw [h]
theorem cell_on {w w' : World} {b j : Nat} {v : Value} (hb : Below w.heap.size w w') (h : w.cell? ⟨b, j, none⟩ = some v) : w'.cell? ⟨b, j, none⟩ = some v := (hb.cell (p := ⟨b, j, none⟩) (World.block_lt_of_cell? w _ h)).trans h
theorem cell_of_list21 {w : World} {b : Nat} {C : List Value} {t : TypeId} (h : w.heap[b]? = some (.cells C.toArray t (0, 0))) (j : Nat) {v : Value} (hj : C[j]? = some v) : w.cell? ⟨b, j, none⟩ = some v := by
  rw [cell_of_row w b j _ t (0, 0) h]
  simpa using hj
theorem cell_alloc21 {w : World} {a : Addr} {v : Value} (o : Obj) (h : w.cell? a = some v) : (w.alloc o).cell? a = some v := by
  rw [World.cell?_alloc_old _ _ _ (Nat.ne_of_lt (World.block_lt_of_cell? _ _ h))]; exact h

/-- An inbox in memory: its cells in block p, what is held in the map at b. -/
structure IAt (w : World) (p b : Nat) (m : Ib) : Prop where
  blk : w.heap[p]? = some (.cells #[.int .i64 m.s, .int .u16 m.n, .map (some b)] 55 (0, 0))
  map : MAt w b (heldL m)
theorem IAt.lt {w : World} {p b : Nat} {m : Ib} (h : IAt w p b m) : p < w.heap.size := (Array.getElem?_eq_some_iff.1 h.blk).1
theorem IAt.ne {w : World} {p b : Nat} {m : Ib} (h : IAt w p b m) : p ≠ b := fun e => h.map.noCells (e ▸ h.blk)
theorem IAt.cells {w : World} {p b : Nat} {m : Ib} (h : IAt w p b m) : w.cell? ⟨p, 0, none⟩ = some (.int .i64 m.s) ∧ w.cell? ⟨p, 1, none⟩ = some (.int .u16 m.n) ∧ w.cell? ⟨p, 2, none⟩ = some (.map (some b)) := by
  refine ⟨?_, ?_, ?_⟩ <;> rw [cell_of_row w p _ _ 55 (0, 0) h.blk] <;> rfl
theorem IAt.free {w : World} {p b : Nat} {m : Ib} (h : IAt w p b m) (i : Nat) : w.frozen? ⟨p, i, none⟩ = false := by
  have := h.blk
  simp [World.frozen?, this]
theorem IAt.same {w w' : World} {p b : Nat} {m : Ib} (h : IAt w p b m) (h1 : w'.heap[p]? = w.heap[p]?) (h2 : w'.heap[b]? = w.heap[b]?) : IAt w' p b m := ⟨h1.trans h.blk, h.map.same h2⟩
theorem IAt.below {w w' : World} {p b B : Nat} {m : Ib} (h : IAt w p b m) (hb : Below B w w') (hp : p < B) (hb2 : b < B) : IAt w' p b m := h.same (hb.block p hp) (hb.block b hb2)
theorem IAt.go {w w' : World} {p b : Nat} {m : Ib} (h : IAt w p b m) (hb : Below w.heap.size w w') : IAt w' p b m := h.below hb h.lt h.map.lt
/-- Of what was there nothing but the blocks p and b has changed. -/
structure Dry (p b : Nat) (w w' : World) : Prop where
  os : w'.os = w.os
  tape : w'.tape = w.tape
  output : w'.output = w.output
  size : w.heap.size ≤ w'.heap.size
  block : ∀ k, k < w.heap.size → k ≠ p → k ≠ b → w'.heap[k]? = w.heap[k]?
theorem Dry.refl (p b : Nat) (w : World) : Dry p b w w := ⟨rfl, rfl, rfl, Nat.le_refl _, fun _ _ _ _ => rfl⟩
theorem Dry.trans {p b : Nat} {u v w : World} (h : Dry p b u v) (k : Dry p b v w) : Dry p b u w :=
  ⟨k.os.trans h.os, k.tape.trans h.tape, k.output.trans h.output, Nat.le_trans h.size k.size, fun i hi h1 h2 => (k.block i (Nat.lt_of_lt_of_le hi h.size) h1 h2).trans (h.block i hi h1 h2)⟩
theorem Dry.of_below {p b : Nat} {w w' : World} (h : Below w.heap.size w w') : Dry p b w w' := ⟨h.os, h.tape, h.output, h.size, fun k hk _ _ => h.block k hk⟩
theorem Dry.below {p b B : Nat} {w w' : World} (h : Dry p b w w') (hp : B ≤ p) (hb : B ≤ b) (hB : B ≤ w.heap.size) : Below B w w' := ⟨h.os, h.tape, h.output, h.size, fun k hk => h.block k (by omega) (by omega) (by omega)⟩
theorem Dry.of_grown {p b : Nat} {w w' : World} (h : w.grownBy w' (some b)) : Dry p b w w' := ⟨h.os, h.tape, h.output, h.size, fun k hk _ hb => h.block k hk (fun e => hb (by injection e))⟩
theorem Dry.set (p b : Nat) (w : World) (k : Nat) (v : Value) : Dry p b w (w.setCell ⟨p, k, none⟩ v) := by
  have h : Below p w (w.setCell ⟨p, k, none⟩ v) := (Below.refl p w).setCell (p := ⟨p, k, none⟩) (Nat.le_refl _) _
  exact ⟨h.os, h.tape, h.output, by simp, fun i _ hn _ => Below.heap_setCell w ⟨p, k, none⟩ v i (by simpa using hn)⟩

section
variable {w : World} {p b : Nat} {m : Ib}
theorem imade_at (h : IAt w p b m) (ok : m.Ok) : Calls Try.prog 26 #[.pointer (some ⟨p, 0, none⟩)] w fun e w' => e = .returned (.bool true) ∧ w' = w := by
  obtain ⟨c0, c1, c2⟩ := h.cells
  have h0 : (0 : Int) < (m.s : Int) := by have := ok.s1; omega
  clear h ok
  go_enter Try.func26, Try.ntmps26
  go_wp2
  go_ret
  exact ⟨ret_b (decide_eq_true (by omega)), rfl⟩
theorem near_at (h : IAt w p b m) (num : Nat) : Calls Try.prog 27 #[.pointer (some ⟨p, 0, none⟩), .int .u16 num] w fun e w' => e = .returned (.bool (nearI m num)) ∧ w' = w := by
  obtain ⟨c0, c1, c2⟩ := h.cells
  have e : nearI m num = decide (0 ≤ farI m.n num ∧ farI m.n num < m.s) := rfl
  rw [e]
  clear h e
  generalize hf : farI (m.n : Int) (num : Int) = f at *
  have hF := fun w => far_any (m.n : Int) (num : Int) w
  rw [hf] at hF
  clear hf
  by_cases h0 : 0 ≤ f
  · go_enter Try.func27, Try.ntmps27
    go_wp2_with (go_at_call 34; refine (hF _).mono ?_; rintro e w ⟨rfl, rfl⟩)
    go_ret
    exact ⟨ret_b (by simp; try omega), rfl⟩
  · go_enter Try.func27, Try.ntmps27
    go_wp2_with (go_at_call 34; refine (hF _).mono ?_; rintro e w ⟨rfl, rfl⟩)
    go_ret
    exact ⟨ret_b (by simp; try omega), rfl⟩
theorem has_at (h : IAt w p b m) (ok : m.Ok) {num : Nat} (hn : num < 65536) : Calls Try.prog 28 #[.pointer (some ⟨p, 0, none⟩), .int .u16 num] w fun e w' => e = .returned (.bool (lookI m num).isSome) ∧ Below w.heap.size w w' := by
  obtain ⟨c0, c1, c2⟩ := h.cells
  have hl := h.map.look2 ok hn
  have bA : ∀ o, Below w.heap.size w (w.alloc o) := fun o => (Below.refl _ w).alloc (Nat.le_refl _) _
  generalize (lookI m num).getD zM = x at *
  generalize (lookI m num).isSome = r at *
  have HB : Hid _ := bA
  clear h ok bA c0 c1
  go_enter Try.func28, Try.ntmps28
  go_wp2
  go_ret
  exact ⟨rfl, HB.out _⟩
end
end Go.Proofs.Ytkdjpleedaldcaa
