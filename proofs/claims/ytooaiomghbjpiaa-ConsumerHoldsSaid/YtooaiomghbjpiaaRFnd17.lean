/-
  THE DOCUMENT's Find, by its contract.
-/
import Derived.Test.YtooaiomghbjpiaaRNext17
namespace Go.Proofs.Ytooaiomghbjpiaa
open Go.RowKit Go.Maps Go.Sort Go.Shelf
set_option maxRecDepth 20000

def findR (X : List Ro) (c : Int) : Option Ro := X.find? fun x => decide (x.s.c = c)
theorem findR_s (X : List Ro) (c : Int) : (findR X c).map Ro.s = findC (X.map Ro.s) c := by
  unfold findR findC
  rw [List.find?_map]
  rfl
theorem findR_some {X : List Ro} {c : Int} {x : Ro} (h : findR X c = some x) : x ∈ X ∧ x.s.c = c := ⟨List.mem_of_find?_eq_some h, by simpa using List.find?_some h⟩
theorem pos_cases (X : List Ro) (c : Int) : (posC (X.map Ro.s) c = -1 ∧ findR X c = none) ∨ ∃ k, ∃ hk : k < X.length, posC (X.map Ro.s) c = (k : Int) ∧ findR X c = some X[k] ∧ X[k].s.c = c ∧ ∀ i (hi : i < X.length), i < k → X[i].s.c ≠ c := by
  unfold posC
  cases hf : (X.map Ro.s).findIdx? (fun s => decide (s.c = c)) with
  | none =>
    left
    refine ⟨rfl, ?_⟩
    rw [List.findIdx?_eq_none_iff] at hf
    unfold findR
    rw [List.find?_eq_none]
    intro x hx
    simpa using hf x.s (List.mem_map.2 ⟨x, hx, rfl⟩)
  | some k =>
    right
    rw [List.findIdx?_eq_some_iff_getElem] at hf
    obtain ⟨hk, h1, h2⟩ := hf
    have hk' : k < X.length := by simpa using hk
    have h1' : X[k].s.c = c := by simpa using h1
    have h2' : ∀ i (hi : i < X.length), i < k → X[i].s.c ≠ c := fun i hi hik => by simpa using h2 i hik
    refine ⟨k, hk', rfl, ?_, h1', h2'⟩
    unfold findR
    rw [List.find?_eq_some_iff_getElem]
    exact ⟨by simpa using h1', k, hk', rfl, fun j hj => by simpa using h2' j (by omega) hj⟩
/-- What Find tells. -/
def roV : Option Ro → Value
  | none => .agg #[.int .i64 0, .string ⟨#[]⟩, .int .i64 0, .slice none 0 0]
  | some x => .agg #[.int .i64 x.s.c, .string x.s.q, .int .i64 x.s.m, .slice x.a x.s.t.length x.c]
theorem one_cells {w : World} {b : Nat} {a0 a1 a2 a3 : Value} {t : TypeId} (h : w.heap[b]? = some (.cells #[a0, a1, a2, a3] t (0, 0))) : w.cell? ⟨b, 0, none⟩ = some a0 ∧ w.cell? ⟨b, 1, none⟩ = some a1 ∧ w.cell? ⟨b, 2, none⟩ = some a2 ∧ w.cell? ⟨b, 3, none⟩ = some a3 ∧ w.frozen? ⟨b, 0, none⟩ = false ∧ w.frozen? ⟨b, 1, none⟩ = false ∧ w.frozen? ⟨b, 2, none⟩ = false ∧ w.frozen? ⟨b, 3, none⟩ = false := by simp [World.cell?, World.frozen?, h]
set_option maxHeartbeats 2000000 in
theorem rFind_at {w : World} {p : Nat} {v : Value} {X : List Ro} (h : RdAt w p v X) (c : Int) :
    Calls Try.prog 16 #[.pointer (some ⟨p, 0, none⟩), .int .i64 c] w fun e w' => e = .returned (.tuple #[roV (findR X c), .bool (findR X c).isSome]) ∧ Below w.heap.size w w' := by
  obtain ⟨W, fold⟩ : ∃ W, w.alloc (.cells #[.int .i64 0, .string ⟨#[]⟩, .int .i64 0, .slice none 0 0] 44) = W := ⟨_, rfl⟩
  have bW : Below w.heap.size w W := by rw [← fold]; exact (Below.refl _ w).alloc (Nat.le_refl _) _
  have hZ : W.heap[w.heap.size]? = some (.cells #[.int .i64 0, .string ⟨#[]⟩, .int .i64 0, .slice none 0 0] 44 (0, 0)) := by rw [← fold]; exact heap_alloc_new w _
  have hsz : W.heap.size = w.heap.size + 1 := by rw [← fold]; simp
  have hdW := h.kept bW
  have hF := rfind_at hdW c
  have hr := h.row.rng
  have HL : Hid (∀ w1, Below W.heap.size W w1 → RdAt w1 p v X) := fun w1 b => hdW.kept b
  obtain ⟨va, vc, rfl⟩ := hr.slice
  rcases pos_cases X c with ⟨h1, h2⟩ | ⟨k, hk, h1, h2, h3, h4⟩
  · rw [h1] at hF
    rw [h2]
    unfold roV
    clear h1 h2 hr h HL hdW
    go_enter Try.func16, Try.ntmps16
    go_wp2_with fail
    refine hF.mono ?_
    rintro e w1 ⟨rfl, b1⟩
    obtain ⟨y0, y1, y2, y3, f0, f1, f2, f3⟩ := one_cells ((b1.block _ (by omega)).trans hZ)
    have HB : Hid (Below w.heap.size w w1) := bW.trans (b1.mono bW.size)
    clear b1 hF bW hZ fold
    go_wp2
    refine bodyPost_ret (v := .tuple #[.agg #[.int .i64 0, .string ⟨#[]⟩, .int .i64 0, .slice none 0 0], .bool false]) (by simp [results, Try.results16, go_sem, y0, y1, y2, y3]) rfl ?_
    exact ⟨rfl, (((HB.out.setCell (Nat.le_refl _) _).setCell (Nat.le_refl _) _).setCell (Nat.le_refl _) _).setCell (Nat.le_refl _) _⟩
  · rw [h1] at hF
    rw [h2]
    obtain ⟨x, hx⟩ : ∃ z, X[k] = z := ⟨_, rfl⟩
    rw [hx]
    simp only [roV, Option.isSome_some]
    have HX : Hid (∀ w1, Below W.heap.size W w1 → ∃ b off, va = some ⟨b, off, none⟩ ∧ w1.cell? ⟨p, 0, none⟩ = some (.slice va X.length vc) ∧ w1.cell? ⟨b, off + k * 4, none⟩ = some (.int .i64 x.s.c) ∧ w1.cell? ⟨b, off + k * 4 + 1, none⟩ = some (.string x.s.q) ∧ w1.cell? ⟨b, off + k * 4 + 2, none⟩ = some (.int .i64 x.s.m) ∧ w1.cell? ⟨b, off + k * 4 + 3, none⟩ = some (.slice x.a x.s.t.length x.c)) := fun w1 b1 => by
      have hd1 := HL.out w1 b1
      obtain ⟨b, off, e1, g⟩ := (ros_at hd1.row.rng).2.2 k hk
      rw [hx] at g
      exact ⟨b, off, e1, hd1.cell.1, g⟩
    have hk' : (k : Int) < (X.length : Int) := by omega
    clear h1 h2 hr h HL hdW hx h3 h4
    clear hk
    generalize X.length = n at *
    generalize x.s.c = xc at *
    generalize x.s.q = xq at *
    generalize x.s.m = xm at *
    generalize x.s.t.length = xl at *
    generalize x.a = xa at *
    generalize x.c = xk at *
    go_enter Try.func16, Try.ntmps16
    go_wp2_with fail
    refine hF.mono ?_
    rintro e w1 ⟨rfl, b1⟩
    obtain ⟨y0, y1, y2, y3, f0, f1, f2, f3⟩ := one_cells ((b1.block _ (by omega)).trans hZ)
    obtain ⟨b, off, rfl, cp, g0, g1, g2, g3⟩ := HX.out w1 b1
    have HB : Hid (Below w.heap.size w w1) := bW.trans (b1.mono bW.size)
    clear b1 hF bW hZ fold HX
    go_wp2
    refine bodyPost_ret (v := .tuple #[.agg #[.int .i64 xc, .string xq, .int .i64 xm, .slice xa xl xk], .bool true]) (by simp [results, Try.results16, go_sem, y0, y1, y2, y3]) rfl ?_
    exact ⟨rfl, (((HB.out.setCell (Nat.le_refl _) _).setCell (Nat.le_refl _) _).setCell (Nat.le_refl _) _).setCell (Nat.le_refl _) _⟩
end Go.Proofs.Ytooaiomghbjpiaa
