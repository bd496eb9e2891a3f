/-
  THE TABLE OF KINDS in memory; lettersOf, by its contract.
-/
import Derived.Test.YteimdolckhpndaaDoorGoods
namespace Go.Proofs.YteimdolckhpndaaDoor
open Go.RowKit

/-- The table of kinds lies in memory as the text lays it. -/
def Kinds (w : World) : Prop := ∀ j u, [Value.int .i64 1, .string ⟨#[110, 100]⟩, .int .i64 2, .string ⟨#[110]⟩, .int .i64 3, .string ⟨#[120]⟩, .int .i64 4, .string ⟨#[110]⟩, .int .i64 5, .string ⟨#[98]⟩, .int .i64 6, .string ⟨#[98]⟩, .int .i64 7, .string ⟨#[109]⟩, .int .i64 8, .string ⟨#[110]⟩, .int .i64 9, .string ⟨#[110, 116]⟩, .int .i64 10, .string ⟨#[110, 116]⟩, .int .i64 11, .string ⟨#[115, 99]⟩, .int .i64 12, .string ⟨#[]⟩][j]? = some u → w.cell? ⟨0, j, none⟩ = some u
theorem Kinds.below {w w' : World} (h : Kinds w) (hb : Below w.heap.size w w') : Kinds w' := fun j u hj => cell_on hb (h j u hj)
def lettersS (k : Int) : ByteArray := ⟨((lettersL k).getD []).toArray⟩
set_option maxRecDepth 20000 in
set_option maxHeartbeats 4000000 in
theorem lettersOf_any (k : Int) (w : World) (ht : Kinds w) :
    Calls Tryd.prog 27 #[.int .i64 k] w fun e w' => e = .returned (.tuple #[.string (lettersS k), .bool (lettersL k).isSome]) ∧ Below w.heap.size w w' := by
  have i0 : ∀ w : World, (Instr.index 90 (.agg #[.int .i64 1, .string ⟨#[110, 100]⟩, .int .i64 2, .string ⟨#[110]⟩, .int .i64 3, .string ⟨#[120]⟩, .int .i64 4, .string ⟨#[110]⟩, .int .i64 5, .string ⟨#[98]⟩, .int .i64 6, .string ⟨#[98]⟩, .int .i64 7, .string ⟨#[109]⟩, .int .i64 8, .string ⟨#[110]⟩, .int .i64 9, .string ⟨#[110, 116]⟩, .int .i64 10, .string ⟨#[110, 116]⟩, .int .i64 11, .string ⟨#[115, 99]⟩, .int .i64 12, .string ⟨#[]⟩]) (.int .i64 0)).run Tryd.prog w = .ok (.agg #[.int .i64 1, .string ⟨#[110, 100]⟩]) w := fun _ => by kernel_rfl
  have i1 : ∀ w : World, (Instr.index 90 (.agg #[.int .i64 1, .string ⟨#[110, 100]⟩, .int .i64 2, .string ⟨#[110]⟩, .int .i64 3, .string ⟨#[120]⟩, .int .i64 4, .string ⟨#[110]⟩, .int .i64 5, .string ⟨#[98]⟩, .int .i64 6, .string ⟨#[98]⟩, .int .i64 7, .string ⟨#[109]⟩, .int .i64 8, .string ⟨#[110]⟩, .int .i64 9, .string ⟨#[110, 116]⟩, .int .i64 10, .string ⟨#[110, 116]⟩, .int .i64 11, .string ⟨#[115, 99]⟩, .int .i64 12, .string ⟨#[]⟩]) (.int .i64 1)).run Tryd.prog w = .ok (.agg #[.int .i64 2, .string ⟨#[110]⟩]) w := fun _ => by kernel_rfl
  have i2 : ∀ w : World, (Instr.index 90 (.agg #[.int .i64 1, .string ⟨#[110, 100]⟩, .int .i64 2, .string ⟨#[110]⟩, .int .i64 3, .string ⟨#[120]⟩, .int .i64 4, .string ⟨#[110]⟩, .int .i64 5, .string ⟨#[98]⟩, .int .i64 6, .string ⟨#[98]⟩, .int .i64 7, .string ⟨#[109]⟩, .int .i64 8, .string ⟨#[110]⟩, .int .i64 9, .string ⟨#[110, 116]⟩, .int .i64 10, .string ⟨#[110, 116]⟩, .int .i64 11, .string ⟨#[115, 99]⟩, .int .i64 12, .string ⟨#[]⟩]) (.int .i64 2)).run Tryd.prog w = .ok (.agg #[.int .i64 3, .string ⟨#[120]⟩]) w := fun _ => by kernel_rfl
  have i3 : ∀ w : World, (Instr.index 90 (.agg #[.int .i64 1, .string ⟨#[110, 100]⟩, .int .i64 2, .string ⟨#[110]⟩, .int .i64 3, .string ⟨#[120]⟩, .int .i64 4, .string ⟨#[110]⟩, .int .i64 5, .string ⟨#[98]⟩, .int .i64 6, .string ⟨#[98]⟩, .int .i64 7, .string ⟨#[109]⟩, .int .i64 8, .string ⟨#[110]⟩, .int .i64 9, .string ⟨#[110, 116]⟩, .int .i64 10, .string ⟨#[110, 116]⟩, .int .i64 11, .string ⟨#[115, 99]⟩, .int .i64 12, .string ⟨#[]⟩]) (.int .i64 3)).run Tryd.prog w = .ok (.agg #[.int .i64 4, .string ⟨#[110]⟩]) w := fun _ => by kernel_rfl
  have i4 : ∀ w : World, (Instr.index 90 (.agg #[.int .i64 1, .string ⟨#[110, 100]⟩, .int .i64 2, .string ⟨#[110]⟩, .int .i64 3, .string ⟨#[120]⟩, .int .i64 4, .string ⟨#[110]⟩, .int .i64 5, .string ⟨#[98]⟩, .int .i64 6, .string ⟨#[98]⟩, .int .i64 7, .string ⟨#[109]⟩, .int .i64 8, .string ⟨#[110]⟩, .int .i64 9, .string ⟨#[110, 116]⟩, .int .i64 10, .string ⟨#[110, 116]⟩, .int .i64 11, .string ⟨#[115, 99]⟩, .int .i64 12, .string ⟨#[]⟩]) (.int .i64 4)).run Tryd.prog w = .ok (.agg #[.int .i64 5, .string ⟨#[98]⟩]) w := fun _ => by kernel_rfl
  have i5 : ∀ w : World, (Instr.index 90 (.agg #[.int .i64 1, .string ⟨#[110, 100]⟩, .int .i64 2, .string ⟨#[110]⟩, .int .i64 3, .string ⟨#[120]⟩, .int .i64 4, .string ⟨#[110]⟩, .int .i64 5, .string ⟨#[98]⟩, .int .i64 6, .string ⟨#[98]⟩, .int .i64 7, .string ⟨#[109]⟩, .int .i64 8, .string ⟨#[110]⟩, .int .i64 9, .string ⟨#[110, 116]⟩, .int .i64 10, .string ⟨#[110, 116]⟩, .int .i64 11, .string ⟨#[115, 99]⟩, .int .i64 12, .string ⟨#[]⟩]) (.int .i64 5)).run Tryd.prog w = .ok (.agg #[.int .i64 6, .string ⟨#[98]⟩]) w := fun _ => by kernel_rfl
  have i6 : ∀ w : World, (Instr.index 90 (.agg #[.int .i64 1, .string ⟨#[110, 100]⟩, .int .i64 2, .string ⟨#[110]⟩, .int .i64 3, .string ⟨#[120]⟩, .int .i64 4, .string ⟨#[110]⟩, .int .i64 5, .string ⟨#[98]⟩, .int .i64 6, .string ⟨#[98]⟩, .int .i64 7, .string ⟨#[109]⟩, .int .i64 8, .string ⟨#[110]⟩, .int .i64 9, .string ⟨#[110, 116]⟩, .int .i64 10, .string ⟨#[110, 116]⟩, .int .i64 11, .string ⟨#[115, 99]⟩, .int .i64 12, .string ⟨#[]⟩]) (.int .i64 6)).run Tryd.prog w = .ok (.agg #[.int .i64 7, .string ⟨#[109]⟩]) w := fun _ => by kernel_rfl
  have i7 : ∀ w : World, (Instr.index 90 (.agg #[.int .i64 1, .string ⟨#[110, 100]⟩, .int .i64 2, .string ⟨#[110]⟩, .int .i64 3, .string ⟨#[120]⟩, .int .i64 4, .string ⟨#[110]⟩, .int .i64 5, .string ⟨#[98]⟩, .int .i64 6, .string ⟨#[98]⟩, .int .i64 7, .string ⟨#[109]⟩, .int .i64 8, .string ⟨#[110]⟩, .int .i64 9, .string ⟨#[110, 116]⟩, .int .i64 10, .string ⟨#[110, 116]⟩, .int .i64 11, .string ⟨#[115, 99]⟩, .int .i64 12, .string ⟨#[]⟩]) (.int .i64 7)).run Tryd.prog w = .ok (.agg #[.int .i64 8, .string ⟨#[110]⟩]) w := fun _ => by kernel_rfl
  have i8 : ∀ w : World, (Instr.index 90 (.agg #[.int .i64 1, .string ⟨#[110, 100]⟩, .int .i64 2, .string ⟨#[110]⟩, .int .i64 3, .string ⟨#[120]⟩, .int .i64 4, .string ⟨#[110]⟩, .int .i64 5, .string ⟨#[98]⟩, .int .i64 6, .string ⟨#[98]⟩, .int .i64 7, .string ⟨#[109]⟩, .int .i64 8, .string ⟨#[110]⟩, .int .i64 9, .string ⟨#[110, 116]⟩, .int .i64 10, .string ⟨#[110, 116]⟩, .int .i64 11, .string ⟨#[115, 99]⟩, .int .i64 12, .string ⟨#[]⟩]) (.int .i64 8)).run Tryd.prog w = .ok (.agg #[.int .i64 9, .string ⟨#[110, 116]⟩]) w := fun _ => by kernel_rfl
  have i9 : ∀ w : World, (Instr.index 90 (.agg #[.int .i64 1, .string ⟨#[110, 100]⟩, .int .i64 2, .string ⟨#[110]⟩, .int .i64 3, .string ⟨#[120]⟩, .int .i64 4, .string ⟨#[110]⟩, .int .i64 5, .string ⟨#[98]⟩, .int .i64 6, .string ⟨#[98]⟩, .int .i64 7, .string ⟨#[109]⟩, .int .i64 8, .string ⟨#[110]⟩, .int .i64 9, .string ⟨#[110, 116]⟩, .int .i64 10, .string ⟨#[110, 116]⟩, .int .i64 11, .string ⟨#[115, 99]⟩, .int .i64 12, .string ⟨#[]⟩]) (.int .i64 9)).run Tryd.prog w = .ok (.agg #[.int .i64 10, .string ⟨#[110, 116]⟩]) w := fun _ => by kernel_rfl
  have i10 : ∀ w : World, (Instr.index 90 (.agg #[.int .i64 1, .string ⟨#[110, 100]⟩, .int .i64 2, .string ⟨#[110]⟩, .int .i64 3, .string ⟨#[120]⟩, .int .i64 4, .string ⟨#[110]⟩, .int .i64 5, .string ⟨#[98]⟩, .int .i64 6, .string ⟨#[98]⟩, .int .i64 7, .string ⟨#[109]⟩, .int .i64 8, .string ⟨#[110]⟩, .int .i64 9, .string ⟨#[110, 116]⟩, .int .i64 10, .string ⟨#[110, 116]⟩, .int .i64 11, .string ⟨#[115, 99]⟩, .int .i64 12, .string ⟨#[]⟩]) (.int .i64 10)).run Tryd.prog w = .ok (.agg #[.int .i64 11, .string ⟨#[115, 99]⟩]) w := fun _ => by kernel_rfl
  have i11 : ∀ w : World, (Instr.index 90 (.agg #[.int .i64 1, .string ⟨#[110, 100]⟩, .int .i64 2, .string ⟨#[110]⟩, .int .i64 3, .string ⟨#[120]⟩, .int .i64 4, .string ⟨#[110]⟩, .int .i64 5, .string ⟨#[98]⟩, .int .i64 6, .string ⟨#[98]⟩, .int .i64 7, .string ⟨#[109]⟩, .int .i64 8, .string ⟨#[110]⟩, .int .i64 9, .string ⟨#[110, 116]⟩, .int .i64 10, .string ⟨#[110, 116]⟩, .int .i64 11, .string ⟨#[115, 99]⟩, .int .i64 12, .string ⟨#[]⟩]) (.int .i64 11)).run Tryd.prog w = .ok (.agg #[.int .i64 12, .string ⟨#[]⟩]) w := fun _ => by kernel_rfl
  have HT : Hid (Kinds w) := ht
  go_enter Tryd.func27, Tryd.ntmps27
  go_wp2_with (refine wpList_load_cells rfl 90 _ rfl 0 rfl _ _ ht Tryd.underlying90 rfl (by kernel_rfl) ?_)
  clear ht
  go_loopg [7] 12 (fun g u7 wr => ∃ i : Nat, u7 = .int .i64 i ∧ i ≤ 12 ∧ g = 12 - i ∧ Hid ((∀ j : Nat, j < i → k ≠ (j : Int) + 1) ∧ Below w.heap.size w wr))
  case atStart => exact ⟨0, rfl, by omega, rfl, fun j hj => by omega, Below.refl _ _⟩
  case round =>
    obtain ⟨i, rfl, hi, rfl, HI⟩ := hrel
    have hB := fun o => HI.out.2.alloc HI.out.2.size o
    have HB : Hid _ := hB
    clear hB
    rcases (show i = 0 ∨ i = 1 ∨ i = 2 ∨ i = 3 ∨ i = 4 ∨ i = 5 ∨ i = 6 ∨ i = 7 ∨ i = 8 ∨ i = 9 ∨ i = 10 ∨ i = 11 ∨ i = 12 by omega) with rfl | rfl | rfl | rfl | rfl | rfl | rfl | rfl | rfl | rfl | rfl | rfl | rfl
    · by_cases hk : k = 1
      · subst hk
        go_wp2
        go_ret2
        exact ⟨rfl, HB.out _⟩
      · have hk' : ((1 : Int) == k) = false := by rw [beq_eq_false_iff_ne]; omega
        have HN : Hid (∀ j : Nat, j < 1 → k ≠ (j : Int) + 1) := fun j hj => by
          by_cases e : j = 0
          · subst e; show k ≠ _; omega
          · exact HI.out.1 j (by omega)
        clear hk HI
        go_wp2
        go_roundg (12 - 1)
        case measure => omega
        case rel => exact ⟨1, by go_num, by omega, rfl, HN.out, HB.out _⟩
    · by_cases hk : k = 2
      · subst hk
        go_wp2
        go_ret2
        exact ⟨rfl, HB.out _⟩
      · have hk' : ((2 : Int) == k) = false := by rw [beq_eq_false_iff_ne]; omega
        have HN : Hid (∀ j : Nat, j < 2 → k ≠ (j : Int) + 1) := fun j hj => by
          by_cases e : j = 1
          · subst e; show k ≠ _; omega
          · exact HI.out.1 j (by omega)
        clear hk HI
        go_wp2
        go_roundg (12 - 2)
        case measure => omega
        case rel => exact ⟨2, by go_num, by omega, rfl, HN.out, HB.out _⟩
    · by_cases hk : k = 3
      · subst hk
        go_wp2
        go_ret2
        exact ⟨rfl, HB.out _⟩
      · have hk' : ((3 : Int) == k) = false := by rw [beq_eq_false_iff_ne]; omega
        have HN : Hid (∀ j : Nat, j < 3 → k ≠ (j : Int) + 1) := fun j hj => by
          by_cases e : j = 2
          · subst e; show k ≠ _; omega
          · exact HI.out.1 j (by omega)
        clear hk HI
        go_wp2
        go_roundg (12 - 3)
        case measure => omega
        case rel => exact ⟨3, by go_num, by omega, rfl, HN.out, HB.out _⟩
    · by_cases hk : k = 4
      · subst hk
        go_wp2
        go_ret2
        exact ⟨rfl, HB.out _⟩
      · have hk' : ((4 : Int) == k) = false := by rw [beq_eq_false_iff_ne]; omega
        have HN : Hid (∀ j : Nat, j < 4 → k ≠ (j : Int) + 1) := fun j hj => by
          by_cases e : j = 3
          · subst e; show k ≠ _; omega
          · exact HI.out.1 j (by omega)
        clear hk HI
        go_wp2
        go_roundg (12 - 4)
        case measure => omega
        case rel => exact ⟨4, by go_num, by omega, rfl, HN.out, HB.out _⟩
    · by_cases hk : k = 5
      · subst hk
        go_wp2
        go_ret2
        exact ⟨rfl, HB.out _⟩
      · have hk' : ((5 : Int) == k) = false := by rw [beq_eq_false_iff_ne]; omega
        have HN : Hid (∀ j : Nat, j < 5 → k ≠ (j : Int) + 1) := fun j hj => by
          by_cases e : j = 4
          · subst e; show k ≠ _; omega
          · exact HI.out.1 j (by omega)
        clear hk HI
        go_wp2
        go_roundg (12 - 5)
        case measure => omega
        case rel => exact ⟨5, by go_num, by omega, rfl, HN.out, HB.out _⟩
    · by_cases hk : k = 6
      · subst hk
        go_wp2
        go_ret2
        exact ⟨rfl, HB.out _⟩
      · have hk' : ((6 : Int) == k) = false := by rw [beq_eq_false_iff_ne]; omega
        have HN : Hid (∀ j : Nat, j < 6 → k ≠ (j : Int) + 1) := fun j hj => by
          by_cases e : j = 5
          · subst e; show k ≠ _; omega
          · exact HI.out.1 j (by omega)
        clear hk HI
        go_wp2
        go_roundg (12 - 6)
        case measure => omega
        case rel => exact ⟨6, by go_num, by omega, rfl, HN.out, HB.out _⟩
    · by_cases hk : k = 7
      · subst hk
        go_wp2
        go_ret2
        exact ⟨rfl, HB.out _⟩
      · have hk' : ((7 : Int) == k) = false := by rw [beq_eq_false_iff_ne]; omega
        have HN : Hid (∀ j : Nat, j < 7 → k ≠ (j : Int) + 1) := fun j hj => by
          by_cases e : j = 6
          · subst e; show k ≠ _; omega
          · exact HI.out.1 j (by omega)
        clear hk HI
        go_wp2
        go_roundg (12 - 7)
        case measure => omega
        case rel => exact ⟨7, by go_num, by omega, rfl, HN.out, HB.out _⟩
    · by_cases hk : k = 8
      · subst hk
        go_wp2
        go_ret2
        exact ⟨rfl, HB.out _⟩
      · have hk' : ((8 : Int) == k) = false := by rw [beq_eq_false_iff_ne]; omega
        have HN : Hid (∀ j : Nat, j < 8 → k ≠ (j : Int) + 1) := fun j hj => by
          by_cases e : j = 7
          · subst e; show k ≠ _; omega
          · exact HI.out.1 j (by omega)
        clear hk HI
        go_wp2
        go_roundg (12 - 8)
        case measure => omega
        case rel => exact ⟨8, by go_num, by omega, rfl, HN.out, HB.out _⟩
    · by_cases hk : k = 9
      · subst hk
        go_wp2
        go_ret2
        exact ⟨rfl, HB.out _⟩
      · have hk' : ((9 : Int) == k) = false := by rw [beq_eq_false_iff_ne]; omega
        have HN : Hid (∀ j : Nat, j < 9 → k ≠ (j : Int) + 1) := fun j hj => by
          by_cases e : j = 8
          · subst e; show k ≠ _; omega
          · exact HI.out.1 j (by omega)
        clear hk HI
        go_wp2
        go_roundg (12 - 9)
        case measure => omega
        case rel => exact ⟨9, by go_num, by omega, rfl, HN.out, HB.out _⟩
    · by_cases hk : k = 10
      · subst hk
        go_wp2
        go_ret2
        exact ⟨rfl, HB.out _⟩
      · have hk' : ((10 : Int) == k) = false := by rw [beq_eq_false_iff_ne]; omega
        have HN : Hid (∀ j : Nat, j < 10 → k ≠ (j : Int) + 1) := fun j hj => by
          by_cases e : j = 9
          · subst e; show k ≠ _; omega
          · exact HI.out.1 j (by omega)
        clear hk HI
        go_wp2
        go_roundg (12 - 10)
        case measure => omega
        case rel => exact ⟨10, by go_num, by omega, rfl, HN.out, HB.out _⟩
    · by_cases hk : k = 11
      · subst hk
        go_wp2
        go_ret2
        exact ⟨rfl, HB.out _⟩
      · have hk' : ((11 : Int) == k) = false := by rw [beq_eq_false_iff_ne]; omega
        have HN : Hid (∀ j : Nat, j < 11 → k ≠ (j : Int) + 1) := fun j hj => by
          by_cases e : j = 10
          · subst e; show k ≠ _; omega
          · exact HI.out.1 j (by omega)
        clear hk HI
        go_wp2
        go_roundg (12 - 11)
        case measure => omega
        case rel => exact ⟨11, by go_num, by omega, rfl, HN.out, HB.out _⟩
    · by_cases hk : k = 12
      · subst hk
        go_wp2
        go_ret2
        exact ⟨rfl, HB.out _⟩
      · have hk' : ((12 : Int) == k) = false := by rw [beq_eq_false_iff_ne]; omega
        have HN : Hid (∀ j : Nat, j < 12 → k ≠ (j : Int) + 1) := fun j hj => by
          by_cases e : j = 11
          · subst e; show k ≠ _; omega
          · exact HI.out.1 j (by omega)
        clear hk HI
        go_wp2
        go_roundg (12 - 12)
        case measure => omega
        case rel => exact ⟨12, by go_num, by omega, rfl, HN.out, HB.out _⟩
    · have hn : lettersL k = none := by
        have h := HI.out.1
        have h1 := h 0 (by omega); have h2 := h 1 (by omega); have h3 := h 2 (by omega); have h4 := h 3 (by omega); have h5 := h 4 (by omega); have h6 := h 5 (by omega); have h7 := h 6 (by omega); have h8 := h 7 (by omega); have h9 := h 8 (by omega); have h10 := h 9 (by omega); have h11 := h 10 (by omega); have h12 := h 11 (by omega)
        unfold lettersL
        rw [if_neg (by omega), if_neg (by omega), if_neg (by omega), if_neg (by omega), if_neg (by omega), if_neg (by omega), if_neg (by omega), if_neg (by omega), if_neg (by omega), if_neg (by omega), if_neg (by omega), if_neg (by omega)]
      have hS : lettersS k = ⟨#[]⟩ := by unfold lettersS; rw [hn]; rfl
      have HSn : Hid (lettersS k = ⟨#[]⟩ ∧ lettersL k = none) := ⟨hS, hn⟩
      clear hS hn
      go_wp2
      go_ret2
      exact ⟨by rw [HSn.out.1, HSn.out.2]; rfl, HI.out.2⟩
end Go.Proofs.YteimdolckhpndaaDoor
