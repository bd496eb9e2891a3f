/-
  THE TABLE OF KINDS in memory; lettersOf, by its contract.
-/
import Derived.Test.YtjagaankkcbjmaaGreatDoorJ20
import Derived.Lib.OthersKept
namespace Go.Proofs.YtjagaankkcbjmaaGreatDoor
open Go.RowKit

/-- The table of kinds lies in memory as the text lays it. -/
def Kinds (w : World) : Prop := ∀ j u, [Value.int .i64 1, .string ⟨#[110, 100]⟩, .int .i64 2, .string ⟨#[110]⟩, .int .i64 3, .string ⟨#[120]⟩, .int .i64 4, .string ⟨#[110]⟩, .int .i64 5, .string ⟨#[98]⟩, .int .i64 6, .string ⟨#[98]⟩, .int .i64 7, .string ⟨#[109]⟩, .int .i64 8, .string ⟨#[110]⟩, .int .i64 9, .string ⟨#[110, 116]⟩, .int .i64 10, .string ⟨#[110, 116]⟩, .int .i64 11, .string ⟨#[115, 99]⟩, .int .i64 12, .string ⟨#[]⟩][j]? = some u → w.cell? ⟨0, j, none⟩ = some u
theorem Kinds.below {w w' : World} (h : Kinds w) (hb : Below w.heap.size w w') : Kinds w' := fun j u hj => cell_on hb (h j u hj)
def lettersS (k : Int) : ByteArray := ⟨((lettersL k).getD []).toArray⟩
set_option maxRecDepth 20000 in
set_option maxHeartbeats 4000000 in
theorem lettersOf_any (k : Int) (w : World) (ht : Kinds w) :
    Calls Tryz.prog 91 #[.int .i64 k] w fun e w' => e = .returned (.tuple #[.string (lettersS k), .bool (lettersL k).isSome]) ∧ Below w.heap.size w w' := by
  have i0 : ∀ w : World, (Instr.index 256 (.agg #[.int .i64 1, .string ⟨#[110, 100]⟩, .int .i64 2, .string ⟨#[110]⟩, .int .i64 3, .string ⟨#[120]⟩, .int .i64 4, .string ⟨#[110]⟩, .int .i64 5, .string ⟨#[98]⟩, .int .i64 6, .string ⟨#[98]⟩, .int .i64 7, .string ⟨#[109]⟩, .int .i64 8, .string ⟨#[110]⟩, .int .i64 9, .string ⟨#[110, 116]⟩, .int .i64 10, .string ⟨#[110, 116]⟩, .int .i64 11, .string ⟨#[115, 99]⟩, .int .i64 12, .string ⟨#[]⟩]) (.int .i64 0)).run Tryz.prog w = .ok (.agg #[.int .i64 1, .string ⟨#[110, 100]⟩]) w := fun _ => by kernel_rfl
  have i1 : ∀ w : World, (Instr.index 256 (.agg #[.int .i64 1, .string ⟨#[110, 100]⟩, .int .i64 2, .string ⟨#[110]⟩, .int .i64 3, .string ⟨#[120]⟩, .int .i64 4, .string ⟨#[110]⟩, .int .i64 5, .string ⟨#[98]⟩, .int .i64 6, .string ⟨#[98]⟩, .int .i64 7, .string ⟨#[109]⟩, .int .i64 8, .string ⟨#[110]⟩, .int .i64 9, .string ⟨#[110, 116]⟩, .int .i64 10, .string ⟨#[110, 116]⟩, .int .i64 11, .string ⟨#[115, 99]⟩, .int .i64 12, .string ⟨#[]⟩]) (.int .i64 1)).run Tryz.prog w = .ok (.agg #[.int .i64 2, .string ⟨#[110]⟩]) w := fun _ => by kernel_rfl
  have i2 : ∀ w : World, (Instr.index 256 (.agg #[.int .i64 1, .string ⟨#[110, 100]⟩, .int .i64 2, .string ⟨#[110]⟩, .int .i64 3, .string ⟨#[120]⟩, .int .i64 4, .string ⟨#[110]⟩, .int .i64 5, .string ⟨#[98]⟩, .int .i64 6, .string ⟨#[98]⟩, .int .i64 7, .string ⟨#[109]⟩, .int .i64 8, .string ⟨#[110]⟩, .int .i64 9, .string ⟨#[110, 116]⟩, .int .i64 10, .string ⟨#[110, 116]⟩, .int .i64 11, .string ⟨#[115, 99]⟩, .int .i64 12, .string ⟨#[]⟩]) (.int .i64 2)).run Tryz.prog w = .ok (.agg #[.int .i64 3, .string ⟨#[120]⟩]) w := fun _ => by kernel_rfl
  have i3 : ∀ w : World, (Instr.index 256 (.agg #[.int .i64 1, .string ⟨#[110, 100]⟩, .int .i64 2, .string ⟨#[110]⟩, .int .i64 3, .string ⟨#[120]⟩, .int .i64 4, .string ⟨#[110]⟩, .int .i64 5, .string ⟨#[98]⟩, .int .i64 6, .string ⟨#[98]⟩, .int .i64 7, .string ⟨#[109]⟩, .int .i64 8, .string ⟨#[110]⟩, .int .i64 9, .string ⟨#[110, 116]⟩, .int .i64 10, .string ⟨#[110, 116]⟩, .int .i64 11, .string ⟨#[115, 99]⟩, .int .i64 12, .string ⟨#[]⟩]) (.int .i64 3)).run Tryz.prog w = .ok (.agg #[.int .i64 4, .string ⟨#[110]⟩]) w := fun _ => by kernel_rfl
  have i4 : ∀ w : World, (Instr.index 256 (.agg #[.int .i64 1, .string ⟨#[110, 100]⟩, .int .i64 2, .string ⟨#[110]⟩, .int .i64 3, .string ⟨#[120]⟩, .int .i64 4, .string ⟨#[110]⟩, .int .i64 5, .string ⟨#[98]⟩, .int .i64 6, .string ⟨#[98]⟩, .int .i64 7, .string ⟨#[109]⟩, .int .i64 8, .string ⟨#[110]⟩, .int .i64 9, .string ⟨#[110, 116]⟩, .int .i64 10, .string ⟨#[110, 116]⟩, .int .i64 11, .string ⟨#[115, 99]⟩, .int .i64 12, .string ⟨#[]⟩]) (.int .i64 4)).run Tryz.prog w = .ok (.agg #[.int .i64 5, .string ⟨#[98]⟩]) w := fun _ => by kernel_rfl
  have i5 : ∀ w : World, (Instr.index 256 (.agg #[.int .i64 1, .string ⟨#[110, 100]⟩, .int .i64 2, .string ⟨#[110]⟩, .int .i64 3, .string ⟨#[120]⟩, .int .i64 4, .string ⟨#[110]⟩, .int .i64 5, .string ⟨#[98]⟩, .int .i64 6, .string ⟨#[98]⟩, .int .i64 7, .string ⟨#[109]⟩, .int .i64 8, .string ⟨#[110]⟩, .int .i64 9, .string ⟨#[110, 116]⟩, .int .i64 10, .string ⟨#[110, 116]⟩, .int .i64 11, .string ⟨#[115, 99]⟩, .int .i64 12, .string ⟨#[]⟩]) (.int .i64 5)).run Tryz.prog w = .ok (.agg #[.int .i64 6, .string ⟨#[98]⟩]) w := fun _ => by kernel_rfl
  have i6 : ∀ w : World, (Instr.index 256 (.agg #[.int .i64 1, .string ⟨#[110, 100]⟩, .int .i64 2, .string ⟨#[110]⟩, .int .i64 3, .string ⟨#[120]⟩, .int .i64 4, .string ⟨#[110]⟩, .int .i64 5, .string ⟨#[98]⟩, .int .i64 6, .string ⟨#[98]⟩, .int .i64 7, .string ⟨#[109]⟩, .int .i64 8, .string ⟨#[110]⟩, .int .i64 9, .string ⟨#[110, 116]⟩, .int .i64 10, .string ⟨#[110, 116]⟩, .int .i64 11, .string ⟨#[115, 99]⟩, .int .i64 12, .string ⟨#[]⟩]) (.int .i64 6)).run Tryz.prog w = .ok (.agg #[.int .i64 7, .string ⟨#[109]⟩]) w := fun _ => by kernel_rfl
  have i7 : ∀ w : World, (Instr.index 256 (.agg #[.int .i64 1, .string ⟨#[110, 100]⟩, .int .i64 2, .string ⟨#[110]⟩, .int .i64 3, .string ⟨#[120]⟩, .int .i64 4, .string ⟨#[110]⟩, .int .i64 5, .string ⟨#[98]⟩, .int .i64 6, .string ⟨#[98]⟩, .int .i64 7, .string ⟨#[109]⟩, .int .i64 8, .string ⟨#[110]⟩, .int .i64 9, .string ⟨#[110, 116]⟩, .int .i64 10, .string ⟨#[110, 116]⟩, .int .i64 11, .string ⟨#[115, 99]⟩, .int .i64 12, .string ⟨#[]⟩]) (.int .i64 7)).run Tryz.prog w = .ok (.agg #[.int .i64 8, .string ⟨#[110]⟩]) w := fun _ => by kernel_rfl
  have i8 : ∀ w : World, (Instr.index 256 (.agg #[.int .i64 1, .string ⟨#[110, 100]⟩, .int .i64 2, .string ⟨#[110]⟩, .int .i64 3, .string ⟨#[120]⟩, .int .i64 4, .string ⟨#[110]⟩, .int .i64 5, .string ⟨#[98]⟩, .int .i64 6, .string ⟨#[98]⟩, .int .i64 7, .string ⟨#[109]⟩, .int .i64 8, .string ⟨#[110]⟩, .int .i64 9, .string ⟨#[110, 116]⟩, .int .i64 10, .string ⟨#[110, 116]⟩, .int .i64 11, .string ⟨#[115, 99]⟩, .int .i64 12, .string ⟨#[]⟩]) (.int .i64 8)).run Tryz.prog w = .ok (.agg #[.int .i64 9, .string ⟨#[110, 116]⟩]) w := fun _ => by kernel_rfl
  have i9 : ∀ w : World, (Instr.index 256 (.agg #[.int .i64 1, .string ⟨#[110, 100]⟩, .int .i64 2, .string ⟨#[110]⟩, .int .i64 3, .string ⟨#[120]⟩, .int .i64 4, .string ⟨#[110]⟩, .int .i64 5, .string ⟨#[98]⟩, .int .i64 6, .string ⟨#[98]⟩, .int .i64 7, .string ⟨#[109]⟩, .int .i64 8, .string ⟨#[110]⟩, .int .i64 9, .string ⟨#[110, 116]⟩, .int .i64 10, .string ⟨#[110, 116]⟩, .int .i64 11, .string ⟨#[115, 99]⟩, .int .i64 12, .string ⟨#[]⟩]) (.int .i64 9)).run Tryz.prog w = .ok (.agg #[.int .i64 10, .string ⟨#[110, 116]⟩]) w := fun _ => by kernel_rfl
  have i10 : ∀ w : World, (Instr.index 256 (.agg #[.int .i64 1, .string ⟨#[110, 100]⟩, .int .i64 2, .string ⟨#[110]⟩, .int .i64 3, .string ⟨#[120]⟩, .int .i64 4, .string ⟨#[110]⟩, .int .i64 5, .string ⟨#[98]⟩, .int .i64 6, .string ⟨#[98]⟩, .int .i64 7, .string ⟨#[109]⟩, .int .i64 8, .string ⟨#[110]⟩, .int .i64 9, .string ⟨#[110, 116]⟩, .int .i64 10, .string ⟨#[110, 116]⟩, .int .i64 11, .string ⟨#[115, 99]⟩, .int .i64 12, .string ⟨#[]⟩]) (.int .i64 10)).run Tryz.prog w = .ok (.agg #[.int .i64 11, .string ⟨#[115, 99]⟩]) w := fun _ => by kernel_rfl
  have i11 : ∀ w : World, (Instr.index 256 (.agg #[.int .i64 1, .string ⟨#[110, 100]⟩, .int .i64 2, .string ⟨#[110]⟩, .int .i64 3, .string ⟨#[120]⟩, .int .i64 4, .string ⟨#[110]⟩, .int .i64 5, .string ⟨#[98]⟩, .int .i64 6, .string ⟨#[98]⟩, .int .i64 7, .string ⟨#[109]⟩, .int .i64 8, .string ⟨#[110]⟩, .int .i64 9, .string ⟨#[110, 116]⟩, .int .i64 10, .string ⟨#[110, 116]⟩, .int .i64 11, .string ⟨#[115, 99]⟩, .int .i64 12, .string ⟨#[]⟩]) (.int .i64 11)).run Tryz.prog w = .ok (.agg #[.int .i64 12, .string ⟨#[]⟩]) w := fun _ => by kernel_rfl
  have HT : Hid (Kinds w) := ht
  go_enter Tryz.func91, Tryz.ntmps91
  go_wp2_with (refine wpList_load_cells rfl 256 _ rfl 0 rfl _ _ ht Tryz.underlying256 rfl (by kernel_rfl) ?_)
  clear ht
  go_loopg [7] 12 (fun g u7 wr => ∃ i : Nat, u7 = .int .i64 i ∧ i ≤ 12 ∧ g = 12 - i ∧ Hid ((∀ j : Nat, j < i → k ≠ (j : Int) + 1) ∧ Below w.heap.size w wr))
  case atStart => exact ⟨0, rfl, by omega, rfl, fun j hj => by omega, Below.refl _ _⟩
  case round =>
    obtain ⟨i, rfl, hi, rfl, HI⟩ := hrel
    have hB := fun o => HI.out.2.alloc HI.out.2.size o
    have HB : Hid _ := hB
    clear hB
    rcases (show i = 0 ∨ i = 1 ∨ i = 2 ∨ i = 3 ∨ i = 4 ∨ i = 5 ∨ i = 6 ∨ i = 7 ∨ i = 8 ∨ i = 9 ∨ i = 10 ∨ i = 11 ∨ i = 12 by omega) with rfl | rfl | rfl | rfl | rfl | rfl | rfl | rfl | rfl | rfl | rfl | rfl | rfl
    · by_cases hk : k = 1
      · subst hk
        go_wp2
        go_ret2
        exact ⟨rfl, HB.out _⟩
      · have hk' : ((1 : Int) == k) = false := by rw [beq_eq_false_iff_ne]; omega
        have HN : Hid (∀ j : Nat, j < 1 → k ≠ (j : Int) + 1) := fun j hj => by
          by_cases e : j = 0
          · subst e; show k ≠ _; omega
          · exact HI.out.1 j (by omega)
        clear hk HI
        go_wp2
        go_roundg (12 - 1)
        case measure => omega
        case rel => exact ⟨1, by go_num, by omega, rfl, HN.out, HB.out _⟩
    · by_cases hk : k = 2
      · subst hk
        go_wp2
        go_ret2
        exact ⟨rfl, HB.out _⟩
      · have hk' : ((2 : Int) == k) = false := by rw [beq_eq_false_iff_ne]; omega
        have HN : Hid (∀ j : Nat, j < 2 → k ≠ (j : Int) + 1) := fun j hj => by
          by_cases e : j = 1
          · subst e; show k ≠ _; omega
          · exact HI.out.1 j (by omega)
        clear hk HI
        go_wp2
        go_roundg (12 - 2)
        case measure => omega
        case rel => exact ⟨2, by go_num, by omega, rfl, HN.out, HB.out _⟩
    · by_cases hk : k = 3
      · subst hk
        go_wp2
        go_ret2
        exact ⟨rfl, HB.out _⟩
      · have hk' : ((3 : Int) == k) = false := by rw [beq_eq_false_iff_ne]; omega
        have HN : Hid (∀ j : Nat, j < 3 → k ≠ (j : Int) + 1) := fun j hj => by
          by_cases e : j = 2
          · subst e; show k ≠ _; omega
          · exact HI.out.1 j (by omega)
        clear hk HI
        go_wp2
        go_roundg (12 - 3)
        case measure => omega
        case rel => exact ⟨3, by go_num, by omega, rfl, HN.out, HB.out _⟩
    · by_cases hk : k = 4
      · subst hk
        go_wp2
        go_ret2
        exact ⟨rfl, HB.out _⟩
      · have hk' : ((4 : Int) == k) = false := by rw [beq_eq_false_iff_ne]; omega
        have HN : Hid (∀ j : Nat, j < 4 → k ≠ (j : Int) + 1) := fun j hj => by
          by_cases e : j = 3
          · subst e; show k ≠ _; omega
          · exact HI.out.1 j (by omega)
        clear hk HI
        go_wp2
        go_roundg (12 - 4)
        case measure => omega
        case rel => exact ⟨4, by go_num, by omega, rfl, HN.out, HB.out _⟩
    · by_cases hk : k = 5
      · subst hk
        go_wp2
        go_ret2
        exact ⟨rfl, HB.out _⟩
      · have hk' : ((5 : Int) == k) = false := by rw [beq_eq_false_iff_ne]; omega
        have HN : Hid (∀ j : Nat, j < 5 → k ≠ (j : Int) + 1) := fun j hj => by
          by_cases e : j = 4
          · subst e; show k ≠ _; omega
          · exact HI.out.1 j (by omega)
        clear hk HI
        go_wp2
        go_roundg (12 - 5)
        case measure => omega
        case rel => exact ⟨5, by go_num, by omega, rfl, HN.out, HB.out _⟩
    · by_cases hk : k = 6
      · subst hk
        go_wp2
        go_ret2
        exact ⟨rfl, HB.out _⟩
      · have hk' : ((6 : Int) == k) = false := by rw [beq_eq_false_iff_ne]; omega
        have HN : Hid (∀ j : Nat, j < 6 → k ≠ (j : Int) + 1) := fun j hj => by
          by_cases e : j = 5
          · subst e; show k ≠ _; omega
          · exact HI.out.1 j (by omega)
        clear hk HI
        go_wp2
        go_roundg (12 - 6)
        case measure => omega
        case rel => exact ⟨6, by go_num, by omega, rfl, HN.out, HB.out _⟩
    · by_cases hk : k = 7
      · subst hk
        go_wp2
        go_ret2
        exact ⟨rfl, HB.out _⟩
      · have hk' : ((7 : Int) == k) = false := by rw [beq_eq_false_iff_ne]; omega
        have HN : Hid (∀ j : Nat, j < 7 → k ≠ (j : Int) + 1) := fun j hj => by
          by_cases e : j = 6
          · subst e; show k ≠ _; omega
          · exact HI.out.1 j (by omega)
        clear hk HI
        go_wp2
        go_roundg (12 - 7)
        case measure => omega
        case rel => exact ⟨7, by go_num, by omega, rfl, HN.out, HB.out _⟩
    · by_cases hk : k = 8
      · subst hk
        go_wp2
        go_ret2
        exact ⟨rfl, HB.out _⟩
      · have hk' : ((8 : Int) == k) = false := by rw [beq_eq_false_iff_ne]; omega
        have HN : Hid (∀ j : Nat, j < 8 → k ≠ (j : Int) + 1) := fun j hj => by
          by_cases e : j = 7
          · subst e; show k ≠ _; omega
          · exact HI.out.1 j (by omega)
        clear hk HI
        go_wp2
        go_roundg (12 - 8)
        case measure => omega
        case rel => exact ⟨8, by go_num, by omega, rfl, HN.out, HB.out _⟩
    · by_cases hk : k = 9
      · subst hk
        go_wp2
        go_ret2
        exact ⟨rfl, HB.out _⟩
      · have hk' : ((9 : Int) == k) = false := by rw [beq_eq_false_iff_ne]; omega
        have HN : Hid (∀ j : Nat, j < 9 → k ≠ (j : Int) + 1) := fun j hj => by
          by_cases e : j = 8
          · subst e; show k ≠ _; omega
          · exact HI.out.1 j (by omega)
        clear hk HI
        go_wp2
        go_roundg (12 - 9)
        case measure => omega
        case rel => exact ⟨9, by go_num, by omega, rfl, HN.out, HB.out _⟩
    · by_cases hk : k = 10
      · subst hk
        go_wp2
        go_ret2
        exact ⟨rfl, HB.out _⟩
      · have hk' : ((10 : Int) == k) = false := by rw [beq_eq_false_iff_ne]; omega
        have HN : Hid (∀ j : Nat, j < 10 → k ≠ (j : Int) + 1) := fun j hj => by
          by_cases e : j = 9
          · subst e; show k ≠ _; omega
          · exact HI.out.1 j (by omega)
        clear hk HI
        go_wp2
        go_roundg (12 - 10)
        case measure => omega
        case rel => exact ⟨10, by go_num, by omega, rfl, HN.out, HB.out _⟩
    · by_cases hk : k = 11
      · subst hk
        go_wp2
        go_ret2
        exact ⟨rfl, HB.out _⟩
      · have hk' : ((11 : Int) == k) = false := by rw [beq_eq_false_iff_ne]; omega
        have HN : Hid (∀ j : Nat, j < 11 → k ≠ (j : Int) + 1) := fun j hj => by
          by_cases e : j = 10
          · subst e; show k ≠ _; omega
          · exact HI.out.1 j (by omega)
        clear hk HI
        go_wp2
        go_roundg (12 - 11)
        case measure => omega
        case rel => exact ⟨11, by go_num, by omega, rfl, HN.out, HB.out _⟩
    · by_cases hk : k = 12
      · subst hk
        go_wp2
        go_ret2
        exact ⟨rfl, HB.out _⟩
      · have hk' : ((12 : Int) == k) = false := by rw [beq_eq_false_iff_ne]; omega
        have HN : Hid (∀ j : Nat, j < 12 → k ≠ (j : Int) + 1) := fun j hj => by
          by_cases e : j = 11
          · subst e; show k ≠ _; omega
          · exact HI.out.1 j (by omega)
        clear hk HI
        go_wp2
        go_roundg (12 - 12)
        case measure => omega
        case rel => exact ⟨12, by go_num, by omega, rfl, HN.out, HB.out _⟩
    · have hn : lettersL k = none := by
        have h := HI.out.1
        have h1 := h 0 (by omega); have h2 := h 1 (by omega); have h3 := h 2 (by omega); have h4 := h 3 (by omega); have h5 := h 4 (by omega); have h6 := h 5 (by omega); have h7 := h 6 (by omega); have h8 := h 7 (by omega); have h9 := h 8 (by omega); have h10 := h 9 (by omega); have h11 := h 10 (by omega); have h12 := h 11 (by omega)
        unfold lettersL
        rw [if_neg (by omega), if_neg (by omega), if_neg (by omega), if_neg (by omega), if_neg (by omega), if_neg (by omega), if_neg (by omega), if_neg (by omega), if_neg (by omega), if_neg (by omega), if_neg (by omega), if_neg (by omega)]
      have hS : lettersS k = ⟨#[]⟩ := by unfold lettersS; rw [hn]; rfl
      have HSn : Hid (lettersS k = ⟨#[]⟩ ∧ lettersL k = none) := ⟨hS, hn⟩
      clear hS hn
      go_wp2
      go_ret2
      exact ⟨by rw [HSn.out.1, HSn.out.2]; rfl, HI.out.2⟩
end Go.Proofs.YtjagaankkcbjmaaGreatDoor

/-
  fits, by its contract.
-/
namespace Go.Proofs.YtjagaankkcbjmaaGreatDoor
open Go.RowKit

set_option maxRecDepth 20000 in
set_option maxHeartbeats 4000000 in
theorem fitsA_any (a : Ax) (c : UInt8) (w : World) (ha : a.Fits) : Calls Tryz.prog 92 #[av a, .int .i32 (c.toNat : Int)] w fun e w' => e = .returned (.bool (fitsA a c)) ∧ Below w.heap.size w w' := by
  obtain ⟨W, fold⟩ : ∃ W, w.alloc (.cells #[.int .i64 a.kind, .string a.name, .int .i64 a.n, .int .u64 a.tag, .int .i64 a.to, .string a.xn, .int .i64 a.xk, .bool a.xf, .string a.be, .string a.bq, .string a.bp, .int .i64 a.m.origin, .int .u64 a.m.seq, .int .i64 a.m.hop, .string a.m.ex, .string a.m.key, .string a.m.body] 42) = W := ⟨_, rfl⟩
  have b0 : Below w.heap.size w W := by rw [← fold]; exact box_below w _
  have y0 : W.cell? ⟨w.heap.size, 0, none⟩ = some (.int .i64 a.kind) := by rw [← fold]; exact box_cell w _ _ _ _ rfl
  have y1 : W.cell? ⟨w.heap.size, 1, none⟩ = some (.string a.name) := by rw [← fold]; exact box_cell w _ _ _ _ rfl
  have y2 : W.cell? ⟨w.heap.size, 2, none⟩ = some (.int .i64 a.n) := by rw [← fold]; exact box_cell w _ _ _ _ rfl
  have y3 : W.cell? ⟨w.heap.size, 3, none⟩ = some (.int .u64 a.tag) := by rw [← fold]; exact box_cell w _ _ _ _ rfl
  have y4 : W.cell? ⟨w.heap.size, 4, none⟩ = some (.int .i64 a.to) := by rw [← fold]; exact box_cell w _ _ _ _ rfl
  have y5 : W.cell? ⟨w.heap.size, 5, none⟩ = some (.string a.xn) := by rw [← fold]; exact box_cell w _ _ _ _ rfl
  have y6 : W.cell? ⟨w.heap.size, 6, none⟩ = some (.int .i64 a.xk) := by rw [← fold]; exact box_cell w _ _ _ _ rfl
  have y7 : W.cell? ⟨w.heap.size, 7, none⟩ = some (.bool a.xf) := by rw [← fold]; exact box_cell w _ _ _ _ rfl
  have y8 : W.cell? ⟨w.heap.size, 8, none⟩ = some (.string a.be) := by rw [← fold]; exact box_cell w _ _ _ _ rfl
  have y9 : W.cell? ⟨w.heap.size, 9, none⟩ = some (.string a.bq) := by rw [← fold]; exact box_cell w _ _ _ _ rfl
  have y10 : W.cell? ⟨w.heap.size, 10, none⟩ = some (.string a.bp) := by rw [← fold]; exact box_cell w _ _ _ _ rfl
  have y11 : W.cell? ⟨w.heap.size, 11, none⟩ = some (.int .i64 a.m.origin) := by rw [← fold]; exact box_cell w _ _ _ _ rfl
  have y12 : W.cell? ⟨w.heap.size, 12, none⟩ = some (.int .u64 a.m.seq) := by rw [← fold]; exact box_cell w _ _ _ _ rfl
  have y13 : W.cell? ⟨w.heap.size, 13, none⟩ = some (.int .i64 a.m.hop) := by rw [← fold]; exact box_cell w _ _ _ _ rfl
  have y14 : W.cell? ⟨w.heap.size, 14, none⟩ = some (.string a.m.ex) := by rw [← fold]; exact box_cell w _ _ _ _ rfl
  have y15 : W.cell? ⟨w.heap.size, 15, none⟩ = some (.string a.m.key) := by rw [← fold]; exact box_cell w _ _ _ _ rfl
  have y16 : W.cell? ⟨w.heap.size, 16, none⟩ = some (.string a.m.body) := by rw [← fold]; exact box_cell w _ _ _ _ rfl
  unfold fitsA
  by_cases h110 : c = 110
  · subst h110
    go_enter Tryz.func92, Tryz.ntmps92
    have hc := name_any a.name W ha.nm
    go_wp2_with fail
    try rw [fold]
    refine hc.mono ?_
    rintro e V ⟨rfl, b1⟩
    clear hc
    go_wp2
    go_ret
    exact ⟨rfl, keptW b0 b1⟩
  by_cases h100 : c = 100
  · subst h100
    go_enter Tryz.func92, Tryz.ntmps92
    have hc := within_any a.n 1 1000 W
    go_wp2_with fail
    try rw [fold]
    refine hc.mono ?_
    rintro e V ⟨rfl, rfl⟩
    clear hc
    go_wp2
    go_ret
    exact ⟨rfl, b0⟩
  by_cases h99 : c = 99
  · subst h99
    go_enter Tryz.func92, Tryz.ntmps92
    have hc := within_any a.n 1 200 W
    go_wp2_with fail
    try rw [fold]
    refine hc.mono ?_
    rintro e V ⟨rfl, rfl⟩
    clear hc
    go_wp2
    go_ret
    exact ⟨rfl, b0⟩
  by_cases h116 : c = 116
  · subst h116
    go_enter Tryz.func92, Tryz.ntmps92
    go_wp2
    try rw [fold]
    go_ret
    exact ⟨rfl, b0⟩
  by_cases h115 : c = 115
  · subst h115
    go_enter Tryz.func92, Tryz.ntmps92
    have hc := within_any a.to 1 8 W
    go_wp2_with fail
    try rw [fold]
    refine hc.mono ?_
    rintro e V ⟨rfl, rfl⟩
    clear hc
    go_wp2
    go_ret
    exact ⟨rfl, b0⟩
  by_cases h120 : c = 120
  · subst h120
    go_enter Tryz.func92, Tryz.ntmps92
    have hc := goodX_any a.xn a.xk a.xf W ha.xn
    go_wp2_with fail
    try rw [fold]
    refine hc.mono ?_
    rintro e V ⟨rfl, b1⟩
    clear hc
    go_wp2
    go_ret
    exact ⟨rfl, keptW b0 b1⟩
  by_cases h98 : c = 98
  · subst h98
    go_enter Tryz.func92, Tryz.ntmps92
    have hc := goodBd_any a.be a.bq a.bp W ha.be ha.bq
    go_wp2_with fail
    try rw [fold]
    refine hc.mono ?_
    rintro e V ⟨rfl, b1⟩
    clear hc
    go_wp2
    go_ret
    exact ⟨rfl, keptW b0 b1⟩
  by_cases h109 : c = 109
  · subst h109
    go_enter Tryz.func92, Tryz.ntmps92
    have hc := goodM_any a.m W ha.m
    go_wp2_with fail
    try rw [fold]
    refine hc.mono ?_
    rintro e V ⟨rfl, b1⟩
    clear hc
    go_wp2
    go_ret
    exact ⟨rfl, keptW b0 b1⟩
  have e110 : ((c.toNat : Int) == 110) = false := by rw [beq_eq_false_iff_ne]; intro h; exact h110 (UInt8.toNat_inj.1 (by show c.toNat = 110; omega))
  have e100 : ((c.toNat : Int) == 100) = false := by rw [beq_eq_false_iff_ne]; intro h; exact h100 (UInt8.toNat_inj.1 (by show c.toNat = 100; omega))
  have e99 : ((c.toNat : Int) == 99) = false := by rw [beq_eq_false_iff_ne]; intro h; exact h99 (UInt8.toNat_inj.1 (by show c.toNat = 99; omega))
  have e116 : ((c.toNat : Int) == 116) = false := by rw [beq_eq_false_iff_ne]; intro h; exact h116 (UInt8.toNat_inj.1 (by show c.toNat = 116; omega))
  have e115 : ((c.toNat : Int) == 115) = false := by rw [beq_eq_false_iff_ne]; intro h; exact h115 (UInt8.toNat_inj.1 (by show c.toNat = 115; omega))
  have e120 : ((c.toNat : Int) == 120) = false := by rw [beq_eq_false_iff_ne]; intro h; exact h120 (UInt8.toNat_inj.1 (by show c.toNat = 120; omega))
  have e98 : ((c.toNat : Int) == 98) = false := by rw [beq_eq_false_iff_ne]; intro h; exact h98 (UInt8.toNat_inj.1 (by show c.toNat = 98; omega))
  have e109 : ((c.toNat : Int) == 109) = false := by rw [beq_eq_false_iff_ne]; intro h; exact h109 (UInt8.toNat_inj.1 (by show c.toNat = 109; omega))
  go_enter Tryz.func92, Tryz.ntmps92
  go_wp2
  go_ret
  exact ⟨by first | rfl | (simp [h110, h100, h99, h116, h115, h120, h98, h109]), by first | exact b0 | (rw [fold]; exact b0)⟩
end Go.Proofs.YtjagaankkcbjmaaGreatDoor

/-
  only, by its contract.
-/
namespace Go.Proofs.YtjagaankkcbjmaaGreatDoor
open Go.RowKit

theorem set_list {w : World} {p i : Nat} {C : List Value} {t : TypeId} (h : w.heap[p]? = some (.cells C.toArray t (0, 0))) (v : Value) : (w.setCell ⟨p, i, none⟩ v).heap[p]? = some (.cells (C.set i v).toArray t (0, 0)) := by
  have := heap_setCell_same w p i _ _ v h
  simpa using this
structure OnlyIn (w wr : World) (a : Ax) (L : List Value) (s : ByteArray) (pos : Nat) : Prop where
  x : wr.heap[w.heap.size]? = some (.cells (xcells a).toArray 42 (0, 0))
  r : wr.heap[w.heap.size + 1]? = some (.cells (xcells (zA 0)).toArray 42 (0, 0))
  n : wr.heap[w.heap.size + 2]? = some (.cells L.toArray 42 (0, 0))
  it : wr.heap[w.heap.size + 3]? = some (.stringIter s pos)
  bel : Below w.heap.size w wr
theorem only_start (a : Ax) (s : ByteArray) (w : World) : OnlyIn w ((((w.alloc (.cells (xcells a).toArray 42)).alloc (.cells (xcells (zA 0)).toArray 42)).alloc (.cells (xcells (zA a.kind)).toArray 42)).iter s 0) a (xcells (zA a.kind)) s 0 := by
  obtain ⟨A1, h1⟩ : ∃ z, w.alloc (.cells (xcells a).toArray 42) = z := ⟨_, rfl⟩
  obtain ⟨A2, h2⟩ : ∃ z, A1.alloc (.cells (xcells (zA 0)).toArray 42) = z := ⟨_, rfl⟩
  obtain ⟨A3, h3⟩ : ∃ z, A2.alloc (.cells (xcells (zA a.kind)).toArray 42) = z := ⟨_, rfl⟩
  obtain ⟨A4, h4⟩ : ∃ z, A3.alloc (.stringIter s 0) = z := ⟨_, rfl⟩
  have s1 : A1.heap.size = w.heap.size + 1 := by rw [← h1, World.size_alloc]
  have s2 : A2.heap.size = w.heap.size + 2 := by rw [← h2, World.size_alloc, s1]
  have s3 : A3.heap.size = w.heap.size + 3 := by rw [← h3, World.size_alloc, s2]
  have x1 := heap_alloc_new w (.cells (xcells a).toArray 42)
  have x2 := heap_alloc_new A1 (.cells (xcells (zA 0)).toArray 42)
  have x3 := heap_alloc_new A2 (.cells (xcells (zA a.kind)).toArray 42)
  have x4 := heap_alloc_new A3 (.stringIter s 0)
  rw [h1] at x1
  rw [h2, s1] at x2
  rw [h3, s2] at x3
  rw [h4, s3] at x4
  have k2 : ∀ k, k < w.heap.size + 1 → A2.heap[k]? = A1.heap[k]? := fun k hk => by rw [← h2]; exact Below.heap_alloc _ _ _ (by rw [s1]; exact hk)
  have k3 : ∀ k, k < w.heap.size + 2 → A3.heap[k]? = A2.heap[k]? := fun k hk => by rw [← h3]; exact Below.heap_alloc _ _ _ (by rw [s2]; exact hk)
  have k4 : ∀ k, k < w.heap.size + 3 → A4.heap[k]? = A3.heap[k]? := fun k hk => by rw [← h4]; exact Below.heap_alloc _ _ _ (by rw [s3]; exact hk)
  have hW : (((w.alloc (.cells (xcells a).toArray 42)).alloc (.cells (xcells (zA 0)).toArray 42)).alloc (.cells (xcells (zA a.kind)).toArray 42)).iter s 0 = A4 := by rw [h1, h2, h3]; exact h4
  rw [hW]
  refine ⟨?_, ?_, ?_, x4, ?_⟩
  · rw [k4 _ (by omega), k3 _ (by omega), k2 _ (by omega)]; exact x1
  · rw [k4 _ (by omega), k3 _ (by omega)]; exact x2
  · rw [k4 _ (by omega)]; exact x3
  · have b1 : Below w.heap.size w A1 := by rw [← h1]; exact box_below w _
    have b2 : Below w.heap.size w A2 := by rw [← h2]; exact b1.alloc b1.size _
    have b3 : Below w.heap.size w A3 := by rw [← h3]; exact b2.alloc b2.size _
    rw [← h4]
    exact b3.alloc b3.size _
theorem OnlyIn.set {w wr : World} {a : Ax} {L : List Value} {s : ByteArray} {pos : Nat} (h : OnlyIn w wr a L s pos) (j : Nat) (v : Value) : OnlyIn w (wr.setCell ⟨w.heap.size + 2, j, none⟩ v) a (L.set j v) s pos := by
  have hne : ∀ k, k ≠ w.heap.size + 2 → (wr.setCell ⟨w.heap.size + 2, j, none⟩ v).heap[k]? = wr.heap[k]? := fun k hk => Below.heap_setCell _ _ _ _ hk
  refine ⟨(hne _ (by omega)).trans h.x, (hne _ (by omega)).trans h.r, set_list h.n v, (hne _ (by omega)).trans h.it, ?_⟩
  exact h.bel.setCell (by show w.heap.size ≤ w.heap.size + 2; omega) _
theorem OnlyIn.next {w wr : World} {a : Ax} {L : List Value} {s : ByteArray} {pos : Nat} (h : OnlyIn w wr a L s pos) : OnlyIn w (wr.iterAt (w.heap.size + 3) s (pos + 1)) a L s (pos + 1) := by
  have hne : ∀ k, k ≠ w.heap.size + 3 → (wr.iterAt (w.heap.size + 3) s (pos + 1)).heap[k]? = wr.heap[k]? := fun k hk => by
    unfold World.iterAt
    simp only
    rw [Array.getElem?_setIfInBounds_ne (fun e => hk e.symm)]
  refine ⟨(hne _ (by omega)).trans h.x, (hne _ (by omega)).trans h.r, (hne _ (by omega)).trans h.n, Lib.iterAt_heap _ _ _ _ _ h.it, ⟨h.bel.os, h.bel.tape, h.bel.output, by simp [World.iterAt]; exact h.bel.size, fun k hk => (hne k (by omega)).trans (h.bel.block k hk)⟩⟩
end Go.Proofs.YtjagaankkcbjmaaGreatDoor
