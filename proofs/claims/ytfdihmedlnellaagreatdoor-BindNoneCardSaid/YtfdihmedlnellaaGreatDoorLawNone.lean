/-
  THE STATEMENT BindNone, walked.
-/
import Derived.Test.YtfdihmedlnellaaGreatDoorNone
namespace Go.Proofs.YtfdihmedlnellaaGreatDoor
open Go.RowKit Go.Sort Go.Maps Go.Shelf

/-- Something that is done to a table. -/
structure Ac where
  kind : Int
  x : Ex
  b : Bd
def acells (a : Ac) : List Value := [.int .i64 a.kind, .string a.x.name, .int .i64 a.x.kind, .bool a.x.fed, .string a.b.ex, .string a.b.que, .string a.b.pat]
abbrev acv (a : Ac) : Value := .agg #[.int .i64 a.kind, .string a.x.name, .int .i64 a.x.kind, .bool a.x.fed, .string a.b.ex, .string a.b.que, .string a.b.pat]
instance : Enc acells 7 := ⟨fun _ => rfl, fun m u hu => by simp [acells] at hu; rcases hu with rfl | rfl | rfl | rfl | rfl | rfl | rfl <;> rfl, by decide⟩

set_option maxRecDepth 20000 in
set_option maxHeartbeats 8000000 in
theorem none_law (a : Ac) (w : World) : Calls Tryz.prog 6 #[acv a] w fun e w' => e = .returned (.bool true) ∧ Below w.heap.size w w' := by
  obtain ⟨W, fold⟩ : ∃ W, (w.alloc (.cells #[.int .i64 a.kind, .string a.x.name, .int .i64 a.x.kind, .bool a.x.fed, .string a.b.ex, .string a.b.que, .string a.b.pat] 37)).alloc (.cells #[.map none, .map none] 53) = W := ⟨_, rfl⟩
  have bW : Below w.heap.size w W := by rw [← fold]; exact ((Below.refl _ _).alloc (Nat.le_refl _) _).alloc (by simp) _
  have hz : W.cell? ⟨w.heap.size + 1, 0, none⟩ = some (.map none) := by rw [← fold, ← World.size_alloc w (.cells #[.int .i64 a.kind, .string a.x.name, .int .i64 a.x.kind, .bool a.x.fed, .string a.b.ex, .string a.b.que, .string a.b.pat] 37)]; exact cell_of_list (C := [.map none, .map none]) (heap_alloc_new _ _) 0
  have hcs : ∀ j u, (acells a)[j]? = some u → W.cell? ⟨w.heap.size, j, none⟩ = some u := fun j u hj => by rw [← fold]; exact cell_allocK _ ((cell_of_list (C := acells a) (heap_alloc_new w _) j).trans hj)
  have HC : Hid (∀ V, Below W.heap.size W V → V.cell? ⟨w.heap.size, 1, none⟩ = some (.string a.x.name) ∧ V.cell? ⟨w.heap.size, 2, none⟩ = some (.int .i64 a.x.kind) ∧ V.cell? ⟨w.heap.size, 3, none⟩ = some (.bool a.x.fed) ∧ V.cell? ⟨w.heap.size, 4, none⟩ = some (.string a.b.ex) ∧ V.cell? ⟨w.heap.size, 5, none⟩ = some (.string a.b.que) ∧ V.cell? ⟨w.heap.size, 6, none⟩ = some (.string a.b.pat)) := fun V hV => by
    have hl : w.heap.size < W.heap.size := World.block_lt_of_cell? _ _ (hcs 0 _ rfl)
    exact ⟨(hV.cell (p := ⟨w.heap.size, 1, none⟩) hl).trans (hcs 1 _ rfl), (hV.cell (p := ⟨w.heap.size, 2, none⟩) hl).trans (hcs 2 _ rfl), (hV.cell (p := ⟨w.heap.size, 3, none⟩) hl).trans (hcs 3 _ rfl), (hV.cell (p := ⟨w.heap.size, 4, none⟩) hl).trans (hcs 4 _ rfl), (hV.cell (p := ⟨w.heap.size, 5, none⟩) hl).trans (hcs 5 _ rfl), (hV.cell (p := ⟨w.heap.size, 6, none⟩) hl).trans (hcs 6 _ rfl)⟩
  have HU : Hid (∀ V, Below W.heap.size W V → Un V (.pointer (some ⟨w.heap.size + 1, 0, none⟩))) := fun V hV => (show Un W _ from .inr ⟨_, rfl, hz⟩).below hV
  have i0 : ∀ W, (Instr.index 54 (.agg #[.pointer none, .pointer (some ⟨w.heap.size + 1, 0, none⟩)]) (.int .i64 0)).run Tryz.prog W = .ok (.pointer none) W := fun W => by kernel_rfl
  have i1 : ∀ W, (Instr.index 54 (.agg #[.pointer none, .pointer (some ⟨w.heap.size + 1, 0, none⟩)]) (.int .i64 1)).run Tryz.prog W = .ok (.pointer (some ⟨w.heap.size + 1, 0, none⟩)) W := fun W => by kernel_rfl
  clear hz hcs
  go_enter Tryz.func6, Tryz.ntmps6
  go_wp2
  clear fold
  go_loopw [5, 6, 7, 9] (fun u5 u6 u7 u9 wr => ∃ k : Nat, u9 = .int .i64 k ∧ k ≤ 2 ∧ Below W.heap.size W wr) (fun u5 u6 u7 u9 wr => 2 - (intOf u9).toNat)
  case atStart => exact ⟨0, rfl, Nat.zero_le _, Below.refl _ _⟩
  case round =>
    obtain ⟨k, rfl, hk, B0⟩ := hrel
    by_cases hlt2 : k < 2
    · rcases (by omega : k = 0 ∨ k = 1) with rfl | rfl
      all_goals (
        obtain ⟨c1, c2, c3, c4, c5, c6⟩ := HC.out wr B0
        go_wp2_with fail
        refine (un_find _ _ _ (by first | exact .inl rfl | exact HU.out _ B0)).mono ?_
        rintro e w1 ⟨rfl, b1⟩
        have B1 : Below W.heap.size W (w1.alloc (.cells #[.string ⟨#[]⟩, .int .i64 0, .bool false] 33)) := (B0.trans (b1.mono B0.size)).alloc (Nat.le_trans B0.size b1.size) _
        have HB1 : Hid _ := B1
        obtain ⟨d1, d2, d3, d4, d5, d6⟩ := HC.out _ B1
        clear c1 c2 c3 c4 c5 c6 B1
        go_wp2_with fail
        refine (un_declare _ a.x _ (by first | exact .inl rfl | exact HU.out _ HB1.out)).mono ?_
        rintro e w2 ⟨rfl, b2⟩
        have B2 := HB1.out.trans (b2.mono HB1.out.size)
        obtain ⟨e1, e2, e3, e4, e5, e6⟩ := HC.out _ B2
        clear d1 d2 d3 d4 d5 d6
        go_wp2_with fail
        refine (un_drop _ _ _ (by first | exact .inl rfl | exact HU.out _ B2)).mono ?_
        rintro e w3 ⟨rfl, b3⟩
        have B3 := B2.trans (b3.mono B2.size)
        obtain ⟨f1, f2, f3, f4, f5, f6⟩ := HC.out _ B3
        clear e1 e2 e3 e4 e5 e6
        go_wp2_with fail
        refine (un_bind _ a.b _ (by first | exact .inl rfl | exact HU.out _ B3)).mono ?_
        rintro e w4 ⟨rfl, b4⟩
        have B4 := B3.trans (b4.mono B3.size)
        obtain ⟨g1, g2, g3, g4, g5, g6⟩ := HC.out _ B4
        clear f1 f2 f3 f4 f5 f6
        go_wp2_with fail
        refine (un_unbind _ a.b _ (by first | exact .inl rfl | exact HU.out _ B4)).mono ?_
        rintro e w5 ⟨rfl, b5⟩
        have B5 := B4.trans (b5.mono B4.size)
        obtain ⟨h1, h2, h3, h4, h5, h6⟩ := HC.out _ B5
        clear g1 g2 g3 g4 g5 g6
        go_wp2_with fail
        refine (un_forget _ _ _ (by first | exact .inl rfl | exact HU.out _ B5)).mono ?_
        rintro e w6 ⟨rfl, b6⟩
        have B6 := B5.trans (b6.mono B5.size)
        clear h1 h2 h3 h4 h5 h6
        go_wp2_with fail
        refine (un_exchanges _ _ (by first | exact .inl rfl | exact HU.out _ B6)).mono ?_
        rintro e w6 ⟨rfl, rfl⟩
        go_wp2_with fail
        refine (un_bindings _ _ (by first | exact .inl rfl | exact HU.out _ B6)).mono ?_
        rintro e w6 ⟨rfl, rfl⟩
        go_wp2_with fail
        refine (un_copy _ _ (by first | exact .inl rfl | exact HU.out _ B6)).mono ?_
        rintro e w6 ⟨rfl, rfl⟩
        go_wp2
        go_roundw
        case rel => first | exact ⟨1, by go_num, by omega, B6⟩ | exact ⟨2, by go_num, by omega, B6⟩
        case measure => simp [intOf])
    · obtain rfl : k = 2 := by omega
      go_wp2_with fail
      refine (lives_any wr).mono ?_
      rintro e w4 ⟨rfl, b4⟩
      go_wp2
      go_ret
      exact ⟨rfl, bW.trans ((B0.trans (b4.mono B0.size)).mono bW.size)⟩
end Go.Proofs.YtfdihmedlnellaaGreatDoor
