/-
  THE DOCUMENT's TABLE in memory; its Good, may, Find, Has, ahead, by their contracts.
-/
import Derived.Test.YtlfehneojkfmjaaDoorBind
import Derived.Test.YtlfehneojkfmjaaDoorMoved
namespace Go.Proofs.YtlfehneojkfmjaaDoor
open Go.RowKit Go.Sort

structure XeAt (w : World) (b off : Nat) (x : Ex) : Prop where
  c0 : w.cell? ⟨b, off, none⟩ = some (.string x.name)
  c1 : w.cell? ⟨b, off + 1, none⟩ = some (.int .i64 x.kind)
  c2 : w.cell? ⟨b, off + 2, none⟩ = some (.bool x.fed)
structure BeAt (w : World) (b off : Nat) (x : Bd) : Prop where
  c0 : w.cell? ⟨b, off, none⟩ = some (.string x.ex)
  c1 : w.cell? ⟨b, off + 1, none⟩ = some (.string x.que)
  c2 : w.cell? ⟨b, off + 2, none⟩ = some (.string x.pat)
theorem XeAt.below {w w' : World} {B b off : Nat} {x : Ex} (h : XeAt w b off x) (hb : Below B w w') (hB : w.heap.size ≤ B) : XeAt w' b off x := by
  have hl' : b < B := Nat.lt_of_lt_of_le (World.block_lt_of_cell? _ _ h.c0) hB
  exact ⟨(hb.cell (p := ⟨b, off, none⟩) hl').trans h.c0, (hb.cell (p := ⟨b, off + 1, none⟩) hl').trans h.c1, (hb.cell (p := ⟨b, off + 2, none⟩) hl').trans h.c2⟩
theorem BeAt.below {w w' : World} {B b off : Nat} {x : Bd} (h : BeAt w b off x) (hb : Below B w w') (hB : w.heap.size ≤ B) : BeAt w' b off x := by
  have hl' : b < B := Nat.lt_of_lt_of_le (World.block_lt_of_cell? _ _ h.c0) hB
  exact ⟨(hb.cell (p := ⟨b, off, none⟩) hl').trans h.c0, (hb.cell (p := ⟨b, off + 1, none⟩) hl').trans h.c1, (hb.cell (p := ⟨b, off + 2, none⟩) hl').trans h.c2⟩
theorem row_num {α : Type} {enc : α → List Value} {K : Nat} [Enc enc K] {w : World} {a : Option Addr} {n cap : Nat} {l : List α} (h : RowOf enc w (.slice a n cap) l) : n = l.length ∧ l.length ≤ maxLen := by
  have hn : n = l.length := by
    obtain ⟨a', cap', hv⟩ := h.slice
    injection hv
  refine ⟨hn, ?_⟩
  rcases h with ⟨hv, rfl⟩ | ⟨_, _, hv, h1, h2, _⟩
  · exact Nat.zero_le _
  · omega
theorem RowOf.exs {w : World} {a : Option Addr} {n cap : Nat} {l : List Ex} (h : RowOf xcells w (.slice a n cap) l) : ∀ i (hi : i < l.length), ∃ b off, a = some ⟨b, off, none⟩ ∧ XeAt w b (off + i * 3) l[i] := fun i hi => by
  obtain ⟨b, off, cap', hv, _, _, hc⟩ := h.at (by omega)
  injection hv with hv1 _ _
  exact ⟨b, off, hv1, ⟨by simpa using row_cell hc i hi 0 (by decide) _ rfl, row_cell hc i hi 1 (by decide) _ rfl, row_cell hc i hi 2 (by decide) _ rfl⟩⟩
theorem RowOf.bds {w : World} {a : Option Addr} {n cap : Nat} {l : List Bd} (h : RowOf bcells w (.slice a n cap) l) : ∀ i (hi : i < l.length), ∃ b off, a = some ⟨b, off, none⟩ ∧ BeAt w b (off + i * 3) l[i] := fun i hi => by
  obtain ⟨b, off, cap', hv, _, _, hc⟩ := h.at (by omega)
  injection hv with hv1 _ _
  exact ⟨b, off, hv1, ⟨by simpa using row_cell hc i hi 0 (by decide) _ rfl, row_cell hc i hi 1 (by decide) _ rfl, row_cell hc i hi 2 (by decide) _ rfl⟩⟩

set_option maxRecDepth 20000 in
set_option maxHeartbeats 1000000 in
theorem rgood_any (x : Ex) (w : World) (hs : x.name.size ≤ maxLen) : Calls Tryd.prog 15 #[xv x] w fun e w' => e = .returned (.bool (goodX x)) ∧ Below w.heap.size w w' := by
  have hN := fun w => rname_any x.name w hs
  have b0 : ∀ o, Below w.heap.size w (w.alloc o) := fun o => (Below.refl _ _).alloc (Nat.le_refl _) _
  have e : (decide (x.kind = 1) || decide (x.kind = 2) || decide (x.kind = 3)) = (decide (1 ≤ x.kind) && decide (x.kind ≤ 3)) := by
    rw [Bool.eq_iff_iff]; simp; omega
  unfold goodX
  rw [e]
  generalize nameB (txt x.name) = nb at hN ⊢
  cases nb
  all_goals go_enter Tryd.func15, Tryd.ntmps15
  all_goals go_wp2_with (go_at_call 34; refine (hN _).mono ?_; rintro e w' ⟨rfl, rfl⟩)
  all_goals go_ret
  all_goals exact ⟨retK_bool (by first | rfl | (simp; omega) | (rw [Bool.eq_iff_iff]; simp; omega) | simp_all), b0 _⟩

end Go.Proofs.YtlfehneojkfmjaaDoor
