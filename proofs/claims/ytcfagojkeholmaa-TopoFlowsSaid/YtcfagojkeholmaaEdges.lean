/-
  EDGES AND TOPOLOGIES, as cells.
-/
import Derived.Test.YtcfagojkeholmaaSlabs
import Derived.Test.YtcfagojkeholmaaLevels
import Derived.Test.YtcfagojkeholmaaArrs
namespace Go.Proofs.Ytcfagojkeholmaa
open Go.RowKit Go.Sort

def ecells (e : Int × Int) : List Value := [.int .i64 e.1, .int .i64 e.2]
abbrev ev (e : Int × Int) : Value := .agg #[.int .i64 e.1, .int .i64 e.2]
instance : Enc ecells 2 := ⟨fun _ => rfl, fun m u hu => by simp [ecells] at hu; rcases hu with rfl | rfl <;> rfl, by decide⟩
/-- An edge's two cells lie there. -/
structure EdAt (w : World) (b off : Nat) (x : Int × Int) : Prop where
  c0 : w.cell? ⟨b, off, none⟩ = some (.int .i64 x.1)
  c1 : w.cell? ⟨b, off + 1, none⟩ = some (.int .i64 x.2)
theorem row_ed {w : World} {b off : Nat} {l : List (Int × Int)} (h : ∀ j u, (cellsOf ecells l)[j]? = some u → w.cell? ⟨b, off + j, none⟩ = some u) (i : Nat) (hi : i < l.length) : EdAt w b (off + i * 2) l[i] :=
  ⟨by simpa using row_cell h i hi 0 (by decide) _ rfl, row_cell h i hi 1 (by decide) _ rfl⟩
theorem EdAt.below {w w' : World} {B b off : Nat} {x : Int × Int} (h : EdAt w b off x) (hb : Below B w w') (hB : w.heap.size ≤ B) : EdAt w' b off x := by
  have hl := World.block_lt_of_cell? _ _ h.c0
  have hl' : b < B := Nat.lt_of_lt_of_le hl hB
  exact ⟨(hb.cell (p := ⟨b, off, none⟩) hl').trans h.c0, (hb.cell (p := ⟨b, off + 1, none⟩) hl').trans h.c1⟩
theorem RowOf.eds {w : World} {a : Option Addr} {n cap : Nat} {l : List (Int × Int)} (h : RowOf ecells w (.slice a n cap) l) : n = l.length ∧ l.length ≤ maxLen ∧ ∀ i (hi : i < l.length), ∃ b off, a = some ⟨b, off, none⟩ ∧ EdAt w b (off + i * 2) l[i] := by
  have hn : n = l.length := by
    obtain ⟨a', cap', hv⟩ := h.slice
    injection hv
  have hcm : l.length ≤ maxLen := by
    rcases h with ⟨hv, rfl⟩ | ⟨_, _, hv, h1, h2, _⟩
    · exact Nat.zero_le _
    · omega
  refine ⟨hn, hcm, fun i hi => ?_⟩
  obtain ⟨b, off, cap', hv, _, _, hc⟩ := h.at (by omega)
  injection hv with hv1 _ _
  exact ⟨b, off, hv1, row_ed hc i hi⟩
/-- A topology, its edges a slice. -/
abbrev tv (S : Int) (v : Value) (H : Int) : Value := .agg #[.int .i64 S, v, .int .i64 H]

set_option maxRecDepth 20000 in
theorem known_any (S H n : Int) (a : Option Addr) (l c : Nat) (w : World) :
    Calls Try.prog 22 #[tv S (.slice a l c) H, .int .i64 n] w fun e w' => e = .returned (.bool (decide (1 ≤ n ∧ n ≤ S))) ∧ ∃ q os, w' = grow (w.drewN q) os := by
  go_enter Try.func22, Try.ntmps22
  go_wp2
  all_goals go_ret
  all_goals refine ⟨ret_bool ?_, Grew.alloc _ _⟩
  all_goals first | (simp_all; done) | (simp; omega)
set_option maxRecDepth 20000 in
theorem site_any (S H n : Int) (a : Option Addr) (l c : Nat) (w : World) :
    Calls Try.prog 23 #[tv S (.slice a l c) H, .int .i64 n] w fun e w' => e = .returned (.bool (decide (1 ≤ n ∧ n ≤ S))) ∧ ∃ q os, w' = grow (w.drewN q) os := by
  go_enter Try.func23, Try.ntmps23
  go_wp2
  all_goals go_ret
  all_goals refine ⟨ret_bool ?_, Grew.alloc _ _⟩
  all_goals first | (simp_all; done) | (simp; omega)
end Go.Proofs.Ytcfagojkeholmaa
