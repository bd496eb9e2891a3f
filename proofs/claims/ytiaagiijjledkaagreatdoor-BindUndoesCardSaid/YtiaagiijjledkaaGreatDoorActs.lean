/-
  ACTS in memory; light, by its contract.
-/
import Derived.Test.YtiaagiijjledkaaGreatDoorLawNone
namespace Go.Proofs.YtiaagiijjledkaaGreatDoor
open Go.RowKit Go.Sort

/-- An act's seven cells lie there. -/
structure AcAt (w : World) (b off : Nat) (x : Ac) : Prop where
  c0 : w.cell? ⟨b, off, none⟩ = some (.int .i64 x.kind)
  c1 : w.cell? ⟨b, off + 1, none⟩ = some (.string x.x.name)
  c2 : w.cell? ⟨b, off + 2, none⟩ = some (.int .i64 x.x.kind)
  c3 : w.cell? ⟨b, off + 3, none⟩ = some (.bool x.x.fed)
  c4 : w.cell? ⟨b, off + 4, none⟩ = some (.string x.b.ex)
  c5 : w.cell? ⟨b, off + 5, none⟩ = some (.string x.b.que)
  c6 : w.cell? ⟨b, off + 6, none⟩ = some (.string x.b.pat)
theorem row_ac {w : World} {b off : Nat} {l : List Ac} (h : ∀ j u, (cellsOf acells l)[j]? = some u → w.cell? ⟨b, off + j, none⟩ = some u) (i : Nat) (hi : i < l.length) : AcAt w b (off + i * 7) l[i] :=
  ⟨by simpa using row_cell h i hi 0 (by decide) _ rfl, row_cell h i hi 1 (by decide) _ rfl, row_cell h i hi 2 (by decide) _ rfl, row_cell h i hi 3 (by decide) _ rfl, row_cell h i hi 4 (by decide) _ rfl, row_cell h i hi 5 (by decide) _ rfl, row_cell h i hi 6 (by decide) _ rfl⟩
theorem AcAt.below {w w' : World} {B b off : Nat} {x : Ac} (h : AcAt w b off x) (hb : Below B w w') (hB : w.heap.size ≤ B) : AcAt w' b off x := by
  have hl' : b < B := Nat.lt_of_lt_of_le (World.block_lt_of_cell? _ _ h.c0) hB
  exact ⟨(hb.cell (p := ⟨b, off, none⟩) hl').trans h.c0, (hb.cell (p := ⟨b, off + 1, none⟩) hl').trans h.c1, (hb.cell (p := ⟨b, off + 2, none⟩) hl').trans h.c2, (hb.cell (p := ⟨b, off + 3, none⟩) hl').trans h.c3, (hb.cell (p := ⟨b, off + 4, none⟩) hl').trans h.c4, (hb.cell (p := ⟨b, off + 5, none⟩) hl').trans h.c5, (hb.cell (p := ⟨b, off + 6, none⟩) hl').trans h.c6⟩
theorem RowOf.acs {w : World} {a : Option Addr} {n cap : Nat} {l : List Ac} (h : RowOf acells w (.slice a n cap) l) : n = l.length ∧ l.length ≤ maxLen ∧ ∀ i (hi : i < l.length), ∃ b off, a = some ⟨b, off, none⟩ ∧ AcAt w b (off + i * 7) l[i] := by
  have hn : n = l.length := by
    obtain ⟨a', cap', hv⟩ := h.slice
    injection hv
  have hcm : l.length ≤ maxLen := by
    rcases h with ⟨hv, rfl⟩ | ⟨_, _, hv, h1, h2, _⟩
    · exact Nat.zero_le _
    · omega
  refine ⟨hn, hcm, fun i hi => ?_⟩
  obtain ⟨b, off, cap', hv, _, _, hc⟩ := h.at (by omega)
  injection hv with hv1 _ _
  exact ⟨b, off, hv1, row_ac hc i hi⟩
/-- The texts are not longer than memory is. -/
def Ac.Fits (a : Ac) : Prop := a.x.name.size ≤ 140737488355328 ∧ a.b.ex.size ≤ 140737488355328 ∧ a.b.que.size ≤ 140737488355328 ∧ a.b.pat.size ≤ 140737488355328

set_option maxRecDepth 20000 in
set_option maxHeartbeats 1000000 in
theorem light_any (v : Value) (l : List Ac) (w : World) (hr : RowOf acells w v l) (hf : ∀ a ∈ l, a.Fits) :
    Calls Tryz.prog 7 #[v] w fun e w' => ∃ r, e = .returned (.bool r) ∧ (r = true → l.length ≤ 300) ∧ Below w.heap.size w w' := by
  obtain ⟨a, cap, rfl⟩ := hr.slice
  obtain ⟨_, hl, hA⟩ := hr.acs
  have l63 : l.length ≤ 9223372036854775807 := by unfold maxLen at hl; omega
  clear hr hl
  go_enter Tryz.func7, Tryz.ntmps7
  go_wp2
  go_loopw [3, 5, 8] (fun u3 u5 u8 wr => ∃ k n : Nat, u8 = .int .i64 k ∧ k ≤ l.length ∧ u3 = .int .i64 n ∧ k ≤ n ∧ n ≤ 300 ∧ Below w.heap.size w wr) (fun u3 u5 u8 wr => l.length - (intOf u8).toNat)
  case atStart => exact ⟨0, 0, rfl, Nat.zero_le _, rfl, Nat.zero_le _, Nat.zero_le _, Below.refl _ _⟩
  case round =>
    obtain ⟨k, n, rfl, hk, rfl, hkn, hn, hb⟩ := hrel
    by_cases hlt2 : k < l.length
    · have hlt : (k : Int) < (l.length : Int) := by omega
      obtain ⟨b, off, rfl, hi⟩ := hA k hlt2
      obtain ⟨e0, e1, e2, e3, e4, e5, e6⟩ := hi.below hb (Nat.le_refl _)
      have hfk := hf _ (List.getElem_mem hlt2)
      clear hA hi
      generalize l[k] = x at *
      obtain ⟨s1, s2, s3, s4⟩ := hfk
      generalize hs : x.x.name.size = p1 at *
      generalize hs2 : x.b.ex.size = p2 at *
      generalize hs3 : x.b.que.size = p3 at *
      generalize hs4 : x.b.pat.size = p4 at *
      have w1 : IntKind.i64.wrap ((p1 : Int) + (p2 : Int)) = (p1 : Int) + (p2 : Int) := by rw [IntKind.wrap_i64]; omega
      have w2 : IntKind.i64.wrap ((p1 : Int) + (p2 : Int) + (p3 : Int)) = (p1 : Int) + (p2 : Int) + (p3 : Int) := by rw [IntKind.wrap_i64]; omega
      have w3 : IntKind.i64.wrap ((p1 : Int) + (p2 : Int) + (p3 : Int) + (p4 : Int)) = (p1 : Int) + (p2 : Int) + (p3 : Int) + (p4 : Int) := by rw [IntKind.wrap_i64]; omega
      go_wp2
      · go_ret
        exact ⟨false, rfl, (fun h => by cases h), hb.alloc hb.size _⟩
      · refine ⟨⟨k + 1, n + (1 + (p1 + p2 + p3 + p4) / 100), by go_num, by omega, by congr 1, by omega, by omega, hb.alloc hb.size _⟩, by simp [intOf]; omega⟩
    · obtain rfl : k = l.length := by omega
      go_wp2
      go_ret
      exact ⟨true, rfl, fun _ => by omega, hb⟩
end Go.Proofs.YtiaagiijjledkaaGreatDoor
