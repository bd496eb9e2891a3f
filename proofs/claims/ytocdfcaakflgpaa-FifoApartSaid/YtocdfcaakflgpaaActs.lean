/-
  ACTS, as cells; light, by its contract.
-/
import Derived.Test.YtocdfcaakflgpaaOrders
namespace Go.Proofs.Ytocdfcaakflgpaa
open Go.RowKit Go.Sort

/-- Something that is done. -/
structure Ac where
  kind : Int
  m : Msg
  tag : Nat
def acells (a : Ac) : List Value := [.int .i64 a.kind, .int .i64 a.m.o, .int .u64 a.m.s, .int .i64 a.m.hop, .string a.m.ex, .string a.m.key, .string a.m.body, .int .u64 (a.tag : Int)]
abbrev av (a : Ac) : Value := .agg #[.int .i64 a.kind, .int .i64 a.m.o, .int .u64 a.m.s, .int .i64 a.m.hop, .string a.m.ex, .string a.m.key, .string a.m.body, .int .u64 (a.tag : Int)]
instance : Enc acells 8 := ⟨fun _ => rfl, fun m u hu => by simp [acells] at hu; rcases hu with rfl | rfl | rfl | rfl | rfl | rfl | rfl | rfl <;> rfl, by decide⟩
/-- An act's eight cells lie there. -/
structure AcAt (w : World) (b off : Nat) (x : Ac) : Prop where
  c0 : w.cell? ⟨b, off, none⟩ = some (.int .i64 x.kind)
  c1 : w.cell? ⟨b, off + 1, none⟩ = some (.int .i64 x.m.o)
  c2 : w.cell? ⟨b, off + 2, none⟩ = some (.int .u64 x.m.s)
  c3 : w.cell? ⟨b, off + 3, none⟩ = some (.int .i64 x.m.hop)
  c4 : w.cell? ⟨b, off + 4, none⟩ = some (.string x.m.ex)
  c5 : w.cell? ⟨b, off + 5, none⟩ = some (.string x.m.key)
  c6 : w.cell? ⟨b, off + 6, none⟩ = some (.string x.m.body)
  c7 : w.cell? ⟨b, off + 7, none⟩ = some (.int .u64 (x.tag : Int))
theorem row_ac {w : World} {b off : Nat} {l : List Ac} (h : ∀ j u, (cellsOf acells l)[j]? = some u → w.cell? ⟨b, off + j, none⟩ = some u) (i : Nat) (hi : i < l.length) : AcAt w b (off + i * 8) l[i] :=
  ⟨by simpa using row_cell h i hi 0 (by decide) _ rfl, row_cell h i hi 1 (by decide) _ rfl, row_cell h i hi 2 (by decide) _ rfl, row_cell h i hi 3 (by decide) _ rfl, row_cell h i hi 4 (by decide) _ rfl, row_cell h i hi 5 (by decide) _ rfl, row_cell h i hi 6 (by decide) _ rfl, row_cell h i hi 7 (by decide) _ rfl⟩
theorem AcAt.below {w w' : World} {B b off : Nat} {x : Ac} (h : AcAt w b off x) (hb : Below B w w') (hB : w.heap.size ≤ B) : AcAt w' b off x := by
  have hl := World.block_lt_of_cell? _ _ h.c0
  have hl' : b < B := Nat.lt_of_lt_of_le hl hB
  exact ⟨(hb.cell (p := ⟨b, off, none⟩) hl').trans h.c0, (hb.cell (p := ⟨b, off + 1, none⟩) hl').trans h.c1, (hb.cell (p := ⟨b, off + 2, none⟩) hl').trans h.c2, (hb.cell (p := ⟨b, off + 3, none⟩) hl').trans h.c3, (hb.cell (p := ⟨b, off + 4, none⟩) hl').trans h.c4, (hb.cell (p := ⟨b, off + 5, none⟩) hl').trans h.c5, (hb.cell (p := ⟨b, off + 6, none⟩) hl').trans h.c6, (hb.cell (p := ⟨b, off + 7, none⟩) hl').trans h.c7⟩
theorem RowOf.acs {w : World} {a : Option Addr} {n cap : Nat} {l : List Ac} (h : RowOf acells w (.slice a n cap) l) : n = l.length ∧ l.length ≤ maxLen ∧ ∀ i (hi : i < l.length), ∃ b off, a = some ⟨b, off, none⟩ ∧ AcAt w b (off + i * 8) l[i] := by
  have hn : n = l.length := by
    obtain ⟨a', cap', hv⟩ := h.slice
    injection hv
  have hcm : l.length ≤ maxLen := by
    rcases h with ⟨hv, rfl⟩ | ⟨_, _, hv, h1, h2, _⟩
    · exact Nat.zero_le _
    · omega
  refine ⟨hn, hcm, fun i hi => ?_⟩
  obtain ⟨b, off, cap', hv, _, _, hc⟩ := h.at (by omega)
  injection hv with hv1 _ _
  exact ⟨b, off, hv1, row_ac hc i hi⟩
/-- The texts are not longer than memory is. -/
def Ac.Fits (a : Ac) : Prop := a.tag < 18446744073709551616 ∧ a.m.body.size ≤ 140737488355328 ∧ a.m.key.size ≤ 140737488355328 ∧ a.m.ex.size ≤ 140737488355328

set_option maxRecDepth 20000 in
set_option maxHeartbeats 1000000 in
theorem light_any (v : Value) (l : List Ac) (w : World) (hr : RowOf acells w v l) (hf : ∀ a ∈ l, a.Fits) :
    Calls Try.prog 11 #[v] w fun e w' => ∃ r, e = .returned (.bool r) ∧ (r = true → l.length ≤ 300) ∧ Below w.heap.size w w' := by
  obtain ⟨a, cap, rfl⟩ := hr.slice
  obtain ⟨_, hl, hA⟩ := hr.acs
  have l63 : l.length ≤ 9223372036854775807 := by unfold maxLen at hl; omega
  clear hr hl
  go_enter Try.func11, Try.ntmps11
  go_wp2
  go_loopw [3, 5, 8] (fun u3 u5 u8 wr => ∃ k n : Nat, u8 = .int .i64 k ∧ k ≤ l.length ∧ u3 = .int .i64 n ∧ k ≤ n ∧ n ≤ 300 ∧ Below w.heap.size w wr) (fun u3 u5 u8 wr => l.length - (intOf u8).toNat)
  case atStart => exact ⟨0, 0, rfl, Nat.zero_le _, rfl, Nat.zero_le _, Nat.zero_le _, Below.refl _ _⟩
  case round =>
    obtain ⟨k, n, rfl, hk, rfl, hkn, hn, hb⟩ := hrel
    by_cases hlt2 : k < l.length
    · have hlt : (k : Int) < (l.length : Int) := by omega
      obtain ⟨b, off, rfl, hi⟩ := hA k hlt2
      obtain ⟨e0, e1, e2, e3, e4, e5, e6, e7⟩ := hi.below hb (Nat.le_refl _)
      have hfk := hf _ (List.getElem_mem hlt2)
      clear hA hi
      generalize l[k] = x at *
      obtain ⟨_, s1, s2, s3⟩ := hfk
      generalize hs : x.m.body.size = p1 at *
      generalize hs2 : x.m.key.size = p2 at *
      generalize hs3 : x.m.ex.size = p3 at *
      have w1 : IntKind.i64.wrap ((p1 : Int) + (p2 : Int)) = (p1 : Int) + (p2 : Int) := by rw [IntKind.wrap_i64]; omega
      have w2 : IntKind.i64.wrap ((p1 : Int) + (p2 : Int) + (p3 : Int)) = (p1 : Int) + (p2 : Int) + (p3 : Int) := by rw [IntKind.wrap_i64]; omega
      go_wp2
      · go_ret
        exact ⟨false, rfl, (fun h => by cases h), hb.alloc hb.size _⟩
      · refine ⟨⟨k + 1, n + (1 + (p1 + p2 + p3) / 50), by go_num, by omega, by congr 1, by omega, by omega, hb.alloc hb.size _⟩, by simp [intOf]; omega⟩
    · obtain rfl : k = l.length := by omega
      go_wp2
      go_ret
      exact ⟨true, rfl, fun _ => by omega, hb⟩
end Go.Proofs.Ytocdfcaakflgpaa
