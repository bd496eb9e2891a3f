/-
  ACTS in memory; light, by its contract.
-/
import Derived.Test.YtjgdmbfkondakaaLives
import Derived.Test.YtjgdmbfkondakaaLends
import Derived.Test.YtjgdmbfkondakaaSlabs
namespace Go.Proofs.Ytjgdmbfkondakaa
open Go.RowKit

/-- An act, as it lies in memory. -/
structure Ac where
  kind : Int
  a : ByteArray
  b : ByteArray
  da : Option Addr
  dl : Nat
  dc : Nat
  n : Int
  m : Int
def Ac.d (x : Ac) : Value := .slice x.da x.dl x.dc
def acells (x : Ac) : List Value := [.int .i64 x.kind, .string x.a, .string x.b, .slice x.da x.dl x.dc, .int .i64 x.n, .int .i64 x.m]
abbrev acv (x : Ac) : Value := .agg #[.int .i64 x.kind, .string x.a, .string x.b, .slice x.da x.dl x.dc, .int .i64 x.n, .int .i64 x.m]
instance : K.Enc acells 6 where
  len _ := rfl
  one r u hu := by
    simp only [acells, List.mem_cons, List.not_mem_nil, or_false] at hu
    rcases hu with rfl | rfl | rfl | rfl | rfl | rfl <;> rfl
  pos := by decide
/-- What is known of an act that came in. -/
structure Ac.Fits (W : World) (x : Ac) : Prop where
  a : x.a.size ≤ 140737488355328
  b : x.b.size ≤ 140737488355328
  d : ∃ bl, Holds W (.slice x.da x.dl x.dc) bl ∧ bl.length ≤ 140737488351232
  n : -9223372036854775808 ≤ x.n ∧ x.n < 9223372036854775808
  m : -9223372036854775808 ≤ x.m ∧ x.m < 9223372036854775808
theorem Ac.Fits.below {W W' : World} {x : Ac} (h : x.Fits W) (hb : Below W.heap.size W W') : x.Fits W' := by
  obtain ⟨bl, h1, h2⟩ := h.d
  exact ⟨h.a, h.b, ⟨bl, h1.below hb (Nat.le_refl _), h2⟩, h.n, h.m⟩
theorem Ac.Fits.al {W : World} {x : Ac} (h : x.Fits W) : x.a.size ≤ maxLen := by have := h.a; unfold maxLen; omega
theorem Ac.Fits.bl {W : World} {x : Ac} (h : x.Fits W) : x.b.size ≤ maxLen := by have := h.b; unfold maxLen; omega
/-- Acts that are there lie at plain addresses. -/
theorem acs_at {w : World} {a : Option Addr} {n cap : Nat} {l : List Ac} (h : K.RowOf acells w (.slice a n cap) l) : n = l.length ∧ l.length ≤ maxLen ∧ ∀ i (hi : i < l.length), ∃ b off, a = some ⟨b, off, none⟩ ∧ w.cell? ⟨b, off + i * 6, none⟩ = some (.int .i64 l[i].kind) ∧ w.cell? ⟨b, off + i * 6 + 1, none⟩ = some (.string l[i].a) ∧ w.cell? ⟨b, off + i * 6 + 2, none⟩ = some (.string l[i].b) ∧ w.cell? ⟨b, off + i * 6 + 3, none⟩ = some (.slice l[i].da l[i].dl l[i].dc) ∧ w.cell? ⟨b, off + i * 6 + 4, none⟩ = some (.int .i64 l[i].n) ∧ w.cell? ⟨b, off + i * 6 + 5, none⟩ = some (.int .i64 l[i].m) := by
  have hn : n = l.length := by
    obtain ⟨a', cap', hv⟩ := h.slice
    injection hv
  have hcm : l.length ≤ maxLen := by
    rcases h with ⟨hv, rfl⟩ | ⟨_, _, hv, h1, h2, _⟩
    · exact Nat.zero_le _
    · omega
  refine ⟨hn, hcm, fun i hi => ?_⟩
  obtain ⟨b, off, cap', hv, _, _, hc⟩ := h.at (by omega)
  injection hv with hv1 _ _
  exact ⟨b, off, hv1, by simpa using K.row_cell hc i hi 0 (by decide) _ rfl, K.row_cell hc i hi 1 (by decide) _ rfl, K.row_cell hc i hi 2 (by decide) _ rfl, K.row_cell hc i hi 3 (by decide) _ rfl, K.row_cell hc i hi 4 (by decide) _ rfl, K.row_cell hc i hi 5 (by decide) _ rfl⟩
/-- An act's cells in a box of its own. -/
theorem ac_box (w : World) (x : Ac) {X : World} (hX : w.alloc (.cells #[.int .i64 x.kind, .string x.a, .string x.b, .slice x.da x.dl x.dc, .int .i64 x.n, .int .i64 x.m] 24) = X) :
    X.cell? ⟨w.heap.size, 0, none⟩ = some (.int .i64 x.kind) ∧ X.cell? ⟨w.heap.size, 1, none⟩ = some (.string x.a) ∧ X.cell? ⟨w.heap.size, 2, none⟩ = some (.string x.b) ∧ X.cell? ⟨w.heap.size, 3, none⟩ = some (.slice x.da x.dl x.dc) ∧ X.cell? ⟨w.heap.size, 4, none⟩ = some (.int .i64 x.n) ∧ X.cell? ⟨w.heap.size, 5, none⟩ = some (.int .i64 x.m) := by
  have h := heap_alloc_new w (.cells #[.int .i64 x.kind, .string x.a, .string x.b, .slice x.da x.dl x.dc, .int .i64 x.n, .int .i64 x.m] 24)
  rw [hX] at h
  refine ⟨?_, ?_, ?_, ?_, ?_, ?_⟩ <;> (simp only [World.cell?]; rw [h]; rfl)
end Go.Proofs.Ytjgdmbfkondakaa
