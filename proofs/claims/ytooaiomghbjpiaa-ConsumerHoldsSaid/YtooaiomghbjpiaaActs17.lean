/-
  ACTS on a desk, as they lie in memory.
-/
import Derived.Test.YtooaiomghbjpiaaLives17
import Derived.Test.YtooaiomghbjpiaaSlabs
namespace Go.Proofs.Ytooaiomghbjpiaa
open Go.RowKit
set_option maxRecDepth 20000

/-- Something that is done to a desk. -/
structure Ac where
  kind : Int
  c : Int
  q : ByteArray
  n : Int
  t : Int
abbrev acv (a : Ac) : Value := .agg #[.int .i64 a.kind, .int .i64 a.c, .string a.q, .int .i64 a.n, .int .u64 a.t]
def acells (a : Ac) : List Value := [.int .i64 a.kind, .int .i64 a.c, .string a.q, .int .i64 a.n, .int .u64 a.t]
instance : K.Enc acells 5 where
  len _ := rfl
  one r u hu := by
    simp only [acells, List.mem_cons, List.not_mem_nil, or_false] at hu
    rcases hu with rfl | rfl | rfl | rfl | rfl <;> rfl
  pos := by decide
/-- What is known of an act that came in. -/
structure Ac.Fits (x : Ac) : Prop where
  q : x.q.size ≤ 140737488355328
  kind : I64 x.kind
  c : I64 x.c
  n : I64 x.n
  t : U64 x.t
theorem Ac.Fits.ql {x : Ac} (h : x.Fits) : x.q.size ≤ maxLen := by have := h.q; unfold maxLen; omega
/-- Acts that are there lie at plain addresses. -/
theorem acs_at {w : World} {a : Option Addr} {n cap : Nat} {l : List Ac} (h : K.RowOf acells w (.slice a n cap) l) : n = l.length ∧ l.length ≤ maxLen ∧ ∀ i (hi : i < l.length), ∃ b off, a = some ⟨b, off, none⟩ ∧ w.cell? ⟨b, off + i * 5, none⟩ = some (.int .i64 l[i].kind) ∧ w.cell? ⟨b, off + i * 5 + 1, none⟩ = some (.int .i64 l[i].c) ∧ w.cell? ⟨b, off + i * 5 + 2, none⟩ = some (.string l[i].q) ∧ w.cell? ⟨b, off + i * 5 + 3, none⟩ = some (.int .i64 l[i].n) ∧ w.cell? ⟨b, off + i * 5 + 4, none⟩ = some (.int .u64 l[i].t) := by
  have hn : n = l.length := by
    obtain ⟨a', cap', hv⟩ := h.slice
    injection hv
  have hcm : l.length ≤ maxLen := by
    rcases h with ⟨hv, rfl⟩ | ⟨_, _, hv, h1, h2, _⟩
    · exact Nat.zero_le _
    · omega
  refine ⟨hn, hcm, fun i hi => ?_⟩
  obtain ⟨b, off, cap', hv, _, _, hc⟩ := h.at (by omega)
  injection hv with hv1 _ _
  exact ⟨b, off, hv1, by simpa using K.row_cell hc i hi 0 (by decide) _ rfl, K.row_cell hc i hi 1 (by decide) _ rfl, K.row_cell hc i hi 2 (by decide) _ rfl, K.row_cell hc i hi 3 (by decide) _ rfl, K.row_cell hc i hi 4 (by decide) _ rfl⟩
end Go.Proofs.Ytooaiomghbjpiaa
