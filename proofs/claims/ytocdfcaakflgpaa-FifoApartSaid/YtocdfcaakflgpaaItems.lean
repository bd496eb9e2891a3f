/-
  ITEMS AND MESSAGES, as cells; slices of them.
-/
import Derived.Test.YtocdfcaakflgpaaCopyK
import Derived.Laws.StructEq
namespace Go.Proofs.Ytocdfcaakflgpaa
open Go.RowKit

/-- A message. -/
structure Msg where
  o : Int
  s : Int
  hop : Int
  ex : ByteArray
  key : ByteArray
  body : ByteArray
/-- An item. -/
structure It where
  tag : Nat
  m : Msg
  again : Bool
def mcells (m : Msg) : List Value := [.int .i64 m.o, .int .u64 m.s, .int .i64 m.hop, .string m.ex, .string m.key, .string m.body]
def icells (x : It) : List Value := [.int .u64 (x.tag : Int), .int .i64 x.m.o, .int .u64 x.m.s, .int .i64 x.m.hop, .string x.m.ex, .string x.m.key, .string x.m.body, .bool x.again]
/-- The values. -/
abbrev mv (m : Msg) : Value := .agg #[.int .i64 m.o, .int .u64 m.s, .int .i64 m.hop, .string m.ex, .string m.key, .string m.body]
abbrev iv (x : It) : Value := .agg #[.int .u64 (x.tag : Int), .int .i64 x.m.o, .int .u64 x.m.s, .int .i64 x.m.hop, .string x.m.ex, .string x.m.key, .string x.m.body, .bool x.again]
instance : Enc mcells 6 := ⟨fun _ => rfl, fun m u hu => by simp [mcells] at hu; rcases hu with rfl | rfl | rfl | rfl | rfl | rfl <;> rfl, by decide⟩
instance : Enc icells 8 := ⟨fun _ => rfl, fun m u hu => by simp [icells] at hu; rcases hu with rfl | rfl | rfl | rfl | rfl | rfl | rfl | rfl <;> rfl, by decide⟩

theorem itemInfo : ∃ i, Try.prog.info? 38 = some i ∧ i.zero = some (.agg #[.int .u64 0, .int .i64 0, .int .u64 0, .int .i64 0, .string ⟨#[]⟩, .string ⟨#[]⟩, .string ⟨#[]⟩, .bool false]) ∧ i.size = 8 ∧ i.bytes = 88 := by
  have hinfo : (Try.prog.info? 38).map (fun i => (i.zero, i.size, i.bytes)) = some (some (.agg #[.int .u64 0, .int .i64 0, .int .u64 0, .int .i64 0, .string ⟨#[]⟩, .string ⟨#[]⟩, .string ⟨#[]⟩, .bool false]), 8, 88) := by kernel_rfl
  exact info_parts hinfo
theorem msgInfo : ∃ i, Try.prog.info? 33 = some i ∧ i.zero = some (.agg #[.int .i64 0, .int .u64 0, .int .i64 0, .string ⟨#[]⟩, .string ⟨#[]⟩, .string ⟨#[]⟩]) ∧ i.size = 6 ∧ i.bytes = 72 := by
  have hinfo : (Try.prog.info? 33).map (fun i => (i.zero, i.size, i.bytes)) = some (some (.agg #[.int .i64 0, .int .u64 0, .int .i64 0, .string ⟨#[]⟩, .string ⟨#[]⟩, .string ⟨#[]⟩]), 6, 72) := by kernel_rfl
  exact info_parts hinfo
theorem info8 : (Try.prog.info? 38).map (·.size) = some 8 := by
  obtain ⟨i, hi, _, hs, _⟩ := itemInfo
  rw [hi]; simp [hs]

/-- A row of items: in memory; of the call's own. -/
abbrev Rows (w : World) (v : Value) (l : List It) : Prop := RowOf icells w v l
abbrev Own8 (w : World) (base : Nat) (v : Value) (l : List It) : Prop := OwnOf icells 8 38 w base v l

/-- An item's eight cells lie there. -/
structure ItAt (w : World) (b off : Nat) (x : It) : Prop where
  c0 : w.cell? ⟨b, off, none⟩ = some (.int .u64 (x.tag : Int))
  c1 : w.cell? ⟨b, off + 1, none⟩ = some (.int .i64 x.m.o)
  c2 : w.cell? ⟨b, off + 2, none⟩ = some (.int .u64 x.m.s)
  c3 : w.cell? ⟨b, off + 3, none⟩ = some (.int .i64 x.m.hop)
  c4 : w.cell? ⟨b, off + 4, none⟩ = some (.string x.m.ex)
  c5 : w.cell? ⟨b, off + 5, none⟩ = some (.string x.m.key)
  c6 : w.cell? ⟨b, off + 6, none⟩ = some (.string x.m.body)
  c7 : w.cell? ⟨b, off + 7, none⟩ = some (.bool x.again)
theorem row_item {w : World} {b off : Nat} {l : List It} (h : ∀ j u, (cellsOf icells l)[j]? = some u → w.cell? ⟨b, off + j, none⟩ = some u) (i : Nat) (hi : i < l.length) : ItAt w b (off + i * 8) l[i] :=
  ⟨by simpa using row_cell h i hi 0 (by decide) _ rfl, row_cell h i hi 1 (by decide) _ rfl, row_cell h i hi 2 (by decide) _ rfl, row_cell h i hi 3 (by decide) _ rfl, row_cell h i hi 4 (by decide) _ rfl, row_cell h i hi 5 (by decide) _ rfl, row_cell h i hi 6 (by decide) _ rfl, row_cell h i hi 7 (by decide) _ rfl⟩

theorem ItAt.below {w w' : World} {B b off : Nat} {x : It} (h : ItAt w b off x) (hb : Below B w w') (hB : w.heap.size ≤ B) : ItAt w' b off x := by
  have hl := World.block_lt_of_cell? _ _ h.c0
  have hl' : b < B := Nat.lt_of_lt_of_le hl hB
  exact ⟨(hb.cell (p := ⟨b, off, none⟩) hl').trans h.c0, (hb.cell (p := ⟨b, off + 1, none⟩) hl').trans h.c1, (hb.cell (p := ⟨b, off + 2, none⟩) hl').trans h.c2, (hb.cell (p := ⟨b, off + 3, none⟩) hl').trans h.c3, (hb.cell (p := ⟨b, off + 4, none⟩) hl').trans h.c4, (hb.cell (p := ⟨b, off + 5, none⟩) hl').trans h.c5, (hb.cell (p := ⟨b, off + 6, none⟩) hl').trans h.c6, (hb.cell (p := ⟨b, off + 7, none⟩) hl').trans h.c7⟩
/-- Where a row's elements lie. -/
theorem RowOf.items {w : World} {a : Option Addr} {n cap : Nat} {l : List It} (h : Rows w (.slice a n cap) l) : n = l.length ∧ cap ≤ maxLen ∧ ∀ i (hi : i < l.length), ∃ b off, a = some ⟨b, off, none⟩ ∧ ItAt w b (off + i * 8) l[i] := by
  have hn : n = l.length := by
    obtain ⟨a', cap', hv⟩ := h.slice
    injection hv
  have hcm : cap ≤ maxLen := by
    rcases h with ⟨hv, _⟩ | ⟨_, _, hv, _, h2, _⟩
    · injection hv with _ _ h3; subst h3; exact Nat.zero_le _
    · injection hv with _ _ h3; subst h3; exact h2
  refine ⟨hn, hcm, fun i hi => ?_⟩
  obtain ⟨b, off, cap', hv, _, _, hc⟩ := h.at (by omega)
  injection hv with hv1 _ _
  exact ⟨b, off, hv1, row_item hc i hi⟩
end Go.Proofs.Ytocdfcaakflgpaa
