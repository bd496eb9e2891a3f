/-
  WHAT IS HELD, in memory: a map of numbers to messages, told by a list, in whatever order.
-/
import Derived.Test.YtkdjpleedaldcaaInb21
import Derived.Test.YtkdjpleedaldcaaSlabs
import Derived.DeepKeys4
namespace Go.Proofs.Ytkdjpleedaldcaa
open Go.RowKit Go.Maps

def rdM (v : Value) : Option (DataW Ms × List MemPlace) := match v with
  | .agg cs => match cs.toList with
    | [.int .i64 o, .int .u64 s, .int .i64 h, .string e, .string k, .string b] => some (.held ⟨o, s, h, e, k, b⟩, [])
    | _ => none
  | _ => none
theorem rdM_mv (x : Ms) : rdM (mv x) = some (.held x, []) := by
  simp [rdM]
theorem rdM_inv {v : Value} {z : DataW Ms × List MemPlace} (h : rdM v = some z) : ∃ x, v = mv x ∧ z = (.held x, []) := by
  unfold rdM at h
  split at h
  · rename_i cs
    split at h
    · rename_i o s hp e k b hcs
      injection h with h
      refine ⟨⟨o, s, hp, e, k, b⟩, ?_, h.symm⟩
      have : cs = #[.int .i64 o, .int .u64 s, .int .i64 hp, .string e, .string k, .string b] := by apply Array.ext'; simpa using hcs
      rw [this]
    · cases h
  · cases h
theorem uKeyed : Keyed Try.prog 28 := int_keyed Try.underlying28
theorem keyOf_num {n : Nat} (h : n < 65536) : keyOf Try.prog 28 (.int .u16 (n : Int)) = some (.int .u16 (n : Int)) := by
  refine keyOf_int_mk Try.underlying28 ?_
  have h1 : IntKind.u16.min = 0 := rfl
  have h2 : IntKind.u16.max = 65535 := rfl
  simp [Lit.wf, h1, h2]; omega
/-- Other numbers, of 16 bits. -/
structure ML (l : List Me) : Prop where
  diff : Diff mkl l
  fit : ∀ x ∈ l, x.1 < 65536
theorem ML.keys {l : List Me} (h : ML l) : ∀ x ∈ l, KeysOf Try.prog 28 (mkl x) := fun x hx => ⟨_, keyOf_num (h.fit x hx)⟩
theorem held_ml {m : Ib} (h : m.Ok) : ML (heldL m) := ⟨held_diff h, held_lt⟩
def MAt (w : World) (b : Nat) (l : List Me) : Prop := w.ownsMap Try.prog 28 rdM b l.length (DofG mkl md l)
theorem MAt.same {w w' : World} {b : Nat} {l : List Me} (h : MAt w b l) (hs : w'.heap[b]? = w.heap[b]?) : MAt w' b l := by
  obtain ⟨es, clock, hb, r⟩ := h
  exact ⟨es, clock, by rw [hs]; exact hb, r⟩
theorem MAt.lt {w : World} {b : Nat} {l : List Me} (h : MAt w b l) : b < w.heap.size := World.ownsMap.lt h
theorem MAt.noCells {w : World} {b : Nat} {l : List Me} (h : MAt w b l) {c : Array Value} {t : TypeId} {fz : Nat × Nat} : w.heap[b]? ≠ some (.cells c t fz) := fun e => by
  obtain ⟨es, clock, hb, _⟩ := h
  rw [e] at hb
  cases hb
theorem mAt_new (w : World) : MAt (w.alloc (.map #[] 0)) w.heap.size [] := World.ownsMap_made w _ _ _
theorem MAt.perm {w : World} {b n : Nat} {l l' : List Me} (h : w.ownsMap Try.prog 28 rdM b n (DofG mkl md l')) (hl : ML l) (hp : l'.Perm l) : MAt w b l := by
  rw [DofG_perm uKeyed.one hl.keys hl.diff hp] at h
  exact ownsMapG_fit h
theorem MAt.permTo {w : World} {b : Nat} {l l' : List Me} (h : MAt w b l') (hl : ML l) (hp : l'.Perm l) : MAt w b l := MAt.perm h hl hp
theorem MAt.len {w : World} {b : Nat} {l : List Me} (h : MAt w b l) (ty : TypeId) : (Builtin.len_ #[53] ty #[.map (some b)]).run Try.prog w = .ok (.int .i64 (l.length : Nat)) w := by
  have := World.ownsMap.len h Try.underlying53 ty
  rw [size_DofG] at this
  exact this
theorem MAt.look2 {w : World} {b : Nat} {m : Ib} (h : MAt w b (heldL m)) (ok : m.Ok) {n : Nat} (hn : n < 65536) :
    (Instr.lookup 53 (.map (some b)) (.int .u16 (n : Int)) true).run Try.prog w = .ok (.tuple #[mv ((lookI m n).getD zM), .bool (lookI m n).isSome]) w := by
  have hl := held_ml ok
  obtain ⟨v, ps, h1, h2⟩ := World.ownsMap.look_ok h uKeyed Try.underlying53 (Try.zeroValue33 w) (zd := .held zM) (zp := []) (rdM_mv zM) (keyOf_num hn)
  obtain ⟨o, rfl, hx⟩ := rdM_inv h2
  rw [h1]
  cases hf : lookI m n with
  | none =>
    have hne : ∀ y ∈ heldL m, mkl y ≠ .int .u16 (n : Int) := fun y hy e => by
      have e1 : y.1 = n := mkl_inj e
      have : lookI m n = some y.2 := (look_mem ok hn).2 (by rw [← e1]; exact hy)
      rw [hf] at this
      cases this
    rw [atKey_none hne] at hx
    rw [has_DofG_false uKeyed.one ⟨_, keyOf_num hn⟩ hne]
    simp at hx
    rw [← hx.1]
    rfl
  | some y =>
    have hy := (look_mem ok hn).1 hf
    rw [show Lit.int .u16 (n : Int) = mkl (n, y) from rfl, atKey_mem uKeyed.one hl.keys hl.diff hy] at hx
    rw [show Lit.int .u16 (n : Int) = mkl (n, y) from rfl, (has_DofG uKeyed.one (hl.keys _ hy)).2 ⟨_, hy, rfl⟩]
    simp [md] at hx
    rw [← hx.1]
    rfl
theorem MAt.put {w : World} {b : Nat} {m : Ib} (h : MAt w b (heldL m)) (ok : m.Ok) {n : Nat} (hn : n < 65536) (x : Ms) (hm : mayT m n = true) :
    ∃ w', (Instr.mapUpdate 53 (.map (some b)) (.int .u16 (n : Int)) (mv x)).run Try.prog w = .ok () w' ∧ MAt w' b (heldL (takeM m n x)) ∧ w.grownBy w' (some b) := by
  have hl := held_ml ok
  have hlen := held_le m
  have hs2 := ok.s2
  obtain ⟨hp, hne⟩ := held_put ok hn x hm
  obtain ⟨w', h1, h2, h3⟩ := World.ownsMap.update h uKeyed Try.underlying53 (by unfold maxLen; omega) (keyOf_num hn) (rdM_mv x)
  refine ⟨w', h1, ?_, h3⟩
  have e : (DofG mkl md (heldL m)).put (.int .u16 (n : Int)) (.held x) = DofG mkl md ((n, x) :: heldL m) := put_new uKeyed.one hl.keys hl.diff (x := (n, x)) ⟨_, keyOf_num hn⟩ (fun y hy e => hne y hy (mkl_inj e))
  rw [e] at h2
  exact MAt.perm h2 (held_ml (takeM_ok ok n x)) hp
set_option maxRecDepth 20000 in
theorem MAt.del {w : World} {b : Nat} {m : Ib} (h : MAt w b (heldL m)) (ok : m.Ok) (hm : (m.h 0).isSome = true) :
    ∃ f : TypeId → World, ∀ ty, (Builtin.delete_ #[53, 28] ty #[.map (some b), .int .u16 (m.n : Int)]).run Try.prog w = .ok (.tuple #[]) (f ty) ∧ MAt (f ty) b (heldL (popM m)) ∧ w.grownBy (f ty) (some b) := by
  have hl := held_ml ok
  have each : ∀ ty : TypeId, ∃ w', (Builtin.delete_ #[53, 28] ty #[.map (some b), .int .u16 (m.n : Int)]).run Try.prog w = .ok (.tuple #[]) w' ∧ MAt w' b (heldL (popM m)) ∧ w.grownBy w' (some b) := fun ty => by
    obtain ⟨w', h1, h2, h3⟩ := World.ownsMap.drop h uKeyed Try.underlying53 (keyOf_num ok.n2) ty
    refine ⟨w', h1, ?_, h3.grown⟩
    rw [del_DofG uKeyed.one hl.keys hl.diff] at h2
    have e : ((heldL m).filter fun y => !(mkl y).sameKey (.int .u16 (m.n : Int))) = (heldL m).filter fun y => !decide (y.1 = m.n) := List.filter_congr fun y hy => by
      congr 1
      rw [Bool.eq_iff_iff, sameKey_iff uKeyed.one ⟨_, keyOf_num ok.n2⟩, decide_eq_true_iff]
      exact ⟨fun e => mkl_inj e, fun e => by rw [← e]; rfl⟩
    rw [e] at h2
    exact MAt.perm h2 (held_ml (popM_ok ok)) (held_pop ok hm)
  obtain ⟨f, hf⟩ := Classical.axiomOfChoice each
  exact ⟨f, hf⟩
end Go.Proofs.Ytkdjpleedaldcaa
