/-
  THE MAP of the items that are out, told by their list in the order of the tags.
-/
import Derived.Test.YtocdfcaakflgpaaModel
import Derived.Maps.OwnSet
import Derived.Maps.OwnIn
namespace Go.Proofs.Ytocdfcaakflgpaa
open Go.RowKit Go.Maps

/-- What an item's value reads as. -/
def rdIt (v : Value) : Option (DataW It × List MemPlace) := match v with
  | .agg cs => match cs.toList with
    | [.int .u64 t, .int .i64 o, .int .u64 s, .int .i64 h, .string e, .string k, .string b, .bool a] => if 0 ≤ t then some (.held ⟨t.toNat, ⟨o, s, h, e, k, b⟩, a⟩, []) else none
    | _ => none
  | _ => none
theorem rdIt_iv (x : It) : rdIt (iv x) = some (.held x, []) := by
  simp [rdIt]
theorem rdIt_inv {v : Value} {z : DataW It × List MemPlace} (h : rdIt v = some z) : ∃ x, v = iv x ∧ z = (.held x, []) := by
  unfold rdIt at h
  split at h
  · rename_i cs
    split at h
    · rename_i t o s hp e k b a hcs
      split at h
      · rename_i ht
        injection h with h
        refine ⟨⟨t.toNat, ⟨o, s, hp, e, k, b⟩, a⟩, ?_, h.symm⟩
        have : cs = #[.int .u64 t, .int .i64 o, .int .u64 s, .int .i64 hp, .string e, .string k, .string b, .bool a] := by apply Array.ext'; simpa using hcs
        rw [this]
        simp only [iv]
        congr 3
        simp; omega
      · cases h
    · cases h
  · cases h

/-- The entries. -/
def ents (l : List It) : List (Lit × DataW It) := l.map fun x => (.int .u64 (x.tag : Int), .held x)
def Dof (l : List It) : DataW It := .map (ents l)
/-- In w block b is a map of just these items, by their tags. -/
def OutAt (w : World) (b : Nat) (l : List It) : Prop := w.ownsMap Try.prog 29 rdIt b l.length (Dof l)

theorem sameKey_u64 (a b : Nat) : (Lit.int .u64 (a : Int)).sameKey (.int .u64 (b : Int)) = (a == b) := by
  simp only [Lit.sameKey]
  rw [Bool.eq_iff_iff]; simp; omega
theorem has_Dof (l : List It) (t : Nat) : Maps.has (Dof l) (.int .u64 (t : Int)) = hasT l t := by
  show (ents l).any (fun p => p.1.sameKey (.int .u64 (t : Int))) = _
  unfold ents hasT
  rw [List.any_map]
  congr 1
  funext x
  exact sameKey_u64 _ _
theorem size_Dof (l : List It) : Maps.size (Dof l) = l.length := by simp [Dof, ents, Maps.size]
theorem atKey_Dof (l : List It) (t : Nat) (z : DataW It) : (Dof l).atKey (.int .u64 (t : Int)) z = match findT l t with | some x => .held x | none => z := by
  unfold Dof ents DataW.atKey findT
  simp only [List.find?_map]
  have : ((fun p : Lit × DataW It => p.1.sameKey (.int .u64 (t : Int))) ∘ fun x : It => ((Lit.int .u64 (x.tag : Int)), DataW.held x)) = fun x => x.tag == t := by
    funext x; exact sameKey_u64 _ _
  rw [this]
  cases l.find? fun x => x.tag == t <;> rfl
theorem del_Dof (l : List It) (t : Nat) : (Dof l).del (.int .u64 (t : Int)) = Dof (dropT l t) := by
  unfold Dof ents DataW.del dropT
  simp only [List.filter_map]
  congr 2
  refine List.filter_congr fun x _ => ?_
  show (!(Lit.int .u64 (x.tag : Int)).sameKey (.int .u64 (t : Int))) = _
  rw [sameKey_u64]; rfl
theorem insert_ents {l : List It} (hl : Rise l) (x : It) (hn : hasT l x.tag = false) : DataW.insert (Lit.int .u64 (x.tag : Int), .held x) (ents l) = ents (ins x l) := by
  induction l with
  | nil => rfl
  | cons y r ih =>
    have hne := hasT_false.1 hn y (by simp)
    have e : ents (y :: r) = (Lit.int .u64 (y.tag : Int), .held y) :: ents r := rfl
    rw [e]
    unfold DataW.insert
    by_cases hlt : y.tag < x.tag
    · rw [if_neg (by simp [Lit.before]; omega), ins_cons_lt hlt, ih hl.tail (hasT_false.2 fun z hz => hasT_false.1 hn z (by simp [hz]))]
      rfl
    · rw [if_pos (by simp [Lit.before]; omega), ins_cons_ge hl (by omega)]
      rfl
theorem put_Dof {l : List It} (hl : Rise l) (x : It) (hn : hasT l x.tag = false) : (Dof l).put (.int .u64 (x.tag : Int)) (.held x) = Dof (ins x l) := by
  have h1 : (Dof l).put (.int .u64 (x.tag : Int)) (.held x) = .map (DataW.insert (Lit.int .u64 (x.tag : Int), .held x) ((ents l).filter fun p => !p.1.sameKey (.int .u64 (x.tag : Int)))) := rfl
  have h2 : (ents l).filter (fun p => !p.1.sameKey (.int .u64 (x.tag : Int))) = ents l := by
    have := del_Dof l x.tag
    rw [dropT_none hn] at this
    injection this
  rw [h1, h2, insert_ents hl x hn]
  rfl

theorem wf_u64 {t : Nat} (h : t < 18446744073709551616) : (Lit.int .u64 (t : Int)).wf = true := by
  have h1 : IntKind.u64.min = 0 := rfl
  have h2 : IntKind.u64.max = 18446744073709551615 := rfl
  simp [Lit.wf, h1, h2]; omega
theorem keyed : Keyed Try.prog 29 := int_keyed Try.underlying29
theorem keyOf_tag {t : Nat} (h : t < 18446744073709551616) : keyOf Try.prog 29 (.int .u64 (t : Int)) = some (.int .u64 (t : Int)) := keyOf_int_mk Try.underlying29 (wf_u64 h)
theorem OutAt.lt {w : World} {b : Nat} {l : List It} (h : OutAt w b l) : b < w.heap.size := World.ownsMap.lt h
theorem OutAt.same {w w' : World} {b : Nat} {l : List It} (h : OutAt w b l) (hs : w'.heap[b]? = w.heap[b]?) : OutAt w' b l := by
  obtain ⟨es, clock, hb, r⟩ := h
  exact ⟨es, clock, by rw [hs]; exact hb, r⟩
/-- How many there are is told by the list. -/
theorem ownsMap_fit {w : World} {b n : Nat} {l : List It} (h : w.ownsMap Try.prog 29 rdIt b n (Dof l)) : OutAt w b l := by
  obtain ⟨es, clock, hb, F, hs, hD⟩ := h
  refine ⟨es, clock, hb, F, ?_, hD⟩
  have := size_Dof l
  rw [hD] at this
  simp only [Maps.size, length_sorted, List.length_map] at this
  simpa using Nat.le_of_eq this
theorem outAt_new (w : World) : OutAt (w.alloc (.map #[] 0)) w.heap.size [] := World.ownsMap_made w _ _ _
theorem OutAt.isMap {w : World} {b : Nat} {l : List It} (h : OutAt w b l) : ∃ es c, w.heap[b]? = some (.map es c) := by
  obtain ⟨es, clock, hb, _⟩ := h
  exact ⟨es, clock, hb⟩
/-- The store. -/
theorem OutAt.store {w : World} {b : Nat} {l : List It} (h : OutAt w b l) (hl : Rise l) (x : It) (hn : hasT l x.tag = false) (ht : x.tag < 18446744073709551616) (hlen : l.length ≤ 1000000) :
    ∃ w', (Instr.mapUpdate 62 (.map (some b)) (.int .u64 (x.tag : Int)) (iv x)).run Try.prog w = .ok () w' ∧ OutAt w' b (ins x l) ∧ w.grownBy w' (some b) := by
  obtain ⟨w', h1, h2, h3⟩ := World.ownsMap.update h keyed Try.underlying62 (by unfold maxLen; omega) (keyOf_tag ht) (rdIt_iv x)
  refine ⟨w', h1, ?_, h3⟩
  rw [put_Dof hl x hn] at h2
  exact ownsMap_fit h2
end Go.Proofs.Ytocdfcaakflgpaa
