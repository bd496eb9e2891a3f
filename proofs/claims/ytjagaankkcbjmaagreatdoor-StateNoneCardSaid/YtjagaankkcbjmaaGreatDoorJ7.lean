/-
  THE MAP of the items that are out, told by their list in the order of the tags.
-/
import Derived.Test.YtjagaankkcbjmaaGreatDoorJ6
import Derived.Maps.OwnSet
import Derived.Maps.OwnIn
namespace Go.Proofs.YtjagaankkcbjmaaGreatDoor.K
end Go.Proofs.YtjagaankkcbjmaaGreatDoor.K
namespace Go.Proofs.YtjagaankkcbjmaaGreatDoor.F
open Go.Proofs.YtjagaankkcbjmaaGreatDoor.K
open Go.RowKit Go.Maps

/-- What an item's value reads as. -/
def rdIt (v : Value) : Option (DataW It × List MemPlace) := match v with
  | .agg cs => match cs.toList with
    | [.int .u64 t, .int .i64 o, .int .u64 s, .int .i64 h, .string e, .string k, .string b, .bool a] => if 0 ≤ t then some (.held ⟨t.toNat, ⟨o, s, h, e, k, b⟩, a⟩, []) else none
    | _ => none
  | _ => none
theorem rdIt_iv (x : It) : rdIt (iv x) = some (.held x, []) := by
  simp [rdIt]
theorem rdIt_inv {v : Value} {z : DataW It × List MemPlace} (h : rdIt v = some z) : ∃ x, v = iv x ∧ z = (.held x, []) := by
  unfold rdIt at h
  split at h
  · rename_i cs
    split at h
    · rename_i t o s hp e k b a hcs
      split at h
      · rename_i ht
        injection h with h
        refine ⟨⟨t.toNat, ⟨o, s, hp, e, k, b⟩, a⟩, ?_, h.symm⟩
        have : cs = #[.int .u64 t, .int .i64 o, .int .u64 s, .int .i64 hp, .string e, .string k, .string b, .bool a] := by apply Array.ext'; simpa using hcs
        rw [this]
        simp only [iv]
        congr 3
        simp; omega
      · cases h
    · cases h
  · cases h

/-- The entries. -/
def ents (l : List It) : List (Lit × DataW It) := l.map fun x => (.int .u64 (x.tag : Int), .held x)
def Dof (l : List It) : DataW It := .map (ents l)
/-- In w block b is a map of just these items, by their tags. -/
def OutAt (w : World) (b : Nat) (l : List It) : Prop := w.ownsMap Tryz.prog 32 rdIt b l.length (Dof l)

theorem sameKey_u64 (a b : Nat) : (Lit.int .u64 (a : Int)).sameKey (.int .u64 (b : Int)) = (a == b) := by
  simp only [Lit.sameKey]
  rw [Bool.eq_iff_iff]; simp; omega
theorem has_Dof (l : List It) (t : Nat) : Maps.has (Dof l) (.int .u64 (t : Int)) = hasT l t := by
  show (ents l).any (fun p => p.1.sameKey (.int .u64 (t : Int))) = _
  unfold ents hasT
  rw [List.any_map]
  congr 1
  funext x
  exact sameKey_u64 _ _
theorem size_Dof (l : List It) : Maps.size (Dof l) = l.length := by simp [Dof, ents, Maps.size]
theorem atKey_Dof (l : List It) (t : Nat) (z : DataW It) : (Dof l).atKey (.int .u64 (t : Int)) z = match findT l t with | some x => .held x | none => z := by
  unfold Dof ents DataW.atKey findT
  simp only [List.find?_map]
  have : ((fun p : Lit × DataW It => p.1.sameKey (.int .u64 (t : Int))) ∘ fun x : It => ((Lit.int .u64 (x.tag : Int)), DataW.held x)) = fun x => x.tag == t := by
    funext x; exact sameKey_u64 _ _
  rw [this]
  cases l.find? fun x => x.tag == t <;> rfl
theorem del_Dof (l : List It) (t : Nat) : (Dof l).del (.int .u64 (t : Int)) = Dof (dropT l t) := by
  unfold Dof ents DataW.del dropT
  simp only [List.filter_map]
  congr 2
  refine List.filter_congr fun x _ => ?_
  show (!(Lit.int .u64 (x.tag : Int)).sameKey (.int .u64 (t : Int))) = _
  rw [sameKey_u64]; rfl

theorem wf_u64 {t : Nat} (h : t < 18446744073709551616) : (Lit.int .u64 (t : Int)).wf = true := by
  have h1 : IntKind.u64.min = 0 := rfl
  have h2 : IntKind.u64.max = 18446744073709551615 := rfl
  simp [Lit.wf, h1, h2]; omega
theorem keyed : Keyed Tryz.prog 32 := int_keyed Tryz.underlying32
theorem keyOf_tag {t : Nat} (h : t < 18446744073709551616) : keyOf Tryz.prog 32 (.int .u64 (t : Int)) = some (.int .u64 (t : Int)) := keyOf_int_mk Tryz.underlying32 (wf_u64 h)
theorem OutAt.lt {w : World} {b : Nat} {l : List It} (h : OutAt w b l) : b < w.heap.size := World.ownsMap.lt h
theorem OutAt.same {w w' : World} {b : Nat} {l : List It} (h : OutAt w b l) (hs : w'.heap[b]? = w.heap[b]?) : OutAt w' b l := by
  obtain ⟨es, clock, hb, r⟩ := h
  exact ⟨es, clock, by rw [hs]; exact hb, r⟩
/-- How many there are is told by the list. -/
theorem ownsMap_fit {w : World} {b n : Nat} {l : List It} (h : w.ownsMap Tryz.prog 32 rdIt b n (Dof l)) : OutAt w b l := by
  obtain ⟨es, clock, hb, F, hs, hD⟩ := h
  refine ⟨es, clock, hb, F, ?_, hD⟩
  have := size_Dof l
  rw [hD] at this
  simp only [Maps.size, length_sorted, List.length_map] at this
  simpa using Nat.le_of_eq this
theorem outAt_new (w : World) : OutAt (w.alloc (.map #[] 0)) w.heap.size [] := World.ownsMap_made w _ _ _
theorem OutAt.isMap {w : World} {b : Nat} {l : List It} (h : OutAt w b l) : ∃ es c, w.heap[b]? = some (.map es c) := by
  obtain ⟨es, clock, hb, _⟩ := h
  exact ⟨es, clock, hb⟩
end Go.Proofs.YtjagaankkcbjmaaGreatDoor.F

/-
  slices.Insert of one item, by its contract.
-/
namespace Go.Proofs.YtjagaankkcbjmaaGreatDoor.K
end Go.Proofs.YtjagaankkcbjmaaGreatDoor.K
namespace Go.Proofs.YtjagaankkcbjmaaGreatDoor.F
open Go.Proofs.YtjagaankkcbjmaaGreatDoor.K
open Go.RowKit

theorem one_src {w : World} {vb : Nat} {x : It} (hx : w.heap[vb]? = some (.cells (icells x).toArray 102 (0, 0))) :
    ∀ j v, (cellsOf icells [x])[j]? = some v → w.cell? ((⟨vb, 0, none⟩ : Addr).add j) = some v := by
  intro j v hj
  rw [Addr.add_lit, Nat.zero_add]
  have := cell_of_list (C := cellsOf icells [x]) (w := w) (g := vb) (t := 102) hx j
  rw [this]; exact hj

set_option maxRecDepth 10000 in
set_option maxHeartbeats 2000000 in
/-- There is room, i < len(s). -/
theorem insert_shift (g c i vb : Nat) (x : It) (l : List It) (T : List Value) (w : World) (hg : w.heap[g]? = some (.cells (cellsOf icells l ++ T).toArray 102 (0, 0))) (hi : i < l.length) (hroom : l.length + 1 ≤ c) (hcm : c ≤ maxLen) (hT : T.length = c * 8 - l.length * 8)
    (hx : w.heap[vb]? = some (.cells (icells x).toArray 102 (0, 0))) (hne : vb ≠ g) :
    Calls Tryz.prog 251 #[.slice (some ⟨g, 0, none⟩) l.length c, .int .i64 i, .slice (some ⟨vb, 0, none⟩) 1 1] w fun e w' =>
      e = .returned (.slice (some ⟨g, 0, none⟩) (l.length + 1) c) ∧ Only g w w' ∧ ∃ T', w'.heap[g]? = some (.cells (cellsOf icells (l.take i ++ x :: l.drop i) ++ T').toArray 102 (0, 0)) ∧ T'.length = c * 8 - (l.length + 1) * 8 := by
  have hc63 : c ≤ 9223372036854775807 := by unfold maxLen at hcm; omega
  have hz2 : ¬ ((i : Int) = (l.length : Int)) := by omega
  have hb2 : ¬ (c = i + 1) := by omega
  have hb4 : ¬ (c = i) := by omega
  have hw1 : IntKind.i64.wrap ((i : Int) + 1) = (i : Int) + 1 := by rw [IntKind.wrap_i64]; omega
  have hov : ∀ lb cb, (callFunc 295 #[.slice (some ⟨vb, 0, none⟩) 1 1, .slice (some ⟨g, (i + 1) * 8, none⟩) lb cb]).run Tryz.prog w = .ok (.value (.bool false)) w := fun lb cb => by
    rw [run_callFunc_extern Tryz.func295 (by kernel_rfl) (by kernel_rfl) (by kernel_rfl) (e := Extern.SlicesOverlaps.overlaps #[84, 84] #[4]) (by kernel_rfl),
      Lib.run_overlaps_apart w 84 4 102 Tryz.underlying84 8 Tryz.sizeOf102 ⟨vb, 0, none⟩ ⟨g, (i + 1) * 8, none⟩ 1 1 lb cb hne 102 102 8 (cellsOf icells l ++ T).length (by simp [World.shape?, hx]; rfl) (by simp [World.shape?, hg]) (by simp [cellsOf_length (enc := icells)]; omega) (by simp [World.frozen?, hx]) (by simp [World.frozen?, hx])]
    rfl
  go_enter Tryz.func251, Tryz.ntmps251
  have hl1 := cellsOf_length (enc := icells) (l.drop i)
  rw [List.length_drop] at hl1
  have hll := cellsOf_length (enc := icells) l
  have hA := cellsOf_length (enc := icells) (l.take i)
  rw [List.length_take, Nat.min_eq_left (by omega)] at hA
  have hsplit : cellsOf icells l = cellsOf icells (l.take i) ++ cellsOf icells (l.drop i) := by rw [← cellsOf_append, List.take_append_drop]
  have S1 : Hid (∀ j v, (cellsOf icells (l.drop i))[j]? = some v → w.cell? ((⟨g, i * 8, none⟩ : Addr).add j) = some v) := fun j v hj => by
    rw [Addr.add_lit, cell_of_list hg, List.getElem?_append_left (by have := (List.getElem?_eq_some_iff.1 hj).1; omega), hsplit, List.getElem?_append_right (by omega), hA]
    rw [show i * 8 + j - i * 8 = j by omega]
    exact hj
  have HG : Hid (w.heap[g]? = some (.cells (cellsOf icells l ++ T).toArray 102 (0, 0)) ∧ w.heap[vb]? = some (.cells (icells x).toArray 102 (0, 0))) := ⟨hg, hx⟩
  have HN : Hid ((cellsOf icells (l.drop i)).length = (l.length - i) * 8 ∧ (cellsOf icells l).length = l.length * 8 ∧ (cellsOf icells (l.take i)).length = i * 8 ∧ cellsOf icells l = cellsOf icells (l.take i) ++ cellsOf icells (l.drop i)) := ⟨hl1, hll, hA, hsplit⟩
  have HT : Hid (T.length = c * 8 - l.length * 8) := hT
  clear hl1 hll hA hsplit hT hg hx
  have hb1 : (0 : Int) ≤ (i : Int) + 1 := by omega
  have hin : i ≤ l.length := by omega
  have hin2 : i ≤ l.length + 1 := by omega
  have hin3 : (i : Int) ≤ (l.length : Int) + 1 := by omega
  go_wp2_with (simp only [hov])
  clear hov
  go_region_law (refine step_copyK rfl (.tmp 73) (.tmp 76) 84 84 rfl 102 Tryz.underlying84 info8 (by decide) (some ⟨g, (i + 1) * 8, none⟩) (some ⟨g, i * 8, none⟩) (l.length - i) (c - (i + 1)) (l.length + 1 - i) (c - i) (by simp [Act.eval, Act.put]) (by simp [Act.eval, Act.put]) g ((i + 1) * 8) (cellsOf icells l ++ T) 102 HG.out.1 (cellsOf icells (l.drop i)) (by rw [HN.out.1, show Nat.min (l.length + 1 - i) (l.length - i) = l.length - i from Nat.min_eq_right (by omega)]) (fun _ => ⟨rfl, _, rfl, S1.out⟩) (by rw [HN.out.1, List.length_append, HN.out.2.1, HT.out]; omega) (cellsOf_one _) ?_; intro w1 m1 HG1 only1)
  have hx1 : w1.heap[vb]? = some (.cells (icells x).toArray 102 (0, 0)) := by rw [only1.block vb hne]; exact HG.out.2
  have HX1 : Hid (∀ j v, (cellsOf icells [x])[j]? = some v → w1.cell? ((⟨vb, 0, none⟩ : Addr).add j) = some v) := one_src hx1
  have HL1 : Hid ((splice (cellsOf icells l ++ T) ((i + 1) * 8) (cellsOf icells (l.drop i))).length = c * 8) := by
    have h := length_splice (cellsOf icells l ++ T) ((i + 1) * 8) (cellsOf icells (l.drop i)) (by rw [HN.out.1, List.length_append, HN.out.2.1, HT.out]; omega)
    rw [List.length_append, HN.out.2.1, HT.out] at h
    exact (by omega : (splice (cellsOf icells l ++ T) ((i + 1) * 8) (cellsOf icells (l.drop i))).length = c * 8)
  have ON1 : Hid (Only g w w1) := ⟨only1.os, only1.tape, only1.output, only1.size, only1.block⟩
  clear hx1 only1
  go_wp2_with (refine wpList_copyK rfl (.tmp 80) (.tmp 81) 84 84 rfl 102 Tryz.underlying84 info8 (by decide) (some ⟨g, i * 8, none⟩) (some ⟨vb, 0, none⟩) (l.length + 1 - i) (c - i) 1 1 rfl rfl g (i * 8) (splice (cellsOf icells l ++ T) ((i + 1) * 8) (cellsOf icells (l.drop i))) 102 HG1.out (cellsOf icells [x]) (by rw [show Nat.min 1 (l.length + 1 - i) = 1 from Nat.min_eq_left (by omega)]; rfl) (fun _ => ⟨rfl, _, rfl, HX1.out⟩) (by rw [HL1.out]; show i * 8 + 8 ≤ _; omega) (cellsOf_one _) ?_; intro w2 m2 HG2 only2)
  go_ret
  refine ⟨rfl, ON1.out.trans only2, (cellsOf icells l ++ T).drop ((i + 1) * 8 + (cellsOf icells (l.drop i)).length), ?_, ?_⟩
  · rw [HG2.out]
    congr 2
    congr 1
    have e1 := splice_in (cellsOf icells l ++ T) (cellsOf icells (l.take i)) (cellsOf icells (l.drop i) ++ T) (cellsOf icells (l.drop i)) 8 ((i + 1) * 8) (by rw [HN.out.2.2.2, List.append_assoc]) (by rw [HN.out.2.2.1]; omega)
    rw [splice_in _ (cellsOf icells (l.take i)) _ (cellsOf icells [x]) 0 (i * 8) e1 (by rw [HN.out.2.2.1]; omega)]
    rw [cellsOf_append]
    have h2 : ((cellsOf icells (l.drop i) ++ T).take 8).length = 8 := by rw [List.length_take, List.length_append, HN.out.1, HT.out]; omega
    have e2 : ∀ R : List Value, ((cellsOf icells (l.drop i) ++ T).take 8 ++ R).drop 8 = R := fun R => by
      rw [List.drop_append, h2, List.drop_eq_nil_of_le (by omega)]
      simp
    have e3 : (cellsOf icells l ++ T).drop ((i + 1) * 8 + (cellsOf icells (l.drop i)).length) = (cellsOf icells (l.drop i) ++ T).drop (8 + (cellsOf icells (l.drop i)).length) := by
      rw [HN.out.2.2.2, List.append_assoc, List.drop_append, List.drop_eq_nil_of_le (by rw [HN.out.2.2.1]; omega), HN.out.2.2.1, List.nil_append]
      congr 1
      omega
    rw [e3, List.take_zero, List.nil_append, show 0 + (cellsOf icells [x]).length = 8 from rfl, e2]
    simp [cellsOf_cons, cellsOf_nil]
  · rw [List.length_drop, List.length_append, HN.out.2.1, HT.out, HN.out.1]; omega

set_option maxRecDepth 10000 in
set_option maxHeartbeats 2000000 in
/-- There is no room, i < len(s): a new row. -/
theorem insert_grow (g i vb : Nat) (x : It) (l : List It) (w : World) (T : List Value) (hg : w.heap[g]? = some (.cells (cellsOf icells l ++ T).toArray 102 (0, 0))) (hi : i < l.length) (hlen : l.length ≤ 1000000)
    (hx : w.heap[vb]? = some (.cells (icells x).toArray 102 (0, 0))) :
    Calls Tryz.prog 251 #[.slice (some ⟨g, 0, none⟩) l.length l.length, .int .i64 i, .slice (some ⟨vb, 0, none⟩) 1 1] w fun e w' =>
      ∃ v', e = .returned v' ∧ Own8 w' w.heap.size v' (l.take i ++ x :: l.drop i) ∧ Below w.heap.size w w' := by
  obtain ⟨i0, hi0, hz0, hzs, hzb⟩ := itemInfo
  have hbw : g < w.heap.size := (Array.getElem?_eq_some_iff.1 hg).1
  have hvw : vb < w.heap.size := (Array.getElem?_eq_some_iff.1 hx).1
  have hz2 : ¬ ((i : Int) = (l.length : Int)) := by omega
  have hb4 : ¬ (l.length = i) := by omega
  have hw1 : IntKind.i64.wrap ((i : Int) + 1) = (i : Int) + 1 := by rw [IntKind.wrap_i64]; omega
  have hA := cellsOf_length (enc := icells) (l.take i)
  rw [List.length_take, Nat.min_eq_left (by omega)] at hA
  have hl1 := cellsOf_length (enc := icells) (l.drop i)
  rw [List.length_drop] at hl1
  have hsplit : cellsOf icells l = cellsOf icells (l.take i) ++ cellsOf icells (l.drop i) := by rw [← cellsOf_append, List.take_append_drop]
  have hold : (Builtin.firstCells i0.size i (.slice (some ⟨g, 0, none⟩) i l.length)).run Tryz.prog w.drew = .ok (cellsOf icells (l.take i)).toArray w.drew := by
    rw [hzs]
    exact run_firstCells_some w.drew 8 i ⟨g, 0, none⟩ i l.length (cellsOf icells (l.take i)) hA (fun j v hj => by
      rw [Addr.add_lit, Nat.zero_add]
      show w.cell? _ = _
      rw [cell_of_list hg, hsplit, List.append_assoc, List.getElem?_append_left (by have := (List.getElem?_eq_some_iff.1 hj).1; omega)]
      exact hj)
  obtain ⟨G, hG⟩ : ∃ G, G = grownCap w (l.length + 1) l.length 102 := ⟨_, rfl⟩
  have hGn : l.length + 1 ≤ G := by rw [hG]; exact grownCap_ge w _ _ _
  have hGm : G ≤ maxLen := by rw [hG]; exact grownCap_le_maxLen w _ _ _ (by unfold maxLen; omega)
  have hG63 : G ≤ 9223372036854775807 := by unfold maxLen at hGm; omega
  obtain ⟨Z, hZ⟩ : ∃ Z : List Value, Z = (Builtin.zeroCells (Value.agg #[.int .u64 0, .int .i64 0, .int .u64 0, .int .i64 0, .string ⟨#[]⟩, .string ⟨#[]⟩, .string ⟨#[]⟩, .bool false]).cells (l.length + 1 - i)).toList ++ (Builtin.zeroCells (Value.agg #[.int .u64 0, .int .i64 0, .int .u64 0, .int .i64 0, .string ⟨#[]⟩, .string ⟨#[]⟩, .string ⟨#[]⟩, .bool false]).cells (G - (l.length + 1))).toList := ⟨_, rfl⟩
  have hZl : Z.length = (G - i) * 8 := by rw [hZ]; simp [Builtin.zeroCells, Value.cells]; omega
  have hkk : (l.length : Int) + 1 - (i : Int) = ((l.length + 1 - i : Nat) : Int) := by omega
  have hik : i + (l.length + 1 - i) = l.length + 1 := by omega
  have hrz : ∀ ty, (Builtin.append_ #[84, 3] ty #[.slice (some ⟨g, 0, none⟩) i l.length, .int .i64 ((l.length : Int) + 1 - (i : Int))]).run Tryz.prog w =
      .ok (.slice (some ⟨w.heap.size, 0, none⟩) (l.length + 1) G) (w.drew.alloc (.cells (cellsOf icells (l.take i) ++ Z).toArray 102)) := fun ty => by
    have h := Lib.run_append_grow_zeros w 84 3 ty 102 i0 _ .i64 .i64 Tryz.underlying84 Tryz.underlying3 hi0 hz0 (some ⟨g, 0, none⟩) i l.length (cellsOf icells (l.take i)) hold (l.length + 1 - i) (by omega) (by omega) (by omega) (by omega) (by rw [hzb]; omega) (by rw [hzb, hik]; exact growslice_fits (by omega) (by omega))
    rw [hik, ← hG] at h
    rw [hkk, h, hZ]
    congr 3
    apply Array.ext'
    simp
  obtain ⟨W1, hW1⟩ : ∃ W1, W1 = w.drew.alloc (.cells (cellsOf icells (l.take i) ++ Z).toArray 102) := ⟨_, rfl⟩
  rw [← hW1] at hrz
  have hN1 : W1.heap[w.heap.size]? = some (.cells (cellsOf icells (l.take i) ++ Z).toArray 102 (0, 0)) := by rw [hW1]; exact heap_alloc_new w.drew _
  have hB1 : Below w.heap.size w W1 := by rw [hW1]; exact (Below.refl w.heap.size w).drew.alloc (Nat.le_refl _) _
  have hx1 : W1.heap[vb]? = some (.cells (icells x).toArray 102 (0, 0)) := by rw [hB1.block vb hvw]; exact hx
  have H : Hid (W1.heap[w.heap.size]? = some (.cells (cellsOf icells (l.take i) ++ Z).toArray 102 (0, 0)) ∧ Below w.heap.size w W1 ∧ (∀ j v, (cellsOf icells [x])[j]? = some v → W1.cell? ((⟨vb, 0, none⟩ : Addr).add j) = some v) ∧ W1.heap[g]? = some (.cells (cellsOf icells l ++ T).toArray 102 (0, 0)) ∧ Z.length = (G - i) * 8 ∧ (cellsOf icells (l.take i)).length = i * 8 ∧ (cellsOf icells (l.drop i)).length = (l.length - i) * 8 ∧ cellsOf icells l = cellsOf icells (l.take i) ++ cellsOf icells (l.drop i)) :=
    ⟨hN1, hB1, one_src hx1, by rw [hB1.block g hbw]; exact hg, hZl, hA, hl1, hsplit⟩
  clear hold hG hkk hik hN1 hB1 hx1 hZl hA hl1 hsplit hg hx hZ hW1
  have hGi : ¬ (G = i) := by omega
  have hGi1 : ¬ (G = i + 1) := by omega
  have hb1 : (0 : Int) ≤ (i : Int) + 1 := by omega
  have hin : i ≤ l.length := by omega
  have hin2 : i ≤ l.length + 1 := by omega
  have hin3 : (i : Int) ≤ (l.length : Int) + 1 := by omega
  have hin4 : (i : Int) ≤ (l.length : Int) := by omega
  go_enter Tryz.func251, Tryz.ntmps251
  go_wp2_with (first
    | (at_builtin; refine Lib.wpList_append_run _ rfl _ _ _ _ rfl _ _ rfl rfl _ _ (hrz _) ?_)
    | (refine wpList_copyK rfl (.tmp 43) (.tmp 44) 84 84 rfl 102 Tryz.underlying84 info8 (by decide) (some ⟨w.heap.size, i * 8, none⟩) (some ⟨vb, 0, none⟩) (l.length + 1 - i) (G - i) 1 1 rfl rfl w.heap.size (i * 8) (cellsOf icells (l.take i) ++ Z) 102 H.out.1 (cellsOf icells [x]) (by rw [show Nat.min 1 (l.length + 1 - i) = 1 from Nat.min_eq_left (by omega)]; rfl) (fun _ => ⟨rfl, _, rfl, H.out.2.2.1⟩) (by rw [List.length_append, H.out.2.2.2.2.1, H.out.2.2.2.2.2.1]; show i * 8 + 8 ≤ _; omega) (cellsOf_one _) ?_; intro w2 m2 HG2 only2))
  have ON2 : Hid (Below w.heap.size w w2 ∧ w2.heap[g]? = some (.cells (cellsOf icells l ++ T).toArray 102 (0, 0)) ∧ (splice (cellsOf icells (l.take i) ++ Z) (i * 8) (cellsOf icells [x])).length = G * 8) := by
    refine ⟨⟨only2.os.trans H.out.2.1.os, only2.tape.trans H.out.2.1.tape, only2.output.trans H.out.2.1.output, by rw [only2.size]; exact H.out.2.1.size, fun k hk => (only2.block k (by omega)).trans (H.out.2.1.block k hk)⟩, by rw [only2.block g (by omega)]; exact H.out.2.2.2.1, ?_⟩
    rw [length_splice _ _ _ (by rw [List.length_append, H.out.2.2.2.2.1, H.out.2.2.2.2.2.1]; show i * 8 + 8 ≤ _; omega), List.length_append, H.out.2.2.2.2.1, H.out.2.2.2.2.2.1]
    omega
  have S2 : Hid (∀ j v, (cellsOf icells (l.drop i))[j]? = some v → w2.cell? ((⟨g, i * 8, none⟩ : Addr).add j) = some v) := fun j v hj => by
    rw [Addr.add_lit, cell_of_list ON2.out.2.1, H.out.2.2.2.2.2.2.2, List.append_assoc, List.getElem?_append_right (by rw [H.out.2.2.2.2.2.1]; omega), H.out.2.2.2.2.2.1, List.getElem?_append_left (by have := (List.getElem?_eq_some_iff.1 hj).1; omega)]
    rw [show i * 8 + j - i * 8 = j by omega]
    exact hj
  clear only2
  go_region_law (refine step_copyK rfl (.tmp 50) (.tmp 53) 84 84 rfl 102 Tryz.underlying84 info8 (by decide) (some ⟨w.heap.size, (i + 1) * 8, none⟩) (some ⟨g, i * 8, none⟩) (l.length - i) (G - (i + 1)) (l.length - i) (l.length - i) (by simp [Act.eval, Act.put]) (by simp [Act.eval, Act.put]) w.heap.size ((i + 1) * 8) (splice (cellsOf icells (l.take i) ++ Z) (i * 8) (cellsOf icells [x])) 102 HG2.out (cellsOf icells (l.drop i)) (by rw [H.out.2.2.2.2.2.2.1, show Nat.min (l.length - i) (l.length - i) = l.length - i from Nat.min_self _]) (fun _ => ⟨rfl, _, rfl, S2.out⟩) (by rw [ON2.out.2.2, H.out.2.2.2.2.2.2.1]; omega) (cellsOf_one _) ?_; intro w3 m3 HG3 only3)
  go_wp2
  go_ret
  refine ⟨_, rfl, ownOf_mk (R := (splice (cellsOf icells (l.take i) ++ Z) (i * 8) (cellsOf icells [x])).drop ((i + 1) * 8 + (cellsOf icells (l.drop i)).length)) (Nat.le_refl _) ?_ ?_ ?_ hGm ?_, ?_⟩
  · rw [HG3.out]
    congr 2
    congr 1
    have e1 := splice_in (cellsOf icells (l.take i) ++ Z) (cellsOf icells (l.take i)) Z (cellsOf icells [x]) 0 (i * 8) rfl (by rw [H.out.2.2.2.2.2.1]; omega)
    rw [List.take_zero, List.nil_append, ← List.append_assoc] at e1
    have h4 : (cellsOf icells (l.take i) ++ cellsOf icells [x]).length = (i + 1) * 8 := by
      rw [List.length_append, H.out.2.2.2.2.2.1]; show i * 8 + 8 = _; omega
    rw [splice_in _ _ _ (cellsOf icells (l.drop i)) 0 ((i + 1) * 8) e1 (by rw [h4]; omega), e1]
    rw [drop_more h4, cellsOf_append, cellsOf_cons]
    simp [cellsOf_cons, cellsOf_nil]
  · simp; omega
  · simp; omega
  · rw [List.length_drop, ON2.out.2.2, H.out.2.2.2.2.2.2.1]; simp; omega
  · exact ⟨only3.os.trans ON2.out.1.os, only3.tape.trans ON2.out.1.tape, only3.output.trans ON2.out.1.output, by rw [only3.size]; exact ON2.out.1.size, fun k hk => (only3.block k (by omega)).trans (ON2.out.1.block k hk)⟩

set_option maxHeartbeats 1000000 in
/-- At the end. -/
theorem insert_end (base vb : Nat) (x : It) (v : Value) (l : List It) (w : World) (hown : Own8 w base v l) (hlen : l.length ≤ 1000000) (hb : base ≤ w.heap.size)
    (hx : w.heap[vb]? = some (.cells (icells x).toArray 102 (0, 0))) :
    Calls Tryz.prog 251 #[v, .int .i64 l.length, .slice (some ⟨vb, 0, none⟩) 1 1] w fun e w' =>
      ∃ v', e = .returned v' ∧ Own8 w' base v' (l ++ [x]) ∧ w.grownBy w' v.ownBlock ∧ NewOr w v v' := by
  rcases hown.split with ⟨rfl, rfl⟩ | ⟨g, c, T, rfl, hbg, hg, h1, h2, hT⟩
  · have HX : Hid (∀ j v, (cellsOf icells [x])[j]? = some v → w.cell? ((⟨vb, 0, none⟩ : Addr).add j) = some v) := one_src hx
    obtain ⟨i0, hi0, hz0, hzs, hzb⟩ := itemInfo
    clear hx hown
    go_enter Tryz.func251, Tryz.ntmps251
    go_wp2_with (at_builtin; refine wpList_append_grows _ rfl (.tmp 23) (.tmp 24) 84 rfl 102 i0 _ 8 88 Tryz.underlying84 hi0 hz0 hzs hzb rfl (by decide) none 0 0 [] rfl (fun _ => ⟨rfl, rfl⟩) rfl (fun b hb => by cases hb) ⟨vb, 0, none⟩ 1 1 (cellsOf icells [x]) rfl rfl HX.out (cellsOf_one _) (by omega) (by unfold maxLen; omega) (by omega) ?_; intro v' w' own' grown'; obtain ⟨va, vc, hva⟩ : ∃ a c, v' = .slice a 1 c := (by rcases own'.2 with ⟨_, h0⟩ | ⟨g, c, cur, h, _⟩; exact absurd h0 (by omega); exact ⟨_, _, h⟩); subst hva)
    all_goals go_ret
    all_goals (have own2 : Own8 w' w.heap.size (.slice va 1 vc) [x] := own')
    all_goals (refine ⟨_, rfl, own2.mono hb, ⟨grown'.os, grown'.tape, grown'.output, grown'.size, fun k hk _ => grown'.block k hk (by simp)⟩, .inr ?_⟩)
    all_goals (rcases own2.2 with ⟨_, h0⟩ | ⟨g2, c2, cur2, h3, h4, _⟩; exact absurd h0 (by simp); exact ⟨g2, by rw [h3]; rfl, h4⟩)
  · have hc63 : c ≤ 9223372036854775807 := by unfold maxLen at h2; omega
    have HX : Hid (∀ j v, (cellsOf icells [x])[j]? = some v → w.cell? ((⟨vb, 0, none⟩ : Addr).add j) = some v) := one_src hx
    obtain ⟨i0, hi0, hz0, hzs, hzb⟩ := itemInfo
    have hll := cellsOf_length (enc := icells) l
    by_cases hroom : l.length + 1 ≤ c
    · have HG : Hid (w.heap[g]? = some (.cells (cellsOf icells l ++ T).toArray 102 (0, 0)) ∧ T.length = c * 8 - l.length * 8 ∧ (cellsOf icells l).length = l.length * 8) := ⟨hg, hT, hll⟩
      clear hg hT hown hx hll
      go_enter Tryz.func251, Tryz.ntmps251
      go_wp2_with (at_builtin; refine wpList_appendK_room rfl (.tmp 23) (.tmp 24) 84 rfl 102 i0 Tryz.underlying84 hi0 hzs g l.length c rfl (cellsOf icells l ++ T) HG.out.1 ⟨vb, 0, none⟩ 1 1 rfl (cellsOf icells [x]) rfl HX.out (cellsOf_one _) hroom (by rw [List.length_append, HG.out.2.1, HG.out.2.2]; show l.length * 8 + 8 ≤ _; omega) ?_; intro w1 HG1 only1)
      all_goals go_ret
      all_goals (refine ⟨_, rfl, ownOf_mk (R := T.drop 8) hbg ?_ (by simp) (by simp; omega) h2 (by simp [HG.out.2.1]; omega), only1.grown, .inl rfl⟩)
      all_goals (rw [HG1.out, splice_in (cellsOf icells l ++ T) (cellsOf icells l) T (cellsOf icells [x]) 0 (l.length * 8) rfl (by rw [HG.out.2.2]; omega), cellsOf_append]; simp [cellsOf_cons, cellsOf_nil]; rfl)
    · have hcc : c = l.length := by omega
      subst hcc
      have HC : Hid (∀ j u, (cellsOf icells l)[j]? = some u → w.cell? ((⟨g, 0, none⟩ : Addr).add j) = some u) := fun j u hj => by
        rw [Addr.add_lit, Nat.zero_add, cell_of_list hg, List.getElem?_append_left (by exact (List.getElem?_eq_some_iff.1 hj).1)]
        exact hj
      clear hg hT hown hx
      go_enter Tryz.func251, Tryz.ntmps251
      go_wp2_with (at_builtin; refine wpList_append_grows _ rfl (.tmp 23) (.tmp 24) 84 rfl 102 i0 _ 8 88 Tryz.underlying84 hi0 hz0 hzs hzb rfl (by decide) (some ⟨g, 0, none⟩) l.length l.length (cellsOf icells l) rfl (fun h => by cases h) hll (fun b hb => by injection hb with hb; subst hb; exact HC.out) ⟨vb, 0, none⟩ 1 1 (cellsOf icells [x]) rfl rfl HX.out (cellsOf_one _) (by omega) (by unfold maxLen; omega) (by omega) ?_; intro v' w' own' grown'; obtain ⟨va, vc, hva⟩ : ∃ a c, v' = .slice a (l.length + 1) c := (by rcases own'.2 with ⟨_, h0⟩ | ⟨g, c, cur, h, _⟩; exact absurd h0 (by omega); exact ⟨_, _, h⟩); subst hva)
      all_goals go_ret
      all_goals (have own2 : Own8 w' w.heap.size (.slice va (l.length + 1) vc) (l ++ [x]) := (by unfold Own8 OwnOf; rw [cellsOf_append, List.length_append]; exact own'))
      all_goals (refine ⟨_, rfl, own2.mono hb, ⟨grown'.os, grown'.tape, grown'.output, grown'.size, fun k hk _ => grown'.block k hk (by simp)⟩, .inr ?_⟩)
      all_goals (rcases own2.2 with ⟨_, h0⟩ | ⟨g2, c2, cur2, h3, h4, _⟩; exact absurd h0 (by simp); exact ⟨g2, by rw [h3]; rfl, h4⟩)

/-- slices.Insert of one range. -/
theorem insert_any (base vb i : Nat) (x : It) (v : Value) (l : List It) (w : World) (hown : Own8 w base v l) (hi : i ≤ l.length) (hlen : l.length ≤ 1000000) (hb : base ≤ w.heap.size)
    (hx : w.heap[vb]? = some (.cells (icells x).toArray 102 (0, 0))) (hne : v.ownBlock ≠ some vb) :
    Calls Tryz.prog 251 #[v, .int .i64 i, .slice (some ⟨vb, 0, none⟩) 1 1] w fun e w' =>
      ∃ v', e = .returned v' ∧ Own8 w' base v' (l.take i ++ x :: l.drop i) ∧ w.grownBy w' v.ownBlock ∧ NewOr w v v' := by
  rcases Nat.eq_or_lt_of_le hi with rfl | hlt
  · rw [List.take_length, List.drop_length]
    exact insert_end base vb x v l w hown hlen hb hx
  · rcases hown.split with ⟨rfl, rfl⟩ | ⟨g, c, T, rfl, hbg, hg, h1, h2, hT⟩
    · simp at hlt
    · by_cases hroom : l.length + 1 ≤ c
      · refine (insert_shift g c i vb x l T w hg hlt hroom h2 hT hx (fun h => hne (by rw [h]; rfl))).mono ?_
        rintro e w' ⟨rfl, only, T', hg', hT'⟩
        refine ⟨_, rfl, ownOf_mk hbg hg' (by simp; omega) (by simp; omega) h2 (by rw [hT']; simp; omega), only.grown, .inl rfl⟩
      · obtain rfl : c = l.length := by omega
        refine (insert_grow g i vb x l w T hg hlt hlen hx).mono ?_
        rintro e w' ⟨v', rfl, own, bel⟩
        refine ⟨_, rfl, own.mono hb, ⟨bel.os, bel.tape, bel.output, bel.size, fun k hk _ => bel.block k hk⟩, .inr ?_⟩
        rcases own.2 with ⟨_, h0⟩ | ⟨g2, c2, cur2, h3, h4, _⟩
        · simp at h0
        · exact ⟨g2, by rw [h3]; rfl, h4⟩
end Go.Proofs.YtjagaankkcbjmaaGreatDoor.F

/-
  slices.Delete of the first item, by its contract.
-/
namespace Go.Proofs.YtjagaankkcbjmaaGreatDoor.K
end Go.Proofs.YtjagaankkcbjmaaGreatDoor.K
namespace Go.Proofs.YtjagaankkcbjmaaGreatDoor.F
open Go.Proofs.YtjagaankkcbjmaaGreatDoor.K
open Go.RowKit



end Go.Proofs.YtjagaankkcbjmaaGreatDoor.F
