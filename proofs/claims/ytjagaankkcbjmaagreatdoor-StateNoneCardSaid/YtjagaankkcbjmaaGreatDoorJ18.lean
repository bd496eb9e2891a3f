/-
  HOW FAR IT IS, level by level, edge by edge; where edges lead; who is within. Of no program.
-/
import Derived.Test.YtjagaankkcbjmaaGreatDoorJ17
import Derived.Test.YtjagaankkcbjmaaGreatDoorJ1
import Derived.Sort.Grow
import Derived.Shelf.SlSortCmp.QuietGrown
import Derived.BigQuiet
import Derived.Test.YtjagaankkcbjmaaGreatDoorJ4
import Derived.Test.YtjagaankkcbjmaaGreatDoorProg
import Derived.Test.YtjagaankkcbjmaaGreatDoorJ6
import Derived.Lib.LaidTab
import Derived.Deep.Light
import Derived.Outline
import Derived.Test.YtjagaankkcbjmaaGreatDoorJ3
namespace Go.Proofs.YtjagaankkcbjmaaGreatDoor.K
end Go.Proofs.YtjagaankkcbjmaaGreatDoor.K
namespace Go.Proofs.YtjagaankkcbjmaaGreatDoor.O
open Go.Proofs.YtjagaankkcbjmaaGreatDoor.K

/-- Behind k edges of the level L + 1. -/
def mid (E : List (Int × Int)) (a : Int) (L k : Nat) (x : Int) : Int :=
  if 0 ≤ upto E a L x then upto E a L x else if ((E.take k).any fun e => R E a L e.1 && e.2 == x) then (L : Int) + 1 else -1
theorem mid_start (E : List (Int × Int)) (a : Int) (L : Nat) (x : Int) : mid E a L 0 x = upto E a L x := by
  have := upto_range E a L x
  unfold mid
  by_cases h : 0 ≤ upto E a L x
  · rw [if_pos h]
  · rw [if_neg h]; simp; omega
theorem take_any {E : List (Int × Int)} {k : Nat} (hk : k < E.length) (p : Int × Int → Bool) : (E.take (k + 1)).any p = ((E.take k).any p || p E[k]) := by
  rw [List.take_succ_eq_append_getElem hk, List.any_append]; simp
theorem mid_hit {E : List (Int × Int)} {a : Int} {L k : Nat} (hk : k < E.length) (h1 : mid E a L k E[k].1 = L) (h2 : mid E a L k E[k].2 = -1) (x : Int) : mid E a L (k + 1) x = if x = E[k].2 then (L : Int) + 1 else mid E a L k x := by
  have hr : R E a L E[k].1 = true := by
    unfold mid at h1
    split at h1
    · rename_i h0; exact (upto_le (Nat.le_refl _)).2 ⟨h0, by omega⟩
    · split at h1 <;> omega
  by_cases hx : x = E[k].2
  · subst hx
    rw [if_pos rfl]
    unfold mid at h2 ⊢
    split at h2
    · omega
    · rename_i h0
      rw [if_neg h0, take_any hk, hr]; simp
  · rw [if_neg hx]
    unfold mid
    rw [take_any hk]
    have : (E[k].2 == x) = false := by simpa using fun h => hx h.symm
    rw [this, Bool.and_false, Bool.or_false]
theorem mid_miss {E : List (Int × Int)} {a : Int} {L k : Nat} (hk : k < E.length) (h : ¬ (mid E a L k E[k].1 = L ∧ mid E a L k E[k].2 = -1)) (x : Int) : mid E a L (k + 1) x = mid E a L k x := by
  by_cases h0 : 0 ≤ upto E a L x
  · unfold mid; rw [if_pos h0, if_pos h0]
  · have hx0 := upto_range E a L x
    by_cases hx : E[k].2 = x
    · by_cases hr : R E a L E[k].1 = true
      · have hu := (upto_le (L := L) (Nat.le_refl _)).1 hr
        have h1 : upto E a L E[k].1 = L := by
          apply Classical.byContradiction
          intro hne
          have hm := (upto_le (L := L) (E := E) (a := a) (x := E[k].1) (n := (upto E a L E[k].1).toNat) (by omega)).2 (by omega)
          have hm2 : R E a ((upto E a L E[k].1).toNat + 1) x = true := R_succ.2 (.inr ⟨E[k], List.getElem_mem hk, hm, hx⟩)
          have := (upto_le (L := L) (by omega)).1 hm2
          omega
        have hm1 : mid E a L k E[k].1 = L := by unfold mid; rw [if_pos (by omega), h1]
        have hm2 : mid E a L k E[k].2 ≠ -1 := fun h' => h ⟨hm1, h'⟩
        rw [hx] at hm2
        unfold mid at hm2 ⊢
        rw [if_neg h0] at hm2 ⊢
        rw [if_neg h0]
        split at hm2
        · rename_i ha
          rw [take_any hk, ha]; simp
        · exact absurd rfl hm2
      · unfold mid
        rw [take_any hk]
        have : R E a L E[k].1 = false := by simpa using hr
        rw [this, Bool.false_and, Bool.or_false]
    · unfold mid
      rw [take_any hk]
      have : (E[k].2 == x) = false := by simpa using hx
      rw [this, Bool.and_false, Bool.or_false]
theorem mid_end (E : List (Int × Int)) (a : Int) (L : Nat) (x : Int) : mid E a L E.length x = upto E a (L + 1) x := by
  have hr := upto_range E a L x
  symm
  unfold mid
  rw [List.take_length]
  by_cases h0 : 0 ≤ upto E a L x
  · rw [if_pos h0]
    refine upto_eq (by omega) (by omega) fun n hn => ?_
    by_cases hn' : n ≤ L
    · exact upto_le hn'
    · obtain rfl : n = L + 1 := by omega
      refine ⟨fun _ => ⟨h0, by omega⟩, fun _ => R_mono (by omega) ((upto_le (L := L) (Nat.le_refl _)).2 ⟨h0, hr.2⟩)⟩
  · rw [if_neg h0]
    have hno : ∀ n, n ≤ L → R E a n x = false := fun n hn => by
      cases hR : R E a n x
      · rfl
      · exact absurd ((upto_le hn).1 hR).1 h0
    by_cases ha : (E.any fun e => R E a L e.1 && e.2 == x) = true
    · rw [if_pos ha]
      refine upto_eq (by omega) (by omega) fun n hn => ?_
      by_cases hn' : n ≤ L
      · simp [hno n hn']; omega
      · obtain rfl : n = L + 1 := by omega
        refine ⟨fun _ => by omega, fun _ => ?_⟩
        rw [R, ha]; simp
    · rw [if_neg ha]
      refine upto_eq (by omega) (by omega) fun n hn => ?_
      by_cases hn' : n ≤ L
      · simp [hno n hn']
      · obtain rfl : n = L + 1 := by omega
        rw [R, hno L (Nat.le_refl _)]
        simp only [Bool.not_eq_true] at ha
        rw [ha]; simp
/-- A level that brings somebody new is not the last one that may be. -/
theorem level_lt {S : Int} {E : List (Int × Int)} {a : Int} (hE : ∀ e ∈ E, EdgeOk S e) (ha : 1 ≤ a ∧ a ≤ S) {L : Nat} {x : Int} (h : upto E a (L + 1) x = (L : Int) + 1) : (L : Int) + 1 < S := by
  have h1 := (upto_le (L := L + 1) (E := E) (a := a) (x := x) (Nat.le_refl _)).2 (by omega)
  have h2 := R_all hE ha _ _ h1
  apply Classical.byContradiction
  intro hn
  have h3 : R E a L x = true := R_mono (by omega) h2
  have := (upto_le (L := L + 1) (by omega)).1 h3
  omega
/-- A level that brings nobody new is the last one. -/
theorem level_last {S : Int} {E : List (Int × Int)} {a : Int} (hS : S ≤ 8) (hE : ∀ e ∈ E, EdgeOk S e) (ha : 1 ≤ a ∧ a ≤ S) {L : Nat} (h : ∀ x, 1 ≤ x → x ≤ 8 → upto E a (L + 1) x ≠ (L : Int) + 1) (x : Int) : upto E a (L + 1) x = far E a x := by
  have hst : ∀ x, R E a (L + 1) x = true → R E a L x = true := fun x hx => by
    have hs := R_site hE ha _ _ hx
    have h1 := (upto_le (L := L + 1) (Nat.le_refl _)).1 hx
    exact (upto_le (L := L + 1) (by omega)).2 ⟨h1.1, by have := h x hs.1 (by omega); omega⟩
  exact upto_same (fun n hn => R_mono (by omega) (R_stay hst n x (R_mono (by omega) hn))) (fun n hn => R_mono (by omega) (R_all hE ha n x hn))

/-- What Far tells. -/
def farT (S : Int) (E : List (Int × Int)) (H : Int) (a x : Int) : Int := if GoodT S E H ∧ (1 ≤ a ∧ a ≤ S) ∧ (1 ≤ x ∧ x ≤ S) then far E a x else -1
theorem farT_range (S : Int) (E : List (Int × Int)) (H : Int) (a x : Int) : -1 ≤ farT S E H a x ∧ farT S E H a x ≤ 8 := by
  unfold farT; have := far_range E a x; split <;> omega

/-- Where edges lead from a. -/
def nextL (S : Int) (E : List (Int × Int)) (a : Int) : List Int := (sites S).filter fun n => E.contains (a, n)
def nextT (S : Int) (E : List (Int × Int)) (H : Int) (a : Int) : List Int := if GoodT S E H then nextL S E a else []
theorem mem_nextL {S : Int} {E : List (Int × Int)} (hE : ∀ e ∈ E, EdgeOk S e) {a n : Int} : n ∈ nextL S E a ↔ (a, n) ∈ E := by
  simp only [nextL, List.mem_filter, mem_sites, List.contains_eq_mem, decide_eq_true_eq]
  exact ⟨fun h => h.2, fun h => ⟨(hE _ h).2.1, h⟩⟩
theorem nextL_lt (S : Int) (E : List (Int × Int)) (a : Int) : (nextL S E a).Pairwise (· < ·) := (sites_lt S).filter _
theorem next_perm {S : Int} {E : List (Int × Int)} {H : Int} (h : GoodT S E H) (a : Int) : ((E.filter fun e => e.1 == a).map (·.2)).Perm (nextL S E a) := by
  refine (List.perm_ext_iff_of_nodup ?_ (nodup_of_lt (nextL_lt S E a))).2 fun n => ?_
  · rw [List.Nodup, List.pairwise_map]
    refine List.Pairwise.imp_of_mem ?_ (h.2.2.filter fun e => e.1 == a)
    rintro ⟨x1, x2⟩ ⟨y1, y2⟩ hx hy hne hxy
    simp at hx hy hxy
    exact hne (by rw [hx.2, hy.2, hxy])
  · rw [mem_nextL h.2.1]
    simp
theorem sorted_unique {l m : List Int} (hp : l.Perm m) (hl : l.Pairwise (· ≤ ·)) (hm : m.Pairwise (· ≤ ·)) : l = m :=
  List.Perm.eq_of_pairwise (fun _ _ _ _ h1 h2 => Int.le_antisymm h1 h2) hl hm hp

/-- Who is within. -/
def withinT (S : Int) (E : List (Int × Int)) (H : Int) (a : Int) : List Int := (sites S).filter fun n => decide (0 ≤ farT S E H a n ∧ farT S E H a n ≤ H)
/-- Where it goes on. -/
def onwardT (S : Int) (E : List (Int × Int)) (H : Int) (a x : Int) : List Int := if 0 ≤ farT S E H a x ∧ farT S E H a x < H then (nextT S E H x).filter fun n => !(n == a) else []
/-- The greatest way. -/
def mostOf (S : Int) (E : List (Int × Int)) (H : Int) (m : Int) (a : Int) : List Int → Int := List.foldl (fun m b => max m (farT S E H a b)) m
def roundsT (S : Int) (E : List (Int × Int)) (H : Int) : Int := if GoodT S E H then (sites S).foldl (fun m a => mostOf S E H m a (withinT S E H a)) 0 else 0
end Go.Proofs.YtjagaankkcbjmaaGreatDoor.O

/-
  WHAT IS OF NO PROGRAM: the world behind draws and new blocks; an array in a block of its own, told by a function.
-/
namespace Go.Proofs.YtjagaankkcbjmaaGreatDoor.K
end Go.Proofs.YtjagaankkcbjmaaGreatDoor.K
namespace Go.Proofs.YtjagaankkcbjmaaGreatDoor.O
open Go.Proofs.YtjagaankkcbjmaaGreatDoor.K
open Go.RowKit Go.Sort

theorem below_grown_r (B : Nat) (w : World) (q : Nat) (os : Array Obj) (hB : B ≤ w.heap.size) : Below B w (grow (w.drewN q) os) :=
  ⟨rfl, rfl, rfl, by first | (simp [grow]; done) | (simp [grow]; omega), fun i hi => by
    show ((w.drewN q).heap ++ os)[i]? = _
    rw [Array.getElem?_append_left (by show i < w.heap.size; omega)]
    rfl⟩

/-- The world behind draws and with blocks laid behind it. -/
def Grew (w w' : World) : Prop := ∃ q os, w' = grow (w.drewN q) os
theorem Grew.refl (w : World) : Grew w w := ⟨0, #[], by rw [grow_empty]; rfl⟩
theorem Grew.trans {a b c : World} (h : Grew a b) (k : Grew b c) : Grew a c := by
  obtain ⟨q, os, rfl⟩ := h
  obtain ⟨q', os', rfl⟩ := k
  refine ⟨q + q', os ++ os', ?_⟩
  show grow (grow ((a.drewN q).drewN q') os) os' = _
  rw [grow_grow, World.drewN_drewN]
theorem Grew.alloc (w : World) (o : Obj) : Grew w (w.alloc o) := ⟨0, #[o], alloc_eq_grow w o⟩
theorem Grew.drewN (w : World) (q : Nat) : Grew w (w.drewN q) := ⟨q, #[], by rw [grow_empty]⟩
theorem Grew.below {w w' : World} {B : Nat} (h : Grew w w') (hB : B ≤ w.heap.size) : Below B w w' := by
  obtain ⟨q, os, rfl⟩ := h
  exact below_grown_r B w q os hB

/-- Block b is an array of n cells. -/
def Arr (w : World) (b : Nat) (t : TypeId) (n : Nat) (f : Nat → Value) : Prop := w.heap[b]? = some (.cells ((List.range n).map f).toArray t (0, 0))
theorem Arr.cell {w : World} {b : Nat} {t : TypeId} {n : Nat} {f : Nat → Value} (h : Arr w b t n f) {i : Nat} (hi : i < n) : w.cell? ⟨b, i, none⟩ = some (f i) := by
  rw [cell_of_row w b i _ t (0, 0) h]
  simp [hi]
theorem Arr.free {w : World} {b : Nat} {t : TypeId} {n : Nat} {f : Nat → Value} (h : Arr w b t n f) (i : Nat) : w.frozen? ⟨b, i, none⟩ = false := by
  have : w.heap[b]? = some (.cells ((List.range n).map f).toArray t (0, 0)) := h
  simp [World.frozen?, this]
theorem Arr.set {w : World} {b : Nat} {t : TypeId} {n : Nat} {f : Nat → Value} (h : Arr w b t n f) (k : Nat) (v : Value) : Arr (w.setCell ⟨b, k, none⟩ v) b t n (fun i => if i = k then v else f i) := by
  have h1 := heap_setCell_same w b k _ t v h
  unfold Arr
  rw [h1]
  congr 2
  apply Array.ext'
  apply List.ext_getElem?
  intro i
  simp only [Array.toList_setIfInBounds, List.getElem?_set, List.getElem?_map, List.length_map, List.length_range]
  by_cases hi : k = i
  · subst hi
    by_cases hn : k < n
    · simp [hn]
    · simp [hn]
  · rw [if_neg hi]
    by_cases hn : i < n
    · simp only [List.getElem?_range hn, Option.map_some]
      rw [if_neg (fun h : i = k => hi h.symm)]
    · simp [hn]
theorem Arr.same {w w' : World} {b : Nat} {t : TypeId} {n : Nat} {f : Nat → Value} (h : Arr w b t n f) (hs : w'.heap[b]? = w.heap[b]?) : Arr w' b t n f := by unfold Arr; rw [hs]; exact h
theorem Arr.lt {w : World} {b : Nat} {t : TypeId} {n : Nat} {f : Nat → Value} (h : Arr w b t n f) : b < w.heap.size := by
  rcases Nat.lt_or_ge b w.heap.size with hb | hb
  · exact hb
  · have : w.heap[b]? = none := by simpa using hb
    rw [Arr, this] at h; cases h
theorem Arr.below {w w' : World} {b B : Nat} {t : TypeId} {n : Nat} {f : Nat → Value} (h : Arr w b t n f) (hb : Below B w w') (hB : b < B) : Arr w' b t n f := h.same (hb.block b hB)
theorem Arr.congr {w : World} {b : Nat} {t : TypeId} {n : Nat} {f g : Nat → Value} (h : Arr w b t n f) (hg : ∀ i, i < n → g i = f i) : Arr w b t n g := by
  unfold Arr
  rw [show (List.range n).map g = (List.range n).map f from List.map_congr_left fun i hi => hg i (by simpa using hi)]
  exact h
end Go.Proofs.YtjagaankkcbjmaaGreatDoor.O

/-
  EDGES AND TOPOLOGIES, as cells.
-/
namespace Go.Proofs.YtjagaankkcbjmaaGreatDoor.K
end Go.Proofs.YtjagaankkcbjmaaGreatDoor.K
namespace Go.Proofs.YtjagaankkcbjmaaGreatDoor.O
open Go.Proofs.YtjagaankkcbjmaaGreatDoor.K
open Go.RowKit Go.Sort

def ecells (e : Int × Int) : List Value := [.int .i64 e.1, .int .i64 e.2]
abbrev ev (e : Int × Int) : Value := .agg #[.int .i64 e.1, .int .i64 e.2]
instance : Enc ecells 2 := ⟨fun _ => rfl, fun m u hu => by simp [ecells] at hu; rcases hu with rfl | rfl <;> rfl, by decide⟩
/-- An edge's two cells lie there. -/
structure EdAt (w : World) (b off : Nat) (x : Int × Int) : Prop where
  c0 : w.cell? ⟨b, off, none⟩ = some (.int .i64 x.1)
  c1 : w.cell? ⟨b, off + 1, none⟩ = some (.int .i64 x.2)
theorem row_ed {w : World} {b off : Nat} {l : List (Int × Int)} (h : ∀ j u, (cellsOf ecells l)[j]? = some u → w.cell? ⟨b, off + j, none⟩ = some u) (i : Nat) (hi : i < l.length) : EdAt w b (off + i * 2) l[i] :=
  ⟨by simpa using row_cell h i hi 0 (by decide) _ rfl, row_cell h i hi 1 (by decide) _ rfl⟩
theorem EdAt.below {w w' : World} {B b off : Nat} {x : Int × Int} (h : EdAt w b off x) (hb : Below B w w') (hB : w.heap.size ≤ B) : EdAt w' b off x := by
  have hl := World.block_lt_of_cell? _ _ h.c0
  have hl' : b < B := Nat.lt_of_lt_of_le hl hB
  exact ⟨(hb.cell (p := ⟨b, off, none⟩) hl').trans h.c0, (hb.cell (p := ⟨b, off + 1, none⟩) hl').trans h.c1⟩
theorem _root_.Go.Proofs.YtjagaankkcbjmaaGreatDoor.K.RowOf.eds {w : World} {a : Option Addr} {n cap : Nat} {l : List (Int × Int)} (h : RowOf ecells w (.slice a n cap) l) : n = l.length ∧ l.length ≤ maxLen ∧ ∀ i (hi : i < l.length), ∃ b off, a = some ⟨b, off, none⟩ ∧ EdAt w b (off + i * 2) l[i] := by
  have hn : n = l.length := by
    obtain ⟨a', cap', hv⟩ := h.slice
    injection hv
  have hcm : l.length ≤ maxLen := by
    rcases h with ⟨hv, rfl⟩ | ⟨_, _, hv, h1, h2, _⟩
    · exact Nat.zero_le _
    · omega
  refine ⟨hn, hcm, fun i hi => ?_⟩
  obtain ⟨b, off, cap', hv, _, _, hc⟩ := h.at (by omega)
  injection hv with hv1 _ _
  exact ⟨b, off, hv1, row_ed hc i hi⟩
/-- A topology, its edges a slice. -/
abbrev tv (S : Int) (v : Value) (H : Int) : Value := .agg #[.int .i64 S, v, .int .i64 H]

set_option maxRecDepth 20000 in
theorem known_any (S H n : Int) (a : Option Addr) (l c : Nat) (w : World) :
    Calls Tryz.prog 71 #[tv S (.slice a l c) H, .int .i64 n] w fun e w' => e = .returned (.bool (decide (1 ≤ n ∧ n ≤ S))) ∧ ∃ q os, w' = grow (w.drewN q) os := by
  go_enter Tryz.func71, Tryz.ntmps71
  go_wp2
  all_goals go_ret
  all_goals refine ⟨ret_bool ?_, Grew.alloc _ _⟩
  all_goals first | (simp_all; done) | (simp; omega)
end Go.Proofs.YtjagaankkcbjmaaGreatDoor.O

/-
  THE WALKS of package word and of the small functions of the document's answer.
-/
namespace Go.Proofs.YtjagaankkcbjmaaGreatDoor
open Go.RowKit

/-- A whole array read out of its variable, told by its cells. -/
theorem run_load_cells {P : Program} (w : World) (g : Nat) (ty : TypeId) (cs : List Value) (d : TypeDesc) (hc : ∀ j u, cs[j]? = some u → w.cell? ⟨g, j, none⟩ = some u)
    (hu : P.underlying ty = some d) (hd : (match d with | .struct _ | .array _ _ => true | _ => false) = true) (hi : (P.info? ty).map (·.size) = some cs.length) :
    (loadVar ty ⟨g, 0, none⟩).run P w = .ok (.agg cs.toArray) w := by
  have hl : (loadCells ⟨g, 0, none⟩ cs.length).run P w = .ok cs.toArray w :=
    run_loadCells_list (P := P) w ⟨g, 0, none⟩ cs (fun j v hv => by
      have hadd : (⟨g, 0, none⟩ : Addr).add j = ⟨g, j, none⟩ := by unfold Addr.add; split <;> simp_all
      rw [hadd]
      exact hc j v hv)
  cases hq : P.info? ty with
  | none => simp [hq] at hi
  | some i =>
    have hs : i.size = cs.length := by simpa [hq] using hi
    have hagg : (isAgg ty).run P w = .ok true w := by
      unfold isAgg
      rw [Sem.run_bind, run_underlying hu w]
      cases d <;> simp_all
    simp [loadVar, Sem.run_bind, hagg, sizeOf, typeInfo, hq, hs, hl]

theorem wpList_load_cells {P : Program} {ops : Array Oper} {rest : List Oper} {o : Oper} {a : Act} {w : World} {Q : Exit → Act → World → Prop} (hgd : o.guard = none) (ty : TypeId) (x : Operand) (ho : o.op = .load ty x)
    (g : Nat) (hx : a.eval x = .pointer (some ⟨g, 0, none⟩)) (cs : List Value) (d : TypeDesc) (hc : ∀ j u, cs[j]? = some u → w.cell? ⟨g, j, none⟩ = some u)
    (hu : P.underlying ty = some d) (hd : (match d with | .struct _ | .array _ _ => true | _ => false) = true) (hi : (P.info? ty).map (·.size) = some cs.length)
    (h : wpList P ops Q rest (a.put o.dst (.agg cs.toArray)) w) : wpList P ops Q (o :: rest) a w :=
  wpList_plain hgd fun _ hK => by
    unfold Oper.wp execOp
    simp only [ho, hx, Instr.loadAt, Instr.sureAddr, Sem.run_bind, Sem.run_pure, Result.andThen_ok, run_load_cells w g ty cs d hc hu hd hi]
    exact hK _ _ h




def goodB (n : Int) : Bool := n == 1 || n == 2 || n == 4 || n == 8

/-- The lowest bytes. -/
def cutI (v n : Int) : Int := if n = 1 then v % 256 else if n = 2 then v % 65536 else if n = 4 then v % 4294967296 else if n = 8 then v else 0
/-- They, with a sign. -/
def signedI (v n : Int) : Int := if n = 1 then (v + 128) % 256 - 128 else if n = 2 then (v + 32768) % 65536 - 32768 else if n = 4 then (v + 2147483648) % 4294967296 - 2147483648 else if n = 8 then (v + 9223372036854775808) % 18446744073709551616 - 9223372036854775808 else 0


def fitsB (n k : Int) : Bool := goodB k && (signedI (n % 18446744073709551616) k == n)

def farI (a b : Int) : Int := (b - a + 32768) % 65536 - 32768
def moveI (a n : Int) : Int := (a + n) % 65536

def lessB (a b : Int) : Bool := decide (0 < farI a b)

end Go.Proofs.YtjagaankkcbjmaaGreatDoor

/-
  THE WALK of Put: a number behind bytes.
-/
namespace Go.Proofs.YtjagaankkcbjmaaGreatDoor
open Go.RowKit

/-- The n lowest bytes of v, the highest first. -/
def putL (n v : Nat) : List UInt8 := (List.range n).map fun i => UInt8.ofNat (v >>> (8 * (n - 1 - i)))


/-- The bytes of a number of a width; none where it is no width. -/
def putI (n : Int) (v : Nat) : List UInt8 := if goodB n then putL n.toNat v else []

end Go.Proofs.YtjagaankkcbjmaaGreatDoor

/-
  THE WALK of the document's Put.
-/
namespace Go.Proofs.YtjagaankkcbjmaaGreatDoor
open Go.RowKit

end Go.Proofs.YtjagaankkcbjmaaGreatDoor

/-
  THE WALKS of Get and of the document's Get.
-/
namespace Go.Proofs.YtjagaankkcbjmaaGreatDoor
open Go.RowKit

/-- The number that the bytes are, the highest first. -/
def getN (bs : List UInt8) : Nat := bs.foldl (fun a b => a * 256 + b.toNat) 0

theorem Holds.slice {w : World} {v : Value} {bs : List UInt8} (h : Holds w v bs) : ∃ a cap, v = .slice a bs.length cap := by
  rcases h with ⟨rfl, rfl⟩ | ⟨a, cap, rfl, _⟩
  · exact ⟨_, _, rfl⟩
  · exact ⟨_, _, rfl⟩
/-- Bytes that are there lie at plain addresses. -/
theorem Holds.at {w : World} {v : Value} {bs : List UInt8} (h : Holds w v bs) (hp : 0 < bs.length) :
    ∃ b off cap, v = .slice (some ⟨b, off, none⟩) bs.length cap ∧ bs.length ≤ cap ∧ cap ≤ maxLen ∧ ∀ j (hj : j < bs.length), w.cell? ⟨b, off + j, none⟩ = some (.int .u8 (bs[j].toNat : Int)) := by
  rcases h with ⟨rfl, rfl⟩ | ⟨a, cap, rfl, h1, h2, h3⟩
  · simp at hp
  · obtain ⟨b, off, spot⟩ := a
    have h0 := h3 0 (.int .u8 (bs[0].toNat : Int)) (by simp [bcells, hp])
    have hspot : spot = none := by simpa [Addr.add] using World.cell?_spot h0
    subst hspot
    refine ⟨b, off, cap, rfl, h1, h2, fun j hj => ?_⟩
    rw [← Go.WideShapes.add_plain]
    exact h3 j _ (by simp [bcells, hj])


end Go.Proofs.YtjagaankkcbjmaaGreatDoor

/-
  ACTS AND MESSAGES, told plainly: which are good, their bytes. Of no program but for the words of layers 1 and 5.
-/
namespace Go.Proofs.YtjagaankkcbjmaaGreatDoor
open Go.RowKit

/-- A message. -/
structure Ms where
  origin : Int
  seq : Int
  hop : Int
  ex : ByteArray
  key : ByteArray
  body : ByteArray
  deriving DecidableEq
/-- An act. -/
structure Ax where
  kind : Int
  name : ByteArray
  n : Int
  tag : Int
  to : Int
  xn : ByteArray
  xk : Int
  xf : Bool
  be : ByteArray
  bq : ByteArray
  bp : ByteArray
  m : Ms
  deriving DecidableEq
def mcells (m : Ms) : List Value := [.int .i64 m.origin, .int .u64 m.seq, .int .i64 m.hop, .string m.ex, .string m.key, .string m.body]
abbrev mv (m : Ms) : Value := .agg #[.int .i64 m.origin, .int .u64 m.seq, .int .i64 m.hop, .string m.ex, .string m.key, .string m.body]
def xcells (a : Ax) : List Value := [.int .i64 a.kind, .string a.name, .int .i64 a.n, .int .u64 a.tag, .int .i64 a.to, .string a.xn, .int .i64 a.xk, .bool a.xf, .string a.be, .string a.bq, .string a.bp, .int .i64 a.m.origin, .int .u64 a.m.seq, .int .i64 a.m.hop, .string a.m.ex, .string a.m.key, .string a.m.body]
abbrev av (a : Ax) : Value := .agg #[.int .i64 a.kind, .string a.name, .int .i64 a.n, .int .u64 a.tag, .int .i64 a.to, .string a.xn, .int .i64 a.xk, .bool a.xf, .string a.be, .string a.bq, .string a.bp, .int .i64 a.m.origin, .int .u64 a.m.seq, .int .i64 a.m.hop, .string a.m.ex, .string a.m.key, .string a.m.body]
def zM : Ms := ⟨0, 0, 0, ⟨#[]⟩, ⟨#[]⟩, ⟨#[]⟩⟩
def zA (k : Int) : Ax := ⟨k, ⟨#[]⟩, 0, 0, 0, ⟨#[]⟩, 0, false, ⟨#[]⟩, ⟨#[]⟩, ⟨#[]⟩, zM⟩
/-- How long its texts can be, and its numbers. -/
structure Ms.Fits (m : Ms) : Prop where
  o : -9223372036854775808 ≤ m.origin ∧ m.origin < 9223372036854775808
  s : 0 ≤ m.seq ∧ m.seq < 18446744073709551616
  h : -9223372036854775808 ≤ m.hop ∧ m.hop < 9223372036854775808
  e : m.ex.size ≤ maxLen
  k : m.key.size ≤ maxLen
  b : m.body.size ≤ maxLen
structure Ax.Fits (a : Ax) : Prop where
  k : -9223372036854775808 ≤ a.kind ∧ a.kind < 9223372036854775808
  nm : a.name.size ≤ maxLen
  n : -9223372036854775808 ≤ a.n ∧ a.n < 9223372036854775808
  t : 0 ≤ a.tag ∧ a.tag < 18446744073709551616
  to : -9223372036854775808 ≤ a.to ∧ a.to < 9223372036854775808
  xn : a.xn.size ≤ maxLen
  xk : -9223372036854775808 ≤ a.xk ∧ a.xk < 9223372036854775808
  be : a.be.size ≤ maxLen
  bq : a.bq.size ≤ maxLen
  bp : a.bp.size ≤ maxLen
  m : a.m.Fits
def inB (n lo hi : Int) : Bool := decide (lo ≤ n) && decide (n ≤ hi)
def goodM (m : Ms) : Bool := inB m.origin 1 8 && decide (1 ≤ m.seq) && inB m.hop 0 8 && nameB (txt m.ex) && keyB (txt m.key) && decide ((m.body.size : Int) ≤ 200)
def goodX (n : ByteArray) (k : Int) : Bool := inB k 1 3 && nameB (txt n)
def goodBd (e q p : ByteArray) : Bool := nameB (txt e) && nameB (txt q) && decide ((p.size : Int) ≤ 60)
/-- The letters that a kind names. -/
def lettersL (k : Int) : Option (List UInt8) :=
  if k = 1 then some [110, 100] else if k = 2 then some [110] else if k = 3 then some [120] else if k = 4 then some [110] else if k = 5 then some [98] else if k = 6 then some [98] else if k = 7 then some [109] else if k = 8 then some [110] else if k = 9 then some [110, 116] else if k = 10 then some [110, 116] else if k = 11 then some [115, 99] else if k = 12 then some [] else none
/-- May that which a letter stands for be so? -/
def fitsA (a : Ax) (c : UInt8) : Bool :=
  if c = 110 then nameB (txt a.name) else if c = 100 then inB a.n 1 1000 else if c = 99 then inB a.n 1 200 else if c = 116 then decide (1 ≤ a.tag) else if c = 115 then inB a.to 1 8 else if c = 120 then goodX a.xn a.xk else if c = 98 then goodBd a.be a.bq a.bp else if c = 109 then goodM a.m else false
/-- One letter more of an act. -/
def onlyS (a z : Ax) (c : UInt8) : Ax :=
  if c = 110 then { z with name := a.name } else if c = 100 ∨ c = 99 then { z with n := a.n } else if c = 116 then { z with tag := a.tag } else if c = 115 then { z with to := a.to } else if c = 120 then { z with xn := a.xn, xk := a.xk, xf := a.xf } else if c = 98 then { z with be := a.be, bq := a.bq, bp := a.bp } else if c = 109 then { z with m := a.m } else z
def onlyL (a : Ax) (l : List UInt8) : Ax := l.foldl (onlyS a) (zA a.kind)
def goodA (a : Ax) : Bool := match lettersL a.kind with
  | none => false
  | some l => l.all (fitsA a) && decide (a = onlyL a l)
/-- A text's bytes. -/
def textL (s : ByteArray) : List UInt8 := putL 2 (min s.size 65535) ++ (txt s).take 65535
/-- A number as its 64 bits. -/
def u64 (n : Int) : Nat := (n % 18446744073709551616).toNat
def bytesM (m : Ms) : List UInt8 := putL 1 (u64 m.origin) ++ putL 8 m.seq.toNat ++ putL 1 (u64 m.hop) ++ textL m.ex ++ textL m.key ++ textL m.body
def exL (n : ByteArray) (k : Int) (f : Bool) : List UInt8 := textL n ++ putL 1 (u64 k) ++ putL 1 (if f then 1 else 0)
def bdL (e q p : ByteArray) : List UInt8 := textL e ++ textL q ++ textL p
/-- The bytes of that which a letter stands for. -/
def putS (a : Ax) (c : UInt8) : List UInt8 :=
  if c = 110 then textL a.name else if c = 100 ∨ c = 99 then putL 2 (u64 a.n) else if c = 116 then putL 8 a.tag.toNat else if c = 115 then putL 1 (u64 a.to) else if c = 120 then exL a.xn a.xk a.xf else if c = 98 then bdL a.be a.bq a.bp else if c = 109 then bytesM a.m else []
def bytesA (a : Ax) : List UInt8 := if goodA a then (match lettersL a.kind with
  | none => []
  | some l => putL 1 (u64 a.kind) ++ l.flatMap (putS a)) else []
end Go.Proofs.YtjagaankkcbjmaaGreatDoor
