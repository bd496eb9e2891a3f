/-
  THE SHELF's CONTRACTS of slices.DeleteFunc at texts, at this dump.
-/
import Derived.Shelf.SlicesE.DeleteFunc
import Derived.Test.YtjagaankkcbjmaaGreatDoorProg
import Derived.Test.YtjagaankkcbjmaaGreatDoorJ23
import Derived.Test.YtjagaankkcbjmaaGreatDoorJ6
import Derived.Lib.SlicesCompact
import Derived.Test.YtjagaankkcbjmaaGreatDoorJ3
import Derived.Laws.OwnMore
import Derived.Deep.QuietTactic
import Derived.BigQuiet
namespace Go.Proofs
open Go.Shelf
def Tryz.delS_ren : Go.Shelf.Ren := ⟨fun | 10 => 106 | 6 => 191 | n => n, fun | 22 => 43 | 23 => 9 | 25 => 161 | 3 => 3 | 4 => 4 | 0 => 0 | n => n, fun | n => n⟩
theorem Tryz.delS : Go.Proofs.SlLaysH.n10 Tryz.prog Tryz.delS_ren := {
  mixed := by kernel_rfl
  f6 := ⟨Tryz.f191.name, by decide, Tryz.func191.trans (congrArg some (by kernel_rfl))⟩
  f10 := ⟨Tryz.f106.name, by decide, Tryz.func106.trans (congrArg some (by kernel_rfl))⟩
  t0 := Tryz.underlying0
  a0 := Tryz.isAgg0
  z0 := Tryz.sizeOf0
  v0 := Tryz.zeroValue0
  t3 := Tryz.underlying3
  a3 := Tryz.isAgg3
  z3 := Tryz.sizeOf3
  v3 := Tryz.zeroValue3
  t4 := Tryz.underlying4
  a4 := Tryz.isAgg4
  z4 := Tryz.sizeOf4
  v4 := Tryz.zeroValue4
  t22 := Tryz.underlying43
  a22 := Tryz.isAgg43
  z22 := Tryz.sizeOf43
  v22 := Tryz.zeroValue43
  a23 := Tryz.isAgg9
  z23 := Tryz.sizeOf9
  t25 := Tryz.underlying161
  a25 := Tryz.isAgg161
  z25 := Tryz.sizeOf161
  v25 := Tryz.zeroValue161 }
end Go.Proofs

/-
  THE DOCUMENT's TABLE in memory; its Good, may, Find, Has, ahead, by their contracts.
-/
namespace Go.Proofs.YtjagaankkcbjmaaGreatDoor.K
end Go.Proofs.YtjagaankkcbjmaaGreatDoor.K
namespace Go.Proofs.YtjagaankkcbjmaaGreatDoor.B
open Go.Proofs.YtjagaankkcbjmaaGreatDoor.K
open Go.RowKit Go.Sort

structure XeAt (w : World) (b off : Nat) (x : Ex) : Prop where
  c0 : w.cell? ⟨b, off, none⟩ = some (.string x.name)
  c1 : w.cell? ⟨b, off + 1, none⟩ = some (.int .i64 x.kind)
  c2 : w.cell? ⟨b, off + 2, none⟩ = some (.bool x.fed)
structure BeAt (w : World) (b off : Nat) (x : Bd) : Prop where
  c0 : w.cell? ⟨b, off, none⟩ = some (.string x.ex)
  c1 : w.cell? ⟨b, off + 1, none⟩ = some (.string x.que)
  c2 : w.cell? ⟨b, off + 2, none⟩ = some (.string x.pat)
theorem XeAt.below {w w' : World} {B b off : Nat} {x : Ex} (h : XeAt w b off x) (hb : Below B w w') (hB : w.heap.size ≤ B) : XeAt w' b off x := by
  have hl' : b < B := Nat.lt_of_lt_of_le (World.block_lt_of_cell? _ _ h.c0) hB
  exact ⟨(hb.cell (p := ⟨b, off, none⟩) hl').trans h.c0, (hb.cell (p := ⟨b, off + 1, none⟩) hl').trans h.c1, (hb.cell (p := ⟨b, off + 2, none⟩) hl').trans h.c2⟩
theorem BeAt.below {w w' : World} {B b off : Nat} {x : Bd} (h : BeAt w b off x) (hb : Below B w w') (hB : w.heap.size ≤ B) : BeAt w' b off x := by
  have hl' : b < B := Nat.lt_of_lt_of_le (World.block_lt_of_cell? _ _ h.c0) hB
  exact ⟨(hb.cell (p := ⟨b, off, none⟩) hl').trans h.c0, (hb.cell (p := ⟨b, off + 1, none⟩) hl').trans h.c1, (hb.cell (p := ⟨b, off + 2, none⟩) hl').trans h.c2⟩
theorem _root_.Go.Proofs.YtjagaankkcbjmaaGreatDoor.K.RowOf.bds {w : World} {a : Option Addr} {n cap : Nat} {l : List Bd} (h : RowOf bcells w (.slice a n cap) l) : ∀ i (hi : i < l.length), ∃ b off, a = some ⟨b, off, none⟩ ∧ BeAt w b (off + i * 3) l[i] := fun i hi => by
  obtain ⟨b, off, cap', hv, _, _, hc⟩ := h.at (by omega)
  injection hv with hv1 _ _
  exact ⟨b, off, hv1, ⟨by simpa using row_cell hc i hi 0 (by decide) _ rfl, row_cell hc i hi 1 (by decide) _ rfl, row_cell hc i hi 2 (by decide) _ rfl⟩⟩

structure RTAt (w : World) (p : Nat) (vx vb : Value) (s : Tb) : Prop where
  blk : w.heap[p]? = some (.cells #[vx, vb] 61 (0, 0))
  x : RowOf xcells w vx s.xs
  b : RowOf bcells w vb s.bs
  nx : vx.ownBlock ≠ some p
  nb : vb.ownBlock ≠ some p
def rfootT (p : Nat) (vx vb : Value) (k : Nat) : Prop := k = p ∨ vx.ownBlock = some k ∨ vb.ownBlock = some k
/-- The document's table. -/
def RT (w : World) (p : Nat) (F : Nat → Prop) (s : Tb) : Prop := ∃ vx vb, RTAt w p vx vb s ∧ (∀ k, F k ↔ rfootT p vx vb k) ∧ ∀ k, F k → k < w.heap.size
theorem RTAt.same {w w' : World} {p : Nat} {vx vb : Value} {s : Tb} (h : RTAt w p vx vb s) (hs : ∀ k, rfootT p vx vb k → w'.heap[k]? = w.heap[k]?) : RTAt w' p vx vb s :=
  ⟨by rw [hs p (.inl rfl)]; exact h.blk, h.x.same fun g hg => hs g (.inr (.inl hg)), h.b.same fun g hg => hs g (.inr (.inr hg)), h.nx, h.nb⟩
theorem RT.lts {w : World} {p : Nat} {F : Nat → Prop} {s : Tb} (h : RT w p F s) : ∀ k, F k → k < w.heap.size := by
  obtain ⟨_, _, _, _, hl⟩ := h
  exact hl
theorem RT.same {w w' : World} {p : Nat} {F : Nat → Prop} {s : Tb} (h : RT w p F s) (hz : w.heap.size ≤ w'.heap.size) (hs : ∀ k, F k → w'.heap[k]? = w.heap[k]?) : RT w' p F s := by
  obtain ⟨vx, vb, hq, hF, hl⟩ := h
  exact ⟨vx, vb, hq.same fun k hk => hs k ((hF k).2 hk), hF, fun k hk => Nat.lt_of_lt_of_le (hl k hk) hz⟩
theorem RT.kept {w w' : World} {p : Nat} {F : Nat → Prop} {s : Tb} (h : RT w p F s) (hb : Below w.heap.size w w') : RT w' p F s := h.same hb.size fun k hk => hb.block k (h.lts k hk)
/-- Something else has moved. -/
theorem RT.beside {w w' : World} {p : Nat} {F G G' : Nat → Prop} {s : Tb} (h : RT w p F s) (m : Moved w w' G G') (ha : ∀ k, G k → ¬ F k) : RT w' p F s := h.same m.size fun k hk => m.block k (h.lts k hk) (fun hg => ha k hg hk)
theorem T.beside {w w' : World} {p : Nat} {F G G' : Nat → Prop} {s : Tb} (h : T w p F s) (m : Moved w w' G G') (ha : ∀ k, G k → ¬ F k) : T w' p F s := h.same fun k hk => m.block k (h.lts k hk) (fun hg => ha k hg hk)


end Go.Proofs.YtjagaankkcbjmaaGreatDoor.B

/-
  NAMES that rise, each once; what the queues of a table are. Of no program.
-/
namespace Go.Proofs.YtjagaankkcbjmaaGreatDoor.K
end Go.Proofs.YtjagaankkcbjmaaGreatDoor.K
namespace Go.Proofs.YtjagaankkcbjmaaGreatDoor.B
open Go.Proofs.YtjagaankkcbjmaaGreatDoor.K
open Go.RowKit Go.Sort

section
variable {α : Type} {c : α → α → Int}
theorem Ord.nodup (h : Cmp3 c) {l : List α} (hl : Ord c l) : l.Nodup := hl.imp (fun {a b} hlt e => by rw [e, h.self] at hlt; exact absurd hlt (by decide))
theorem Ord.ext (h : Cmp3 c) {l l' : List α} (hl : Ord c l) (hl' : Ord c l') (he : ∀ x, x ∈ l' ↔ x ∈ l) : l' = l :=
  Ord.uniq h hl ((List.perm_ext_iff_of_nodup (hl'.nodup h) (hl.nodup h)).2 he) (hl'.imp (fun {a b} hlt => by have := h.neg a b; omega))
theorem cpt_ord [Inhabited α] [DecidableEq α] (h : Cmp3 c) (hz : ∀ a b, c a b = 0 → a = b) (d : Array α) (hd : ∀ i j, i < j → j < d.size → c d[i]! d[j]! ≤ 0) : ∀ m, m ≤ d.size →
    Ord c (Lib.compactUpTo d m) ∧ (∀ x, x ∈ Lib.compactUpTo d m ↔ ∃ j, j < m ∧ d[j]! = x)
  | 0, _ => ⟨by simp [Lib.compactUpTo, Ord], fun x => by simp [Lib.compactUpTo]⟩
  | m + 1, hm => by
    obtain ⟨h1, h2⟩ := cpt_ord h hz d hd m (by omega)
    rw [Lib.compactUpTo_succ]
    by_cases hk : Lib.keeps d m = true
    · rw [if_pos hk]
      refine ⟨List.pairwise_append.2 ⟨h1, List.pairwise_singleton _ _, fun a ha b hb => ?_⟩, fun x => ?_⟩
      · obtain ⟨j, hj, rfl⟩ := (h2 a).1 ha
        obtain rfl : b = d[m]! := by simpa using hb
        have hne : d[m]! ≠ d[m - 1]! := by
          unfold Lib.keeps at hk
          rw [decide_eq_true_eq] at hk
          rcases hk with rfl | hk
          · omega
          · exact hk
        have l1 := hd (m - 1) m (by omega) (by omega)
        have l2 : c d[m - 1]! d[m]! < 0 := by
          rcases Int.lt_or_lt_of_ne (fun e : c d[m - 1]! d[m]! = 0 => hne (hz _ _ e).symm) with l | l
          · exact l
          · omega
        by_cases hj2 : j = m - 1
        · rw [hj2]; exact l2
        · have l3 := hd j (m - 1) (by omega) (by omega)
          by_cases e : c d[j]! d[m - 1]! = 0
          · rw [hz _ _ e]; exact l2
          · exact h.trans _ _ _ (by omega) l2
      · rw [List.mem_append, h2]
        constructor
        · rintro (⟨j, hj, rfl⟩ | hx)
          · exact ⟨j, by omega, rfl⟩
          · exact ⟨m, by omega, (List.mem_singleton.1 hx).symm⟩
        · rintro ⟨j, hj, rfl⟩
          by_cases e : j = m
          · subst e; right; simp
          · left; exact ⟨j, by omega, rfl⟩
    · rw [if_neg hk, List.append_nil]
      refine ⟨h1, fun x => ?_⟩
      rw [h2]
      have hk' : m ≠ 0 ∧ d[m]! = d[m - 1]! := by
        unfold Lib.keeps at hk
        rw [decide_eq_true_eq] at hk
        exact ⟨fun e => hk (.inl e), Classical.byContradiction fun e => hk (.inr e)⟩
      constructor
      · rintro ⟨j, hj, rfl⟩; exact ⟨j, by omega, rfl⟩
      · rintro ⟨j, hj, rfl⟩
        by_cases e : j = m
        · subst e; exact ⟨j - 1, by omega, hk'.2.symm⟩
        · exact ⟨j, by omega, rfl⟩
end

instance memS (x : ByteArray) (l : List ByteArray) : Decidable (x ∈ l) := decidable_of_iff (l.any (fun y => decide (y = x)) = true) (by simp)
/-- One name more, at its place, unless it is there. -/
def addS (x : ByteArray) (l : List ByteArray) : List ByteArray := if x ∈ l then l else insC cmpS x l
theorem mem_addS (x y : ByteArray) (l : List ByteArray) : y ∈ addS x l ↔ y = x ∨ y ∈ l := by
  unfold addS
  split
  · rename_i h
    constructor
    · exact .inr
    · rintro (rfl | h') <;> assumption
  · rw [(insC_perm x l).mem_iff, List.mem_cons]
theorem addS_ord {x : ByteArray} {l : List ByteArray} (h : Ord cmpS l) : Ord cmpS (addS x l) := by
  unfold addS
  split
  · exact h
  · rename_i hn
    exact insC_ord cmpS3 h (fun y hy e => hn (by rw [← cmpS_eq e]; exact hy))
/-- Names made one. -/
def mkS (l : List ByteArray) : List ByteArray := l.foldr addS []
theorem mkS_ord : ∀ l, Ord cmpS (mkS l)
  | [] => List.Pairwise.nil
  | _ :: r => addS_ord (mkS_ord r)
theorem mem_mkS (y : ByteArray) : ∀ l, y ∈ mkS l ↔ y ∈ l
  | [] => Iff.rfl
  | x :: r => by
    show y ∈ addS x (mkS r) ↔ _
    rw [mem_addS, mem_mkS y r, List.mem_cons]
theorem mkS_length (l : List ByteArray) : (mkS l).length ≤ l.length := by
  induction l with
  | nil => exact Nat.le_refl _
  | cons x r ih =>
    show (addS x (mkS r)).length ≤ r.length + 1
    unfold addS
    split
    · omega
    · rw [(insC_perm x (mkS r)).length_eq, List.length_cons]
      omega

/-- Does a pattern fit a key, of an exchange? -/
def fitsX (x : Ex) (pat key : ByteArray) : Bool := goodX x && keyB (txt key) && (if x.kind = 1 then pat.toList == key.toList else if x.kind = 2 then pat.toList.isEmpty else matchB (txt pat) (txt key))
def qsel (x : Ex) (e key : ByteArray) (b : Bd) : Bool := decide (b.ex = e) && fitsX x b.pat key
/-- Into which queues a message goes. -/
def queuesT (s : Tb) (e key : ByteArray) : List ByteArray := match findX s.xs e with
  | none => []
  | some x => mkS ((s.bs.filter (qsel x e key)).map Bd.que)
/-- From which exchanges a binding leads to a queue. -/
def whoT (s : Tb) (q : ByteArray) : List ByteArray := mkS ((s.bs.filter fun b => decide (b.que = q)).map Bd.ex)

/-- Bindings of one exchange: their queues rise. -/
theorem que_rise {a b : Bd} (h : cmpB a b < 0) (he : a.ex = b.ex) : cmpS a.que b.que ≤ 0 := by
  unfold cmpB cor at h
  simp only at h
  rw [he, cmpS3.self, if_pos rfl] at h
  by_cases h2 : cmpS a.que b.que = 0
  · omega
  · rw [if_neg h2] at h; omega
/-- What slices.Compact makes of names that rise. -/
theorem compact_rise {l : List ByteArray} (h : l.Pairwise fun a b => cmpS a b ≤ 0) : Lib.compact (l.map (·.data.toList)) = (mkS l).map (·.data.toList) := by
  have hC : Cmp3 (fun a b : List UInt8 => Lib.compareBytes a b) := ⟨fun _ _ => cb_neg _ _, fun _ _ _ => cb_trans _ _ _, fun a b e d => by rw [cb_eq a b e]⟩
  have hp : (l.map (·.data.toList)).Pairwise fun a b => Lib.compareBytes a b ≤ 0 := List.pairwise_map.2 h
  have hd : ∀ i j, i < j → j < (l.map (·.data.toList)).toArray.size → Lib.compareBytes (l.map (·.data.toList)).toArray[i]! (l.map (·.data.toList)).toArray[j]! ≤ 0 := fun i j hij hj => by
    have hj' : j < (l.map (·.data.toList)).length := by simpa using hj
    rw [getElem!_pos _ i (by simp at hj' ⊢; omega), getElem!_pos _ j hj]
    exact List.pairwise_iff_getElem.1 hp i j (by omega) hj' hij
  obtain ⟨h1, h2⟩ := cpt_ord hC (fun _ _ => cb_eq _ _) _ hd (l.map (·.data.toList)).length (by simp)
  refine Ord.ext hC ?_ h1 (fun x => ?_)
  · exact List.pairwise_map.2 (mkS_ord l)
  · refine (h2 x).trans ?_
    simp only [List.mem_map, mem_mkS]
    constructor
    · rintro ⟨j, hj, rfl⟩
      have hj' : j < l.length := by simpa using hj
      refine ⟨l[j], List.getElem_mem hj', ?_⟩
      rw [getElem!_pos _ j (by simpa using hj')]
      simp
    · rintro ⟨a, ha, rfl⟩
      obtain ⟨j, hj, rfl⟩ := List.mem_iff_getElem.1 ha
      refine ⟨j, by simpa using hj, ?_⟩
      rw [getElem!_pos _ j (by simpa using hj)]
      simp
end Go.Proofs.YtjagaankkcbjmaaGreatDoor.B

/-
  THE WALK of stand: which counts of words may stand for a pattern's beginning.
-/
namespace Go.Proofs.YtjagaankkcbjmaaGreatDoor
open Go.RowKit Go.Shelf

theorem standsFor_any (x p : ByteArray) (w : World) :
    Calls Tryz.prog 368 #[.string x, .string p] w fun e w' => e = .returned (.bool (sfB (txt x) (txt p))) ∧ w' = w := by
  have h1 : (x.toList == p.toList) = (txt x == txt p) := by rw [ByteArray.toList_eq, ByteArray.toList_eq]; rfl
  have h2 : (p.toList == [42]) = (txt p == [42]) := by rw [ByteArray.toList_eq]; rfl
  have h3 : (x.toList == [35]) = (txt x == [35]) := by rw [ByteArray.toList_eq]; rfl
  have HS : Hid (sfB (txt x) (txt p) = ((x.toList == p.toList) || ((p.toList == [42]) && !(x.toList == [35])))) := by
    show _ = _
    rw [h1, h2, h3]; rfl
  clear h1 h2 h3
  cases h1 : (x.toList == p.toList) <;> cases h2 : (p.toList == [42]) <;> cases h3 : (x.toList == [35])
  all_goals go_enter Tryz.func368, Tryz.ntmps368
  all_goals go_wp2
  all_goals go_ret
  all_goals exact ⟨ret_bool (by rw [HS.out, h1, h2, h3]; rfl), rfl⟩

/-- The first k cells of block g hold F's answers. -/
structure Half (wr : World) (g L : Nat) (F : Nat → Bool) (k : Nat) : Prop where
  done : ∀ j, j < k → wr.cell? ⟨g, j, none⟩ = some (.bool (F j))
  is : ∀ j, j < L → (wr.cell? ⟨g, j, none⟩).isSome = true ∧ wr.frozen? ⟨g, j, none⟩ = false
theorem Half.set {wr : World} {g L : Nat} {F : Nat → Bool} {k : Nat} (h : Half wr g L F k) (hk : k < L) : Half (wr.setCell ⟨g, k, none⟩ (.bool (F k))) g L F (k + 1) := by
  have hs := World.cell?_setCell_same' wr ⟨g, k, none⟩ (.bool (F k)) (h.is k hk).1
  have ho : ∀ j, j ≠ k → (wr.setCell ⟨g, k, none⟩ (.bool (F k))).cell? ⟨g, j, none⟩ = wr.cell? ⟨g, j, none⟩ := fun j hj => by
    rw [World.cell?_setCell_other]; intro e; cases e; exact hj rfl
  refine ⟨fun j hj => ?_, fun j hj => ⟨?_, by rw [World.frozen?_setCell]; exact (h.is j hj).2⟩⟩
  · by_cases e : j = k
    · subst e; exact hs
    · rw [ho j e]; exact h.done j (by omega)
  · by_cases e : j = k
    · subst e; rw [hs]; rfl
    · rw [ho j e]; exact (h.is j hj).1

theorem Half.step {wr : World} {g L : Nat} {F : Nat → Bool} {k : Nat} (h : Half wr g L F k) (hk : k < L) (b : Bool) (hb : F k = b) : Half (wr.setCell ⟨g, k, none⟩ (.bool b)) g L F (k + 1) := by
  subst hb
  exact h.set hk

/-- A row that tells of each count of words whether they may stand for the pattern. -/
def Reach (w : World) (v : Value) (ps K : List Txt) : Prop := Row w v ((List.range (K.length + 1)).map fun j => .bool (fitsL ps (K.take j)))
theorem Reach.at {w : World} {v : Value} {ps K : List Txt} (h : Reach w v ps K) : ∃ b off cap, v = .slice (some ⟨b, off, none⟩) (K.length + 1) cap ∧ cap ≤ maxLen ∧ ∀ j, j ≤ K.length → w.cell? ⟨b, off + j, none⟩ = some (.bool (fitsL ps (K.take j))) := by
  obtain ⟨b, off, cap, hv, _, h2, h3⟩ := Row.at h (by simp)
  simp only [List.length_map, List.length_range] at hv h3
  refine ⟨b, off, cap, hv, h2, fun j hj => ?_⟩
  rw [h3 j (by omega)]
  simp

theorem elemB : Elem Tryz.prog 375 4 (.bool false) 1 :=
  ⟨Tryz.underlying375, by
    have h : (Tryz.prog.info? 4).map (fun i => (i.zero, i.size, i.bytes)) = some (some (.bool false), 1, 1) := by kernel_rfl
    cases hi : Tryz.prog.info? 4 with
    | none => rw [hi] at h; cases h
    | some i => rw [hi] at h; simp at h; exact ⟨i, rfl, h.1, h.2.1, h.2.2⟩, rfl⟩

theorem half_new (w : World) (C : Array Value) (e : TypeId) (L : Nat) (F : Nat → Bool) (hC : C.size = L) : Half (w.alloc (.cells C e)) w.heap.size L F 0 := by
  refine ⟨fun j hj => by omega, fun j hj => ?_⟩
  have hh : (w.alloc (.cells C e)).heap[w.heap.size]? = some (.cells C e) := World.alloc_heap_new w _
  constructor
  · simp only [World.cell?, hh]
    simp [hC, hj]
  · simp only [World.frozen?, hh]
    simp

set_option maxRecDepth 20000 in
set_option maxHeartbeats 2000000 in
theorem further_any (w : World) (vr vw : Value) (ps : List Txt) (K : List ByteArray) (p : ByteArray) (hr : Reach w vr ps (K.map txt)) (hw : Row w vw (scells K)) (hK : K.length ≤ 1000000) :
    Calls Tryz.prog 348 #[vr, vw, .string p] w fun e w' => ∃ v, e = .returned v ∧ Reach w' v (ps ++ [txt p]) (K.map txt) ∧ Below w.heap.size w w' := by
  obtain ⟨br, fr, cr, rfl, _, hcr⟩ := hr.at
  obtain ⟨aw, cw, rfl⟩ := hw.sliceStrs
  rw [List.length_map] at *
  obtain ⟨C, hmk, hC⟩ := run_make1 (P := Tryz.prog) w 375 4 _ 1 elemB (K.length + 1) (K.length + 1) (Nat.le_refl _) (by omega) (by omega)
  have hmk' : (Instr.makeSlice 375 (.int .i64 ((K.length : Int) + 1)) (.int .i64 ((K.length : Int) + 1))).run Tryz.prog w = .ok (.slice (some ⟨w.heap.size, 0, none⟩) (K.length + 1) (K.length + 1)) (w.alloc (.cells C 4)) := by
    have e : ((K.length : Int) + 1) = ((K.length + 1 : Nat) : Int) := by omega
    rw [e]
    exact hmk
  have hH := half_new w C 4 (K.length + 1) (fun j => fitsL (ps ++ [txt p]) ((K.map txt).take j)) hC
  have hB0 : Below w.heap.size w (w.alloc (.cells C 4)) := (Below.refl _ w).alloc (Nat.le_refl _) _
  have hpe : (p.toList == [35]) = (txt p == [35]) := by rw [ByteArray.toList_eq]; rfl
  go_enter Tryz.func348, Tryz.ntmps348
  go_wp2
  go_loopw [14] (fun i wr => ∃ k : Nat, k ≤ K.length + 1 ∧ i = .int .i64 k ∧ Half wr w.heap.size (K.length + 1) (fun j => fitsL (ps ++ [txt p]) ((K.map txt).take j)) k ∧ Below w.heap.size w wr) (fun i _ => K.length + 1 - (intOf i).toNat)
  case atStart => exact ⟨0, Nat.zero_le _, rfl, hH, hB0⟩
  case round =>
    obtain ⟨k, hk, rfl, hh, hB⟩ := hrel
    by_cases hkl : k < K.length + 1
    · obtain ⟨u, hu⟩ := Option.isSome_iff_exists.1 (hh.is k hkl).1
      have hfz := (hh.is k hkl).2
      have hrc : ∀ j, j ≤ K.length → wr.cell? ⟨br, fr + j, none⟩ = some (.bool (fitsL ps ((K.map txt).take j))) := fun j hj => by
        have := hcr j hj
        rw [hB.cell (p := ⟨br, fr + j, none⟩) (World.block_lt_of_cell? w _ this)]
        exact this
      have hB2 := fun v => hB.setCell (p := ⟨w.heap.size, k, none⟩) (Nat.le_refl _) v
      have hck := hrc k (by omega)
      by_cases hp : txt p = [35]
      · have hsn := fits_snoc_many ps (K.map txt) k (by rw [List.length_map]; omega)
        rw [← hp] at hsn
        rw [hp] at hpe
        have hpe' : (p.toList == [35]) = true := hpe
        clear hpe hcr
        by_cases hk0 : 0 < k
        · obtain ⟨m, rfl⟩ : ∃ m, k = m + 1 := ⟨k - 1, by omega⟩
          have hpv := hh.done m (by omega)
          rw [show m + 1 - 1 = m by omega, decide_eq_true hk0, Bool.true_and] at hsn
          have HS : Hid _ := hsn
          clear hsn hrc
          cases hR : fitsL ps ((K.map txt).take (m + 1)) <;> rw [hR] at hck <;> cases hN : fitsL (ps ++ [txt p]) ((K.map txt).take m) <;> rw [hN] at hpv
          all_goals go_wp2
          all_goals go_roundw
          all_goals first
            | exact ⟨m + 1 + 1, by omega, by go_num, hh.step hkl _ (by rw [HS.out, hR, hN]; rfl), hB2 _⟩
            | (simp [intOf]; omega)
        · have hk0' : ¬ ((0 : Int) < (k : Int)) := by omega
          rw [decide_eq_false hk0, Bool.false_and, Bool.or_false] at hsn
          have HS : Hid _ := hsn
          clear hsn hrc
          cases hR : fitsL ps ((K.map txt).take k) <;> rw [hR] at hck
          all_goals go_wp2
          all_goals go_roundw
          all_goals first
            | exact ⟨k + 1, by omega, by go_num, hh.step hkl _ (by rw [HS.out, hR]), hB2 _⟩
            | (simp [intOf]; omega)
      · have hsn := fits_snoc_one ps (K.map txt) (txt p) hp k (by rw [List.length_map]; omega)
        have hpe' : (p.toList == [35]) = false := by rw [hpe]; simpa using hp
        clear hpe hcr hck
        by_cases hk0 : 0 < k
        · obtain ⟨m, rfl⟩ : ∃ m, k = m + 1 := ⟨k - 1, by omega⟩
          have hck := hrc m (by omega)
          obtain ⟨bw, ow, cw', hv, _, _, hcw⟩ := (hw.below hB (Nat.le_refl _)).atStrs (by omega)
          injection hv with hv1 _ hv3
          subst hv1 hv3
          have hcm := hcw m (by omega)
          rw [show m + 1 - 1 = m by omega, decide_eq_true hk0, Bool.true_and, show (K.map txt).getD m [] = txt (K[m]'(by omega)) from by simp [List.getD, show m < K.length by omega]] at hsn
          have HS : Hid _ := hsn
          clear hsn hrc hcw
          cases hR : fitsL ps ((K.map txt).take m) <;> rw [hR] at hck
          all_goals go_wp2_with (go_at_call 368; refine (standsFor_any _ _ _).mono ?_; rintro e w3 ⟨rfl, rfl⟩)
          all_goals go_roundw
          all_goals first
            | exact ⟨m + 1 + 1, by omega, by go_num, hh.step hkl _ (by rw [HS.out, hR]; rfl), hB2 _⟩
            | (simp [intOf]; omega)
        · have hk0' : ¬ ((0 : Int) < (k : Int)) := by omega
          rw [decide_eq_false hk0, Bool.false_and, Bool.false_and] at hsn
          have HS : Hid _ := hsn
          clear hsn hrc
          go_wp2
          go_roundw
          case rel => exact ⟨k + 1, by omega, by go_num, hh.step hkl _ HS.out, hB2 _⟩
          case measure => simp [intOf]; omega
    · go_wp2
      go_ret
      refine ⟨_, rfl, .inr ⟨⟨w.heap.size, 0, none⟩, K.length + 1, by simp, by simp, by unfold maxLen; omega, fun j u hj => ?_⟩, hB⟩
      rw [List.length_map] at hj
      have hj' : j < K.length + 1 := by
        have := (List.getElem?_eq_some_iff.1 hj).1
        simpa using this
      rw [Go.WideShapes.add_plain, Nat.zero_add, hh.done j (by omega), ← hj]
      simp [hj']
end Go.Proofs.YtjagaankkcbjmaaGreatDoor

/-
  THE WALKS of stand, of the document's fits, of Match and Over; two lists of texts compared.
-/
namespace Go.Proofs.YtjagaankkcbjmaaGreatDoor
open Go.RowKit Go.Shelf

set_option maxRecDepth 20000 in
/-- 'make([]bool, n)': all are false. -/
theorem run_make_bools (w : World) (n : Nat) (hn : n ≤ 1000000000) :
    (Instr.makeSlice 375 (.int .i64 (n : Int)) (.int .i64 (n : Int))).run Tryz.prog w = .ok (.slice (some ⟨w.heap.size, 0, none⟩) n n) (w.alloc (.cells (List.replicate n (Value.bool false)).toArray 4)) := by
  obtain ⟨i, hi, hz, hsz, hby⟩ := elemB.info
  have hr := run_make (P := Tryz.prog) w 375 4 i (.bool false) elemB.ht hi hz .i64 .i64 n n (by omega) (by omega) (by rw [hby]; omega) (by omega)
  simp only [Int.toNat_natCast, hsz, Nat.mul_one] at hr
  rw [hr]
  congr 3
  apply Array.toList_inj.1
  exact toList_madeCells_one (.bool false) n

theorem fits_nil_take (K : List Txt) (j : Nat) (hj : j ≤ K.length) : fitsL [] (K.take j) = decide (j = 0) := by
  simp only [fitsL]
  rw [Bool.eq_iff_iff, List.isEmpty_iff, List.take_eq_nil_iff, decide_eq_true_eq]
  constructor
  · rintro (h | h)
    · exact h
    · subst h; simpa using hj
  · exact .inl

set_option maxRecDepth 20000 in
set_option maxHeartbeats 2000000 in
theorem stand_any (w : World) (vw vp : Value) (K Q : List ByteArray) (hw : Row w vw (scells K)) (hp : Row w vp (scells Q)) (hK : K.length ≤ 1000000) (hQ : Q.length ≤ 1000000) :
    Calls Tryz.prog 298 #[vw, vp] w fun e w' => e = .returned (.bool (fitsL (Q.map txt) (K.map txt))) ∧ Below w.heap.size w w' := by
  obtain ⟨aw, cw, rfl⟩ := hw.sliceStrs
  obtain ⟨ap, cp, rfl⟩ := hp.sliceStrs
  have hmk := run_make_bools w (K.length + 1) (by omega)
  have hmk' : (Instr.makeSlice 375 (.int .i64 ((K.length : Int) + 1)) (.int .i64 ((K.length : Int) + 1))).run Tryz.prog w = .ok (.slice (some ⟨w.heap.size, 0, none⟩) (K.length + 1) (K.length + 1)) (w.alloc (.cells (List.replicate (K.length + 1) (Value.bool false)).toArray 4)) := by
    have e : ((K.length : Int) + 1) = ((K.length + 1 : Nat) : Int) := by omega
    rw [e]
    exact hmk
  obtain ⟨w0, hw0⟩ : ∃ w0, w.alloc (.cells (List.replicate (K.length + 1) (Value.bool false)).toArray 4) = w0 := ⟨_, rfl⟩
  rw [hw0] at hmk hmk'
  have hh : w0.heap[w.heap.size]? = some (.cells (List.replicate (K.length + 1) (Value.bool false)).toArray 4) := by rw [← hw0]; exact World.alloc_heap_new w _
  have hB0 : Below w.heap.size w w0 := by rw [← hw0]; exact (Below.refl _ w).alloc (Nat.le_refl _) _
  have hc : ∀ j, j < K.length + 1 → w0.cell? ⟨w.heap.size, j, none⟩ = some (.bool false) := fun j hj => by
    simp only [World.cell?, hh]
    simp [hj]
  have hf : w0.frozen? ⟨w.heap.size, 0, none⟩ = false := by
    simp only [World.frozen?, hh]
    simp
  have hc0 := hc 0 (by omega)
  have hst : Reach (w0.setCell ⟨w.heap.size, 0, none⟩ (.bool true)) (.slice (some ⟨w.heap.size, 0, none⟩) (K.length + 1) (K.length + 1)) [] (K.map txt) := by
    refine .inr ⟨⟨w.heap.size, 0, none⟩, K.length + 1, by simp, by simp, by unfold maxLen; omega, fun j u hj => ?_⟩
    have hj' : j < K.length + 1 := by
      have := (List.getElem?_eq_some_iff.1 hj).1
      simpa using this
    rw [Go.WideShapes.add_plain, Nat.zero_add, ← hj]
    have hfit := fits_nil_take (K.map txt) j (by rw [List.length_map]; omega)
    by_cases e : j = 0
    · subst e
      rw [World.cell?_setCell_same' _ _ _ (by rw [hc0]; rfl)]
      simp [fitsL]
    · rw [World.cell?_setCell_other, hc j hj']
      · rw [List.getElem?_map, List.getElem?_range (by rw [List.length_map]; exact hj')]
        simp only [Option.map_some, hfit, e, decide_false]
      · intro e'; cases e'; exact e rfl
  have hB1 := hB0.setCell (p := ⟨w.heap.size, 0, none⟩) (Nat.le_refl _) (.bool true)
  clear hh hc hw0
  go_enter Tryz.func298, Tryz.ntmps298
  go_wp2
  go_loopw [5, 16] (fun r i wr => ∃ k : Nat, k ≤ Q.length ∧ i = .int .i64 k ∧ Reach wr r ((Q.map txt).take k) (K.map txt) ∧ Below w.heap.size w wr) (fun _ i _ => Q.length - (intOf i).toNat)
  case atStart => exact ⟨0, Nat.zero_le _, rfl, hst, hB1⟩
  case round =>
    obtain ⟨k, hk, rfl, hR, hB⟩ := hrel
    have hsz := hB.size
    by_cases hkl : k < Q.length
    · obtain ⟨bp, op, cp', hv, _, _, hcp⟩ := (hp.below hB (Nat.le_refl _)).atStrs (by omega)
      injection hv with hv1 _ hv3
      subst hv1 hv3
      have hcell := hcp k hkl
      have hfur := further_any wr _ _ _ K Q[k] hR (hw.below hB (Nat.le_refl _)) hK
      have htk : (Q.map txt).take k ++ [txt Q[k]] = (Q.map txt).take (k + 1) := by
        rw [List.take_succ_eq_append_getElem (by rw [List.length_map]; exact hkl)]
        simp
      rw [htk] at hfur
      clear hcp htk
      go_wp2_with (go_at_call 348; refine hfur.mono ?_; rintro e w3 ⟨v3, rfl, hR3, hb3⟩)
      go_roundw
      case rel => exact ⟨k + 1, by omega, by go_num, hR3, hB.trans (hb3.mono hsz)⟩
      case measure => simp [intOf]; omega
    · obtain ⟨br, fr, cr, rfl, _, hcr⟩ := hR.at
      have hlast := hcr K.length (by simp)
      rw [List.length_map] at *
      rw [List.take_of_length_le (by rw [List.length_map]; omega), List.take_of_length_le (by simp)] at hlast
      clear hcr
      go_wp2
      go_ret
      exact ⟨rfl, hB⟩
end Go.Proofs.YtjagaankkcbjmaaGreatDoor

/-
  THE WALK of the document's fits (it calls itself, and only reads).
-/
namespace Go.Proofs.YtjagaankkcbjmaaGreatDoor
open Go.RowKit Go.Shelf

theorem Row.drewN {w : World} {v : Value} {cs : List Value} (h : Row w v cs) (d : Nat) : Row (w.drewN d) v cs := h


end Go.Proofs.YtjagaankkcbjmaaGreatDoor

/-
  THE WALKS of Match and Over, the program's and the document's; two lists of texts compared.
-/
namespace Go.Proofs.YtjagaankkcbjmaaGreatDoor
open Go.RowKit Go.Shelf

theorem strs_txt (l : List Txt) : (strs l).map txt = l := by
  unfold strs
  rw [List.map_map]
  exact (List.map_congr_left (fun x _ => txt_str x)).trans (List.map_id l)
theorem ofB_size {may : Txt → Bool} {s : ByteArray} (h : ofB may (txt s) = true) : s.size ≤ 60 := by
  unfold ofB at h
  simp only [Bool.and_eq_true, decide_eq_true_eq] at h
  rw [txt_length] at h
  exact h.1.1
theorem ofB_words {may : Txt → Bool} {s : Txt} (h : ofB may s = true) : (wordsL s).length ≤ 12 := by
  unfold ofB at h
  simp only [Bool.and_eq_true, decide_eq_true_eq] at h
  exact h.2



set_option maxRecDepth 20000 in
set_option maxHeartbeats 1000000 in
theorem match_any (p k : ByteArray) (w : World) (hp : p.size ≤ maxLen) (hk : k.size ≤ maxLen) :
    Calls Tryz.prog 257 #[.string p, .string k] w fun e w' => e = .returned (.bool (matchB (txt p) (txt k))) ∧ Below w.heap.size w w' := by
  cases hP : patB (txt p)
  · have hm : matchB (txt p) (txt k) = false := by unfold matchB; rw [hP]; rfl
    rw [hm]
    go_enter Tryz.func257, Tryz.ntmps257
    go_wp2_with fail
    refine (pattern_any p _ hp).mono ?_
    rintro e w1 ⟨rfl, hb1⟩
    go_wp2
    go_ret
    exact ⟨rfl, hb1⟩
  · cases hK : keyB (txt k)
    · have hm : matchB (txt p) (txt k) = false := by unfold matchB; rw [hP, hK]; rfl
      rw [hm]
      go_enter Tryz.func257, Tryz.ntmps257
      go_wp2_with fail
      refine (pattern_any p _ hp).mono ?_
      rintro e w1 ⟨rfl, hb1⟩
      go_wp2_with fail
      refine (key_any k _ hk).mono ?_
      rintro e w2 ⟨rfl, hb2⟩
      go_wp2
      go_ret
      exact ⟨rfl, hb1.trans (hb2.mono hb1.size)⟩
    · have hm : matchB (txt p) (txt k) = fitsL (wordsL (txt p)) (wordsL (txt k)) := by unfold matchB; rw [hP, hK]; rfl
      rw [hm]
      have s1 := ofB_size hP
      have s2 := ofB_size hK
      have l1 := ofB_words hP
      have l2 := ofB_words hK
      go_enter Tryz.func257, Tryz.ntmps257
      go_wp2_with fail
      refine (pattern_any p _ hp).mono ?_
      rintro e w1 ⟨rfl, hb1⟩
      go_wp2_with fail
      refine (key_any k _ hk).mono ?_
      rintro e w2 ⟨rfl, hb2⟩
      go_wp2_with fail
      refine (words_any k _ (by omega)).mono ?_
      rintro e w3 ⟨v3, rfl, ho3, hb3⟩
      go_wp2_with fail
      refine (words_any p _ (by omega)).mono ?_
      rintro e w4 ⟨v4, rfl, ho4, hb4⟩
      have hst := stand_any w4 v3 v4 _ _ (ho3.row.below hb4 (Nat.le_refl _)) ho4.row (by rw [strs_length]; omega) (by rw [strs_length]; omega)
      rw [strs_txt, strs_txt] at hst
      go_wp2_with fail
      refine hst.mono ?_
      rintro e w5 ⟨rfl, hb5⟩
      go_wp2
      go_ret
      have z1 := hb1.size; have z2 := hb2.size; have z3 := hb3.size; have z4 := hb4.size
      exact ⟨rfl, (((hb1.trans (hb2.mono z1)).trans (hb3.mono (by omega))).trans (hb4.mono (by omega))).trans (hb5.mono (by omega))⟩


end Go.Proofs.YtjagaankkcbjmaaGreatDoor
