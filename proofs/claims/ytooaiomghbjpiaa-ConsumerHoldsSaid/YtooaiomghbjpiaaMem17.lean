/-
  A DESK in memory: its block, its map, its line, its seats.
-/
import Derived.Test.YtooaiomghbjpiaaDesk17
import Derived.Test.YtooaiomghbjpiaaMaps17
import Derived.Test.YtooaiomghbjpiaaRow
import Derived.Test.YtooaiomghbjpiaaShelf17
import Derived.Sort.Row
import Derived.BigQuiet
import Derived.Deep.QuietTactic
namespace Go.Proofs.Ytooaiomghbjpiaa
open Go.RowKit Go.Maps Go.Sort Go.Shelf

theorem own1_lower {w : World} {b c : Nat} {e : TypeId} {v : Value} {cs : List Value} (h : Own1 w b e v cs) (hc : c ≤ b) : Own1 w c e v cs := by
  refine ⟨h.1, ?_⟩
  rcases h.2 with hn | ⟨g, cap, cur, hv, hbg, rest⟩
  · exact .inl hn
  · exact .inr ⟨g, cap, cur, hv, Nat.le_trans hc hbg, rest⟩
theorem own1_same {w w' : World} {b : Nat} {e : TypeId} {v : Value} {cs : List Value} (h : Own1 w b e v cs) (hs : ∀ g, v.ownBlock = some g → w'.heap[g]? = w.heap[g]?) : Own1 w' b e v cs := by
  refine ⟨h.1, ?_⟩
  rcases h.2 with hn | ⟨g, cap, cur, hv, hbg, hg, rest⟩
  · exact .inl hn
  · exact .inr ⟨g, cap, cur, hv, hbg, by rw [hs g (by rw [hv]; rfl)]; exact hg, rest⟩
theorem own1_blk {w : World} {b : Nat} {e : TypeId} {v : Value} {cs : List Value} (h : Own1 w b e v cs) {g : Nat} (hg : v.ownBlock = some g) : b ≤ g ∧ ∃ cur, w.heap[g]? = some (.cells cur e (0, 0)) := by
  rcases h.2 with ⟨rfl, _⟩ | ⟨g', cap, cur, rfl, hbg, hb, _⟩
  · cases hg
  · injection hg with hg
    subst hg
    exact ⟨hbg, cur, hb⟩
theorem own1_slice {w : World} {b : Nat} {e : TypeId} {v : Value} {cs : List Value} (h : Own1 w b e v cs) : ∃ a cap, v = .slice a cs.length cap := h.row.slice

/-- A row whose cells were laid anew. -/
theorem own_putRow {α : Type} [Inhabited α] {enc : α → Value} {w : World} {base g cap q k : Nat} {e : TypeId} {d d' : Array α} (h : Own1 w base e (.slice (some ⟨g, 0, none⟩) d.size cap) (d.toList.map enc)) (hH : Go.Sort.Holds enc w g 0 d) (hd : d'.size = d.size) (hk : k ≤ d.size) :
    Own1 (putRow enc (Sort.ahead w q) g 0 d') base e (.slice (some ⟨g, 0, none⟩) k cap) ((d'.toList.take k).map enc) := by
  have hlen : ((d'.toList.take k).map enc).length = k := by simp; omega
  rcases h.2 with ⟨e0, _⟩ | ⟨g', cap', cur, e1, hbg, hg, hnc, hcm, hsz, htk⟩
  · cases e0
  · injection e1 with e1 e2 e3
    injection e1 with e1
    injection e1 with e1
    subst e1 e3
    have hh := holds_putRow enc (Sort.ahead w q) g 0 d d' (holds_ahead _ w q g 0 _ hH) hd
    have hb : (putRow enc (Sort.ahead w q) g 0 d').heap[g]? = some (.cells (putCells enc 0 d' cur) e (0, 0)) := by
      simp only [putRow, mapBlock, Array.getElem?_modify, if_pos]
      show Option.map _ w.heap[g]? = _
      rw [hg]
      rfl
    have hps : (putCells enc 0 d' cur).size = cur.size := by simp [putCells]
    refine ⟨by rw [hlen]; simp, .inr ⟨g, cap, putCells enc 0 d' cur, by rw [hlen], hbg, hb, by rw [hlen]; simp at hnc; omega, hcm, by rw [hps]; exact hsz, ?_⟩⟩
    apply List.ext_getElem?
    intro j
    rw [hlen, Nat.mul_one, List.getElem?_take, List.getElem?_map, List.getElem?_take]
    by_cases hj : j < k
    · rw [if_pos hj, if_pos hj]
      have h1 := (hh j (by omega)).1
      simp only [World.cell?, hb, Nat.zero_add] at h1
      rw [← Array.getElem?_toList] at h1
      rw [List.getElem?_eq_getElem (by simp; omega : j < d'.toList.length)]
      have h2 : d'[j]! = d'.toList[j]'(by simp; omega) := by rw [getElem!_pos d' j (by omega)]; simp
      rw [h2] at h1
      simpa using h1
    · rw [if_neg hj, if_neg hj]; rfl

/-- A seat, its block, the block of its tags. -/
structure Sx where
  s : Se
  p : Nat
  b : Nat
def pv (n : Nat) : Value := .pointer (some ⟨n, 0, none⟩)
def pcs (X : List Sx) : List Value := X.map fun x => .pointer (some ⟨x.p, 0, none⟩)
theorem pcs_length (X : List Sx) : (pcs X).length = X.length := by simp [pcs]
def ccs (X : List Sx) : List Pc := X.map fun x => (x.s.c, x.p)
/-- A seat in memory. -/
structure SeAt (w : World) (x : Sx) : Prop where
  blk : w.heap[x.p]? = some (.cells #[.int .i64 x.s.c, .string x.s.q, .int .i64 x.s.m, .map (some x.b)] 87 (0, 0))
  tags : TAt w x.b x.s.t
theorem SeAt.same {w w' : World} {x : Sx} (h : SeAt w x) (hp : w'.heap[x.p]? = w.heap[x.p]?) (hb : w'.heap[x.b]? = w.heap[x.b]?) : SeAt w' x := ⟨hp.trans h.blk, h.tags.same hb⟩
theorem SeAt.cells {w : World} {x : Sx} (h : SeAt w x) : w.cell? ⟨x.p, 0, none⟩ = some (.int .i64 x.s.c) ∧ w.cell? ⟨x.p, 1, none⟩ = some (.string x.s.q) ∧ w.cell? ⟨x.p, 2, none⟩ = some (.int .i64 x.s.m) ∧ w.cell? ⟨x.p, 3, none⟩ = some (.map (some x.b)) := by
  refine ⟨?_, ?_, ?_, ?_⟩ <;> simp [World.cell?, h.blk]
theorem SeAt.lts {w : World} {x : Sx} (h : SeAt w x) : x.p < w.heap.size ∧ x.b < w.heap.size := ⟨(Array.getElem?_eq_some_iff.1 h.blk).1, h.tags.lt⟩
theorem SeAt.kept {w w' : World} {x : Sx} (h : SeAt w x) (hb : Below w.heap.size w w') : SeAt w' x := h.same (hb.block _ h.lts.1) (hb.block _ h.lts.2)

/-- A desk that a call made. -/
structure DkAt (w : World) (p mb : Nat) (v : Value) (X : List Sx) : Prop where
  blk : w.heap[p]? = some (.cells #[.map (some mb), v] 60 (0, 0))
  mp : CAt w mb (ccs X)
  row : Own1 w 0 78 v (pcs X)
  seats : ∀ x ∈ X, SeAt w x
  ap : X.Pairwise fun x y => x.p ≠ y.p ∧ x.b ≠ y.b
  nm : ∀ x ∈ X, x.b ≠ mb
def footD (p mb : Nat) (v : Value) (X : List Sx) (k : Nat) : Prop := k = p ∨ k = mb ∨ v.ownBlock = some k ∨ ∃ x ∈ X, k = x.p ∨ k = x.b
def Dk (w : World) (p : Nat) (F : Nat → Prop) (L : List Se) : Prop := ∃ mb v X, DkAt w p mb v X ∧ X.map Sx.s = L ∧ F = footD p mb v X

section
variable {w w' : World} {p mb : Nat} {v : Value} {X : List Sx}
theorem DkAt.lts (h : DkAt w p mb v X) : ∀ k, footD p mb v X k → k < w.heap.size := by
  rintro k (rfl | rfl | hk | ⟨x, hx, rfl | rfl⟩)
  · exact (Array.getElem?_eq_some_iff.1 h.blk).1
  · exact h.mp.lt
  · obtain ⟨_, cur, hc⟩ := own1_blk h.row hk
    exact (Array.getElem?_eq_some_iff.1 hc).1
  · exact (h.seats x hx).lts.1
  · exact (h.seats x hx).lts.2
theorem DkAt.same (h : DkAt w p mb v X) (hs : ∀ k, footD p mb v X k → w'.heap[k]? = w.heap[k]?) : DkAt w' p mb v X :=
  ⟨(hs p (.inl rfl)).trans h.blk, h.mp.same (hs mb (.inr (.inl rfl))), own1_same h.row fun g hg => hs g (.inr (.inr (.inl hg))), fun x hx => (h.seats x hx).same (hs _ (.inr (.inr (.inr ⟨x, hx, .inl rfl⟩)))) (hs _ (.inr (.inr (.inr ⟨x, hx, .inr rfl⟩)))), h.ap, h.nm⟩
theorem DkAt.cells (h : DkAt w p mb v X) : w.cell? ⟨p, 0, none⟩ = some (.map (some mb)) ∧ w.cell? ⟨p, 1, none⟩ = some v := by
  refine ⟨?_, ?_⟩ <;> simp [World.cell?, h.blk]
theorem DkAt.frozen (h : DkAt w p mb v X) (i : Nat) : w.frozen? ⟨p, i, none⟩ = false := by simp [World.frozen?, h.blk]
theorem DkAt.m_ne (h : DkAt w p mb v X) : mb ≠ p := by rintro rfl; exact h.mp.noCells h.blk
theorem DkAt.row_ne (h : DkAt w p mb v X) {g : Nat} (hg : v.ownBlock = some g) : g ≠ p ∧ g ≠ mb ∧ ∀ x ∈ X, g ≠ x.p ∧ g ≠ x.b := by
  obtain ⟨_, cur, hc⟩ := own1_blk h.row hg
  refine ⟨?_, ?_, fun x hx => ⟨?_, ?_⟩⟩
  · rintro rfl; rw [h.blk] at hc; simp at hc
  · rintro rfl; exact h.mp.noCells hc
  · rintro rfl; rw [(h.seats x hx).blk] at hc; simp at hc
  · rintro rfl; exact (h.seats x hx).tags.noCells hc
theorem DkAt.seat_ne (h : DkAt w p mb v X) {x : Sx} (hx : x ∈ X) : x.p ≠ p ∧ x.p ≠ mb ∧ x.b ≠ p ∧ x.b ≠ mb ∧ ∀ y ∈ X, x.p ≠ y.b := by
  refine ⟨fun e => ?_, fun e => ?_, fun e => ?_, h.nm x hx, fun y hy e => ?_⟩
  · have h1 := (h.seats x hx).blk
    rw [e, h.blk] at h1
    simp at h1
  · have h1 := (h.seats x hx).blk
    rw [e] at h1
    exact h.mp.noCells h1
  · have h1 := h.blk
    rw [← e] at h1
    exact (h.seats x hx).tags.noCells h1
  · have h1 := (h.seats x hx).blk
    rw [e] at h1
    exact (h.seats y hy).tags.noCells h1
theorem DkAt.pair (h : DkAt w p mb v X) {x y : Sx} (hx : x ∈ X) (hy : y ∈ X) (hne : x.p ≠ y.p) : x.b ≠ y.b := by
  obtain ⟨i, hi, rfl⟩ := List.getElem_of_mem hx
  obtain ⟨j, hj, rfl⟩ := List.getElem_of_mem hy
  rcases Nat.lt_trichotomy i j with hij | rfl | hij
  · exact (List.pairwise_iff_getElem.1 h.ap i j hi hj hij).2
  · exact absurd rfl hne
  · exact (List.pairwise_iff_getElem.1 h.ap j i hj hi hij).2.symm
theorem DkAt.ptr_inj (h : DkAt w p mb v X) {x y : Sx} (hx : x ∈ X) (hy : y ∈ X) (e : x.p = y.p) : x = y := by
  obtain ⟨i, hi, rfl⟩ := List.getElem_of_mem hx
  obtain ⟨j, hj, rfl⟩ := List.getElem_of_mem hy
  rcases Nat.lt_trichotomy i j with hij | rfl | hij
  · exact absurd e (List.pairwise_iff_getElem.1 h.ap i j hi hj hij).1
  · rfl
  · exact absurd e.symm (List.pairwise_iff_getElem.1 h.ap j i hj hi hij).1
theorem ccs_cl (L : LOk (X.map Sx.s)) : CL (ccs X) := by
  refine ⟨?_, ?_⟩
  · unfold Diff ccs
    rw [List.pairwise_map]
    exact (List.pairwise_map.1 L.diff).imp fun {a b} h e => h (int_inj e)
  · intro x hx
    obtain ⟨y, hy, rfl⟩ := List.mem_map.1 hx
    have := L.ok y.s (List.mem_map.2 ⟨y, hy, rfl⟩)
    have h1 := this.c1
    have h2 := this.c2
    exact ⟨by show _ ≤ y.s.c; omega, by show y.s.c ≤ _; omega⟩
def findX (X : List Sx) (c : Int) : Option Sx := X.find? fun x => decide (x.s.c = c)
theorem findX_s (X : List Sx) (c : Int) : (findX X c).map Sx.s = findC (X.map Sx.s) c := by
  unfold findX findC
  rw [List.find?_map]
  rfl
theorem findX_p (X : List Sx) (c : Int) : (findPc (ccs X) c).map Prod.snd = (findX X c).map Sx.p := by
  unfold findX findPc ccs
  rw [List.find?_map]
  simp only [Option.map_map, Function.comp_def]
theorem findX_some {c : Int} {x : Sx} (h : findX X c = some x) : x ∈ X ∧ x.s.c = c := ⟨List.mem_of_find?_eq_some h, by simpa using List.find?_some h⟩
theorem findX_none {c : Int} (h : findX X c = none) : ∀ x ∈ X, x.s.c ≠ c := fun x hx => by simpa using List.find?_eq_none.1 h x hx
theorem Dk.lts {F : Nat → Prop} {L : List Se} (h : Dk w p F L) : ∀ k, F k → k < w.heap.size := by
  obtain ⟨mb, v, X, hd, _, rfl⟩ := h
  exact hd.lts
theorem Dk.same {F : Nat → Prop} {L : List Se} (h : Dk w p F L) (hs : ∀ k, F k → w'.heap[k]? = w.heap[k]?) : Dk w' p F L := by
  obtain ⟨mb, v, X, hd, hL, rfl⟩ := h
  exact ⟨mb, v, X, hd.same hs, hL, rfl⟩
theorem Dk.kept {F : Nat → Prop} {L : List Se} (h : Dk w p F L) (hb : Below w.heap.size w w') : Dk w' p F L := h.same fun k hk => hb.block k (h.lts k hk)
theorem Dk.beside {F G G' : Nat → Prop} {L : List Se} (h : Dk w p F L) (mv : Moved w w' G G') (ha : ∀ k, G k → ¬ F k) : Dk w' p F L := h.same fun k hk => mv.block k (h.lts k hk) (fun hg => ha k hg hk)
end
end Go.Proofs.Ytooaiomghbjpiaa
