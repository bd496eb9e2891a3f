/-
  THE DOCUMENT's STORE in memory; New, find, by their contracts.
-/
import Derived.Test.YtndinjekocgjhaaActs
namespace Go.Proofs.Ytndinjekocgjhaa
open Go.RowKit

/-- A file of the document's, as it lies in memory. -/
structure Rf where
  na : Option Addr
  nn : Nat
  nc : Nat
  sa : Option Addr
  sn : Nat
  sc : Nat
def Rf.now (x : Rf) : Value := .slice x.na x.nn x.nc
def Rf.sure (x : Rf) : Value := .slice x.sa x.sn x.sc
def rfc (x : Rf) : List Value := [.slice x.na x.nn x.nc, .slice x.sa x.sn x.sc]
def ecl (e : En) : List Value := [.string e.name, .int .i64 (e.f : Int)]
instance : K.Enc rfc 2 where
  len _ := rfl
  one r u hu := by
    simp only [rfc, List.mem_cons, List.not_mem_nil, or_false] at hu
    rcases hu with rfl | rfl <;> rfl
  pos := by decide
instance : K.Enc ecl 2 where
  len _ := rfl
  one r u hu := by
    simp only [ecl, List.mem_cons, List.not_mem_nil, or_false] at hu
    rcases hu with rfl | rfl <;> rfl
  pos := by decide
def rcell (m : M) (A D S : Value) (kp : Int) : List Value := [.int .i64 m.room, A, D, S, .bool m.dark, .int .i64 (m.count : Int), .int .i64 m.left, .int .i64 kp]
/-- The document's store. -/
structure RAt (w : World) (p : Nat) (A D S : Value) (L : List Rf) (kp : Int) (m : M) : Prop where
  blk : w.heap[p]? = some (.cells (rcell m A D S kp).toArray 40 (0, 0))
  keep : 0 < m.left → kp = m.keep
  all : K.OwnOf rfc 2 92 w 0 A L
  dir : K.OwnOf ecl 2 77 w 0 D m.dir
  sur : K.OwnOf ecl 2 77 w 0 S m.sur
  len : L.length = m.all.length
  now : ∀ i (h : i < L.length), Buf w L[i].now (m.fl i).now
  sure : ∀ i (h : i < L.length), Buf w L[i].sure (m.fl i).sure
def rfoot (p : Nat) (A D S : Value) (L : List Rf) (k : Nat) : Prop := k = p ∨ A.ownBlock = some k ∨ D.ownBlock = some k ∨ S.ownBlock = some k ∨ ∃ x ∈ L, x.now.ownBlock = some k ∨ x.sure.ownBlock = some k
def R (w : World) (p : Nat) (F : Nat → Prop) (m : M) : Prop := ∃ A D S L kp, RAt w p A D S L kp m ∧ F = rfoot p A D S L
theorem own_same {α : Type} {enc : α → List Value} {c : Nat} {T : TypeId} {w w' : World} {v : Value} {l : List α} (h : K.OwnOf enc c T w 0 v l) (hs : ∀ g, v.ownBlock = some g → w'.heap[g]? = w.heap[g]?) : K.OwnOf enc c T w' 0 v l := by
  unfold K.OwnOf at *
  obtain ⟨h1, h2⟩ := h
  refine ⟨h1, ?_⟩
  rcases h2 with h2 | ⟨g, cap, cur, rfl, h3, h4, h5⟩
  · exact .inl h2
  · exact .inr ⟨g, cap, cur, rfl, h3, (hs g rfl).trans h4, h5⟩
theorem own_lt {α : Type} {enc : α → List Value} {c : Nat} {T : TypeId} {w : World} {v : Value} {l : List α} (h : K.OwnOf enc c T w 0 v l) {g : Nat} (hg : v.ownBlock = some g) : g < w.heap.size := by
  rcases h.2 with ⟨rfl, _⟩ | ⟨g', cap, cur, rfl, h3, h4, h5⟩
  · simp [Value.ownBlock] at hg
  · simp only [Value.ownBlock, Option.some.injEq] at hg
    subst hg
    exact (Array.getElem?_eq_some_iff.1 h4).1
section
variable {w w' : World} {p : Nat} {A D S : Value} {L : List Rf} {kp : Int} {m : M}
theorem RAt.same (h : RAt w p A D S L kp m) (hs : ∀ k, rfoot p A D S L k → w'.heap[k]? = w.heap[k]?) : RAt w' p A D S L kp m :=
  ⟨by rw [hs p (.inl rfl)]; exact h.blk, h.keep, own_same h.all fun g hg => hs g (.inr (.inl hg)), own_same h.dir fun g hg => hs g (.inr (.inr (.inl hg))), own_same h.sur fun g hg => hs g (.inr (.inr (.inr (.inl hg)))), h.len,
   fun i hi => (h.now i hi).same fun g hg => hs g (.inr (.inr (.inr (.inr ⟨_, List.getElem_mem hi, .inl hg⟩)))), fun i hi => (h.sure i hi).same fun g hg => hs g (.inr (.inr (.inr (.inr ⟨_, List.getElem_mem hi, .inr hg⟩))))⟩
theorem RAt.lts (h : RAt w p A D S L kp m) : ∀ k, rfoot p A D S L k → k < w.heap.size := by
  rintro k (rfl | hk | hk | hk | ⟨x, hx, hk⟩)
  · exact (Array.getElem?_eq_some_iff.1 h.blk).1
  · exact own_lt h.all hk
  · exact own_lt h.dir hk
  · exact own_lt h.sur hk
  · obtain ⟨i, hi, rfl⟩ := List.mem_iff_getElem.1 hx
    rcases hk with hk | hk
    · exact (h.now i hi).lt hk
    · exact (h.sure i hi).lt hk
theorem RAt.kept (h : RAt w p A D S L kp m) (hb : Below w.heap.size w w') : RAt w' p A D S L kp m := h.same fun k hk => hb.block k (h.lts k hk)
theorem RAt.cells (h : RAt w p A D S L kp m) : w.cell? ⟨p, 0, none⟩ = some (.int .i64 m.room) ∧ w.cell? ⟨p, 1, none⟩ = some A ∧ w.cell? ⟨p, 2, none⟩ = some D ∧ w.cell? ⟨p, 3, none⟩ = some S ∧ w.cell? ⟨p, 4, none⟩ = some (.bool m.dark) ∧ w.cell? ⟨p, 5, none⟩ = some (.int .i64 (m.count : Int)) ∧ w.cell? ⟨p, 6, none⟩ = some (.int .i64 m.left) ∧ w.cell? ⟨p, 7, none⟩ = some (.int .i64 kp) := by
  have hb := h.blk
  refine ⟨?_, ?_, ?_, ?_, ?_, ?_, ?_, ?_⟩ <;> (simp only [World.cell?]; rw [hb]; rfl)
end
theorem R.lts {w : World} {p : Nat} {F : Nat → Prop} {m : M} (h : R w p F m) : ∀ k, F k → k < w.heap.size := by
  obtain ⟨A, D, S, L, kp, h, rfl⟩ := h
  exact h.lts
theorem R.same {w w' : World} {p : Nat} {F : Nat → Prop} {m : M} (h : R w p F m) (hs : ∀ k, F k → w'.heap[k]? = w.heap[k]?) : R w' p F m := by
  obtain ⟨A, D, S, L, kp, h, rfl⟩ := h
  exact ⟨A, D, S, L, kp, h.same hs, rfl⟩
theorem R.kept {w w' : World} {p : Nat} {F : Nat → Prop} {m : M} (h : R w p F m) (hb : Below w.heap.size w w') : R w' p F m := h.same fun k hk => hb.block k (h.lts k hk)
theorem R.beside {w w' : World} {p : Nat} {F G G' : Nat → Prop} {m : M} (h : R w p F m) (mv : Moved w w' G G') (ha : ∀ k, G k → ¬ F k) : R w' p F m := h.same fun k hk => mv.block k (h.lts k hk) fun hg => ha k hg hk

set_option maxHeartbeats 400000 in
theorem rnew_any (r : Int) (w : World) (h1 : 0 ≤ r) (h2 : r ≤ 1073741824) :
    Calls Try.prog 6 #[.int .i64 r] w fun e w' => ∃ p, e = .returned (.pointer (some ⟨p, 0, none⟩)) ∧ ∃ F, R w' p F (M.new r) ∧ (∀ k, F k → w.heap.size ≤ k) ∧ Below w.heap.size w w' := by
  have h1 : ¬ r < 0 := by omega
  have h2 : ¬ 1073741824 < r := by omega
  go_enter Try.func6, Try.ntmps6
  go_wp2
  go_ret
  refine ⟨w.heap.size, rfl, rfoot w.heap.size (.slice none 0 0) (.slice none 0 0) (.slice none 0 0) [], ⟨_, _, _, [], 0, ⟨heap_alloc_new w _, fun h => by simp [M.new] at h, K.ownOf_nil _ _, K.ownOf_nil _ _, K.ownOf_nil _ _, rfl, fun i hi => by simp at hi, fun i hi => by simp at hi⟩, rfl⟩, ?_, (Below.refl _ _).alloc (Nat.le_refl _) _⟩
  rintro k (rfl | hk | hk | hk | ⟨x, hx, _⟩)
  · exact Nat.le_refl _
  · simp [Value.ownBlock] at hk
  · simp [Value.ownBlock] at hk
  · simp [Value.ownBlock] at hk
  · simp at hx
set_option maxHeartbeats 400000 in
theorem rnew_none (r : Int) (w : World) (h : ¬ (0 ≤ r ∧ r ≤ 1073741824)) : Calls Try.prog 6 #[.int .i64 r] w fun e w' => e = .returned (.pointer none) ∧ w' = w := by
  by_cases h1 : r < 0
  · clear h
    go_enter Try.func6, Try.ntmps6
    go_wp2
    go_ret
    exact ⟨rfl, rfl⟩
  · have h2 : 1073741824 < r := by omega
    clear h
    go_enter Try.func6, Try.ntmps6
    go_wp2
    go_ret
    exact ⟨rfl, rfl⟩
end Go.Proofs.Ytndinjekocgjhaa
