/-
  Names: its row is new.
-/
import Derived.Test.YtndinjekocgjhaaTells
namespace Go.Proofs.Ytndinjekocgjhaa
open Go.RowKit Go.Maps Go.Shelf Go.Sort Go.WideShapes

/-- A row that lies behind a place of the heap. -/
def Behind (z : Nat) (v : Value) : Prop := ∀ ad n c, v = .slice (some ad) n c → z ≤ ad.block
theorem behind_owns {w : World} {base : Nat} {e : TypeId} {v : Value} {cs : List Value} (h : w.ownsRow base e 1 v cs.length cs) : Behind base v := by
  rcases h.2 with ⟨rfl, hn⟩ | ⟨g, cap, cur, rfl, hb, _, hnc, hcm, _, _⟩
  · intro ad n c e; cases e
  · intro ad n c e
    injection e with e _ _
    injection e with e
    rw [← e]
    exact hb
theorem Row.moved {Y Z : World} {F F' : Nat → Prop} {z : Nat} {v : Value} {cs : List Value} (h : Row Y v cs) (hb : Behind z v) (hF : ∀ k, F k → k < z) (mv : Moved Y Z F F') : Row Z v cs := by
  rcases h with h | ⟨a, cap, hv, h1, h2, h3⟩
  · exact .inl h
  · refine .inr ⟨a, cap, hv, h1, h2, fun j u hj => ?_⟩
    have h4 := h3 j u hj
    have h5 : (a.add j).block = a.block := Addr.block_add a j
    have h6 := World.block_lt_of_cell? _ _ h4
    rw [h5] at h6
    have h7 : z ≤ a.block := hb a _ _ hv
    have h8 := mv.block a.block h6 (fun hf => by have := hF _ hf; omega)
    rw [← h4]
    simp only [World.cell?, h5]
    rw [h8]
set_option maxHeartbeats 1000000 in
theorem sorted_new (b : Nat) (ptr : Nat → Nat) (l : List En) (w : World) (hown : DAt w b (ents ptr l)) (ho : Ord cmpE l) (hlen : l.length ≤ 1000000) :
    Calls Try.prog 43 #[.func (.func 72) #[] #[.pointer (some ⟨w.heap.size, 0, none⟩)]] (w.alloc (.cells #[.map (some b)] 50)) fun e w' => ∃ v, e = .returned v ∧ (Row w' v (scells (l.map En.name)) ∧ Behind w.heap.size v) ∧ Below w.heap.size w w' := by
  have hbl := hown.lt
  have hsz : Maps.size (DofG pkl pd (ents ptr l)) = l.length := by rw [size_DofG]; simp [ents]
  have hseq : SeqGives Fence.wide 2 Try.prog 72 #[.pointer (some ⟨w.heap.size, 0, none⟩)] Go.Proofs.encStr (fun ss => ss.Perm (strKeys (DofG pkl pd (ents ptr l)))) (Maps.size (DofG pkl pd (ents ptr l))) (w.alloc (.cells #[.map (some b)] 50)) :=
    AnyZ.keys_gives (ρ := Try.keysD_ren) { Try.keysD with } Fence.wide _ trivial rfl (by omega) w.heap.size b _ (DofG pkl pd (ents ptr l)) _ (by simp) (cell_new w _ _) (hown.same (Below.heap_alloc _ _ b hbl))
  refine (callsIn_wide.1 (AnyZ.sorted_in Try.sortedS Fence.wide 5 trivial trivial trivial trivial rfl (by omega) (sorts_at _) (enters_of Try.func71 (by kernel_rfl) rfl) 72 #[.pointer (some ⟨w.heap.size, 0, none⟩)] trivial (enters_of Try.func72 (by kernel_rfl) rfl) _ _ (by rw [hsz]; unfold maxLen; omega) (by rw [hsz]; omega) _ hseq)).mono ?_
  rintro e w' ⟨v, ss, rfl, hS, hrow, _, hb⟩
  obtain ⟨h1, h2⟩ := keys_sorted ho hS
  rw [h1, h2] at hrow
  have h3 : w'.ownsRow (w.alloc (.cells #[.map (some b)] 50)).heap.size (Try.sortedS_ren.t 26) 1 v (scells (l.map En.name)).length (scells (l.map En.name)) := by
    rw [show (scells (l.map En.name)).length = l.length by simp [scells]]
    exact hrow
  refine ⟨v, rfl, ⟨row_of_owns h3, fun ad n c e => ?_⟩, ((Below.refl _ w).alloc (Nat.le_refl _) _).trans (hb.mono (by simp))⟩
  have := behind_owns h3 ad n c e
  simp at this
  omega
set_option maxRecDepth 20000 in
set_option maxHeartbeats 1000000 in
theorem names_new (p : Nat) (F : Nat → Prop) (m : M) (w : World) (h : St w p F m) (ok : m.Ok) (hc : m.count ≤ 1000000) :
    Calls Try.prog 11 #[.pointer (some ⟨p, 0, none⟩)] w fun e w' => ∃ v, e = .returned v ∧ (Row w' v (scells m.names) ∧ Behind w.heap.size v) ∧ Below w.heap.size w w' := by
  obtain ⟨nb, sb, ptr, vb, vs, L, hst, rfl⟩ := h
  have hC := check_at hst (.slice none 0 0) [] (.inl ⟨rfl, rfl⟩) (by simp)
  have hI : checkI m [] = if m.dark then 9 else 0 := by unfold checkI; simp
  rw [hI] at hC
  have c6 := hst.cells.2.2.2.2.2.2.1
  have hK := keys_at (some nb) w
  have hS := sorted_new nb ptr m.dir w hst.n ok.od (by have := ok.ld; omega)
  unfold M.names
  clear hst
  cases hd : m.dark with
  | true =>
    rw [hd] at hC
    go_enter Try.func11, Try.ntmps11
    go_wp2_with (go_at_call 42; refine hC.mono ?_; rintro e w ⟨rfl, rfl⟩)
    go_ret
    exact ⟨_, rfl, ⟨.inl ⟨rfl, rfl⟩, fun ad n c e => by cases e⟩, Below.refl _ _⟩
  | false =>
    rw [hd] at hC
    simp only [Bool.false_eq_true, if_false]
    generalize m.dir.map En.name = nl at *
    go_enter Try.func11, Try.ntmps11
    go_wp2_with fail
    refine hC.mono ?_
    rintro e w ⟨rfl, rfl⟩
    go_wp2_with fail
    refine hK.mono ?_
    rintro e w1 ⟨rfl, rfl⟩
    go_wp2_with fail
    refine hS.mono ?_
    rintro e w2 ⟨v, rfl, ⟨row, hbe⟩, b⟩
    obtain ⟨va, vc, rfl, _⟩ := row.sliceStrs
    have HBe : Hid _ := hbe
    clear hbe
    go_wp2
    go_ret
    exact ⟨_, rfl, ⟨row, HBe.out⟩, b⟩
end Go.Proofs.Ytndinjekocgjhaa
