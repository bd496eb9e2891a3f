/-
  Read tells new memory.
-/
import Derived.Test.YtndinjekocgjhaaNames2
import Derived.Test.YtndinjekocgjhaaTells
namespace Go.Proofs.Ytndinjekocgjhaa
open Go.RowKit Go.Maps

set_option maxRecDepth 20000 in
theorem clone_new (x : Value) (xs : List UInt8) (w : World) (hx : Holds w x xs) (h1 : xs.length ≤ 1073741824) :
    Calls Try.prog 51 #[x] w fun e w' => ∃ v, e = .returned v ∧ (Holds w' v xs ∧ Behind w.heap.size v) ∧ Below w.heap.size w w' := by
  rcases hx with ⟨rfl, rfl⟩ | ⟨a, cap, rfl, h2, h3, h4⟩
  · have hq := fun W => Lib.run_eql_slice_nil (P := Try.prog) W 29 5 none 0 0 0 0 Try.underlying29
    go_enter Try.func51, Try.ntmps51
    go_wp2
    go_ret
    exact ⟨_, rfl, ⟨.inl ⟨rfl, rfl⟩, fun ad n c e => by cases e⟩, Below.refl _ _⟩
  · obtain ⟨W, fold⟩ : ∃ W, w.alloc (.cells #[] 5) = W := ⟨_, rfl⟩
    have bW : Below w.heap.size w W := by rw [← fold]; exact (Below.refl _ _).alloc (Nat.le_refl _) _
    have own : Owns W w.heap.size 5 (.slice (some ⟨w.heap.size, 0, none⟩) 0 0) [] := by rw [← fold]; exact owns_made w w.heap.size 5 #[] 0 (Nat.le_refl _) (Nat.zero_le _) rfl
    have hx : Holds W (.slice (some a) xs.length cap) xs := Holds.below (.inr ⟨a, cap, rfl, h2, h3, h4⟩) bW (Nat.le_refl _)
    have hq := fun W => Lib.run_eql_slice_nil (P := Try.prog) W 29 5 (some a) xs.length cap 0 0 Try.underlying29
    clear h2 h3 h4
    go_enter Try.func51, Try.ntmps51
    go_wp2_with (at_builtin; refine wpList_append_bytes rfl _ _ 29 5 isU8 rfl w.heap.size _ _ [] xs rfl rfl own hx (by simp; omega) bW.size ?_; intro v2 w2 own2 bel2 sz2)
    go_ret
    refine ⟨_, rfl, ⟨own2.holds, ?_⟩, bW.trans bel2⟩
    intro ad n c e
    rcases own2.2 with ⟨h, _⟩ | ⟨g, cap', cur, h, hb, _⟩
    · rw [h] at e; cases e
    · rw [h] at e
      injection e with e _ _
      injection e with e
      rw [← e]
      exact hb
set_option maxRecDepth 20000 in
set_option maxHeartbeats 1000000 in
theorem read_new (p : Nat) (F : Nat → Prop) (m : M) (n : ByteArray) (w : World) (h : St w p F m) (ok : m.Ok) (hs : n.size ≤ maxLen) :
    Calls Try.prog 19 #[.pointer (some ⟨p, 0, none⟩), .string n] w fun e w' => ∃ v, e = .returned (.tuple #[v, .int .i64 (m.read n).2]) ∧ (Holds w' v (m.read n).1 ∧ Behind w.heap.size v) ∧ Below w.heap.size w w' := by
  obtain ⟨nb, sb, ptr, vb, vs, L, hst, rfl⟩ := h
  have hFi := find_at hst ok n hs
  by_cases h1 : m.first n true = 0
  · obtain ⟨hd, hg, e0, hf, hpl⟩ := M.first_true h1
    rw [fileB_some h1, h1, hpl] at hFi
    simp only [ptrO] at hFi
    have he := (findE_some hf).1
    have hr : m.read n = ((m.fl e0.f).now, 0) := by unfold M.read; rw [h1, hpl]; rfl
    rw [hr]
    have hFl := hst.file e0.f (hst.dl e0 he)
    have HW : Hid (∀ w2, Below w.heap.size w w2 → w2.cell? ⟨ptr e0.f, 0, none⟩ = some (vb e0.f) ∧ Calls Try.prog 51 #[vb e0.f] w2 fun e w' => ∃ v, e = .returned v ∧ (Holds w' v (m.fl e0.f).now ∧ Behind w2.heap.size v) ∧ Below w2.heap.size w2 w') := fun w2 b => by
      have h2 := (hst.kept b).file e0.f (hst.dl e0 he)
      exact ⟨h2.cells.1, clone_new _ _ w2 h2.b.holds (ok.fl e0.f).1⟩
    obtain ⟨oa, oc, hvo⟩ := hFl.b.slice
    rw [hvo] at HW
    generalize (m.fl e0.f).now = ln at *
    generalize ptr e0.f = q at *
    clear hst hFl hd hg hf hvo
    go_enter Try.func19, Try.ntmps19
    go_wp2_with fail
    refine hFi.mono ?_
    rintro e w2 ⟨rfl, b2⟩
    obtain ⟨c0, hCl⟩ := HW.out w2 b2
    go_wp2_with fail
    refine hCl.mono ?_
    rintro e w3 ⟨v, rfl, ⟨hv, hbe⟩, b3⟩
    obtain ⟨va, vc, rfl⟩ := hv.slice
    have HBE : Hid (Behind w2.heap.size (.slice va ln.length vc)) := hbe
    clear hbe
    go_wp2
    go_ret2
    exact ⟨_, rfl, ⟨hv, fun ad n c e => Nat.le_trans b2.size (HBE.out ad n c e)⟩, b2.trans (b3.mono b2.size)⟩
  · have hr : m.read n = ([], m.first n true) := by unfold M.read; rw [if_pos h1]
    rw [hr]
    rw [fileB_none h1] at hFi
    simp only [ptrO] at hFi
    generalize m.first n true = er at *
    clear hst
    go_enter Try.func19, Try.ntmps19
    go_wp2_with (go_at_call 50; refine hFi.mono ?_; rintro e w2 ⟨rfl, b2⟩)
    go_ret2
    exact ⟨_, rfl, ⟨.inl ⟨rfl, rfl⟩, fun ad n c e => by cases e⟩, b2⟩
theorem holds_moved {Y Z : World} {F F' : Nat → Prop} {z : Nat} {v : Value} {l : List UInt8} (h : Holds Y v l) (hb : Behind z v) (hF : ∀ k, F k → k < z) (mv : Moved Y Z F F') : Holds Z v l := by
  rcases h with h | ⟨a, cap, rfl, h1, h2, h3⟩
  · exact .inl h
  · refine .inr ⟨a, cap, rfl, h1, h2, fun j u hj => ?_⟩
    have h4 := h3 j u hj
    have h5 : (a.add j).block = a.block := Addr.block_add a j
    have h6 := World.block_lt_of_cell? _ _ h4
    rw [h5] at h6
    have h8 := mv.block a.block h6 (fun hf => by have := hF _ hf; have := hb a _ _ rfl; omega)
    rw [← h4]
    simp only [World.cell?, h5]
    rw [h8]
end Go.Proofs.Ytndinjekocgjhaa
