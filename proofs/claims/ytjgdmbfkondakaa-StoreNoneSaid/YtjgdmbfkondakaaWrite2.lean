/-
  Write, by its contract.
-/
import Derived.Test.YtjgdmbfkondakaaWrite
namespace Go.Proofs.Ytjgdmbfkondakaa
open Go.RowKit Go.Maps

theorem Holds.slice {w : World} {v : Value} {l : List UInt8} (h : Holds w v l) : ∃ a c, v = .slice a l.length c := by
  rcases h with ⟨rfl, rfl⟩ | ⟨a, cap, rfl, _⟩
  · exact ⟨_, _, rfl⟩
  · exact ⟨_, _, rfl⟩
theorem boxed_below {w w' : World} {B : Nat} {t : TypeId} {v : Value} (h : Boxed w B t v) (hb : Below w.heap.size w w') : Boxed w' B t v := (hb.block B h.lt).trans h
theorem boxed_new (w : World) (t : TypeId) (v : Value) : Boxed (w.alloc (.cells #[v] t)) w.heap.size t v := heap_alloc_new w _
theorem boxed_old {w : World} {B : Nat} {t : TypeId} {v : Value} (h : Boxed w B t v) (o : Obj) : Boxed (w.alloc o) B t v := (Below.heap_alloc w o B h.lt).trans h
theorem fileB_some {ptr : Nat → Nat} {m : M} {n : ByteArray} (h : m.first n true = 0) : fileB ptr m n = some (ptr (m.place n)) := by unfold fileB; rw [if_pos h]
theorem fileB_none {ptr : Nat → Nat} {m : M} {n : ByteArray} (h : m.first n true ≠ 0) : fileB ptr m n = none := by unfold fileB; rw [if_neg h]

set_option maxRecDepth 20000 in
set_option maxHeartbeats 4000000 in
theorem write_any (p : Nat) (F : Nat → Prop) (m : M) (n : ByteArray) (bv : Value) (bl : List UInt8) (w : World) (h : St w p F m) (ok : m.Ok) (hc : m.count ≤ 900000) (hs : n.size ≤ maxLen) (hb : Holds w bv bl) :
    Calls Try.prog 8 #[.pointer (some ⟨p, 0, none⟩), .string n, bv] w fun e w' => e = .returned (.int .i64 (m.write n bl).1) ∧ ∃ F', St w' p F' (m.write n bl).2 ∧ Moved w w' F F' := by
  obtain ⟨nb, sb, ptr, vb, vs, L, hst, rfl⟩ := h
  obtain ⟨ba, bc, rfl⟩ := hb.slice
  obtain ⟨W1, fold1⟩ : ∃ W1, (w.alloc (.cells #[.pointer (some ⟨p, 0, none⟩)] 31)).alloc (.cells #[.slice ba bl.length bc] 22) = W1 := ⟨_, rfl⟩
  have b1 : Below w.heap.size w W1 := by rw [← fold1]; exact ((Below.refl _ w).alloc (Nat.le_refl _) _).alloc (by simp) _
  have z1 : W1.heap.size = w.heap.size + 2 := by rw [← fold1]; simp
  have x0 : Boxed W1 w.heap.size 31 (.pointer (some ⟨p, 0, none⟩)) := by rw [← fold1]; exact boxed_old (boxed_new w _ _) _
  have x1 : Boxed W1 (w.heap.size + 1) 22 (.slice ba bl.length bc) := by
    rw [← fold1]
    have := boxed_new (w.alloc (.cells #[.pointer (some ⟨p, 0, none⟩)] 31)) 22 (.slice ba bl.length bc)
    rwa [World.size_alloc] at this
  have st1 := hst.kept b1
  have hFi := find_at st1 ok n hs
  have y0 := x0.cell
  have HS : Hid (∀ W, Below w.heap.size w W → ∃ F', St W p F' m ∧ Moved w W (footS p nb sb ptr vb vs L) F') := fun W hW => ⟨_, ⟨_, _, _, _, _, _, hst.kept hW, rfl⟩, .of_below hW⟩
  by_cases h1 : m.first n true = 0
  · obtain ⟨hd, hg, e0, hf, hpl⟩ := M.first_true h1
    rw [fileB_some h1, h1, hpl] at hFi
    simp only [ptrO] at hFi
    have HF : Hid (∀ W, Below w.heap.size w W → Calls Try.prog 27 #[.pointer (some ⟨p, 0, none⟩), .int .i64 (bl.length : Int)] W fun e w' => e = .returned (.bool (!decide (m.room - m.need < bl.length))) ∧ Below W.heap.size W w') := fun W hW => fits_at (hst.kept hW) bl.length (ok.need (by omega)) ok.room0 ok.room1
    have HB : Hid (∀ w2 w4, Below W1.heap.size W1 w2 → Below (w2.heap.size + 1) (w2.alloc (.cells #[.pointer (some ⟨ptr e0.f, 0, none⟩)] 51)) w4 → Below w.heap.size w w4 ∧ Boxed w4 w.heap.size 31 (.pointer (some ⟨p, 0, none⟩)) ∧ Boxed w4 (w.heap.size + 1) 22 (.slice ba bl.length bc) ∧ Boxed w4 w2.heap.size 51 (.pointer (some ⟨ptr e0.f, 0, none⟩))) := fun w2 w4 k1 k2 => by
      have k2' : Below (w2.alloc (.cells #[.pointer (some ⟨ptr e0.f, 0, none⟩)] 51)).heap.size (w2.alloc (.cells #[.pointer (some ⟨ptr e0.f, 0, none⟩)] 51)) w4 := by rw [World.size_alloc]; exact k2
      have k3 : Below W1.heap.size W1 (w2.alloc (.cells #[.pointer (some ⟨ptr e0.f, 0, none⟩)] 51)) := k1.alloc k1.size _
      have k4 : Below W1.heap.size W1 w4 := k3.trans (k2'.mono k3.size)
      exact ⟨b1.trans (k4.mono b1.size), boxed_below x0 k4, boxed_below x1 k4, boxed_below (boxed_new w2 _ _) k2'⟩
    by_cases hsp : m.room - m.need < bl.length
    · have hF : m.write n bl = (6, m) := by unfold M.write; rw [h1]; simp [hsp]
      rw [hF]
      rw [decide_eq_true hsp] at HF
      clear hst st1 hd hg hf hb hsp
      go_enter Try.func8, Try.ntmps8
      go_wp2_with (go_at_call 24; refine hFi.mono ?_; rintro e w2 ⟨rfl, b2⟩; obtain ⟨k1, k2, k3, k4⟩ := HB.out w2 _ b2 (Below.refl _ _); have j0 := k2.cell; have j1 := k3.cell; have hFit := HF.out _ k1)
      go_wp2_with (go_at_call 27; refine hFit.mono ?_; rintro e w4 ⟨rfl, b4⟩)
      go_ret
      rw [World.size_alloc] at b4
      exact ⟨rfl, HS.out _ (HB.out w2 _ b2 b4).1⟩
    · have hF : m.write n bl = m.step (M.setF e0.f { m.fl e0.f with now := (m.fl e0.f).now ++ bl }) := by unfold M.write; rw [h1, hpl]; simp [hsp]
      rw [hF]
      rw [decide_eq_false hsp] at HF
      have hbl : bl.length ≤ 1073741824 := by have := ok.room1; omega
      have he := (findE_some hf).1
      have HD : Hid (∀ W Bf, Below w.heap.size w W → Boxed W w.heap.size 31 (.pointer (some ⟨p, 0, none⟩)) → Boxed W (w.heap.size + 1) 22 (.slice ba bl.length bc) → Boxed W Bf 51 (.pointer (some ⟨ptr e0.f, 0, none⟩)) → Calls Try.prog 28 #[.pointer (some ⟨p, 0, none⟩), .func (.func 30) #[] #[.pointer (some ⟨Bf, 0, none⟩), .pointer (some ⟨w.heap.size + 1, 0, none⟩), .pointer (some ⟨w.heap.size, 0, none⟩)]] W fun e w' => e = .returned (.int .i64 (m.step (M.setF e0.f { m.fl e0.f with now := (m.fl e0.f).now ++ bl })).1) ∧ ∃ F', St w' p F' (m.step (M.setF e0.f { m.fl e0.f with now := (m.fl e0.f).now ++ bl })).2 ∧ Moved w w' (footS p nb sb ptr vb vs L) F') := fun W Bf hW k0 k1 k2 => by
        have hlt := hst.blk_lt
        have hbox : ∀ (V : World) (B : Nat) (t : TypeId) (v : Value), (∀ k, k ≠ p → V.heap[k]? = W.heap[k]?) → Boxed W B t v → t ≠ 30 → Boxed V B t v := fun V B t v oV hB ht => (oV B (fun e => by
          subst e
          have := (hst.kept hW).blk
          unfold Boxed at hB
          rw [this] at hB
          simp only [Option.some.injEq, Obj.cells.injEq] at hB
          exact ht hB.2.1.symm)).trans hB
        refine (do_at (hst.kept hW) ok hc 30 _ (enters_of Try.func30 (by kernel_rfl) rfl) (M.setF e0.f { m.fl e0.f with now := (m.fl e0.f).now ++ bl }) (fun V stV oV sV => write1_at stV ok.tick (by show m.count + 1 ≤ _; omega) (hst.dl e0 he) he rfl _ bl ((hst.kept hW).holds (hb.below hW (Nat.le_refl _)) oV) hbl _ _ _ (hbox V _ _ _ oV k2 (by decide)) (hbox V _ _ _ oV k1 (by decide)) (hbox V _ _ _ oV k0 (by decide)))).mono ?_
        rintro e w' ⟨rfl, F', s', m'⟩
        exact ⟨rfl, F', s', (Moved.of_below hW).trans m'⟩
      generalize m.step (M.setF e0.f { m.fl e0.f with now := (m.fl e0.f).now ++ bl }) = res at *
      clear hst st1 hd hg hf hb hsp
      go_enter Try.func8, Try.ntmps8
      go_wp2_with (go_at_call 24; refine hFi.mono ?_; rintro e w2 ⟨rfl, b2⟩; obtain ⟨k1, k2, k3, k4⟩ := HB.out w2 _ b2 (Below.refl _ _); have j0 := k2.cell; have j1 := k3.cell; have hFit := HF.out _ k1)
      go_wp2_with (go_at_call 27; refine hFit.mono ?_; rintro e w4 ⟨rfl, b4⟩; rw [World.size_alloc] at b4; obtain ⟨l1, l2, l3, l4⟩ := HB.out w2 w4 b2 b4; have i0 := l2.cell; have hDo := HD.out w4 _ l1 l2 l3 l4)
      go_wp2_with (go_at_call 28; refine hDo.mono ?_; rintro e w5 ⟨rfl, F5, s5, m5⟩)
      go_ret
      exact ⟨rfl, F5, s5, m5⟩
  · have hF : m.write n bl = (m.first n true, m) := by unfold M.write; rw [if_pos h1]
    rw [hF]
    rw [fileB_none h1] at hFi
    simp only [ptrO] at hFi
    generalize m.first n true = er at *
    clear hst st1 hb
    go_enter Try.func8, Try.ntmps8
    go_wp2_with (go_at_call 24; refine hFi.mono ?_; rintro e w2 ⟨rfl, b2⟩)
    go_ret
    exact ⟨rfl, HS.out _ (b1.trans ((b2.alloc b2.size _).mono b1.size))⟩
end Go.Proofs.Ytjgdmbfkondakaa
