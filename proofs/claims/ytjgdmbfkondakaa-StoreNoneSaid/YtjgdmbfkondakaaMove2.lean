/-
  Move, Drop, Commit, by their contracts.
-/
import Derived.Test.YtjgdmbfkondakaaMove
namespace Go.Proofs.Ytjgdmbfkondakaa
open Go.RowKit Go.Maps Go.Shelf

set_option maxRecDepth 20000 in
set_option maxHeartbeats 4000000 in
theorem drop_any (p : Nat) (F : Nat → Prop) (m : M) (n : ByteArray) (w : World) (h : St w p F m) (ok : m.Ok) (hc : m.count ≤ 900000) (hs : n.size ≤ maxLen) :
    Calls Try.prog 12 #[.pointer (some ⟨p, 0, none⟩), .string n] w fun e w' => e = .returned (.int .i64 (m.drop n).1) ∧ ∃ F', St w' p F' (m.drop n).2 ∧ Moved w w' F F' := by
  obtain ⟨nb, sb, ptr, vb, vs, L, hst, rfl⟩ := h
  obtain ⟨W1, fold1⟩ : ∃ W1, (w.alloc (.cells #[.pointer (some ⟨p, 0, none⟩)] 31)).alloc (.cells #[.string n] 9) = W1 := ⟨_, rfl⟩
  have b1 : Below w.heap.size w W1 := by rw [← fold1]; exact ((Below.refl _ w).alloc (Nat.le_refl _) _).alloc (by simp) _
  have x0 : Boxed W1 w.heap.size 31 (.pointer (some ⟨p, 0, none⟩)) := by rw [← fold1]; exact boxed_old (boxed_new w _ _) _
  have x1 : Boxed W1 (w.heap.size + 1) 9 (.string n) := by
    rw [← fold1]
    have := boxed_new (w.alloc (.cells #[.pointer (some ⟨p, 0, none⟩)] 31)) 9 (.string n)
    rwa [World.size_alloc] at this
  have st1 := hst.kept b1
  have hFi := find_at st1 ok n hs
  have y0 := x0.cell
  have y1 := x1.cell
  have HS : Hid (∀ W, Below w.heap.size w W → ∃ F', St W p F' m ∧ Moved w W (footS p nb sb ptr vb vs L) F') := fun W hW => ⟨_, ⟨_, _, _, _, _, _, hst.kept hW, rfl⟩, .of_below hW⟩
  by_cases h1 : m.first n true = 0
  · rw [fileB_some h1, h1] at hFi
    simp only [ptrO] at hFi
    have hF : m.drop n = m.step (M.lose n) := by unfold M.drop; rw [h1]; rfl
    rw [hF]
    have HD : Hid (∀ w2, Below W1.heap.size W1 w2 → w2.cell? ⟨w.heap.size, 0, none⟩ = some (.pointer (some ⟨p, 0, none⟩)) ∧ Calls Try.prog 28 #[.pointer (some ⟨p, 0, none⟩), .func (.func 35) #[] #[.pointer (some ⟨w.heap.size, 0, none⟩), .pointer (some ⟨w.heap.size + 1, 0, none⟩)]] w2 fun e w' => e = .returned (.int .i64 (m.step (M.lose n)).1) ∧ ∃ F', St w' p F' (m.step (M.lose n)).2 ∧ Moved w w' (footS p nb sb ptr vb vs L) F') := fun w2 k1 => by
      have hW := b1.trans (k1.mono b1.size)
      refine ⟨(boxed_below x0 k1).cell, (do_at (hst.kept hW) ok hc 35 _ (enters_of Try.func35 (by kernel_rfl) rfl) (M.lose n) (fun V stV oV sV => drop1_at stV ok.tick (by show m.count + 1 ≤ _; omega) n hs _ _ ((hst.kept hW).box oV (boxed_below x0 k1) (by decide)) ((hst.kept hW).box oV (boxed_below x1 k1) (by decide)))).mono ?_⟩
      rintro e w' ⟨rfl, F', s', m'⟩
      exact ⟨rfl, F', s', (Moved.of_below hW).trans m'⟩
    generalize m.step (M.lose n) = res at *
    generalize ptr (m.place n) = q at *
    clear hst st1
    go_enter Try.func12, Try.ntmps12
    go_wp2_with (first
      | (go_at_call 24; refine hFi.mono ?_; rintro e w2 ⟨rfl, b2⟩; obtain ⟨k0, hDo⟩ := HD.out w2 b2)
      | (go_at_call 28; refine hDo.mono ?_; rintro e w5 ⟨rfl, F5, s5, m5⟩))
    go_ret
    exact ⟨rfl, F5, s5, m5⟩
  · have hF : m.drop n = (m.first n true, m) := by unfold M.drop; rw [if_pos h1]
    rw [hF]
    rw [fileB_none h1] at hFi
    simp only [ptrO] at hFi
    generalize m.first n true = er at *
    clear hst st1
    go_enter Try.func12, Try.ntmps12
    go_wp2_with (go_at_call 24; refine hFi.mono ?_; rintro e w2 ⟨rfl, b2⟩)
    go_ret
    exact ⟨rfl, HS.out _ (b1.trans (b2.mono b1.size))⟩

set_option maxRecDepth 20000 in
set_option maxHeartbeats 4000000 in
theorem commit_any (p : Nat) (F : Nat → Prop) (m : M) (w : World) (h : St w p F m) (ok : m.Ok) (hc : m.count ≤ 900000) :
    Calls Try.prog 13 #[.pointer (some ⟨p, 0, none⟩)] w fun e w' => e = .returned (.int .i64 m.commit.1) ∧ ∃ F', St w' p F' m.commit.2 ∧ Moved w w' F F' := by
  obtain ⟨nb, sb, ptr, vb, vs, L, hst, rfl⟩ := h
  obtain ⟨W1, fold1⟩ : ∃ W1, w.alloc (.cells #[.pointer (some ⟨p, 0, none⟩)] 31) = W1 := ⟨_, rfl⟩
  have b1 : Below w.heap.size w W1 := by rw [← fold1]; exact (Below.refl _ w).alloc (Nat.le_refl _) _
  have x0 : Boxed W1 w.heap.size 31 (.pointer (some ⟨p, 0, none⟩)) := by rw [← fold1]; exact boxed_new w _ _
  have y0 := x0.cell
  have hC := check_at (hst.kept b1) (.slice none 0 0) [] (.inl ⟨rfl, rfl⟩) (by simp)
  have hI : checkI m [] = if m.dark then 9 else 0 := by unfold checkI; simp
  rw [hI] at hC
  cases hd : m.dark with
  | true =>
    have hF : m.commit = (9, m) := by unfold M.commit; rw [hd]; rfl
    rw [hF]
    rw [hd] at hC
    have HS : Hid (∃ F', St W1 p F' m ∧ Moved w W1 (footS p nb sb ptr vb vs L) F') := ⟨_, ⟨_, _, _, _, _, _, hst.kept b1, rfl⟩, .of_below b1⟩
    clear hst
    go_enter Try.func13, Try.ntmps13
    go_wp2_with (go_at_call 26; refine hC.mono ?_; rintro e W1 ⟨rfl, rfl⟩)
    go_ret
    exact ⟨rfl, HS.out⟩
  | false =>
    have hF : m.commit = m.step M.secure := by unfold M.commit; rw [hd]; rfl
    rw [hF]
    rw [hd] at hC
    have hDo := do_at (hst.kept b1) ok hc 36 #[.pointer (some ⟨w.heap.size, 0, none⟩)] (enters_of Try.func36 (by kernel_rfl) rfl) M.secure (fun V stV oV sV => commit1_at stV _ ((hst.kept b1).box oV x0 (by decide)))
    have HM : Hid (∀ w' F', Moved W1 w' (footS p nb sb ptr vb vs L) F' → Moved w w' (footS p nb sb ptr vb vs L) F') := fun w' F' k => (Moved.of_below b1).trans k
    generalize m.step M.secure = res at *
    clear hst
    go_enter Try.func13, Try.ntmps13
    go_wp2_with (first
      | (go_at_call 26; refine hC.mono ?_; rintro e W1 ⟨rfl, rfl⟩)
      | (go_at_call 28; refine hDo.mono ?_; rintro e w5 ⟨rfl, F5, s5, m5⟩))
    go_ret
    exact ⟨rfl, F5, s5, HM.out _ _ m5⟩

set_option maxRecDepth 20000 in
set_option maxHeartbeats 4000000 in
theorem move_any (p : Nat) (F : Nat → Prop) (m : M) (n t : ByteArray) (w : World) (h : St w p F m) (ok : m.Ok) (hc : m.count ≤ 900000) (hs : n.size ≤ maxLen) (ht : t.size ≤ maxLen) :
    Calls Try.prog 11 #[.pointer (some ⟨p, 0, none⟩), .string n, .string t] w fun e w' => e = .returned (.int .i64 (m.move n t).1) ∧ ∃ F', St w' p F' (m.move n t).2 ∧ Moved w w' F F' := by
  obtain ⟨nb, sb, ptr, vb, vs, L, hst, rfl⟩ := h
  obtain ⟨W1, fold1⟩ : ∃ W1, ((w.alloc (.cells #[.pointer (some ⟨p, 0, none⟩)] 31)).alloc (.cells #[.string n] 9)).alloc (.cells #[.string t] 9) = W1 := ⟨_, rfl⟩
  have b1 : Below w.heap.size w W1 := by rw [← fold1]; exact (((Below.refl _ w).alloc (Nat.le_refl _) _).alloc (by simp) _).alloc (by simp; omega) _
  have z1 : W1.heap.size = w.heap.size + 3 := by rw [← fold1]; simp
  have x0 : Boxed W1 w.heap.size 31 (.pointer (some ⟨p, 0, none⟩)) := by rw [← fold1]; exact boxed_old (boxed_old (boxed_new w _ _) _) _
  have x1 : Boxed W1 (w.heap.size + 1) 9 (.string n) := by
    rw [← fold1]
    have := boxed_new (w.alloc (.cells #[.pointer (some ⟨p, 0, none⟩)] 31)) 9 (.string n)
    rw [World.size_alloc] at this
    exact boxed_old this _
  have x2 : Boxed W1 (w.heap.size + 1 + 1) 9 (.string t) := by
    rw [← fold1]
    have := boxed_new ((w.alloc (.cells #[.pointer (some ⟨p, 0, none⟩)] 31)).alloc (.cells #[.string n] 9)) 9 (.string t)
    rwa [World.size_alloc, World.size_alloc] at this
  obtain ⟨W2, fold2⟩ : ∃ W2, W1.alloc (.cells #[.string n, .string t] 9) = W2 := ⟨_, rfl⟩
  have b2 : Below W1.heap.size W1 W2 := by rw [← fold2]; exact (Below.refl _ _).alloc (Nat.le_refl _) _
  have b02 : Below w.heap.size w W2 := b1.trans (b2.mono b1.size)
  have st2 := hst.kept b02
  have hr : Row W2 (.slice (some ⟨W1.heap.size, 0, none⟩) 2 2) (scells [n, t]) := by
    rw [← fold2]; exact (own1_new W1 W1.heap.size 9 [.string n, .string t] (Nat.le_refl _) (by simp [maxLen])).row
  rw [z1] at hr
  have hC := check_at st2 _ [n, t] hr (by simp; exact ⟨hs, ht⟩)
  have hI : checkI m [n, t] = if m.dark then 9 else if goodN n && goodN t then 0 else 2 := by unfold checkI; simp
  rw [hI] at hC
  have u0 := boxed_below x0 b2
  have u1 := boxed_below x1 b2
  have u2 := boxed_below x2 b2
  have hFi := find_at st2 ok n hs
  have y0 := x0.cell
  have y1 := x1.cell
  have y2 := x2.cell
  have v0 := u0.cell
  have v1 := u1.cell
  have HS : Hid (∀ W, Below w.heap.size w W → ∃ F', St W p F' m ∧ Moved w W (footS p nb sb ptr vb vs L) F') := fun W hW => ⟨_, ⟨_, _, _, _, _, _, hst.kept hW, rfl⟩, .of_below hW⟩
  cases hd : m.dark with
  | true =>
    have hF : m.move n t = (9, m) := by unfold M.move; rw [hd]; rfl
    rw [hF]
    rw [hd] at hC
    clear hst st2 hr hFi
    go_enter Try.func11, Try.ntmps11
    go_wp2_with (go_at_call 26; refine hC.mono ?_; rintro e W2 ⟨rfl, rfl⟩)
    go_ret
    exact ⟨rfl, HS.out _ b02⟩
  | false =>
    rw [hd] at hC
    cases hgg : (goodN n && goodN t) with
    | false =>
      have hF : m.move n t = (2, m) := by
        unfold M.move; rw [hd]
        rw [Bool.and_eq_false_iff] at hgg
        rw [if_neg (by simp), if_pos hgg]
      rw [hF]
      rw [hgg] at hC
      clear hst st2 hr hFi hgg
      go_enter Try.func11, Try.ntmps11
      go_wp2_with (go_at_call 26; refine hC.mono ?_; rintro e W2 ⟨rfl, rfl⟩)
      go_ret
      exact ⟨rfl, HS.out _ b02⟩
    | true =>
      rw [hgg] at hC
      rw [Bool.and_eq_true] at hgg
      obtain ⟨hg, hgt⟩ := hgg
      cases hf : findE m.dir n with
      | none =>
        have hF : m.move n t = (3, m) := by unfold M.move; rw [hd, hg, hgt, hf]; rfl
        rw [hF]
        have h1 : m.first n true = 3 := first_none hd hg hf
        rw [fileB_none (by rw [h1]; decide), h1] at hFi
        simp only [ptrO] at hFi
        clear hst st2 hr hg hgt hf
        go_enter Try.func11, Try.ntmps11
        go_wp2_with (first
          | (go_at_call 26; refine hC.mono ?_; rintro e W2 ⟨rfl, rfl⟩)
          | (go_at_call 24; refine hFi.mono ?_; rintro e w3 ⟨rfl, b3⟩))
        go_ret
        exact ⟨rfl, HS.out _ (b02.trans ((b3.alloc b3.size _).mono b02.size))⟩
      | some e0 =>
        have hpl := M.place_of hf
        have hF : m.move n t = m.step (M.shift n t e0.f) := by unfold M.move; rw [hd, hg, hgt, hf, hpl]; rfl
        rw [hF]
        have h1 : m.first n true = 0 := first_some hd hg hf
        rw [fileB_some h1, h1, hpl] at hFi
        simp only [ptrO] at hFi
        have HD : Hid (∀ w3, Below W2.heap.size W2 w3 → (w3.alloc (.cells #[.pointer (some ⟨ptr e0.f, 0, none⟩)] 51)).cell? ⟨w.heap.size, 0, none⟩ = some (.pointer (some ⟨p, 0, none⟩)) ∧ Calls Try.prog 28 #[.pointer (some ⟨p, 0, none⟩), .func (.func 33) #[] #[.pointer (some ⟨w.heap.size, 0, none⟩), .pointer (some ⟨w.heap.size + 1, 0, none⟩), .pointer (some ⟨w.heap.size + 1 + 1, 0, none⟩), .pointer (some ⟨w3.heap.size, 0, none⟩)]] (w3.alloc (.cells #[.pointer (some ⟨ptr e0.f, 0, none⟩)] 51)) fun e w' => e = .returned (.int .i64 (m.step (M.shift n t e0.f)).1) ∧ ∃ F', St w' p F' (m.step (M.shift n t e0.f)).2 ∧ Moved w w' (footS p nb sb ptr vb vs L) F') := fun w3 k1 => by
          have k3 : Below W2.heap.size W2 (w3.alloc (.cells #[.pointer (some ⟨ptr e0.f, 0, none⟩)] 51)) := k1.alloc k1.size _
          have hW := b02.trans (k3.mono b02.size)
          refine ⟨(boxed_below u0 k3).cell, (do_at (hst.kept hW) ok hc 33 _ (enters_of Try.func33 (by kernel_rfl) rfl) (M.shift n t e0.f) (fun V stV oV sV => move1_at stV ok.tick (by show m.count + 1 ≤ _; omega) n t hs hgt hf _ _ _ _ ((hst.kept hW).box oV (boxed_below u0 k3) (by decide)) ((hst.kept hW).box oV (boxed_below u1 k3) (by decide)) ((hst.kept hW).box oV (boxed_below u2 k3) (by decide)) ((hst.kept hW).box oV (boxed_new w3 _ _) (by decide)))).mono ?_⟩
          rintro e w' ⟨rfl, F', s', m'⟩
          exact ⟨rfl, F', s', (Moved.of_below hW).trans m'⟩
        generalize m.step (M.shift n t e0.f) = res at *
        clear hst st2 hr hg hgt hf
        go_enter Try.func11, Try.ntmps11
        go_wp2_with (first
          | (go_at_call 26; refine hC.mono ?_; rintro e W2 ⟨rfl, rfl⟩)
          | (go_at_call 24; refine hFi.mono ?_; rintro e w3 ⟨rfl, b3⟩; obtain ⟨k0, hDo⟩ := HD.out w3 b3)
          | (go_at_call 28; refine hDo.mono ?_; rintro e w5 ⟨rfl, F5, s5, m5⟩))
        go_ret
        exact ⟨rfl, F5, s5, m5⟩
end Go.Proofs.Ytjgdmbfkondakaa
