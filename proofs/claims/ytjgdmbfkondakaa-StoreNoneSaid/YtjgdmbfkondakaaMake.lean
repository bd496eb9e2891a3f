/-
  New, Make, by their contracts.
-/
import Derived.Test.YtjgdmbfkondakaaDo
namespace Go.Proofs.Ytjgdmbfkondakaa
open Go.RowKit Go.Maps

theorem box_cell {w w' : World} {b : Nat} {v : Value} (h : w.cell? ⟨b, 0, none⟩ = some v) (hs : w'.heap[b]? = w.heap[b]?) : w'.cell? ⟨b, 0, none⟩ = some v := (World.cell?_of_block (a := ⟨b, 0, none⟩) hs).trans h
theorem cell_on {w w' : World} {b i : Nat} {v : Value} (hb : Below w.heap.size w w') (h : w.cell? ⟨b, i, none⟩ = some v) : w'.cell? ⟨b, i, none⟩ = some v := (hb.cell (p := ⟨b, i, none⟩) (World.block_lt_of_cell? _ _ h)).trans h
theorem cell_new (w : World) (v : Value) (t : TypeId) : (w.alloc (.cells #[v] t)).cell? ⟨w.heap.size, 0, none⟩ = some v := by
  have := heap_alloc_new w (.cells #[v] t)
  simp only [World.cell?]
  rw [this]
  rfl
theorem below_draws (n : Nat) (w : World) (k : Nat) : Below n w (w.drewN k) := ⟨rfl, rfl, rfl, Nat.le_refl _, fun _ _ => rfl⟩
section
variable {w : World} {p nb sb : Nat} {ptr : Nat → Nat} {vb vs : Nat → Value} {L : Nat → Prop} {m : M}
/-- A file more, of no name yet. -/
theorem StAt.newFile (h : StAt w p nb sb ptr vb vs L m) : StAt (w.alloc (.cells #[.slice none 0 0, .slice none 0 0] 57)) p nb sb (putF ptr m.all.length w.heap.size) (putF vb m.all.length (.slice none 0 0)) (putF vs m.all.length (.slice none 0 0)) (fun j => L j ∨ j = m.all.length) { m with all := m.all ++ [zeroFl] } := by
  have bel : Below w.heap.size w (w.alloc (.cells #[.slice none 0 0, .slice none 0 0] 57)) := (Below.refl _ _).alloc (Nat.le_refl _) _
  have h' := h.kept bel
  have hne : ∀ i, L i → i ≠ m.all.length := fun i hi e => by have := h.lt i hi; omega
  have hfl : ∀ i, ({ m with all := m.all ++ [zeroFl] } : M).fl i = m.fl i := fun i => M.at_add (n := ⟨#[]⟩)
  have hpt : ∀ l : List En, (∀ e ∈ l, L e.f) → ents (putF ptr m.all.length w.heap.size) l = ents ptr l := fun l hl => ents_congr fun e he => putF_ne _ _ (hne e.f (hl e he))
  have hneed : ({ m with all := m.all ++ [zeroFl] } : M).need = m.need := M.needL_congr fun e _ => by rw [hfl]
  refine ⟨?_, ?_, ?_, h.ne, fun e he => .inl (h.dl e he), fun e he => .inl (h.sl e he), fun i hi => ?_, fun i hi => ?_, fun i j hi hj hij k hk hk2 => ?_⟩
  · have : scell ({ m with all := m.all ++ [zeroFl] } : M) nb sb = scell m nb sb := by unfold scell; rw [hneed]
    rw [this]; exact h'.blk
  · show DAt _ nb (ents _ m.dir)
    rw [hpt m.dir h.dl]; exact h'.n
  · show DAt _ sb (ents _ m.sur)
    rw [hpt m.sur h.sl]; exact h'.s
  · show i < (m.all ++ [zeroFl]).length
    simp only [List.length_append, List.length_cons, List.length_nil]
    rcases hi with hi | rfl
    · have := h.lt i hi; omega
    · omega
  · rw [hfl]
    rcases hi with hi | rfl
    · rw [putF_ne _ _ (hne i hi), putF_ne _ _ (hne i hi), putF_ne _ _ (hne i hi)]
      exact h'.file i hi
    · rw [putF_at, putF_at, putF_at]
      have : m.fl m.all.length = zeroFl := by unfold M.fl; rw [List.getD_eq_getElem?_getD, List.getElem?_eq_none (Nat.le_refl _)]; rfl
      rw [this]
      exact ⟨heap_alloc_new w _, buf_nil _, buf_nil _, fun g hg => by simp [Value.ownBlock] at hg⟩
  · have hn : ∀ x, footF (putF ptr m.all.length w.heap.size m.all.length) (putF vb m.all.length (.slice none 0 0) m.all.length) (putF vs m.all.length (.slice none 0 0) m.all.length) x → x = w.heap.size := by
      intro x hx
      rw [putF_at, putF_at, putF_at] at hx
      rcases hx with hx | hx | hx
      · exact hx
      · simp [Value.ownBlock] at hx
      · simp [Value.ownBlock] at hx
    rcases hi with hi | rfl
    · rw [putF_ne _ _ (hne i hi), putF_ne _ _ (hne i hi), putF_ne _ _ (hne i hi)] at hk
      rcases hj with hj | rfl
      · rw [putF_ne _ _ (hne j hj), putF_ne _ _ (hne j hj), putF_ne _ _ (hne j hj)] at hk2
        exact h.ap i j hi hj hij k hk hk2
      · have := (h.file i hi).lts k hk
        have := hn k hk2
        omega
    · rcases hj with hj | rfl
      · rw [putF_ne _ _ (hne j hj), putF_ne _ _ (hne j hj), putF_ne _ _ (hne j hj)] at hk2
        have := (h.file j hj).lts k hk2
        have := hn k hk
        omega
      · exact hij rfl
theorem foot_new (h : StAt w p nb sb ptr vb vs L m) : ∀ k, footS p nb sb (putF ptr m.all.length w.heap.size) (putF vb m.all.length (.slice none 0 0)) (putF vs m.all.length (.slice none 0 0)) (fun j => L j ∨ j = m.all.length) k → footS p nb sb ptr vb vs L k ∨ w.heap.size ≤ k := by
  rintro k (rfl | rfl | rfl | ⟨i, hi, hk⟩)
  · exact .inl (.inl rfl)
  · exact .inl (.inr (.inl rfl))
  · exact .inl (.inr (.inr (.inl rfl)))
  · rcases hi with hi | rfl
    · have hne : i ≠ m.all.length := by have := h.lt i hi; omega
      rw [putF_ne _ _ hne, putF_ne _ _ hne, putF_ne _ _ hne] at hk
      exact .inl (.inr (.inr (.inr ⟨i, hi, hk⟩)))
    · rw [putF_at, putF_at, putF_at] at hk
      rcases hk with rfl | hk | hk
      · exact .inr (Nat.le_refl _)
      · simp [Value.ownBlock] at hk
      · simp [Value.ownBlock] at hk

set_option maxRecDepth 20000 in
set_option maxHeartbeats 2000000 in
theorem make1_at (h : StAt w p nb sb ptr vb vs L m) (ok : m.Ok) (hc : m.count ≤ 1000000) (n : ByteArray) (hg : goodN n = true) (hf : findE m.dir n = none) (Bs Bn : Nat) (cs : w.cell? ⟨Bs, 0, none⟩ = some (.pointer (some ⟨p, 0, none⟩))) (cn : w.cell? ⟨Bn, 0, none⟩ = some (.string n)) :
    Calls Try.prog 29 #[.pointer (some ⟨Bs, 0, none⟩), .pointer (some ⟨Bn, 0, none⟩)] w fun e w' => e = .returned (.tuple #[]) ∧ ∃ F', St w' p F' (M.add n m) ∧ Moved w w' (footS p nb sb ptr vb vs L) F' := by
  have hs : n.size ≤ maxLen := by have := goodN_size hg; unfold maxLen; omega
  obtain ⟨W, fold⟩ : ∃ W, w.alloc (.cells #[.slice none 0 0, .slice none 0 0] 57) = W := ⟨_, rfl⟩
  have bW : Below w.heap.size w W := by rw [← fold]; exact (Below.refl _ _).alloc (Nat.le_refl _) _
  have st := h.newFile
  rw [fold] at st
  have hfn := foot_new h
  have hneed : ({ m with all := m.all ++ [zeroFl] } : M).need = m.need := M.needL_congr fun e _ => by rw [show ({ m with all := m.all ++ [zeroFl] } : M).fl e.f = m.fl e.f from M.at_add (n := ⟨#[]⟩)]
  have hlay := lay_at st (i := m.all.length) (.inr rfl) n hs (fun e he => findE_none hf e he) (ok.dlD _) (by have := ok.ld; show m.dir.length ≤ _; omega) (by rw [hneed]; exact ok.need hc) (by
    rw [show ({ m with all := m.all ++ [zeroFl] } : M).fl m.all.length = m.fl m.all.length from M.at_add (n := ⟨#[]⟩)]
    exact (ok.fl _).1)
  rw [putF_at] at hlay
  have HE : Hid (∀ w', StAt w' p nb sb (putF ptr m.all.length w.heap.size) (putF vb m.all.length (.slice none 0 0)) (putF vs m.all.length (.slice none 0 0)) (fun j => L j ∨ j = m.all.length) { m with all := m.all ++ [zeroFl], dir := ⟨n, m.all.length⟩ :: m.dir } → Moved W w' (two p nb) (two p nb) → ∃ F', St w' p F' (M.add n m) ∧ Moved w w' (footS p nb sb ptr vb vs L) F') := fun w' st' mv => by
    have hp : (⟨n, m.all.length⟩ :: m.dir : List En).Perm (putE m.dir n m.all.length) := by
      have := (putE_perm m.dir n m.all.length).symm
      rwa [M.cut_none hf] at this
    have hdl : DL (ents (putF ptr m.all.length w.heap.size) (putE m.dir n m.all.length)) := ents_dl (ord_diff (putE_ord ok.od n _)) fun e he => by
      rcases mem_putE.1 he with rfl | ⟨he, _⟩
      · exact goodN_size hg
      · exact goodN_size (ok.gd e he)
    refine ⟨_, ⟨_, _, _, _, _, _, st'.perm hp hdl, rfl⟩, ?_⟩
    have m1 : Moved w W (footS p nb sb ptr vb vs L) (footS p nb sb ptr vb vs L) := .of_below bW
    have m2 : Moved W w' (footS p nb sb ptr vb vs L) (footS p nb sb ptr vb vs L) := ⟨mv.os, mv.tape, mv.output, mv.size, fun k hk hn => mv.block k hk (fun e => hn (e.elim .inl (fun e => .inr (.inl e)))), fun _ h => .inl h⟩
    have m3 := m1.trans m2
    exact ⟨m3.os, m3.tape, m3.output, m3.size, m3.block, hfn⟩
  clear h st hfn hneed hf
  go_enter Try.func29, Try.ntmps29
  go_wp2_with (go_at_call 23; refine hlay.mono ?_; rintro e w' ⟨rfl, s', m'⟩)
  go_end0
  exact ⟨rfl, HE.out _ s' m'⟩
end
theorem St.at {w : World} {p : Nat} {F : Nat → Prop} {m : M} (h : St w p F m) : ∃ nb sb ptr vb vs L, StAt w p nb sb ptr vb vs L m ∧ F = footS p nb sb ptr vb vs L := h

set_option maxRecDepth 20000 in
set_option maxHeartbeats 4000000 in
theorem make_any (p : Nat) (F : Nat → Prop) (m : M) (n : ByteArray) (w : World) (h : St w p F m) (ok : m.Ok) (hc : m.count ≤ 900000) (hs : n.size ≤ maxLen) :
    Calls Try.prog 7 #[.pointer (some ⟨p, 0, none⟩), .string n] w fun e w' => e = .returned (.int .i64 (m.make n).1) ∧ ∃ F', St w' p F' (m.make n).2 ∧ Moved w w' F F' := by
  obtain ⟨nb, sb, ptr, vb, vs, L, hst, rfl⟩ := h
  obtain ⟨W1, fold1⟩ : ∃ W1, (w.alloc (.cells #[.pointer (some ⟨p, 0, none⟩)] 31)).alloc (.cells #[.string n] 9) = W1 := ⟨_, rfl⟩
  have b1 : Below w.heap.size w W1 := by rw [← fold1]; exact ((Below.refl _ w).alloc (Nat.le_refl _) _).alloc (by simp) _
  have z1 : W1.heap.size = w.heap.size + 2 := by rw [← fold1]; simp
  have x0 : W1.cell? ⟨w.heap.size, 0, none⟩ = some (.pointer (some ⟨p, 0, none⟩)) := by rw [← fold1]; exact bcell (cell_new w _ _)
  have x1 : W1.cell? ⟨w.heap.size + 1, 0, none⟩ = some (.string n) := by
    rw [← fold1]
    have := cell_new (w.alloc (.cells #[.pointer (some ⟨p, 0, none⟩)] 31)) (.string n) 9
    rwa [World.size_alloc] at this
  obtain ⟨W2, fold2⟩ : ∃ W2, W1.alloc (.cells #[.string n] 9) = W2 := ⟨_, rfl⟩
  have b2 : Below W1.heap.size W1 W2 := by rw [← fold2]; exact (Below.refl _ _).alloc (Nat.le_refl _) _
  have b02 : Below w.heap.size w W2 := b1.trans (b2.mono b1.size)
  have st2 := hst.kept b02
  have hr : Row W2 (.slice (some ⟨w.heap.size + 2, 0, none⟩) 1 1) (scells [n]) := by
    rw [← fold2, ← z1]; exact row_one W1 9 (.string n)
  have y0 := cell_on b2 x0
  have y1 := cell_on b2 x1
  have hC := check_at st2 _ [n] hr (by simpa using hs)
  rw [check_one] at hC
  have HS : Hid (∀ W, Below w.heap.size w W → ∃ F', St W p F' m ∧ Moved w W (footS p nb sb ptr vb vs L) F') := fun W hW => ⟨_, ⟨_, _, _, _, _, _, hst.kept hW, rfl⟩, .of_below hW⟩
  cases hd : m.dark with
  | true =>
    have hF : m.make n = (9, m) := by unfold M.make; rw [first_dark hd]; rfl
    rw [hF]
    rw [hd] at hC
    clear hst st2 hr hd
    go_enter Try.func7, Try.ntmps7
    go_wp2_with (go_at_call 26; refine hC.mono ?_; rintro e W2 ⟨rfl, rfl⟩)
    go_ret
    exact ⟨rfl, HS.out _ b02⟩
  | false =>
    rw [hd] at hC
    cases hg : goodN n with
    | false =>
      have hF : m.make n = (2, m) := by unfold M.make; rw [first_bad hd hg]; rfl
      rw [hF]
      rw [hg] at hC
      clear hst st2 hr hd hg
      go_enter Try.func7, Try.ntmps7
      go_wp2_with (go_at_call 26; refine hC.mono ?_; rintro e W2 ⟨rfl, rfl⟩)
      go_ret
      exact ⟨rfl, HS.out _ b02⟩
    | true =>
      rw [hg] at hC
      have hk := st2.n.look (ok.dlD ptr) hs
      rw [ents_find] at hk
      obtain ⟨_, _, _, _, _, _, c6, _⟩ := st2.cells
      cases hf : findE m.dir n with
      | some e0 =>
        have hF : m.make n = (4, m) := by unfold M.make; rw [first_free hd hg, hf]; rfl
        rw [hF]
        rw [hf] at hk
        simp only [Option.map_some, ptrO] at hk
        have hkd : ∀ j, (Instr.lookup 28 (.map (some nb)) (.string n) false).run Try.prog (W2.drewN j) = .ok (.pointer (some ⟨ptr e0.f, 0, none⟩)) (W2.drewN j) := fun j => by
          have := (st2.n.same (w' := W2.drewN j) rfl).look (ok.dlD ptr) hs
          rwa [ents_find, hf] at this
        have mixed : Try.prog.follows .mixedOrders = true := by kernel_rfl
        clear hst st2 hr hd hg hf
        go_enter Try.func7, Try.ntmps7
        go_wp2_with (go_at_call 26; refine hC.mono ?_; rintro e W2 ⟨rfl, rfl⟩)
        go_quiet (fail)
        go_wp2
        go_ret
        exact ⟨rfl, HS.out _ (b02.trans (below_draws _ _ _))⟩
      | none =>
        rw [hf] at hk
        simp only [Option.map_none, ptrO] at hk
        have hkd : ∀ j, (Instr.lookup 28 (.map (some nb)) (.string n) false).run Try.prog (W2.drewN j) = .ok (.pointer none) (W2.drewN j) := fun j => by
          have := (st2.n.same (w' := W2.drewN j) rfl).look (ok.dlD ptr) hs
          rwa [ents_find, hf] at this
        have mixed : Try.prog.follows .mixedOrders = true := by kernel_rfl
        have HF : Hid (∀ W, Below w.heap.size w W → Calls Try.prog 27 #[.pointer (some ⟨p, 0, none⟩), .int .i64 16] W fun e w' => e = .returned (.bool (!decide (m.room - m.need < 16))) ∧ Below W.heap.size W w') := fun W hW => fits_at (hst.kept hW) 16 (ok.need (by omega)) ok.room0 ok.room1
        by_cases hsp : m.room - m.need < 16
        · have hF : m.make n = (6, m) := by unfold M.make; rw [first_free hd hg, hf]; simp [hsp]
          rw [hF]
          rw [decide_eq_true hsp] at HF
          clear hst st2 hr hd hg hf
          go_enter Try.func7, Try.ntmps7
          go_wp2_with (go_at_call 26; refine hC.mono ?_; rintro e W2 ⟨rfl, rfl⟩)
          go_quiet (fail)
          go_wp2_with (go_at_call 27; refine (HF.out _ (b02.trans (below_draws _ _ _))).mono ?_; rintro e w4 ⟨rfl, b4⟩)
          go_ret
          exact ⟨rfl, HS.out _ ((b02.trans (below_draws _ _ _)).trans (b4.mono b02.size))⟩
        · have hF : m.make n = m.step (M.add n) := by unfold M.make; rw [first_free hd hg, hf]; simp [hsp]
          rw [hF]
          rw [decide_eq_false hsp] at HF
          have HD : Hid (∀ W, Below w.heap.size w W → W.cell? ⟨w.heap.size, 0, none⟩ = some (.pointer (some ⟨p, 0, none⟩)) → W.cell? ⟨w.heap.size + 1, 0, none⟩ = some (.string n) → Calls Try.prog 28 #[.pointer (some ⟨p, 0, none⟩), .func (.func 29) #[] #[.pointer (some ⟨w.heap.size, 0, none⟩), .pointer (some ⟨w.heap.size + 1, 0, none⟩)]] W fun e w' => e = .returned (.int .i64 (m.step (M.add n)).1) ∧ ∃ F', St w' p F' (m.step (M.add n)).2 ∧ Moved w w' (footS p nb sb ptr vb vs L) F') := fun W hW k0 k1 => by
            have hlt := hst.blk_lt
            refine (do_at (hst.kept hW) ok hc 29 _ (enters_of Try.func29 (by kernel_rfl) rfl) (M.add n) (fun V stV oV sV => make1_at stV ok.tick (by show m.count + 1 ≤ _; omega) n hg hf _ _ (box_cell k0 (oV _ (by omega))) (box_cell k1 (oV _ (by omega))))).mono ?_
            rintro e w' ⟨rfl, F', s', m'⟩
            exact ⟨rfl, F', s', (Moved.of_below hW).trans m'⟩
          clear hst st2 hr hd hg hf
          go_enter Try.func7, Try.ntmps7
          go_wp2_with (go_at_call 26; refine hC.mono ?_; rintro e W2 ⟨rfl, rfl⟩)
          go_quiet (fail)
          go_wp2_with (first
            | (go_at_call 27; refine (HF.out _ (b02.trans (below_draws _ _ _))).mono ?_; rintro e w4 ⟨rfl, b4⟩; have v0 := cell_on b4 y0; have v1 := cell_on b4 y1)
            | (go_at_call 28; refine (HD.out _ ((b02.trans (below_draws _ _ _)).trans (b4.mono b02.size)) v0 v1).mono ?_; rintro e w5 ⟨rfl, F5, s5, m5⟩))
          go_ret
          exact ⟨rfl, F5, s5, m5⟩
end Go.Proofs.Ytjgdmbfkondakaa
