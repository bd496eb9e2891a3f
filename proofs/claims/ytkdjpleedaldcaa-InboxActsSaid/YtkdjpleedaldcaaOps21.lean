/-
  PACKAGE inbox: New, Next, Take, Head, Pop, Held, Reset, by their contracts.
-/
import Derived.Test.YtkdjpleedaldcaaBase21
namespace Go.Proofs.Ytkdjpleedaldcaa
open Go.RowKit Go.Maps
set_option maxRecDepth 20000

theorem infoMs : (Try.prog.info? 33).map (·.size) = some 6 := by kernel_rfl
theorem oneMs (x : Ms) : (mcells x).toArray.all (·.oneCell') = true := by simp [mcells, Value.oneCell']
theorem results_cell_tmp {fn : Func} {p q : Tmp} (h : fn.results = #[.cell p 33, .tmp q]) (tmps : Array Value) (w : World) (g : Nat) (x : Ms)
    (hp : tmps.getD p undef = .pointer (some ⟨g, 0, none⟩)) (hg : w.heap[g]? = some (.cells (mcells x).toArray 33 (0, 0))) :
    (results fn tmps).run Try.prog w = .ok (.tuple #[mv x, tmps.getD q undef]) w := by
  have hp' : tmps[p]?.getD undef = .pointer (some ⟨g, 0, none⟩) := by simpa using hp
  have hl := run_loadVar_row (P := Try.prog) w g 33 33 (mcells x).toArray (0, 0) _ hg Try.underlying33 rfl infoMs
  simp [results, h, hp', asAddr, hl]
  rfl

theorem inew_bad (n : Int) (w : World) (h : n < 1 ∨ 32 < n) : Calls Try.prog 7 #[.int .i64 n] w fun e w' => e = .returned (.pointer none) ∧ w' = w := by
  by_cases h1 : n < 1
  · clear h
    go_enter Try.func7, Try.ntmps7
    go_wp2
    go_ret
    exact ⟨rfl, rfl⟩
  · have h2 : 32 < n := by omega
    clear h
    go_enter Try.func7, Try.ntmps7
    go_wp2
    go_ret
    exact ⟨rfl, rfl⟩
theorem inew_good (n : Nat) (w : World) (h1 : 1 ≤ n) (h2 : n ≤ 32) : Calls Try.prog 7 #[.int .i64 n] w fun e w' =>
    e = .returned (.pointer (some ⟨w.heap.size + 1, 0, none⟩)) ∧ IAt w' (w.heap.size + 1) w.heap.size (newI n) ∧ Below w.heap.size w w' ∧ w'.heap.size = w.heap.size + 2 := by
  have hmm := @run_makeMap Try.prog
  have e1 : ¬ (n : Int) < 1 := by omega
  have e2 : ¬ (32 : Int) < (n : Int) := by omega
  go_enter Try.func7, Try.ntmps7
  go_wp2
  go_ret
  refine ⟨by simp, ⟨?_, ?_⟩, ?_, by simp⟩
  · have := heap_alloc_new (w.alloc (.map #[] 0)) (.cells #[.int .i64 n, .int .u16 0, .map (some w.heap.size)] 55)
    rw [World.size_alloc] at this
    exact this
  · rw [held_new]
    exact (mAt_new w).same (Below.heap_alloc _ _ _ (by simp))
  · exact ((Below.refl _ w).alloc (Nat.le_refl _) _).alloc (by simp) _

section
variable {w : World} {p b : Nat} {m : Ib}
theorem next_at (h : IAt w p b m) (ok : m.Ok) : Calls Try.prog 23 #[.pointer (some ⟨p, 0, none⟩)] w fun e w' => e = .returned (.int .u16 m.n) ∧ w' = w := by
  have hM := imade_at h ok
  obtain ⟨c0, c1, c2⟩ := h.cells
  clear h ok
  go_enter Try.func23, Try.ntmps23
  go_wp2_with (go_at_call 26; refine hM.mono ?_; rintro e w ⟨rfl, rfl⟩)
  go_ret
  exact ⟨rfl, rfl⟩
theorem held_at (h : IAt w p b m) (ok : m.Ok) : Calls Try.prog 21 #[.pointer (some ⟨p, 0, none⟩)] w fun e w' => e = .returned (.int .i64 ((heldL m).length : Nat)) ∧ w' = w := by
  have hM := imade_at h ok
  have hl := h.map.len
  obtain ⟨c0, c1, c2⟩ := h.cells
  clear h ok
  generalize (heldL m).length = n at *
  go_enter Try.func21, Try.ntmps21
  go_wp2_with (go_at_call 26; refine hM.mono ?_; rintro e w ⟨rfl, rfl⟩)
  go_ret
  exact ⟨rfl, rfl⟩
theorem take_at (h : IAt w p b m) (ok : m.Ok) {num : Nat} (hn : num < 65536) (x : Ms) : Calls Try.prog 11 #[.pointer (some ⟨p, 0, none⟩), .int .u16 num, mv x] w fun e w' =>
    e = .returned (.bool (mayT m num)) ∧ IAt w' p b (takeM m num x) ∧ Dry p b w w' := by
  obtain ⟨W, fold⟩ : ∃ W, w.alloc (.cells #[.int .i64 x.origin, .int .u64 x.seq, .int .i64 x.hop, .string x.ex, .string x.key, .string x.body] 33) = W := ⟨_, rfl⟩
  have bW : Below w.heap.size w W := by rw [← fold]; exact (Below.refl _ _).alloc (Nat.le_refl _) _
  have hh : W.heap[w.heap.size]? = some (.cells (mcells x).toArray 33 (0, 0)) := by rw [← fold]; exact heap_alloc_new w _
  have hW := h.go bW
  have hM := imade_at hW ok
  have hN := near_at hW num
  have hH := has_at hW ok hn
  have em : mayT m num = (nearI m num && (lookI m num).isNone) := rfl
  cases hnr : nearI m num with
  | false =>
    rw [hnr, Bool.false_and] at em
    rw [hnr] at hN
    have HE : Hid (IAt W p b (takeM m num x) ∧ Dry p b w W) := ⟨by unfold takeM; rw [em]; exact hW, Dry.of_below bW⟩
    rw [em]
    clear h hW hH hh em bW
    go_enter Try.func11, Try.ntmps11
    go_wp2_with fail
    try rw [fold]
    clear fold
    refine hM.mono ?_
    rintro e V ⟨rfl, h⟩
    subst h
    go_wp2_with (go_at_call 27; refine hN.mono ?_; rintro e V ⟨rfl, rfl⟩)
    go_ret
    exact ⟨rfl, HE.out⟩
  | true =>
    rw [hnr, Bool.true_and] at em
    rw [hnr] at hN
    cases hl : lookI m num with
    | some y =>
      rw [hl] at em hH
      have HE : Hid (∀ V, Below W.heap.size W V → IAt V p b (takeM m num x) ∧ Dry p b w V) := fun V b1 => ⟨by unfold takeM; rw [em]; exact hW.go b1, (Dry.of_below bW).trans (Dry.of_below b1)⟩
      rw [em]
      simp only [Option.isSome_some] at hH
      simp only [Option.isNone_some]
      clear h hW hh em bW hl
      go_enter Try.func11, Try.ntmps11
      go_wp2_with fail
      try rw [fold]
      clear fold
      refine hM.mono ?_
      rintro e V ⟨rfl, h⟩
      subst h
      go_wp2_with (first | (go_at_call 27; refine hN.mono ?_; rintro e V ⟨rfl, rfl⟩) | (go_at_call 28; refine hH.mono ?_; rintro e V2 ⟨rfl, b2⟩))
      go_ret
      exact ⟨rfl, HE.out _ b2⟩
    | none =>
      rw [hl] at em hH
      have HP : Hid (∀ V, Below W.heap.size W V → V.cell? ⟨p, 2, none⟩ = some (.map (some b)) ∧ (∀ j u, (mcells x)[j]? = some u → V.cell? ⟨w.heap.size, j, none⟩ = some u) ∧ ∃ V', (Instr.mapUpdate 53 (.map (some b)) (.int .u16 (num : Int)) (mv x)).run Try.prog V.drew = .ok () V' ∧ Hid (IAt V' p b (takeM m num x) ∧ Dry p b w V')) := fun V b1 => by
        have hV := hW.go b1
        obtain ⟨V', r, hm, gr⟩ := (hV.map.same (w' := V.drew) rfl).put ok hn x em
        refine ⟨hV.cells.2.2, fun j u hj => cell_of_list21 ((b1.block _ (Array.getElem?_eq_some_iff.1 hh).1).trans hh) j hj, V', r, ⟨?_, hm⟩, ((Dry.of_below bW).trans (Dry.of_below b1)).trans ((Dry.of_below (Below.refl _ V).drew).trans (Dry.of_grown gr))⟩
        rw [(takeM_s m num x).1, (takeM_s m num x).2]
        exact (gr.block p (show p < V.drew.heap.size from hV.lt) (fun e => hV.ne (by injection e with e))).trans hV.blk
      rw [em]
      simp only [Option.isSome_none] at hH
      simp only [Option.isNone_none]
      clear h hW hh em bW hl
      generalize takeM m num x = m' at *
      go_enter Try.func11, Try.ntmps11
      go_wp2_with fail
      try rw [fold]
      clear fold
      refine hM.mono ?_
      rintro e V ⟨rfl, h⟩
      subst h
      go_wp2_with (first | (go_at_call 27; refine hN.mono ?_; rintro e V ⟨rfl, rfl⟩) | (go_at_call 28; refine hH.mono ?_; rintro e V2 ⟨rfl, b2⟩; obtain ⟨k2, kc, V3, r3, HE⟩ := HP.out V2 b2; have k10 := kc 0 _ rfl; have k11 := kc 1 _ rfl; have k12 := kc 2 _ rfl; have k13 := kc 3 _ rfl; have k14 := kc 4 _ rfl; have k15 := kc 5 _ rfl; clear kc))
      go_region
      all_goals go_wp2
      all_goals go_ret
      all_goals exact ⟨rfl, HE.out⟩
theorem pop_at (h : IAt w p b m) (ok : m.Ok) : Calls Try.prog 13 #[.pointer (some ⟨p, 0, none⟩)] w fun e w' =>
    e = .returned (.bool (m.h 0).isSome) ∧ IAt w' p b (popM m) ∧ Dry p b w w' := by
  have hM := imade_at h ok
  have hH := has_at h ok ok.n2
  rw [look_next ok] at hH
  obtain ⟨c0, c1, c2⟩ := h.cells
  cases hl : (m.h 0).isSome with
  | false =>
    rw [hl] at hH
    have HE : Hid (∀ V, Below w.heap.size w V → IAt V p b (popM m) ∧ Dry p b w V) := fun V b1 => ⟨by unfold popM; rw [hl]; exact h.go b1, Dry.of_below b1⟩
    clear h hl
    go_enter Try.func13, Try.ntmps13
    go_wp2_with (first | (go_at_call 26; refine hM.mono ?_; rintro e V ⟨rfl, rfl⟩) | (go_at_call 28; refine hH.mono ?_; rintro e V2 ⟨rfl, b2⟩))
    go_ret
    exact ⟨rfl, HE.out _ b2⟩
  | true =>
    rw [hl] at hH
    have hn := ok.n2
    have HP : Hid (∀ V, Below w.heap.size w V → V.cell? ⟨p, 1, none⟩ = some (.int .u16 m.n) ∧ V.cell? ⟨p, 2, none⟩ = some (.map (some b)) ∧ ∃ f : TypeId → World, ∀ ty, (Builtin.delete_ #[53, 28] ty #[.map (some b), .int .u16 (m.n : Int)]).run Try.prog V.drew = .ok (.tuple #[]) (f ty) ∧ (f ty).cell? ⟨p, 1, none⟩ = some (.int .u16 m.n) ∧ (f ty).frozen? ⟨p, 1, none⟩ = false ∧ Hid (IAt ((f ty).setCell ⟨p, 1, none⟩ (.int .u16 (moveI (m.n : Int) 1))) p b (popM m) ∧ Dry p b w ((f ty).setCell ⟨p, 1, none⟩ (.int .u16 (moveI (m.n : Int) 1))))) := fun V b1 => by
      have hV := h.go b1
      obtain ⟨f, hf⟩ := (hV.map.same (w' := V.drew) rfl).del ok hl
      refine ⟨hV.cells.2.1, hV.cells.2.2, f, fun ty => ?_⟩
      obtain ⟨r, hm, gr⟩ := hf ty
      have hb := (gr.block p (show p < V.drew.heap.size from hV.lt) (fun e => hV.ne (by injection e with e))).trans hV.blk
      refine ⟨r, cell_of_list21 (C := [.int .i64 m.s, .int .u16 m.n, .map (some b)]) hb 1 rfl, by simp [World.frozen?, hb], ⟨?_, ?_⟩, ?_⟩
      · have := heap_setCell_same (f ty) p 1 _ 55 (.int .u16 (moveI (m.n : Int) 1)) hb
        rw [this]
        unfold popM moveI
        rw [if_pos hl]
        simp only
        congr 2
      · exact hm.same (Below.heap_setCell _ _ _ _ (fun e => hV.ne e.symm))
      · exact ((Dry.of_below b1).trans ((Dry.of_below (Below.refl _ V).drew).trans (Dry.of_grown gr))).trans (Dry.set p b _ _ _)
    clear h hl ok c0 c2
    generalize popM m = m' at *
    go_enter Try.func13, Try.ntmps13
    go_wp2_with (first | (go_at_call 26; refine hM.mono ?_; rintro e V ⟨rfl, rfl⟩) | (go_at_call 28; refine hH.mono ?_; rintro e V2 ⟨rfl, b2⟩; obtain ⟨k1, k2, f, hf⟩ := HP.out V2 b2; have r3 := fun ty => (hf ty).1; have k31 := fun ty => (hf ty).2.1; have k32 := fun ty => (hf ty).2.2.1; have HE : Hid (∀ ty, _) := fun ty => (hf ty).2.2.2; clear hf))
    go_region
    all_goals go_wp2_with (go_at_call 30; refine (move_any _ _ _).mono ?_; rintro e V4 ⟨rfl, rfl⟩)
    all_goals go_ret
    all_goals exact ⟨rfl, (HE.out _).out⟩
theorem ireset_at (h : IAt w p b m) (ok : m.Ok) : Calls Try.prog 15 #[.pointer (some ⟨p, 0, none⟩)] w fun e w' =>
    e = .returned (.tuple #[]) ∧ ∃ b', IAt w' p b' (newI m.s) ∧ Dry p b w w' ∧ w.heap.size ≤ b' := by
  have hM := imade_at h ok
  have hN := inew_good m.s w ok.s1 ok.s2
  obtain ⟨c0, c1, c2⟩ := h.cells
  have HH : Hid (IAt w p b m) := h
  clear h ok c1 c2
  generalize m.s = s at *
  go_enter Try.func15, Try.ntmps15
  go_wp2_with (first | (go_at_call 26; refine hM.mono ?_; rintro e w ⟨rfl, rfl⟩) | (go_at_call 7; refine hN.mono ?_; rintro e V ⟨rfl, hI, bV, hs⟩; have HV : Hid _ := bV; have hP := HH.out.go bV; have HI : Hid _ := hI; have HP : Hid _ := hP; obtain ⟨k0, k1, k2⟩ := hI.cells; obtain ⟨j0, j1, j2⟩ := hP.cells; have f0 := hP.free 0; have f1 := hP.free 1; have f2 := hP.free 2; clear hI hP bV hs))
  go_end0
  refine ⟨rfl, w.heap.size, ⟨?_, ?_⟩, ?_, Nat.le_refl _⟩
  · have h1 := heap_setCell_same V p 0 _ 55 (.int .i64 s) HP.out.blk
    have h2 := heap_setCell_same _ p 1 _ 55 (.int .u16 0) h1
    exact heap_setCell_same _ p 2 _ 55 (.map (some w.heap.size)) h2
  · have hne : w.heap.size ≠ p := by have := HH.out.lt; omega
    exact HI.out.map.same ((Below.heap_setCell _ _ _ _ hne).trans ((Below.heap_setCell _ _ _ _ hne).trans (Below.heap_setCell _ _ _ _ hne)))
  · exact (((Dry.of_below HV.out).trans (Dry.set p b _ _ _)).trans (Dry.set p b _ _ _)).trans (Dry.set p b _ _ _)
theorem head_at (h : IAt w p b m) (ok : m.Ok) : Calls Try.prog 17 #[.pointer (some ⟨p, 0, none⟩)] w fun e w' =>
    e = .returned (.tuple #[mv ((m.h 0).getD zM), .bool (m.h 0).isSome]) ∧ Below w.heap.size w w' := by
  obtain ⟨W, fold⟩ : ∃ W, w.alloc (.cells #[.int .i64 0, .int .u64 0, .int .i64 0, .string ⟨#[]⟩, .string ⟨#[]⟩, .string ⟨#[]⟩] 33) = W := ⟨_, rfl⟩
  have bW : Below w.heap.size w W := by rw [← fold]; exact (Below.refl _ _).alloc (Nat.le_refl _) _
  have hh : W.heap[w.heap.size]? = some (.cells (mcells zM).toArray 33 (0, 0)) := by rw [← fold]; exact heap_alloc_new w _
  have hW := h.go bW
  have hM := imade_at hW ok
  obtain ⟨c0, c1, c2⟩ := hW.cells
  have la : ∀ n, (Instr.lookup 53 (.map (some b)) (.int .u16 (m.n : Int)) true).run Try.prog (W.drewN n) = _ := fun n => (hW.map.same (w' := W.drewN n) rfl).look2 ok ok.n2
  have lb : ∀ o, (Instr.lookup 53 (.map (some b)) (.int .u16 (m.n : Int)) true).run Try.prog ((W.alloc o).drew) = _ := fun o => (hW.map.same (w' := (W.alloc o).drew) (Below.heap_alloc W _ _ hW.map.lt)).look2 ok ok.n2
  have la1 := la 1
  rw [look_next ok] at la1
  simp only [look_next ok] at lb
  generalize (m.h 0).getD zM = x at *
  generalize (m.h 0).isSome = r at *
  have hd : W.drewN 1 = W.drew := rfl
  rw [hd] at la1
  have HB : Hid (Below w.heap.size w W ∧ W.heap[w.heap.size]? = some (.cells (mcells zM).toArray 33 (0, 0)) ∧ w.heap.size < W.heap.size) := ⟨bW, hh, by rw [← fold]; simp⟩
  have ca1 := fun o => cell_alloc21 (w := W) (a := ⟨p, 1, none⟩) o c1
  have ca2 := fun o => cell_alloc21 (w := W) (a := ⟨p, 2, none⟩) o c2
  clear la hd h hW bW hh c0
  go_enter Try.func17, Try.ntmps17
  go_wp2_with fail
  try rw [fold]
  clear fold
  refine hM.mono ?_
  rintro e W ⟨rfl, rfl⟩
  go_wp2
  go_cut [4, 5] from 6 to 22 (fun s4 s5 wx => s4 = .pointer (some ⟨W.heap.size, 0, none⟩) ∧ s5 = .bool r ∧ Below W.heap.size W wx ∧ wx.heap[W.heap.size]? = some (.cells (mcells x).toArray 33 (0, 0)))
  case first =>
    go_region
    all_goals go_wp2
    all_goals go_meet
    all_goals exact ⟨rfl, rfl, ((Below.refl _ _).alloc (Nat.le_refl _) _).drew, heap_alloc_new W _⟩
  case rest =>
    obtain ⟨rfl, rfl, b3, hz⟩ := hcut
    have hzz : wc.heap[w.heap.size]? = some (.cells (mcells zM).toArray 33 (0, 0)) := (b3.block _ HB.out.2.2).trans HB.out.2.1
    have HE : Hid (Below w.heap.size w (wc.setRow w.heap.size (mcells x).toArray) ∧ (wc.setRow w.heap.size (mcells x).toArray).heap[w.heap.size]? = some (.cells (mcells x).toArray 33 (0, 0))) := by
      have hr := setRow_heap wc w.heap.size _ (mcells x).toArray 33 _ hzz
      refine ⟨?_, hr⟩
      have b4 := HB.out.1.trans (b3.mono HB.out.1.size)
      exact ⟨b4.os, b4.tape, b4.output, by have := b4.size; simpa [World.setRow] using this, fun k hk => (setRow_other wc w.heap.size k _ (by omega)).trans (b4.block k hk)⟩
    go_wp2_with (first
      | refine wpList_load_row rfl 33 _ rfl W.heap.size rfl 33 (mcells x).toArray (0, 0) _ hz Try.underlying33 rfl infoMs ?_
      | refine wpList_store_row rfl 33 _ _ rfl w.heap.size (mcells x).toArray rfl rfl 33 (mcells zM).toArray hzz infoMs rfl (oneMs x) ?_)
    refine bodyPost_ret (results_cell_tmp rfl _ _ w.heap.size x rfl HE.out.2) rfl ?_
    exact ⟨rfl, HE.out.1⟩
end
end Go.Proofs.Ytkdjpleedaldcaa
