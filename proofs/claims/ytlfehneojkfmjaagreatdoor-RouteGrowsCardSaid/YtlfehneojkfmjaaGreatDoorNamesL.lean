/-
  names, Queues, Who, by their contracts.
-/
import Derived.Test.YtlfehneojkfmjaaGreatDoorQueues
namespace Go.Proofs.YtlfehneojkfmjaaGreatDoor
open Go.RowKit Go.Sort Go.Shelf

theorem Own1.kept {w w' : World} {b B : Nat} {e : TypeId} {v : Value} {cs : List Value} (h : Own1 w b e v cs) (hb : Below B w w') (hB : w.heap.size ≤ B) : Own1 w' b e v cs := by
  refine ⟨h.1, ?_⟩
  rcases h.2 with h1 | ⟨g, cap, cur, hv, hg, hblk, h1⟩
  · exact .inl h1
  · exact .inr ⟨g, cap, cur, hv, hg, (hb.block g (Nat.lt_of_lt_of_le (Array.getElem?_eq_some_iff.1 hblk).1 hB)).trans hblk, h1⟩

set_option maxRecDepth 20000 in
set_option maxHeartbeats 4000000 in
theorem names_any (p : Nat) (F : Nat → Prop) (s : Tb) (f : Nat) (caps : Array Value) (nm : Bd → ByteArray) (sel : Bd → Bool) (w : World) (h : T w p F s) (ok : s.Ok) (ef : ∀ args w, (callFunc f args).run Tryz.prog w = .ok (.enter f args) w)
    (hcl : ∀ V x, x.Fit → Below w.heap.size w V → Calls Tryz.prog f (#[bv x] ++ caps) V fun r w' => r = .returned (.tuple #[.string (nm x), .bool (sel x)]) ∧ Below V.heap.size V w')
    (hr : ((s.bs.filter sel).map nm).Pairwise fun a b => cmpS a b ≤ 0) :
    Calls Tryz.prog 25 #[.func (.func 26) #[.pointer (some ⟨p, 0, none⟩)] #[], .func (.func f) #[] caps] w fun e w' => ∃ v', e = .returned v' ∧ Row w' v' (scells (mkS ((s.bs.filter sel).map nm))) ∧ Below w.heap.size w w' := by
  have HC : Hid (∀ V x, x.Fit → Below w.heap.size w V → Calls Tryz.prog f (#[bv x] ++ caps) V fun r w' => r = .returned (.tuple #[.string (nm x), .bool (sel x)]) ∧ Below V.heap.size V w') := hcl
  have nb := ok.nb
  have fit := ok.fit
  have hL32 : ((s.bs.filter sel).map nm).length ≤ 32 := by
    rw [List.length_map]
    exact Nat.le_trans (List.length_filter_le _ _) ok.nb
  obtain ⟨L, hL⟩ : ∃ L, (s.bs.filter sel).map nm = L := ⟨_, rfl⟩
  rw [hL] at hr hL32 ⊢
  have HL : Hid ((s.bs.filter sel).map nm = L) := hL
  clear hcl hL
  go_enter Tryz.func25, Tryz.ntmps25
  go_wp2_with fail
  refine (bindings_any p F s w h ok).mono ?_
  rintro e w1 ⟨v1, rfl, own, b1⟩
  obtain ⟨va, vc, rfl⟩ := own.rng.slice
  have hB := own.rng.bds
  clear own h ok
  go_wp2
  go_loopw [5, 7, 8, 9, 13] (fun u5 u7 u8 u9 u13 wr => ∃ k : Nat, u13 = .int .i64 k ∧ k ≤ s.bs.length ∧ Own1 wr w1.heap.size 9 u5 (scells (((s.bs.take k).filter sel).map nm)) ∧ Below w1.heap.size w1 wr) (fun u5 u7 u8 u9 u13 wr => s.bs.length - (intOf u13).toNat)
  case atStart => exact ⟨0, rfl, Nat.zero_le _, own1_nil _ _ _, Below.refl _ _⟩
  case round =>
    obtain ⟨k, rfl, hk, hown, hbr⟩ := hrel
    by_cases hlt2 : k < s.bs.length
    · have hlt : (k : Int) < (s.bs.length : Int) := by omega
      obtain ⟨b, off, rfl, hi⟩ := hB k hlt2
      obtain ⟨e0, e1, e2⟩ := hi.below hbr (Nat.le_refl _)
      have hfk := fit _ (List.getElem_mem hlt2)
      have htk : (((s.bs.take (k + 1)).filter sel).map nm) = (((s.bs.take k).filter sel).map nm) ++ (if sel s.bs[k] = true then [nm s.bs[k]] else []) := by
        rw [List.take_succ_eq_append_getElem hlt2, List.filter_append, List.map_append]
        congr 1
        by_cases hs : sel s.bs[k] = true <;> simp [hs]
      have hle : (((s.bs.take k).filter sel).map nm).length ≤ 32 := by
        rw [List.length_map]
        refine Nat.le_trans (List.length_filter_le _ _) ?_
        rw [List.length_take]; omega
      clear hB hi
      generalize s.bs[k] = x at *
      generalize (((s.bs.take k).filter sel).map nm) = done at *
      have HT : Hid _ := htk
      clear htk
      obtain ⟨X, fold⟩ : ∃ X, wr.alloc (.cells #[.string x.ex, .string x.que, .string x.pat] 39) = X := ⟨_, rfl⟩
      have bX : Below w1.heap.size w1 X := by rw [← fold]; exact hbr.alloc hbr.size _
      have a0 : X.cell? ⟨wr.heap.size, 0, none⟩ = some (.string x.ex) := by rw [← fold]; exact cell_of_list (C := bcells x) (heap_alloc_new wr _) 0
      have a1 : X.cell? ⟨wr.heap.size, 1, none⟩ = some (.string x.que) := by rw [← fold]; exact cell_of_list (C := bcells x) (heap_alloc_new wr _) 1
      have a2 : X.cell? ⟨wr.heap.size, 2, none⟩ = some (.string x.pat) := by rw [← fold]; exact cell_of_list (C := bcells x) (heap_alloc_new wr _) 2
      have oX : Own1 X w1.heap.size 9 u5 (scells done) := by rw [← fold]; exact World.ownsRow.alloc hown _
      have hc := HC.out X x hfk (b1.trans (bX.mono b1.size))
      obtain ⟨da, dc, rfl⟩ := hown.row.sliceStrs
      have hX : Hid (w1.heap.size ≤ X.heap.size) := bX.size
      cases hs : sel x
      · rw [hs] at hc HT
        go_wp2_with (first
          | (go_at_fn f; refine hc.mono ?_; rintro e w3 ⟨rfl, b3⟩))
        go_roundw
        case rel =>
          refine ⟨k + 1, by go_num, by omega, ?_, bX.trans (b3.mono hX.out)⟩
          rw [HT.out]
          simp only [Bool.false_eq_true, if_false, List.append_nil]
          exact oX.kept b3 (Nat.le_refl _)
        case measure => simp [intOf]; omega
      · rw [hs] at hc HT
        go_wp2_with (first
          | (go_at_fn f; refine hc.mono ?_; rintro e w3 ⟨rfl, b3⟩; have o3 : Own1 w3 w1.heap.size 9 (.slice da done.length dc) (scells done) := oX.kept b3 (Nat.le_refl _); have h3 : Hid (w1.heap.size ≤ w3.heap.size) := Nat.le_trans hX.out b3.size)
          | (at_builtin; refine wpList_append_row rfl _ _ 30 9 (.string ⟨#[]⟩) 16 elemS rfl w1.heap.size _ _ (scells done) [.string (nm x)] rfl rfl (World.ownsRow.alloc o3 _) (row_one _ _ _) (by simp [Value.oneCell']) (by rw [scells_length]; simp; omega) (by rw [scells_length]; simp; omega) (by have := h3.out; simp; omega) ?_; intro v' w4 hown' hb4 hs4))
        go_roundw
        case rel =>
          refine ⟨k + 1, by go_num, by omega, ?_, (bX.trans (b3.mono hX.out)).trans (((Below.refl _ _).alloc h3.out _).trans hb4)⟩
          rw [HT.out]
          simp only [if_true]
          rw [scells_append]
          exact hown'
        case measure => simp [intOf]; omega
    · obtain rfl : k = s.bs.length := by omega
      rw [List.take_length, HL.out] at hown
      have hC := compact_any _ _ _ wr hown (by omega) hr
      obtain ⟨da, dc, rfl⟩ := hown.row.sliceStrs
      go_wp2_with fail
      refine hC.mono ?_
      rintro e w4 ⟨v', rfl, row, b4⟩
      obtain ⟨ra, rc, rfl⟩ := row.sliceStrs
      go_wp2
      go_ret
      exact ⟨_, rfl, row, b1.trans ((hbr.trans b4).mono b1.size)⟩
end Go.Proofs.YtlfehneojkfmjaaGreatDoor
