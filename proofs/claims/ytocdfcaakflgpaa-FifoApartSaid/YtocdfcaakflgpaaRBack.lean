/-
  THE DOCUMENT's Back, by its contract.
-/
import Derived.Test.YtocdfcaakflgpaaRGive
namespace Go.Proofs.Ytocdfcaakflgpaa
open Go.RowKit Go.Sort

theorem r_both {w X : World} {p : Nat} {vr vo vR vO : Value} {s : St} {lr lo : List It} {F : Nat → Prop} (hq : RAt w p vr vo s) (hF : ∀ k, F k ↔ rfoot p vr vo k) (hl : ∀ k, F k → k < w.heap.size) (hW : Below w.heap.size w X) (oR : Own8 X w.heap.size vR lr) (oO : Own8 X w.heap.size vO lo) :
    ∃ F', R ((X.setCell ⟨p, 3, none⟩ vO).setCell ⟨p, 2, none⟩ vR) p F' { s with rdy := lr, out := lo } ∧ Moved w ((X.setCell ⟨p, 3, none⟩ vO).setCell ⟨p, 2, none⟩ vR) F F' := by
  have hp : p < w.heap.size := (Array.getElem?_eq_some_iff.1 hq.blk).1
  have hqW : RAt X p vr vo s := hq.same fun k hk => hW.block k (hl k ((hF k).2 hk))
  have hnR := ref_row_not oR hp
  have hnO := ref_row_not oO hp
  have oth : ∀ k, k ≠ p → ((X.setCell ⟨p, 3, none⟩ vO).setCell ⟨p, 2, none⟩ vR).heap[k]? = X.heap[k]? := fun k hk => by rw [heap_setCell_other _ _ _ _ hk, heap_setCell_other _ _ _ _ hk]
  have siz : ((X.setCell ⟨p, 3, none⟩ vO).setCell ⟨p, 2, none⟩ vR).heap.size = X.heap.size := by rw [World.size_setCell, World.size_setCell]
  refine ⟨rfoot p vR vO, ⟨vR, vO, ⟨set4_2 vR (set4_3 vO hqW.blk), oR.rng.same fun g hg => oth g (fun he => hnR (by rw [hg, he])), oO.rng.same fun g hg => oth g (fun he => hnO (by rw [hg, he])), hnR, hnO⟩, fun _ => Iff.rfl, ?_⟩, ?_⟩
  · rintro k (rfl | hk | hk)
    · rw [siz]; exact Nat.lt_of_lt_of_le hp hW.size
    · rw [siz]; exact (oR.lt hk).2
    · rw [siz]; exact (oO.lt hk).2
  · refine ⟨hW.os, hW.tape, hW.output, by rw [siz]; exact hW.size, fun k hk hn => ?_, ?_⟩
    · rw [oth k (fun h => hn ((hF k).2 (.inl h))), hW.block k hk]
    · rintro k (rfl | hk | hk)
      · exact .inl ((hF _).2 (.inl rfl))
      · exact .inr (oR.lt hk).1
      · exact .inr (oO.lt hk).1
theorem rback_none {s : St} {t : Nat} (h : findT s.out t = none) : s.back t = (10, s) := by unfold St.back; rw [h]
theorem rback_some {s : St} {t : Nat} {x : It} (h : findT s.out t = some x) : s.back t = (0, { s with out := dropT s.out t, rdy := ins (mark x) s.rdy }) := by unfold St.back; rw [h]
theorem itAt_mark {w : World} {n : Nat} {x : It} (h : w.heap[n]? = some (.cells (icells x).toArray 38 (0, 0))) : ItAt (w.setCell ⟨n, 7, none⟩ (.bool true)) n 0 (mark x) := by
  apply item_of_cells
  rw [heap_setCell_same _ _ _ _ _ _ h]
  simp [icells, mark]

set_option linter.unusedSimpArgs false
set_option maxRecDepth 20000 in
set_option maxHeartbeats 4000000 in
theorem rback_any (p : Nat) (F : Nat → Prop) (s : St) (t : Nat) (w : World) (h : R w p F s) (ok : s.Ok) :
    Calls Try.prog 36 #[.pointer (some ⟨p, 0, none⟩), .int .u64 (t : Int)] w fun e w' => e = .returned (.int .i64 (s.back t).1) ∧ ∃ F', R w' p F' (s.back t).2 ∧ Moved w w' F F' := by
  obtain ⟨vr, vo, hq, hF, hl⟩ := h
  obtain ⟨⟨c0, c1, c2, c3⟩, f0, f1, f2, f3⟩ := cells4 hq.blk
  have hT := rtake_any vo s.out t w hq.out ok.o (by have := ok.room; have := ok.m; omega)
  obtain ⟨ao, co, hvo⟩ := hq.out.slice
  have hp : p < w.heap.size := (Array.getElem?_eq_some_iff.1 hq.blk).1
  cases hf : findT s.out t with
  | none =>
    rw [rback_none hf]
    rw [hf] at hT
    subst hvo
    have HQ : Hid (RAt w p vr (.slice ao s.out.length co) s) := hq
    clear hq
    go_enter Try.func36, Try.ntmps36
    go_wp2_with fail
    refine hT.mono ?_
    rintro e w1 ⟨v', rfl, own, b⟩
    obtain ⟨va', vc', hv'⟩ := own.rng.slice
    subst hv'
    go_wp2
    go_ret
    exact ⟨rfl, F, (show R w p F s from ⟨vr, _, HQ.out, hF, hl⟩).kept (b.alloc b.size _), .of_below (b.alloc b.size _)⟩
  | some x =>
    rw [rback_some hf]
    rw [hf] at hT
    subst hvo
    obtain ⟨ar, cr, hvr⟩ := hq.rdy.slice
    subst hvr
    have HQ : Hid (RAt w p (.slice ar s.rdy.length cr) (.slice ao s.out.length co) s ∧ (∀ k, F k ↔ rfoot p (.slice ar s.rdy.length cr) (.slice ao s.out.length co) k) ∧ ∀ k, F k → k < w.heap.size) := ⟨hq, hF, hl⟩
    obtain ⟨hxm, hxt⟩ := findT_some hf
    have HAP : Hid (∀ y ∈ s.rdy, y.tag ≠ (mark x).tag) := fun y hy => ok.ap y hy x hxm
    have HLN : Hid (s.rdy.length ≤ 1000) := by have h1 := ok.room; have h2 := ok.m; exact (by omega : s.rdy.length ≤ 1000)
    have HRI : Hid (Rise s.rdy) := ok.r
    clear hq hF hl hxm hxt hf
    go_enter Try.func36, Try.ntmps36
    go_wp2_with fail
    refine hT.mono ?_
    clear hT
    rintro e w1 ⟨v', rfl, own, b⟩
    simp only [Option.getD_some]
    obtain ⟨n, hn⟩ : ∃ n, n = w1.heap.size := ⟨_, rfl⟩
    obtain ⟨W1, fold⟩ : ∃ W1, w1.alloc (.cells #[.int .u64 (x.tag : Int), .int .i64 x.m.o, .int .u64 x.m.s, .int .i64 x.m.hop, .string x.m.ex, .string x.m.key, .string x.m.body, .bool x.again] 38) = W1 := ⟨_, rfl⟩
    obtain ⟨W2, fold2⟩ : ∃ W2, W1.setCell ⟨n, 7, none⟩ (.bool true) = W2 := ⟨_, rfl⟩
    have hblk : W1.heap[n]? = some (.cells (icells x).toArray 38 (0, 0)) := by rw [← fold, hn]; exact heap_alloc_new w1 _
    have it2 : ItAt W2 n 0 (mark x) := by rw [← fold2]; exact itAt_mark hblk
    have bw : Below w1.heap.size w1 W2 := by rw [← fold2]; exact below_set _ (by rw [← fold]; exact below_alloc _ _) (by omega)
    have b2 : Below w.heap.size w W2 := b.trans (bw.mono b.size)
    have hnW : n < W2.heap.size := World.block_lt_of_cell? _ _ it2.c0
    have hpn : p < n := by have := b.size; omega
    have hq2 : RAt W2 p (.slice ar s.rdy.length cr) (.slice ao s.out.length co) s := HQ.out.1.same fun k hk => b2.block k (HQ.out.2.2 k ((HQ.out.2.1 k).2 hk))
    have hPut := rput_any (.slice ar s.rdy.length cr) s.rdy (mark x) W2.drew hq2.rdy HLN.out HRI.out HAP.out
    have HEN : Hid (∀ w5 v5, Own8 w5 W2.drew.heap.size v5 (ins (mark x) s.rdy) → Below W2.drew.heap.size W2.drew w5 → ∃ F', R ((w5.setCell ⟨p, 3, none⟩ v').setCell ⟨p, 2, none⟩ v5) p F' { s with out := dropT s.out t, rdy := ins (mark x) s.rdy } ∧ Moved w ((w5.setCell ⟨p, 3, none⟩ v').setCell ⟨p, 2, none⟩ v5) F F') := fun w5 v5 own5 b5 => by
      have b5' : Below W2.heap.size W2 w5 := ⟨b5.os, b5.tape, b5.output, b5.size, fun k hk => b5.block k hk⟩
      have bwx : Below w1.heap.size w1 w5 := bw.trans (b5'.mono bw.size)
      exact r_both HQ.out.1 HQ.out.2.1 HQ.out.2.2 (b2.trans (b5'.mono b2.size)) (own5.mono b2.size) (own.kept bwx (Nat.le_refl _))
    have HK : Hid (∀ w5, Below W2.drew.heap.size W2.drew w5 → (w5.cell? ⟨n, 0, none⟩ = some (.int .u64 (x.tag : Int)) ∧ w5.cell? ⟨n, 1, none⟩ = some (.int .i64 x.m.o) ∧ w5.cell? ⟨n, 2, none⟩ = some (.int .u64 x.m.s) ∧ w5.cell? ⟨n, 3, none⟩ = some (.int .i64 x.m.hop) ∧ w5.cell? ⟨n, 4, none⟩ = some (.string x.m.ex) ∧ w5.cell? ⟨n, 5, none⟩ = some (.string x.m.key) ∧ w5.cell? ⟨n, 6, none⟩ = some (.string x.m.body) ∧ w5.cell? ⟨n, 7, none⟩ = some (.bool true)) ∧ w5.cell? ⟨p, 2, none⟩ = some (.slice ar s.rdy.length cr) ∧ w5.cell? ⟨p, 3, none⟩ = some (.slice ao s.out.length co) ∧ w5.frozen? ⟨p, 2, none⟩ = false ∧ w5.frozen? ⟨p, 3, none⟩ = false) := fun w5 b5 => by
      have b5' : Below W2.heap.size W2 w5 := ⟨b5.os, b5.tape, b5.output, b5.size, fun k hk => b5.block k hk⟩
      obtain ⟨k0, k1, k2, k3, k4, k5, k6, k7⟩ := it2.below b5' (Nat.le_refl _)
      simp only [Nat.zero_add] at k0 k1 k2 k3 k4 k5 k6 k7
      obtain ⟨⟨_, _, n2, n3⟩, _, _, n4, n5⟩ := cells4 ((b5'.block p (by omega)).trans hq2.blk)
      exact ⟨⟨k0, k1, k2, k3, k4, k5, k6, k7⟩, n2, n3, n4, n5⟩
    have NE0 : Hid ((⟨p, 3, none⟩ : Addr) ≠ ⟨n, 0, none⟩) := fun he => by injection he with he; omega
    have NF0 : Hid ((⟨p, 2, none⟩ : Addr) ≠ ⟨n, 0, none⟩) := fun he => by injection he with he; omega
    have NE1 : Hid ((⟨p, 3, none⟩ : Addr) ≠ ⟨n, 1, none⟩) := fun he => by injection he with he; omega
    have NF1 : Hid ((⟨p, 2, none⟩ : Addr) ≠ ⟨n, 1, none⟩) := fun he => by injection he with he; omega
    have NE2 : Hid ((⟨p, 3, none⟩ : Addr) ≠ ⟨n, 2, none⟩) := fun he => by injection he with he; omega
    have NF2 : Hid ((⟨p, 2, none⟩ : Addr) ≠ ⟨n, 2, none⟩) := fun he => by injection he with he; omega
    have NE3 : Hid ((⟨p, 3, none⟩ : Addr) ≠ ⟨n, 3, none⟩) := fun he => by injection he with he; omega
    have NF3 : Hid ((⟨p, 2, none⟩ : Addr) ≠ ⟨n, 3, none⟩) := fun he => by injection he with he; omega
    have NE4 : Hid ((⟨p, 3, none⟩ : Addr) ≠ ⟨n, 4, none⟩) := fun he => by injection he with he; omega
    have NF4 : Hid ((⟨p, 2, none⟩ : Addr) ≠ ⟨n, 4, none⟩) := fun he => by injection he with he; omega
    have NE5 : Hid ((⟨p, 3, none⟩ : Addr) ≠ ⟨n, 5, none⟩) := fun he => by injection he with he; omega
    have NF5 : Hid ((⟨p, 2, none⟩ : Addr) ≠ ⟨n, 5, none⟩) := fun he => by injection he with he; omega
    have NE6 : Hid ((⟨p, 3, none⟩ : Addr) ≠ ⟨n, 6, none⟩) := fun he => by injection he with he; omega
    have NF6 : Hid ((⟨p, 2, none⟩ : Addr) ≠ ⟨n, 6, none⟩) := fun he => by injection he with he; omega
    have NE7 : Hid ((⟨p, 3, none⟩ : Addr) ≠ ⟨n, 7, none⟩) := fun he => by injection he with he; omega
    have NF7 : Hid ((⟨p, 2, none⟩ : Addr) ≠ ⟨n, 7, none⟩) := fun he => by injection he with he; omega
    obtain ⟨⟨_, _, p2, p3⟩, _, _, q2, q3⟩ := cells4 hq2.blk
    obtain ⟨i0, i1, i2, i3, i4, i5, i6, i7⟩ := it2
    simp only [Nat.zero_add, mark] at i0 i1 i2 i3 i4 i5 i6 i7
    have z7 : W1.cell? ⟨n, 7, none⟩ = some (.bool x.again) := (item_of_cells hblk).c7
    have y7 : W1.frozen? ⟨n, 7, none⟩ = false := (soft_of hblk).frozen 7
    obtain ⟨va', vc', hv'⟩ := own.rng.slice
    subst hv'
    have HN : Hid (n = w1.heap.size) := hn
    have hn' := hn.symm
    clear hq2 own b bw b2 c0 c1 c2 c3 f0 f1 f2 f3 hblk hn hp
    go_wp2
    refine wp_region_noPanic ?_
    refine wp_region_held_drew (S := fun w' => w'.cell? ⟨n, 0, none⟩ = some (.int .u64 (x.tag : Int)) ∧ w'.cell? ⟨n, 1, none⟩ = some (.int .i64 x.m.o) ∧ w'.cell? ⟨n, 2, none⟩ = some (.int .u64 x.m.s) ∧ w'.cell? ⟨n, 3, none⟩ = some (.int .i64 x.m.hop) ∧ w'.cell? ⟨n, 4, none⟩ = some (.string x.m.ex) ∧ w'.cell? ⟨n, 5, none⟩ = some (.string x.m.key) ∧ w'.cell? ⟨n, 6, none⟩ = some (.string x.m.body) ∧ w'.cell? ⟨n, 7, none⟩ = some (.bool true)) (by kernel_rfl) ⟨i0, i1, i2, i3, i4, i5, i6, i7⟩ (fun hHeld => ?_)
    refine wpAnyH_take (i := 0) (v := ?_) (by simp only [List.getElem?_toArray, List.getElem?_cons_succ, List.getElem?_cons_zero]; rfl) (by kernel_rfl) (by kernel_rfl) (by kernel_rfl) (fun _ _ _ h => h) (Or.inl ⟨by rfl, ?_⟩) (by assumption) ?_
    rotate_left
    · (intro w hSw; (try dsimp only at hSw); go_simp; try with_reducible rfl)
    try simp only [Act.put, List.setIfInBounds_toArray, List.set_cons_zero, List.set_cons_succ]
    refine wpAnyH_take (i := 1) (v := ?_) (by simp only [List.getElem?_toArray, List.getElem?_cons_succ, List.getElem?_cons_zero]; rfl) (by kernel_rfl) (by kernel_rfl) (by kernel_rfl) (fun _ _ _ h => h) (Or.inl ⟨by rfl, ?_⟩) (by assumption) ?_
    rotate_left
    · (intro w hSw; (try dsimp only at hSw); go_simp; try with_reducible rfl)
    try simp only [Act.put, List.setIfInBounds_toArray, List.set_cons_zero, List.set_cons_succ]
    refine wpAnyH_take (i := 2) (v := ?_) (by simp only [List.getElem?_toArray, List.getElem?_cons_succ, List.getElem?_cons_zero]; rfl) (by kernel_rfl) (by kernel_rfl) (by kernel_rfl) (fun _ _ _ h => h) (Or.inl ⟨by rfl, ?_⟩) (by assumption) ?_
    rotate_left
    · (intro w hSw; (try dsimp only at hSw); go_simp; try with_reducible rfl)
    try simp only [Act.put, List.setIfInBounds_toArray, List.set_cons_zero, List.set_cons_succ]
    refine wpAnyH_take (i := 3) (v := ?_) (by simp only [List.getElem?_toArray, List.getElem?_cons_succ, List.getElem?_cons_zero]; rfl) (by kernel_rfl) (by kernel_rfl) (by kernel_rfl) (fun _ _ _ h => h) (Or.inl ⟨by rfl, ?_⟩) (by assumption) ?_
    rotate_left
    · (intro w hSw; (try dsimp only at hSw); go_simp; try with_reducible rfl)
    try simp only [Act.put, List.setIfInBounds_toArray, List.set_cons_zero, List.set_cons_succ]
    refine wpAnyH_take (i := 4) (v := ?_) (by simp only [List.getElem?_toArray, List.getElem?_cons_succ, List.getElem?_cons_zero]; rfl) (by kernel_rfl) (by kernel_rfl) (by kernel_rfl) (fun _ _ _ h => h) (Or.inl ⟨by rfl, ?_⟩) (by assumption) ?_
    rotate_left
    · (intro w hSw; (try dsimp only at hSw); go_simp; try with_reducible rfl)
    try simp only [Act.put, List.setIfInBounds_toArray, List.set_cons_zero, List.set_cons_succ]
    refine wpAnyH_take (i := 5) (v := ?_) (by simp only [List.getElem?_toArray, List.getElem?_cons_succ, List.getElem?_cons_zero]; rfl) (by kernel_rfl) (by kernel_rfl) (by kernel_rfl) (fun _ _ _ h => h) (Or.inl ⟨by rfl, ?_⟩) (by assumption) ?_
    rotate_left
    · (intro w hSw; (try dsimp only at hSw); go_simp; try with_reducible rfl)
    try simp only [Act.put, List.setIfInBounds_toArray, List.set_cons_zero, List.set_cons_succ]
    refine wpAnyH_take (i := 7) (v := ?_) (by simp only [List.getElem?_toArray, List.getElem?_cons_succ, List.getElem?_cons_zero]; rfl) (by kernel_rfl) (by kernel_rfl) (by kernel_rfl) (fun _ _ _ h => h) (Or.inl ⟨by rfl, ?_⟩) (by assumption) ?_
    rotate_left
    · (intro w hSw; (try dsimp only at hSw); go_simp; try with_reducible rfl)
    try simp only [Act.put, List.setIfInBounds_toArray, List.set_cons_zero, List.set_cons_succ]
    refine wpAnyH_ready (rs := [6]) (by kernel_rfl) (by simp) ?_
    refine AllReadyH.cons rfl (fun K hK => ?_) AllReadyH.nil
    go_simp
    (try dsimp only)
    refine hK.out _ _ (by (try dsimp only); go_keep) (fun hHeld => ?_)
    clear hK K
    try simp only [Act.put, List.setIfInBounds_toArray, List.set_cons_zero, List.set_cons_succ]
    refine wpAnyH_ready (rs := [8]) (by kernel_rfl) (by simp) ?_
    refine AllReadyH.cons rfl (fun K hK => ?_) AllReadyH.nil
    go_simp
    go_at_call 51
    refine hPut.mono ?_
    clear hPut
    rintro e w5 ⟨v5, rfl, own5, b5⟩
    have HE : Hid _ := HEN.out w5 v5 own5 b5
    obtain ⟨⟨b0, b1, b2, b3, b4, b5', b6, b7⟩, d2, d3, e2, e3⟩ := HK.out w5 b5
    have j0 := fun u => cell_set_o (a := ⟨p, 3, none⟩) (u := u) b0 NE0.out
    have j1 := fun u => cell_set_o (a := ⟨p, 3, none⟩) (u := u) b1 NE1.out
    have j2 := fun u => cell_set_o (a := ⟨p, 3, none⟩) (u := u) b2 NE2.out
    have j3 := fun u => cell_set_o (a := ⟨p, 3, none⟩) (u := u) b3 NE3.out
    have j4 := fun u => cell_set_o (a := ⟨p, 3, none⟩) (u := u) b4 NE4.out
    have j5 := fun u => cell_set_o (a := ⟨p, 3, none⟩) (u := u) b5' NE5.out
    have j6 := fun u => cell_set_o (a := ⟨p, 3, none⟩) (u := u) b6 NE6.out
    have j7 := fun u => cell_set_o (a := ⟨p, 3, none⟩) (u := u) b7 NE7.out
    have l0 := fun u u' => cell_set_o (a := ⟨p, 2, none⟩) (u := u') (j0 u) NF0.out
    have l1 := fun u u' => cell_set_o (a := ⟨p, 2, none⟩) (u := u') (j1 u) NF1.out
    have l2 := fun u u' => cell_set_o (a := ⟨p, 2, none⟩) (u := u') (j2 u) NF2.out
    have l3 := fun u u' => cell_set_o (a := ⟨p, 2, none⟩) (u := u') (j3 u) NF3.out
    have l4 := fun u u' => cell_set_o (a := ⟨p, 2, none⟩) (u := u') (j4 u) NF4.out
    have l5 := fun u u' => cell_set_o (a := ⟨p, 2, none⟩) (u := u') (j5 u) NF5.out
    have l6 := fun u u' => cell_set_o (a := ⟨p, 2, none⟩) (u := u') (j6 u) NF6.out
    have l7 := fun u u' => cell_set_o (a := ⟨p, 2, none⟩) (u := u') (j7 u) NF7.out
    obtain ⟨va5, vc5, hv5⟩ := own5.rng.slice
    subst hv5
    clear own5 b5
    (try dsimp only)
    refine hK.out _ _ (by (try dsimp only); go_keep) (fun hHeld => ?_)
    clear hK K
    try simp only [Act.put, List.setIfInBounds_toArray, List.set_cons_zero, List.set_cons_succ]
    refine wpAnyH_take (i := 9) (v := ?_) (by simp only [List.getElem?_toArray, List.getElem?_cons_succ, List.getElem?_cons_zero]; rfl) (by kernel_rfl) (by kernel_rfl) (by kernel_rfl) (fun _ _ _ h => h) (Or.inl ⟨by rfl, ?_⟩) (by assumption) ?_
    rotate_left
    · (intro w hSw; (try dsimp only at hSw); go_simp; try with_reducible rfl)
    try simp only [Act.put, List.setIfInBounds_toArray, List.set_cons_zero, List.set_cons_succ]
    refine wpAnyH_take (i := 10) (v := ?_) (by simp only [List.getElem?_toArray, List.getElem?_cons_succ, List.getElem?_cons_zero]; rfl) (by kernel_rfl) (by kernel_rfl) (by kernel_rfl) (fun _ _ _ h => h) (Or.inl ⟨by rfl, ?_⟩) (by assumption) ?_
    rotate_left
    · (intro w hSw; (try dsimp only at hSw); go_simp; try with_reducible rfl)
    try simp only [Act.put, List.setIfInBounds_toArray, List.set_cons_zero, List.set_cons_succ]
    refine wpAnyH_ready (rs := [11]) (by kernel_rfl) (by simp) ?_
    refine AllReadyH.cons rfl (fun K hK => ?_) AllReadyH.nil
    go_simp
    (try dsimp only)
    refine hK.out _ _ (by (try dsimp only); go_keep) (fun hHeld => ?_)
    clear hK K
    try simp only [Act.put, List.setIfInBounds_toArray, List.set_cons_zero, List.set_cons_succ]
    refine wpAnyH_take (i := 12) (v := ?_) (by simp only [List.getElem?_toArray, List.getElem?_cons_succ, List.getElem?_cons_zero]; rfl) (by kernel_rfl) (by kernel_rfl) (by kernel_rfl) (fun _ _ _ h => h) (Or.inl ⟨by rfl, ?_⟩) (by assumption) ?_
    rotate_left
    · (intro w hSw; (try dsimp only at hSw); go_simp; try with_reducible rfl)
    try simp only [Act.put, List.setIfInBounds_toArray, List.set_cons_zero, List.set_cons_succ]
    refine wpAnyH_take (i := 13) (v := ?_) (by simp only [List.getElem?_toArray, List.getElem?_cons_succ, List.getElem?_cons_zero]; rfl) (by kernel_rfl) (by kernel_rfl) (by kernel_rfl) (fun _ _ _ h => h) (Or.inl ⟨by rfl, ?_⟩) (by assumption) ?_
    rotate_left
    · (intro w hSw; (try dsimp only at hSw); go_simp; try with_reducible rfl)
    try simp only [Act.put, List.setIfInBounds_toArray, List.set_cons_zero, List.set_cons_succ]
    refine wpAnyH_ready (rs := [14]) (by kernel_rfl) (by simp) ?_
    refine AllReadyH.cons rfl (fun K hK => ?_) AllReadyH.nil
    go_simp
    (try dsimp only)
    refine hK.out _ _ (by (try dsimp only); go_keep) (fun hHeld => ?_)
    clear hK K
    try simp only [Act.put, List.setIfInBounds_toArray, List.set_cons_zero, List.set_cons_succ]
    refine wpAnyH_done (by kernel_rfl) ?_ _
    refine NoPanic.normal ?_
    go_wp2
    go_ret
    exact ⟨rfl, HE.out⟩
end Go.Proofs.Ytocdfcaakflgpaa
