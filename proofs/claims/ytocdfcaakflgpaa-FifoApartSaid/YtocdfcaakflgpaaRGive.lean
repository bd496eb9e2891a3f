/-
  THE DOCUMENT's Give, by its contract.
-/
import Derived.Test.YtocdfcaakflgpaaRPush
namespace Go.Proofs.Ytocdfcaakflgpaa
open Go.RowKit Go.Sort

theorem addr_add2 (ad : Addr) (i j : Nat) : (ad.add i).add j = ad.add (i + j) := by
  unfold Addr.add
  by_cases hi0 : i = 0 <;> by_cases hj0 : j = 0 <;> simp [hi0, hj0]
  omega
/-- 'v[1:]', of items. -/
theorem rows_tail {w : World} {v : Value} {x : It} {t : List It} (h : Rows w v (x :: t)) :
    ∃ a cap, (∀ W, (Instr.slice 47 v (some (.int .i64 1)) none none).run Try.prog W = .ok (.slice a t.length cap) W) ∧ Rows w (.slice a t.length cap) t ∧ (Value.slice a t.length cap).ownBlock = v.ownBlock := by
  obtain ⟨i0, hi0, hz0, hzs, hzb⟩ := itemInfo
  have hso : ∀ W, (sizeOf (Try.prog.elem 47)).run Try.prog W = .ok 8 W := fun W => by
    rw [show Try.prog.elem 47 = 38 from by simp [Program.elem, Try.underlying47]]
    simp [sizeOf, typeInfo, hi0, hzs]
  have hut : Try.prog.underlying 47 = some (.slice (Try.prog.elem 47)) := by
    rw [show Try.prog.elem 47 = 38 from by simp [Program.elem, Try.underlying47]]
    exact Try.underlying47
  rcases h with ⟨rfl, h⟩ | ⟨ad, cap, rfl, h1, h2, h3⟩
  · cases h
  · rw [List.length_cons] at h1
    refine ⟨some (if cap = 1 then ad else ad.add 8), cap - 1, fun W => ?_, ?_, ?_⟩
    · show (Instr.slice 47 (.slice (some ad) (x :: t).length cap) (some (.int .i64 ((1 : Nat) : Int))) none none).run Try.prog W = _
      rw [run_slice_l W 47 (some ad) (x :: t).length cap hut .i64 (1 : Nat) (by omega) (by rw [List.length_cons]; omega)]
      simp [hso, Result.andThen, sliced]
      split <;> rfl
    · by_cases hc : cap = 1
      · have ht : t = [] := List.eq_nil_of_length_eq_zero (by omega)
        subst ht
        exact .inr ⟨_, _, rfl, by simp, by omega, fun j u hj => by simp [cellsOf] at hj⟩
      · refine .inr ⟨_, _, rfl, by omega, by omega, fun j u hj => ?_⟩
        rw [if_neg hc]
        have h4 : (cellsOf icells (x :: t))[8 + j]? = some u := by
          rw [cellsOf_cons, List.getElem?_append_right (by simp [icells])]
          simpa [icells] using hj
        have := h3 (8 + j) u h4
        rw [← this]
        have hadd : (ad.add 8).add j = ad.add (8 + j) := addr_add2 ad 8 j
        rw [hadd]
    · show some (Addr.block _) = some (Addr.block _)
      split
      · rfl
      · rw [Addr.block_add]
theorem r_tail {w : World} {p : Nat} {vr vo v' : Value} {s : St} {t : List It} {F : Nat → Prop} (hq : RAt w p vr vo s) (hF : ∀ k, F k ↔ rfoot p vr vo k) (hl : ∀ k, F k → k < w.heap.size) (hv : Rows w v' t) (hb : v'.ownBlock = vr.ownBlock) :
    RAt (w.setCell ⟨p, 2, none⟩ v') p v' vo { s with rdy := t } ∧ (∀ k, F k ↔ rfoot p v' vo k) ∧ (∀ k, F k → k < (w.setCell ⟨p, 2, none⟩ v').heap.size) ∧ Moved w (w.setCell ⟨p, 2, none⟩ v') F F := by
  refine ⟨⟨set4_2 v' hq.blk, hv.same fun g hg => heap_setCell_other _ _ _ _ (fun he => hq.nr (by rw [← hb, hg, he])), hq.out.same fun g hg => heap_setCell_other _ _ _ _ (fun he => hq.no (by rw [hg, he])), by rw [hb]; exact hq.nr, hq.no⟩, fun k => by rw [hF k]; unfold rfoot; rw [hb], fun k hk => by rw [World.size_setCell]; exact hl k hk, ⟨rfl, rfl, rfl, Nat.le_of_eq (World.size_setCell _ _ _).symm, fun k hk hn => heap_setCell_other _ _ _ _ (fun h => hn ((hF k).2 (.inl h))), fun k hk => .inl hk⟩⟩
theorem rput8_end {w W : World} {F F' : Nat → Prop} {p : Nat} {s : St} (hq : R W p F' s) (mvd : Moved w W F F') (nz : Nat) (hz : w.heap.size ≤ nz) (hn : ¬ F' nz) (v0 v1 v2 v3 v4 v5 v6 v7 : Value) : ∃ F', R (put8 W nz v0 v1 v2 v3 v4 v5 v6 v7) p F' s ∧ Moved w (put8 W nz v0 v1 v2 v3 v4 v5 v6 v7) F F' := by
  obtain ⟨h1, h2, h3⟩ := put8_world W nz v0 v1 v2 v3 v4 v5 v6 v7
  exact ⟨F', hq.same (fun k hk => put8_other v0 v1 v2 v3 v4 v5 v6 v7 (fun he => hn (by rw [← he]; exact hk))) (Nat.le_of_eq (put8_size W nz v0 v1 v2 v3 v4 v5 v6 v7).symm), mvd.on nz hz h1 h2 h3 (put8_size W nz v0 v1 v2 v3 v4 v5 v6 v7) (fun k hk => put8_other v0 v1 v2 v3 v4 v5 v6 v7 hk)⟩

set_option linter.unusedSimpArgs false
set_option maxRecDepth 20000 in
set_option maxHeartbeats 4000000 in
theorem rgive_any (p : Nat) (F : Nat → Prop) (s : St) (w : World) (h : R w p F s) (ok : s.Ok) :
    Calls Try.prog 34 #[.pointer (some ⟨p, 0, none⟩)] w fun e w' => e = .returned (.tuple #[iv s.give.1, .bool s.give.2.1]) ∧ ∃ F', R w' p F' s.give.2.2 ∧ Moved w w' F F' := by
  obtain ⟨W, hW⟩ : ∃ W, W = w.alloc (.cells #[.int .u64 0, .int .i64 0, .int .u64 0, .int .i64 0, .string ⟨#[]⟩, .string ⟨#[]⟩, .string ⟨#[]⟩, .bool false] 38) := ⟨_, rfl⟩
  have bel0 : Below w.heap.size w W := by rw [hW]; exact (Below.refl _ _).alloc (Nat.le_refl _) _
  have soft0 : Soft W w.heap.size := ⟨_, by rw [hW]; exact heap_alloc_new w _, rfl⟩
  have h0 := h.kept bel0
  have hsz : W.heap.size = w.heap.size + 1 := by rw [hW]; simp
  have hpw : p < w.heap.size := h.at
  have HLT : Hid (∀ k, F k → k < w.heap.size) := h.lts
  have HW : Hid (W = w.alloc (.cells #[.int .u64 0, .int .i64 0, .int .u64 0, .int .i64 0, .string ⟨#[]⟩, .string ⟨#[]⟩, .string ⟨#[]⟩, .bool false] 38)) := hW
  obtain ⟨vr, vo, hq, hF, hl⟩ := h0
  obtain ⟨⟨c0, c1, c2, c3⟩, f0, f1, f2, f3⟩ := cells4 hq.blk
  obtain ⟨ao, co, rfl⟩ := hq.out.slice
  have s0 := soft0.frozen
  cases hr : s.rdy with
  | nil =>
    rw [give_none hr]
    have hrow := hq.rdy
    rw [hr] at hrow
    obtain ⟨va, vc, hv⟩ := hrow.slice
    subst hv
    have HE : Hid _ := rput8_end (⟨_, _, hq, hF, hl⟩ : R W p F s) (.of_below bel0) w.heap.size (Nat.le_refl _) (fun hk => Nat.lt_irrefl _ (HLT.out _ hk)) (.int .u64 0) (.int .i64 0) (.int .u64 0) (.int .i64 0) (.string ⟨#[]⟩) (.string ⟨#[]⟩) (.string ⟨#[]⟩) (.bool false)
    have HZ : Hid _ := put8_at soft0 (.int .u64 0) (.int .i64 0) (.int .u64 0) (.int .i64 0) (.string ⟨#[]⟩) (.string ⟨#[]⟩) (.string ⟨#[]⟩) (.bool false)
    simp only [List.length_nil] at c2
    obtain ⟨z0, z1, z2, z3, z4, z5, z6, z7⟩ : ItAt W w.heap.size 0 zeroIt := by rw [hW]; exact itAt_new w zeroIt _ rfl
    simp only [Nat.zero_add] at z0 z1 z2 z3 z4 z5 z6 z7
    have fold := HW.out.symm
    clear hq hrow hF hl hW
    go_enter Try.func34, Try.ntmps34
    go_wp2
    refine ret_item (p := 2) (u := 3) (r := .bool false) rfl w.heap.size rfl rfl rfl HZ.out ?_
    exact ⟨rfl, HE.out⟩
  | cons x t =>
    rw [give_some hr]
    obtain ⟨W2, hW2⟩ : ∃ W2, W2 = W.alloc (.cells #[.int .u64 (x.tag : Int), .int .i64 x.m.o, .int .u64 x.m.s, .int .i64 x.m.hop, .string x.m.ex, .string x.m.key, .string x.m.body, .bool x.again] 38) := ⟨_, rfl⟩
    have bel1 : Below W.heap.size W W2 := by rw [hW2]; exact (Below.refl _ _).alloc (Nat.le_refl _) _
    have bel2 : Below w.heap.size w W2 := bel0.trans (bel1.mono bel0.size)
    have it2 : ItAt W2 (w.heap.size + 1) 0 x := by rw [hW2]; exact itAt_new W x _ hsz.symm
    have soft2 : Soft W2 w.heap.size := soft0.same (bel1.block _ (by rw [hW]; simp))
    have hs2 : W2.heap.size = w.heap.size + 2 := by rw [hW2]; simp [hsz]
    have hrow0 := hq.rdy
    rw [hr] at hrow0
    have hq2 : RAt W2 p vr (.slice ao s.out.length co) s := hq.same fun k hk => bel1.block k (hl k ((hF k).2 hk))
    have hrow2 := hq2.rdy
    rw [hr] at hrow2
    obtain ⟨at', ct, hsl, hrt, hob⟩ := rows_tail hrow2
    obtain ⟨va, vc, hv⟩ := hrow0.slice
    subst hv
    have hA := hrow0.items.2.2
    obtain ⟨g, off, rfl, hi⟩ := hA 0 (by simp)
    rw [Nat.zero_mul, Nat.add_zero] at hi
    obtain ⟨y0, y1, y2, y3, y4, y5, y6, y7⟩ := hi
    simp only [List.getElem_cons_zero] at y0 y1 y2 y3 y4 y5 y6 y7
    simp only [List.length_cons] at c2 hsl hob hq2 hF
    obtain ⟨⟨d0, d1, d2, d3⟩, e0, e1, e2, e3⟩ := cells4 hq2.blk
    obtain ⟨hq3, hF3, hl3, mv3⟩ := r_tail hq2 hF (fun k hk => Nat.lt_of_lt_of_le (hl k hk) bel1.size) hrt hob
    obtain ⟨W3, hW3⟩ : ∃ W3, W3 = W2.setCell ⟨p, 2, none⟩ (.slice at' t.length ct) := ⟨_, rfl⟩
    rw [← hW3] at hq3 hl3 mv3
    have hs3 : W3.heap.size = w.heap.size + 2 := by rw [hW3, World.size_setCell, hs2]
    have hoth : ∀ k, k ≠ p → W3.heap[k]? = W2.heap[k]? := fun k hk => by rw [hW3]; exact heap_setCell_other _ _ _ _ hk
    have it3 : ItAt W3 (w.heap.size + 1) 0 x := it2.same (hoth _ (by omega))
    have soft3 : Soft W3 w.heap.size := soft2.same (hoth _ (by omega))
    have hx : x ∈ s.rdy := by rw [hr]; simp
    have hroom := ok.room
    have hmost := ok.m
    have hPut := rput_any (.slice ao s.out.length co) s.out x W3.drew (hq3.out) (by omega) ok.o (fun y hy => (ok.ap x hx y hy).symm)
    have HEN : Hid (∀ w5 v5, Own8 w5 W3.drew.heap.size v5 (ins x s.out) → Below W3.drew.heap.size W3.drew w5 → (∃ F', R (put8 (w5.setCell ⟨p, 3, none⟩ v5) w.heap.size (.int .u64 (x.tag : Int)) (.int .i64 x.m.o) (.int .u64 x.m.s) (.int .i64 x.m.hop) (.string x.m.ex) (.string x.m.key) (.string x.m.body) (.bool x.again)) p F' { s with rdy := t, out := ins x s.out } ∧ Moved w (put8 (w5.setCell ⟨p, 3, none⟩ v5) w.heap.size (.int .u64 (x.tag : Int)) (.int .i64 x.m.o) (.int .u64 x.m.s) (.int .i64 x.m.hop) (.string x.m.ex) (.string x.m.key) (.string x.m.body) (.bool x.again)) F F') ∧ Soft (w5.setCell ⟨p, 3, none⟩ v5) w.heap.size) := fun w5 v5 own5 b5 => by
      have b5' : Below W3.heap.size W3 w5 := ⟨b5.os, b5.tape, b5.output, b5.size, fun k hk => b5.block k hk⟩
      obtain ⟨F', r1, m1⟩ := rout_set hq3 hF3 hl3 b5' own5
      refine ⟨rput8_end r1 (((Moved.of_below bel2).trans mv3).trans m1) w.heap.size (Nat.le_refl _) (fun hk => ?_) _ _ _ _ _ _ _ _, soft3.same ?_⟩
      · rcases m1.sub _ hk with hk | hk
        · exact Nat.lt_irrefl _ (HLT.out _ hk)
        · omega
      · rw [heap_setCell_other _ _ _ _ (show w.heap.size ≠ p by omega)]
        exact b5'.block _ (by omega)
    have HK : Hid (∀ w5, Below W3.drew.heap.size W3.drew w5 → (w5.cell? ⟨w.heap.size + 1, 0, none⟩ = some (.int .u64 (x.tag : Int)) ∧ w5.cell? ⟨w.heap.size + 1, 1, none⟩ = some (.int .i64 x.m.o) ∧ w5.cell? ⟨w.heap.size + 1, 2, none⟩ = some (.int .u64 x.m.s) ∧ w5.cell? ⟨w.heap.size + 1, 3, none⟩ = some (.int .i64 x.m.hop) ∧ w5.cell? ⟨w.heap.size + 1, 4, none⟩ = some (.string x.m.ex) ∧ w5.cell? ⟨w.heap.size + 1, 5, none⟩ = some (.string x.m.key) ∧ w5.cell? ⟨w.heap.size + 1, 6, none⟩ = some (.string x.m.body) ∧ w5.cell? ⟨w.heap.size + 1, 7, none⟩ = some (.bool x.again)) ∧ w5.cell? ⟨p, 3, none⟩ = some (.slice ao s.out.length co) ∧ w5.frozen? ⟨p, 3, none⟩ = false) := fun w5 b5 => by
      have b5' : Below W3.heap.size W3 w5 := ⟨b5.os, b5.tape, b5.output, b5.size, fun k hk => b5.block k hk⟩
      obtain ⟨k0, k1, k2, k3, k4, k5, k6, k7⟩ := it3.below b5' (Nat.le_refl _)
      simp only [Nat.zero_add] at k0 k1 k2 k3 k4 k5 k6 k7
      obtain ⟨⟨_, _, _, n3⟩, _, _, _, n4⟩ := cells4 ((b5'.block p (by omega)).trans hq3.blk)
      exact ⟨⟨k0, k1, k2, k3, k4, k5, k6, k7⟩, n3, n4⟩
    have NE0 : Hid ((⟨p, 3, none⟩ : Addr) ≠ ⟨w.heap.size + 1, 0, none⟩) := fun he => by injection he with he; omega
    have NE1 : Hid ((⟨p, 3, none⟩ : Addr) ≠ ⟨w.heap.size + 1, 1, none⟩) := fun he => by injection he with he; omega
    have NE2 : Hid ((⟨p, 3, none⟩ : Addr) ≠ ⟨w.heap.size + 1, 2, none⟩) := fun he => by injection he with he; omega
    have NE3 : Hid ((⟨p, 3, none⟩ : Addr) ≠ ⟨w.heap.size + 1, 3, none⟩) := fun he => by injection he with he; omega
    have NE4 : Hid ((⟨p, 3, none⟩ : Addr) ≠ ⟨w.heap.size + 1, 4, none⟩) := fun he => by injection he with he; omega
    have NE5 : Hid ((⟨p, 3, none⟩ : Addr) ≠ ⟨w.heap.size + 1, 5, none⟩) := fun he => by injection he with he; omega
    have NE6 : Hid ((⟨p, 3, none⟩ : Addr) ≠ ⟨w.heap.size + 1, 6, none⟩) := fun he => by injection he with he; omega
    have NE7 : Hid ((⟨p, 3, none⟩ : Addr) ≠ ⟨w.heap.size + 1, 7, none⟩) := fun he => by injection he with he; omega
    obtain ⟨⟨_, _, _, p3⟩, _, _, _, q3⟩ := cells4 hq3.blk
    obtain ⟨i0, i1, i2, i3, i4, i5, i6, i7⟩ := it3
    simp only [Nat.zero_add] at i0 i1 i2 i3 i4 i5 i6 i7
    have HW2 : Hid (W2 = W.alloc (.cells #[.int .u64 (x.tag : Int), .int .i64 x.m.o, .int .u64 x.m.s, .int .i64 x.m.hop, .string x.m.ex, .string x.m.key, .string x.m.body, .bool x.again] 38)) := hW2
    have HW3 : Hid (W3 = W2.setCell ⟨p, 2, none⟩ (.slice at' t.length ct)) := hW3
    have c2' : ∀ o, (W.alloc o).cell? ⟨p, 2, none⟩ = some (.slice (some ⟨g, off, none⟩) (t.length + 1) vc) := fun o => cell_alloc_r o c2
    have hln : t.length ≤ 1000000 := by rw [hr] at hroom; simp at hroom; omega
    clear hq hq2 hq3 hA hrow0 hrow2 hrt hob hF hF3 hl hl3 mv3 it2 soft2 soft0 soft3 hoth hx hr hroom hmost hs2 hs3 hW hW2 hW3
    have fold := HW.out.symm
    have fold2 := HW2.out.symm
    have fold3 := HW3.out.symm
    go_enter Try.func34, Try.ntmps34
    go_wp2
    refine wp_region_noPanic ?_
    refine wp_region_held_drew (S := fun w' => w'.cell? ⟨w.heap.size + 1, 0, none⟩ = some (.int .u64 (x.tag : Int)) ∧ w'.cell? ⟨w.heap.size + 1, 1, none⟩ = some (.int .i64 x.m.o) ∧ w'.cell? ⟨w.heap.size + 1, 2, none⟩ = some (.int .u64 x.m.s) ∧ w'.cell? ⟨w.heap.size + 1, 3, none⟩ = some (.int .i64 x.m.hop) ∧ w'.cell? ⟨w.heap.size + 1, 4, none⟩ = some (.string x.m.ex) ∧ w'.cell? ⟨w.heap.size + 1, 5, none⟩ = some (.string x.m.key) ∧ w'.cell? ⟨w.heap.size + 1, 6, none⟩ = some (.string x.m.body) ∧ w'.cell? ⟨w.heap.size + 1, 7, none⟩ = some (.bool x.again)) (by kernel_rfl) ⟨i0, i1, i2, i3, i4, i5, i6, i7⟩ (fun hHeld => ?_)
    refine wpAnyH_take (i := 0) (v := ?_) (by simp only [List.getElem?_toArray, List.getElem?_cons_succ, List.getElem?_cons_zero]; rfl) (by kernel_rfl) (by kernel_rfl) (by kernel_rfl) (fun _ _ _ h => h) (Or.inl ⟨by rfl, ?_⟩) (by assumption) ?_
    rotate_left
    · (intro w hSw; (try dsimp only at hSw); go_simp; try with_reducible rfl)
    try simp only [Act.put, List.setIfInBounds_toArray, List.set_cons_zero, List.set_cons_succ]
    refine wpAnyH_take (i := 1) (v := ?_) (by simp only [List.getElem?_toArray, List.getElem?_cons_succ, List.getElem?_cons_zero]; rfl) (by kernel_rfl) (by kernel_rfl) (by kernel_rfl) (fun _ _ _ h => h) (Or.inl ⟨by rfl, ?_⟩) (by assumption) ?_
    rotate_left
    · (intro w hSw; (try dsimp only at hSw); go_simp; try with_reducible rfl)
    try simp only [Act.put, List.setIfInBounds_toArray, List.set_cons_zero, List.set_cons_succ]
    refine wpAnyH_take (i := 2) (v := ?_) (by simp only [List.getElem?_toArray, List.getElem?_cons_succ, List.getElem?_cons_zero]; rfl) (by kernel_rfl) (by kernel_rfl) (by kernel_rfl) (fun _ _ _ h => h) (Or.inl ⟨by rfl, ?_⟩) (by assumption) ?_
    rotate_left
    · (intro w hSw; (try dsimp only at hSw); go_simp; try with_reducible rfl)
    try simp only [Act.put, List.setIfInBounds_toArray, List.set_cons_zero, List.set_cons_succ]
    refine wpAnyH_take (i := 3) (v := ?_) (by simp only [List.getElem?_toArray, List.getElem?_cons_succ, List.getElem?_cons_zero]; rfl) (by kernel_rfl) (by kernel_rfl) (by kernel_rfl) (fun _ _ _ h => h) (Or.inl ⟨by rfl, ?_⟩) (by assumption) ?_
    rotate_left
    · (intro w hSw; (try dsimp only at hSw); go_simp; try with_reducible rfl)
    try simp only [Act.put, List.setIfInBounds_toArray, List.set_cons_zero, List.set_cons_succ]
    refine wpAnyH_take (i := 5) (v := ?_) (by simp only [List.getElem?_toArray, List.getElem?_cons_succ, List.getElem?_cons_zero]; rfl) (by kernel_rfl) (by kernel_rfl) (by kernel_rfl) (fun _ _ _ h => h) (Or.inl ⟨by rfl, ?_⟩) (by assumption) ?_
    rotate_left
    · (intro w hSw; (try dsimp only at hSw); go_simp; try with_reducible rfl)
    try simp only [Act.put, List.setIfInBounds_toArray, List.set_cons_zero, List.set_cons_succ]
    refine wpAnyH_ready (rs := [4]) (by kernel_rfl) (by simp) ?_
    refine AllReadyH.cons rfl (fun K hK => ?_) AllReadyH.nil
    go_simp
    (try dsimp only)
    refine hK.out _ _ (by (try dsimp only); go_keep) (fun hHeld => ?_)
    clear hK K
    try simp only [Act.put, List.setIfInBounds_toArray, List.set_cons_zero, List.set_cons_succ]
    refine wpAnyH_ready (rs := [6]) (by kernel_rfl) (by simp) ?_
    refine AllReadyH.cons rfl (fun K hK => ?_) AllReadyH.nil
    go_simp
    go_at_call 51
    refine hPut.mono ?_
    clear hPut
    rintro e w5 ⟨v5, rfl, own5, b5⟩
    have HE : Hid _ := HEN.out w5 v5 own5 b5
    obtain ⟨⟨b0, b1, b2, b3, b4, b5', b6, b7⟩, d3, e3⟩ := HK.out w5 b5
    have j0 := fun u => cell_set_o (a := ⟨p, 3, none⟩) (u := u) b0 NE0.out
    have j1 := fun u => cell_set_o (a := ⟨p, 3, none⟩) (u := u) b1 NE1.out
    have j2 := fun u => cell_set_o (a := ⟨p, 3, none⟩) (u := u) b2 NE2.out
    have j3 := fun u => cell_set_o (a := ⟨p, 3, none⟩) (u := u) b3 NE3.out
    have j4 := fun u => cell_set_o (a := ⟨p, 3, none⟩) (u := u) b4 NE4.out
    have j5 := fun u => cell_set_o (a := ⟨p, 3, none⟩) (u := u) b5' NE5.out
    have j6 := fun u => cell_set_o (a := ⟨p, 3, none⟩) (u := u) b6 NE6.out
    have j7 := fun u => cell_set_o (a := ⟨p, 3, none⟩) (u := u) b7 NE7.out
    obtain ⟨va5, vc5, hv5⟩ := own5.rng.slice
    subst hv5
    clear own5 b5
    (try dsimp only)
    refine hK.out _ _ (by (try dsimp only); go_keep) (fun hHeld => ?_)
    clear hK K
    try simp only [Act.put, List.setIfInBounds_toArray, List.set_cons_zero, List.set_cons_succ]
    refine wpAnyH_take (i := 7) (v := ?_) (by simp only [List.getElem?_toArray, List.getElem?_cons_succ, List.getElem?_cons_zero]; rfl) (by kernel_rfl) (by kernel_rfl) (by kernel_rfl) (fun _ _ _ h => h) (Or.inl ⟨by rfl, ?_⟩) (by assumption) ?_
    rotate_left
    · (intro w hSw; (try dsimp only at hSw); go_simp; try with_reducible rfl)
    try simp only [Act.put, List.setIfInBounds_toArray, List.set_cons_zero, List.set_cons_succ]
    refine wpAnyH_take (i := 8) (v := ?_) (by simp only [List.getElem?_toArray, List.getElem?_cons_succ, List.getElem?_cons_zero]; rfl) (by kernel_rfl) (by kernel_rfl) (by kernel_rfl) (fun _ _ _ h => h) (Or.inl ⟨by rfl, ?_⟩) (by assumption) ?_
    rotate_left
    · (intro w hSw; (try dsimp only at hSw); go_simp; try with_reducible rfl)
    try simp only [Act.put, List.setIfInBounds_toArray, List.set_cons_zero, List.set_cons_succ]
    refine wpAnyH_ready (rs := [9]) (by kernel_rfl) (by simp) ?_
    refine AllReadyH.cons rfl (fun K hK => ?_) AllReadyH.nil
    go_simp
    (try dsimp only)
    refine hK.out _ _ (by (try dsimp only); go_keep) (fun hHeld => ?_)
    clear hK K
    try simp only [Act.put, List.setIfInBounds_toArray, List.set_cons_zero, List.set_cons_succ]
    refine wpAnyH_done (by kernel_rfl) ?_ _
    refine NoPanic.normal ?_
    obtain ⟨HE1, HE2⟩ := HE.out
    have HZ : Hid _ := put8_at HE2 (.int .u64 (x.tag : Int)) (.int .i64 x.m.o) (.int .u64 x.m.s) (.int .i64 x.m.hop) (.string x.m.ex) (.string x.m.key) (.string x.m.body) (.bool x.again)
    have HE3 : Hid _ := HE1
    have s5 := HE2.frozen
    obtain ⟨t0, u0⟩ := HE2.cell 0 (by decide)
    obtain ⟨t1, u1⟩ := HE2.cell 1 (by decide)
    obtain ⟨t2, u2⟩ := HE2.cell 2 (by decide)
    obtain ⟨t3, u3⟩ := HE2.cell 3 (by decide)
    obtain ⟨t4, u4⟩ := HE2.cell 4 (by decide)
    obtain ⟨t5, u5⟩ := HE2.cell 5 (by decide)
    obtain ⟨t6, u6⟩ := HE2.cell 6 (by decide)
    obtain ⟨t7, u7⟩ := HE2.cell 7 (by decide)
    go_wp2
    refine ret_item (p := 2) (u := 3) (r := .bool true) rfl w.heap.size rfl rfl rfl HZ.out ?_
    exact ⟨rfl, HE3.out⟩
end Go.Proofs.Ytocdfcaakflgpaa
