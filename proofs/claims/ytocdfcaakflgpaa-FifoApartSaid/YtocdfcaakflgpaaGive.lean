/-
  PACKAGE fifo: Give, by its contract.
-/
import Derived.Test.YtocdfcaakflgpaaPush
import Derived.Test.YtocdfcaakflgpaaPuts
namespace Go.Proofs.Ytocdfcaakflgpaa
open Go.RowKit Go.Sort

theorem Moved.on {w w6 w7 : World} {F F' : Nat → Prop} (h : Moved w w6 F F') (nz : Nat) (hz : w.heap.size ≤ nz) (os : w7.os = w6.os) (tape : w7.tape = w6.tape) (output : w7.output = w6.output) (size : w7.heap.size = w6.heap.size) (hs : ∀ k, k ≠ nz → w7.heap[k]? = w6.heap[k]?) : Moved w w7 F F' :=
  ⟨os.trans h.os, tape.trans h.tape, output.trans h.output, by rw [size]; exact h.size, fun k hk hn => (hs k (by omega)).trans (h.block k hk hn), h.sub⟩
theorem os_setCell_r (w : World) (a : Addr) (v : Value) : (w.setCell a v).os = w.os := rfl
theorem tape_setCell_r (w : World) (a : Addr) (v : Value) : (w.setCell a v).tape = w.tape := rfl
theorem output_setCell_r (w : World) (a : Addr) (v : Value) : (w.setCell a v).output = w.output := rfl
theorem put8_world (W : World) (nz : Nat) (v0 v1 v2 v3 v4 v5 v6 v7 : Value) : (put8 W nz v0 v1 v2 v3 v4 v5 v6 v7).os = W.os ∧ (put8 W nz v0 v1 v2 v3 v4 v5 v6 v7).tape = W.tape ∧ (put8 W nz v0 v1 v2 v3 v4 v5 v6 v7).output = W.output := by
  simp only [put8, os_setCell_r, tape_setCell_r, output_setCell_r, and_self]
theorem put8_end {w W : World} {F F' : Nat → Prop} {p : Nat} {s : St} (hq : Q W p F' s) (mvd : Moved w W F F') (nz : Nat) (hz : w.heap.size ≤ nz) (hn : ¬ F' nz) (v0 v1 v2 v3 v4 v5 v6 v7 : Value) : ∃ F', Q (put8 W nz v0 v1 v2 v3 v4 v5 v6 v7) p F' s ∧ Moved w (put8 W nz v0 v1 v2 v3 v4 v5 v6 v7) F F' := by
  obtain ⟨h1, h2, h3⟩ := put8_world W nz v0 v1 v2 v3 v4 v5 v6 v7
  have h4 := put8_size W nz v0 v1 v2 v3 v4 v5 v6 v7
  have h5 : ∀ k, k ≠ nz → (put8 W nz v0 v1 v2 v3 v4 v5 v6 v7).heap[k]? = W.heap[k]? := fun k hk => put8_other v0 v1 v2 v3 v4 v5 v6 v7 hk
  generalize put8 W nz v0 v1 v2 v3 v4 v5 v6 v7 = X at *
  exact ⟨F', hq.same fun k hk => h5 k (fun e => hn (e ▸ hk)), mvd.on nz hz h1 h2 h3 h4 h5⟩
/-- The map is another one. -/
theorem map_set {w w' : World} {p : Nat} {v : Value} {b : Nat} {s : St} {l : List It} (hq : QAt w p v b s) (out : OutAt w' b l) (gr : w.grownBy w' (some b)) :
    QAt w' p v b { s with out := l } ∧ Moved w w' (foot p v b) (foot p v b) := by
  have h1 : w'.heap[p]? = w.heap[p]? := gr.block p hq.lt (fun h => hq.ne_map (by injection h with h; exact h.symm))
  refine ⟨⟨by rw [h1]; exact hq.blk, hq.rows.same fun g hg => gr.block g (hq.rows.lt hg).2 (fun h => hq.row_map (by rw [hg]; exact h)), out⟩, gr.os, gr.tape, gr.output, gr.size, fun k hk hn => gr.block k hk (fun h => hn (.inr (.inr (by injection h)))), fun k hk => .inl hk⟩

theorem give_some {s : St} {x : It} {t : List It} (h : s.rdy = x :: t) : s.give = (x, true, { s with rdy := t, out := ins x s.out }) := by unfold St.give; rw [h]
theorem give_none {s : St} (h : s.rdy = []) : s.give = (zeroIt, false, s) := by unfold St.give; rw [h]

set_option maxRecDepth 20000 in
set_option maxHeartbeats 2000000 in
theorem give_any (p : Nat) (F : Nat → Prop) (s : St) (w : World) (h : Q w p F s) (ok : s.Ok) :
    Calls Try.prog 14 #[.pointer (some ⟨p, 0, none⟩)] w fun e w' => e = .returned (.tuple #[iv s.give.1, .bool s.give.2.1]) ∧ ∃ F', Q w' p F' s.give.2.2 ∧ Moved w w' F F' := by
  obtain ⟨W, hW⟩ : ∃ W, W = w.alloc (.cells #[.int .u64 0, .int .i64 0, .int .u64 0, .int .i64 0, .string ⟨#[]⟩, .string ⟨#[]⟩, .string ⟨#[]⟩, .bool false] 38) := ⟨_, rfl⟩
  have bel0 : Below w.heap.size w W := by rw [hW]; exact (Below.refl _ _).alloc (Nat.le_refl _) _
  have z0 : ItAt W w.heap.size 0 zeroIt := by rw [hW]; exact itAt_new w zeroIt _ rfl
  have soft0 : Soft W w.heap.size := ⟨_, by rw [hW]; exact heap_alloc_new w _, rfl⟩
  have h0 := h.kept bel0
  have hM := made_any p F s _ h0 ok.m1
  obtain ⟨v, b, hq, hF⟩ := h
  obtain ⟨⟨c0, c1, c2, c3⟩, f0, f1, f2, f3⟩ := cells4 (hq.after bel0).blk
  have HW : Hid (W = w.alloc (.cells #[.int .u64 0, .int .i64 0, .int .u64 0, .int .i64 0, .string ⟨#[]⟩, .string ⟨#[]⟩, .string ⟨#[]⟩, .bool false] 38)) := hW
  cases hr : s.rdy with
  | nil =>
    rw [give_none hr]
    have hrow := hq.rows
    rw [hr] at hrow
    obtain ⟨va, vc, hv⟩ := hrow.rng.slice
    subst hv
    obtain ⟨y0, y1, y2, y3, y4, y5, y6, y7⟩ := z0
    have s0 := soft0.frozen
    simp only [List.length_nil] at c2
    go_enter Try.func14, Try.ntmps14
    go_wp2_with fail
    rw [← HW.out]
    clear hW
    refine hM.mono ?_
    rintro e W ⟨rfl, rfl⟩
    go_wp2
    have hz := put8_at soft0 (.int .u64 0) (.int .i64 0) (.int .u64 0) (.int .i64 0) (.string ⟨#[]⟩) (.string ⟨#[]⟩) (.string ⟨#[]⟩) (.bool false)
    refine ret_item (p := 2) (u := 3) (r := .bool false) rfl w.heap.size rfl rfl rfl hz ?_
    exact ⟨rfl, put8_end h0 (.of_below bel0) w.heap.size (Nat.le_refl _) (fun hk => Nat.lt_irrefl _ (hq.lts _ ((hF _).1 hk))) _ _ _ _ _ _ _ _⟩
  | cons x t =>
    rw [give_some hr]
    obtain ⟨W2, hW2⟩ : ∃ W2, W2 = W.alloc (.cells #[.int .u64 (x.tag : Int), .int .i64 x.m.o, .int .u64 x.m.s, .int .i64 x.m.hop, .string x.m.ex, .string x.m.key, .string x.m.body, .bool x.again] 38) := ⟨_, rfl⟩
    have bel1 : Below W.heap.size W W2 := by rw [hW2]; exact (Below.refl _ _).alloc (Nat.le_refl _) _
    have bel2 : Below w.heap.size w W2 := bel0.trans (bel1.mono bel0.size)
    have hsz : W.heap.size = w.heap.size + 1 := by rw [hW]; simp
    have i2 : ItAt W2 (w.heap.size + 1) 0 x := by rw [hW2]; exact itAt_new W x _ hsz.symm
    have soft2 : Soft W2 w.heap.size := soft0.same (bel1.block _ (by rw [hW]; simp))
    have hrow := (hq.after bel2).rows
    rw [hr] at hrow
    have hD := delete_any 0 v x t W2 hrow
    have hrow0 := (hq.after bel0).rows
    rw [hr] at hrow0
    obtain ⟨va, vc, hv⟩ := hrow0.rng.slice
    subst hv
    obtain ⟨_, _, hA⟩ := hrow0.rng.items
    obtain ⟨g, off, rfl, hi⟩ := hA 0 (by simp)
    rw [Nat.zero_mul, Nat.add_zero] at hi
    obtain ⟨y0, y1, y2, y3, y4, y5, y6, y7⟩ := hi
    simp only [List.getElem_cons_zero] at y0 y1 y2 y3 y4 y5 y6 y7
    simp only [List.length_cons] at c2 hD
    obtain ⟨⟨d0, d1, d2, d3⟩, e0, e1, e2, e3⟩ := cells4 (hq.after bel2).blk
    have HQ : Hid (QAt w p (.slice (some ⟨g, off, none⟩) (t.length + 1) vc) b s) := hq
    have HI : Hid (ItAt W2 (w.heap.size + 1) 0 x ∧ Soft W2 w.heap.size ∧ W2.heap.size = w.heap.size + 2) := ⟨i2, soft2, by rw [hW2]; simp [hsz]⟩
    have HW2 : Hid (W2 = W.alloc (.cells #[.int .u64 (x.tag : Int), .int .i64 x.m.o, .int .u64 x.m.s, .int .i64 x.m.hop, .string x.m.ex, .string x.m.key, .string x.m.body, .bool x.again] 38)) := hW2
    have hx : x ∈ s.rdy := by rw [hr]; simp
    have HX : Hid (hasT s.out x.tag = false ∧ x.tag < 18446744073709551616) := ⟨hasT_false.2 fun y hy => (ok.ap x hx y hy).symm, by have := ok.ur x hx; have := ok.n; omega⟩
    have hln : t.length ≤ 1000000 := by have := ok.room; have := ok.m; rw [hr] at *; simp at *; omega
    have HO : Hid (s.out.length ≤ 1000000) := by have h1 := ok.room; have h2 := ok.m; exact (by omega : s.out.length ≤ 1000000)
    have c2' : ∀ o, (W.alloc o).cell? ⟨p, 2, none⟩ = some (.slice (some ⟨g, off, none⟩) (t.length + 1) vc) := fun o => cell_alloc_r o c2
    clear hq i2 soft2 hrow hrow0 hA hx z0 hr
    go_enter Try.func14, Try.ntmps14
    go_wp2_with fail
    rw [← HW.out]
    clear hW
    refine hM.mono ?_
    rintro e W ⟨rfl, rfl⟩
    go_wp2_with fail
    rw [← HW2.out]
    clear hW2
    refine hD.mono ?_
    rintro e w3 ⟨v', rfl, own3, gr3, ob3⟩
    have hp3 : w3.heap[p]? = W2.heap[p]? := gr3.block p (Nat.lt_of_lt_of_le HQ.out.lt bel2.size) (fun h => HQ.out.ne_row h.symm)
    obtain ⟨⟨k0, k1, k2, k3⟩, l0, l1, l2, l3⟩ := cells4 (hp3.trans (HQ.out.after bel2).blk)
    obtain ⟨q4, m4⟩ := row_set HQ.out bel2 own3 gr3 (.inl ob3)
    obtain ⟨va', vc', hv'⟩ := own3.rng.slice
    subst hv'
    have hgw : g < w.heap.size := (HQ.out.rows.lt (g := g) rfl).2
    have blk3 : ∀ k, w.heap.size ≤ k → k < w.heap.size + 2 → (w3.setCell ⟨p, 2, none⟩ (.slice va' t.length vc')).heap[k]? = W2.heap[k]? := fun k h1 h2 => by
      rw [heap_setCell_other _ _ _ _ (by have := HQ.out.lt; show k ≠ p; omega)]
      exact gr3.block k (by rw [HI.out.2.2]; exact h2) (fun h => by have h' : k = g := Option.some.inj h; omega)
    have i4 := HI.out.1.same (blk3 (w.heap.size + 1) (by omega) (by omega))
    have soft4 := HI.out.2.1.same (blk3 w.heap.size (Nat.le_refl _) (by omega))
    generalize hw4 : w3.setCell ⟨p, 2, none⟩ (.slice va' t.length vc') = w4 at q4 m4 i4 soft4
    have HW4 : Hid (w3.setCell ⟨p, 2, none⟩ (.slice va' t.length vc') = w4) := hw4
    have out4 : OutAt w4.drew b s.out := q4.out
    obtain ⟨w5, hst, out5, gr5⟩ := out4.store ok.o x HX.out.1 HX.out.2 HO.out
    obtain ⟨q5, m5⟩ := map_set (w := w4) q4 out5 ⟨gr5.os, gr5.tape, gr5.output, gr5.size, gr5.block⟩
    obtain ⟨⟨n0, n1, n2, n3⟩, o0, o1, o2, o3⟩ := cells4 q4.blk
    have hb4 : b < w4.heap.size := q4.out.lt
    have hbw : b < w.heap.size := HQ.out.out.lt
    have i5 : ItAt w5 (w.heap.size + 1) 0 x := i4.same (gr5.block (w.heap.size + 1) (World.block_lt_of_cell? _ _ i4.c0) (fun h => by injection h with h; omega))
    have soft5 : Soft w5 w.heap.size := soft4.same (gr5.block w.heap.size (by obtain ⟨cs, h1, _⟩ := soft4; exact (Array.getElem?_eq_some_iff.1 h1).1) (fun h => by injection h with h; omega))
    have HE : Hid (∃ F', Q (put8 w5 w.heap.size (.int .u64 (x.tag : Int)) (.int .i64 x.m.o) (.int .u64 x.m.s) (.int .i64 x.m.hop) (.string x.m.ex) (.string x.m.key) (.string x.m.body) (.bool x.again)) p F' { s with rdy := t, out := ins x s.out } ∧ Moved w (put8 w5 w.heap.size (.int .u64 (x.tag : Int)) (.int .i64 x.m.o) (.int .u64 x.m.s) (.int .i64 x.m.hop) (.string x.m.ex) (.string x.m.key) (.string x.m.body) (.bool x.again)) F F') := by
      refine put8_end (F' := foot p (.slice va' t.length vc') b) ⟨_, _, q5, fun _ => Iff.rfl⟩ ((m4.trans m5).to hF) w.heap.size (Nat.le_refl _) ?_ _ _ _ _ _ _ _ _
      rintro (h | h | h)
      · have := HQ.out.lt; omega
      · rw [ob3] at h; injection h with h; simp at h; omega
      · omega
    have hz := put8_at soft5 (.int .u64 (x.tag : Int)) (.int .i64 x.m.o) (.int .u64 x.m.s) (.int .i64 x.m.hop) (.string x.m.ex) (.string x.m.key) (.string x.m.body) (.bool x.again)
    have HZ : Hid _ := hz
    have s5 := soft5.frozen
    obtain ⟨a0, a1, a2, a3, a4, a5, a6, a7⟩ := i4
    obtain ⟨b0, b1, b2, b3, b4, b5, b6, b7⟩ := i5
    simp only [Nat.zero_add] at a0 a1 a2 a3 a4 a5 a6 a7 b0 b1 b2 b3 b4 b5 b6 b7
    obtain ⟨t0, u0⟩ := soft5.cell 0 (by decide)
    obtain ⟨t1, u1⟩ := soft5.cell 1 (by decide)
    obtain ⟨t2, u2⟩ := soft5.cell 2 (by decide)
    obtain ⟨t3, u3⟩ := soft5.cell 3 (by decide)
    obtain ⟨t4, u4⟩ := soft5.cell 4 (by decide)
    obtain ⟨t5, u5⟩ := soft5.cell 5 (by decide)
    obtain ⟨t6, u6⟩ := soft5.cell 6 (by decide)
    obtain ⟨t7, u7⟩ := soft5.cell 7 (by decide)
    clear hz soft5 soft4 hD hM q4 q5 m4 m5 out4 out5 gr5 own3 gr3 hw4 blk3
    go_wp2
    rw [HW4.out]
    go_region
    all_goals go_wp2
    all_goals (refine ret_item (p := 2) (u := 3) (r := .bool true) rfl w.heap.size rfl rfl rfl HZ.out ?_)
    all_goals exact ⟨rfl, HE.out⟩
end Go.Proofs.Ytocdfcaakflgpaa
