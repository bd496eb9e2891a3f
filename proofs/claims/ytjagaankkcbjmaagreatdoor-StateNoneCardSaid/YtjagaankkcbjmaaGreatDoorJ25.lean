/-
  PACKAGE fifo: take, Done, by their contracts.
-/
import Derived.Test.YtjagaankkcbjmaaGreatDoorJ24
namespace Go.Proofs.YtjagaankkcbjmaaGreatDoor.K
end Go.Proofs.YtjagaankkcbjmaaGreatDoor.K
namespace Go.Proofs.YtjagaankkcbjmaaGreatDoor.F
open Go.Proofs.YtjagaankkcbjmaaGreatDoor.K
open Go.RowKit Go.Sort

theorem OutAt.look {w : World} {b : Nat} {l : List It} (h : OutAt w b l) {t : Nat} (ht : t < 18446744073709551616) :
    (Instr.lookup 236 (.map (some b)) (.int .u64 (t : Int)) true).run Tryz.prog w = .ok (.tuple #[iv ((findT l t).getD zeroIt), .bool (findT l t).isSome]) w := by
  obtain ⟨v, ps, h1, h2⟩ := World.ownsMap.look_ok h keyed Tryz.underlying236 (Tryz.zeroValue102 w) (zd := .held zeroIt) (zp := []) (rdIt_iv zeroIt) (keyOf_tag ht)
  rw [atKey_Dof] at h2
  obtain ⟨x, rfl, hx⟩ := rdIt_inv h2
  rw [h1, has_Dof]
  have hh : hasT l t = (findT l t).isSome := by
    cases hf : findT l t with
    | none => exact findT_none hf
    | some y => exact hasT_findT hf
  have hv : x = (findT l t).getD zeroIt := by
    cases hf : findT l t with
    | none => rw [hf] at hx; simp at hx; exact hx.1.symm
    | some y => rw [hf] at hx; simp at hx; exact hx.1.symm
  rw [hh, hv]
theorem wpList_lookup_run {P : Program} (w : World) {ops : Array Oper} {rest : List Oper} {o : Oper} {a : Act} {Q : Exit → Act → World → Prop} (hg : o.guard = none) (m x : Operand) (t : TypeId) (hop : o.op = Op.lookup t m x true)
    (M key v : Value) (hm : a.eval m = M) (hx : a.eval x = key) (hrun : (Instr.lookup t M key true).run P w = .ok v w) (hK : wpList P ops Q rest (a.put o.dst v) w) : wpList P ops Q (o :: rest) a w := by
  refine wpList_plain hg fun K' hK' => ?_
  unfold Oper.wp
  simp [execOp, hop, hm, hx, hrun, Result.andThen]
  exact hK' _ _ hK
theorem done_none {s : St} {t : Nat} (h : findT s.out t = none) : s.done t = (10, s) := by unfold St.done; rw [h]
theorem done_some {s : St} {t : Nat} {x : It} (h : findT s.out t = some x) : s.done t = (0, { s with out := dropT s.out t }) := by unfold St.done; rw [h]

set_option maxRecDepth 20000 in
set_option maxHeartbeats 2000000 in
theorem take_any (p : Nat) (F : Nat → Prop) (s : St) (t : Nat) (w : World) (h : Q w p F s) (ok : s.Ok) (ht : t < 18446744073709551616) :
    Calls Tryz.prog 250 #[.pointer (some ⟨p, 0, none⟩), .int .u64 (t : Int)] w fun e w' => e = .returned (.tuple #[iv ((findT s.out t).getD zeroIt), .int .i64 (s.done t).1]) ∧ ∃ F', Q w' p F' (s.done t).2 ∧ Moved w w' F F' := by
  obtain ⟨W, hW⟩ : ∃ W, W = w.alloc (.cells #[.int .u64 0, .int .i64 0, .int .u64 0, .int .i64 0, .string ⟨#[]⟩, .string ⟨#[]⟩, .string ⟨#[]⟩, .bool false] 102) := ⟨_, rfl⟩
  have bel0 : Below w.heap.size w W := by rw [hW]; exact (Below.refl _ _).alloc (Nat.le_refl _) _
  have soft0 : Soft W w.heap.size := ⟨_, by rw [hW]; exact heap_alloc_new w _, rfl⟩
  have hsz : W.heap.size = w.heap.size + 1 := by rw [hW]; simp
  have h0 := h.kept bel0
  have hM := made_any p F s _ h0 ok.m1
  obtain ⟨v, b, hq, hF⟩ := h
  obtain ⟨⟨c0, c1, c2, c3⟩, f0, f1, f2, f3⟩ := cells4 (hq.after bel0).blk
  have HW : Hid (W = w.alloc (.cells #[.int .u64 0, .int .i64 0, .int .u64 0, .int .i64 0, .string ⟨#[]⟩, .string ⟨#[]⟩, .string ⟨#[]⟩, .bool false] 102)) := hW
  have hlk := (hq.after bel0).out.look ht
  obtain ⟨x, hx⟩ : ∃ x, x = (findT s.out t).getD zeroIt := ⟨_, rfl⟩
  rw [← hx] at hlk ⊢
  obtain ⟨W2, hW2⟩ : ∃ W2, W2 = W.alloc (.cells #[.int .u64 (x.tag : Int), .int .i64 x.m.o, .int .u64 x.m.s, .int .i64 x.m.hop, .string x.m.ex, .string x.m.key, .string x.m.body, .bool x.again] 102) := ⟨_, rfl⟩
  have bel1 : Below W.heap.size W W2 := by rw [hW2]; exact (Below.refl _ _).alloc (Nat.le_refl _) _
  have bel2 : Below w.heap.size w W2 := bel0.trans (bel1.mono bel0.size)
  have i2 : ItAt W2 (w.heap.size + 1) 0 x := by rw [hW2]; exact itAt_new W x _ hsz.symm
  have soft2 : Soft W2 w.heap.size := soft0.same (bel1.block _ (by omega))
  have HW2 : Hid (W2 = W.alloc (.cells #[.int .u64 (x.tag : Int), .int .i64 x.m.o, .int .u64 x.m.s, .int .i64 x.m.hop, .string x.m.ex, .string x.m.key, .string x.m.body, .bool x.again] 102)) := hW2
  obtain ⟨⟨d0, d1, d2, d3⟩, e0, e1, e2, e3⟩ := cells4 (hq.after bel2).blk
  have fold2 := hW2.symm
  have s2 := soft2.frozen
  obtain ⟨t0, u0⟩ := soft2.cell 0 (by decide)
  obtain ⟨t1, u1⟩ := soft2.cell 1 (by decide)
  obtain ⟨t2, u2⟩ := soft2.cell 2 (by decide)
  obtain ⟨t3, u3⟩ := soft2.cell 3 (by decide)
  obtain ⟨t4, u4⟩ := soft2.cell 4 (by decide)
  obtain ⟨t5, u5⟩ := soft2.cell 5 (by decide)
  obtain ⟨t6, u6⟩ := soft2.cell 6 (by decide)
  obtain ⟨t7, u7⟩ := soft2.cell 7 (by decide)
  clear hW2
  cases hf : findT s.out t with
  | none =>
    rw [done_none hf]
    rw [hf] at hlk hx
    have hxz : x = zeroIt := hx
    simp only [Option.isSome_none] at hlk
    have HZ : Hid _ := put8_at soft2 (.int .u64 0) (.int .i64 0) (.int .u64 0) (.int .i64 0) (.string ⟨#[]⟩) (.string ⟨#[]⟩) (.string ⟨#[]⟩) (.bool false)
    have HE : Hid _ := put8_end (Q.kept ⟨v, b, hq, hF⟩ bel2) (Moved.of_below (F := F) bel2) w.heap.size (Nat.le_refl _) (fun hk => Nat.lt_irrefl _ (hq.lts _ ((hF _).1 hk))) (.int .u64 0) (.int .i64 0) (.int .u64 0) (.int .i64 0) (.string ⟨#[]⟩) (.string ⟨#[]⟩) (.string ⟨#[]⟩) (.bool false)
    have HR : Hid (x = zeroIt) := hxz
    clear hx hxz hf hq soft2 soft0 i2
    go_enter Tryz.func250, Tryz.ntmps250
    go_wp2_with fail
    rw [← HW.out]
    clear hW
    refine hM.mono ?_
    rintro e W ⟨rfl, rfl⟩
    have HL : Hid _ := hlk
    clear hlk
    go_wp2_with (at_lookup; refine wpList_lookup_run _ rfl _ _ _ rfl _ _ _ rfl rfl HL.out ?_)
    refine ret_item (p := 4) (u := 5) (r := .int .i64 10) rfl w.heap.size rfl rfl rfl HZ.out ?_
    exact ⟨by rw [HR.out]; rfl, HE.out⟩
  | some y =>
    rw [done_some hf]
    rw [hf] at hlk hx
    have hxz : x = y := hx
    simp only [Option.isSome_some] at hlk
    have HQ : Hid (QAt w p v b s) := hq
    have HK : Hid (∀ w5, w5.ownsMap Tryz.prog 32 rdIt b s.out.length ((Dof s.out).del (.int .u64 (t : Int))) → W2.mapTurned w5 b → ItAt w5 (w.heap.size + 1) 0 x ∧ Soft w5 w.heap.size ∧ ∀ v0 v1 v2 v3 v4 v5 v6 v7, ∃ F', Q (put8 w5 w.heap.size v0 v1 v2 v3 v4 v5 v6 v7) p F' { s with out := dropT s.out t } ∧ Moved w (put8 w5 w.heap.size v0 v1 v2 v3 v4 v5 v6 v7) F F') := fun w5 own turn => by
      have hbw : b < w.heap.size := HQ.out.out.lt
      have gr := turn.grown
      rw [del_Dof] at own
      obtain ⟨q5, m5⟩ := map_set (HQ.out.after bel2) (ownsMap_fit own) gr
      refine ⟨i2.same (gr.block _ (World.block_lt_of_cell? _ _ i2.c0) (fun h => by injection h with h; omega)), soft2.same (gr.block _ (by obtain ⟨cs, h1, _⟩ := soft2; exact (Array.getElem?_eq_some_iff.1 h1).1) (fun h => by injection h with h; omega)), fun v0 v1 v2 v3 v4 v5 v6 v7 => ?_⟩
      refine put8_end (F' := foot p v b) ⟨_, _, q5, fun _ => Iff.rfl⟩ (((Moved.of_below bel2).trans m5).to hF) w.heap.size (Nat.le_refl _) (fun hk => Nat.lt_irrefl _ (HQ.out.lts _ hk)) v0 v1 v2 v3 v4 v5 v6 v7
    have hown2 : W2.ownsMap Tryz.prog 32 rdIt b s.out.length (Dof s.out) := (hq.after bel2).out
    have HO : Hid _ := hown2
    clear hx hxz hf hq soft2 soft0 i2 u0 u1 u2 u3 u4 u5 u6 u7 s2 hown2
    go_enter Tryz.func250, Tryz.ntmps250
    go_wp2_with fail
    rw [← HW.out]
    clear hW
    refine hM.mono ?_
    rintro e W ⟨rfl, rfl⟩
    have HL : Hid _ := hlk
    clear hlk
    go_wp2_with (first
      | (at_lookup; refine wpList_lookup_run _ rfl _ _ _ rfl _ _ _ rfl rfl HL.out ?_)
      | (at_delete; refine wpList_delete_own _ rfl _ _ 236 32 rfl 102 keyed Tryz.underlying236 rdIt b s.out.length (Dof s.out) rfl HO.out _ _ rfl (keyOf_tag ht) ?_; intro w5 own5 turn5; obtain ⟨i5, soft5, end5⟩ := HK.out w5 own5 turn5; have HE : Hid _ := end5 (.int .u64 (x.tag : Int)) (.int .i64 x.m.o) (.int .u64 x.m.s) (.int .i64 x.m.hop) (.string x.m.ex) (.string x.m.key) (.string x.m.body) (.bool x.again); have HZ : Hid _ := put8_at soft5 (.int .u64 (x.tag : Int)) (.int .i64 x.m.o) (.int .u64 x.m.s) (.int .i64 x.m.hop) (.string x.m.ex) (.string x.m.key) (.string x.m.body) (.bool x.again)
         obtain ⟨b0, b1, b2, b3, b4, b5, b6, b7⟩ := i5
         simp only [Nat.zero_add] at b0 b1 b2 b3 b4 b5 b6 b7
         have s5 := soft5.frozen
         obtain ⟨t0, u0⟩ := soft5.cell 0 (by decide)
         obtain ⟨t1, u1⟩ := soft5.cell 1 (by decide)
         obtain ⟨t2, u2⟩ := soft5.cell 2 (by decide)
         obtain ⟨t3, u3⟩ := soft5.cell 3 (by decide)
         obtain ⟨t4, u4⟩ := soft5.cell 4 (by decide)
         obtain ⟨t5, u5⟩ := soft5.cell 5 (by decide)
         obtain ⟨t6, u6⟩ := soft5.cell 6 (by decide)
         obtain ⟨t7, u7⟩ := soft5.cell 7 (by decide)
         clear own5 turn5 end5 soft5))
    refine ret_item (p := 4) (u := 5) (r := .int .i64 0) rfl w.heap.size rfl rfl rfl HZ.out ?_
    exact ⟨rfl, HE.out⟩


end Go.Proofs.YtjagaankkcbjmaaGreatDoor.F
