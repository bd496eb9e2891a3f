/-
  shed, Drop, Find, by their contracts.
-/
import Derived.Test.YtiaagiijjledkaaGreatDoorShed
namespace Go.Proofs.YtiaagiijjledkaaGreatDoor
open Go.RowKit Go.Sort Go.Maps Go.Shelf

def keepB (pd : Bd → Bool) (l : List Bd) : List Bd := l.filter fun x => !pd x
theorem keepB_le (pd : Bd → Bool) (l : List Bd) : (keepB pd l).length ≤ l.length := List.length_filter_le _ _
theorem Tb.Ok.keep {s : Tb} (ok : s.Ok) (pd : Bd → Bool) : Tb.Ok { s with bs := keepB pd s.bs } :=
  ⟨ok.ox, ok.ob.filter _, ok.good, fun b hb => ok.fit b (List.mem_filter.1 hb).1, fun b hb => ok.leads b (List.mem_filter.1 hb).1, ok.nx, Nat.le_trans (keepB_le pd s.bs) ok.nb⟩
set_option maxRecDepth 20000 in
set_option maxHeartbeats 1000000 in
theorem shed_any (pd : Bd → Bool) (g : Nat) (cb : Array Value) (p : Nat) (F : Nat → Prop) (s : Tb) (w : World) (h : T w p F s) (bl : BL s.bs) (hn : s.bs.length ≤ 1000) (eg : ∀ args w, (callFunc g args).run Tryz.prog w = .ok (.enter g args) w)
    (hg : ∀ (W : World) (x : Bd), (∀ k, k < w.heap.size → ¬ F k → W.heap[k]? = w.heap[k]?) → Calls Tryz.prog g (#[bv x] ++ cb) W fun e w' => e = .returned (.bool (pd x)) ∧ W.grownBy w' none) :
    Calls Tryz.prog 42 #[.pointer (some ⟨p, 0, none⟩), .func (.func g) #[] cb] w fun e w' => e = .returned (.int .i64 ((s.bs.length : Int) - ((keepB pd s.bs).length : Int))) ∧ ∃ F', T w' p F' { s with bs := keepB pd s.bs } ∧ Moved w w' F F' := by
  obtain ⟨bx, bb, hq, hF⟩ := h
  obtain ⟨_, c1⟩ := cells2 hq.blk
  have e1 : ∀ args w, (callFunc 61 args).run Tryz.prog w = .ok (.enter 61 args) w := enters_of Tryz.func61 (by kernel_rfl) rfl
  have hbb := hq.b.lt
  have hDF : ∀ t, Calls Tryz.prog 60 #[.map (some bb), .func (.func 61) #[] #[.pointer (some ⟨w.heap.size, 0, none⟩)]] (w.alloc (.cells #[.func (.func g) #[] cb] t)) fun e w' => e = .returned (.tuple #[]) ∧ BAt w' bb (keepB pd s.bs) ∧ w'.cell? ⟨p, 1, none⟩ = some (.map (some bb)) ∧ ∃ F', T w' p F' { s with bs := keepB pd s.bs } ∧ Moved w w' F F' := fun t =>
    (deleteFunc_any pd 61 #[.pointer (some ⟨w.heap.size, 0, none⟩)] bb s.bs bl _ e1 (hq.b.same (Below.heap_alloc w _ _ hbb)) (fun W x gr => shed1_any pd g cb w.heap.size x W eg (gr.cell (cell_of_list (C := [.func (.func g) #[] cb]) (heap_alloc_new w _) 0) (fun e => by injection e with e; simp only at e; omega)) (fun W' g' => hg W' x fun k hk hnF => by
      have hkb : k ≠ bb := fun e => hnF ((hF k).2 (.inr (.inr e)))
      rw [g'.block k (Nat.lt_of_lt_of_le (by simp; omega) gr.size) (by simp), gr.block k (by simp; omega) (fun e => hkb (by injection e)), Below.heap_alloc w _ _ hk]))).mono fun e w2 ⟨he, hb2, gr2⟩ => by
      have hqa := hq.same (w' := w.alloc (.cells #[.func (.func g) #[] cb] t)) fun k hk => Below.heap_alloc w _ _ (hq.lts k hk)
      have m1 : Moved w (w.alloc (.cells #[.func (.func g) #[] cb] t)) F F := .of_below ((Below.refl _ _).alloc (Nat.le_refl _) _)
      exact ⟨he, hb2, gr2.cell (cell_allocK _ c1) (fun e => by injection e with e; exact hq.ne_b e.symm), footT p bx bb, ⟨bx, bb, hqa.setB hb2 gr2, fun _ => Iff.rfl⟩, m1.trans ((moved_setB p bx gr2).weak fun k hk => (hF k).2 hk)⟩
  have ca := fun o => cell_allocK o c1
  have hlb := fun o ty => (hq.b.same (Below.heap_alloc w o bb hbb)).len ty
  have hle := keepB_le pd s.bs
  have hw1 : IntKind.i64.wrap ((s.bs.length : Int) - ((keepB pd s.bs).length : Int)) = (s.bs.length : Int) - ((keepB pd s.bs).length : Int) := by rw [IntKind.wrap_i64]; omega
  clear hg hq hF e1
  generalize hkl : (keepB pd s.bs).length = kl at *
  go_enter Tryz.func42, Tryz.ntmps42
  go_wp2_with fail
  refine (hDF _).mono ?_
  rintro e w2 ⟨rfl, hb2, c2, hE⟩
  have hl2 := hb2.len
  rw [hkl] at hl2
  have HE : Hid (∃ F', T w2 p F' { s with bs := keepB pd s.bs } ∧ Moved w w2 F F') := hE
  clear hb2 hE
  go_wp2
  go_ret
  exact ⟨rfl, HE.out⟩

def Tb.drop (s : Tb) (n : ByteArray) : Int × Tb := match findX s.xs n with
  | none => (3, s)
  | some _ => (0, ⟨s.xs.filter fun x => !decide (x.name = n), keepB (fun b => b.ex.toList == n.toList) s.bs⟩)
theorem baList_eq {a b : ByteArray} : (a.toList == b.toList) = decide (a = b) := by
  rw [Bool.eq_iff_iff, beq_iff_eq, decide_eq_true_iff]
  constructor
  · intro h; rw [ByteArray.toList_eq, ByteArray.toList_eq] at h; exact arr_inj h
  · rintro rfl; rfl
theorem Tb.Ok.drop {s : Tb} (ok : s.Ok) (n : ByteArray) : (s.drop n).2.Ok := by
  unfold Tb.drop
  split
  · exact ok
  · refine ⟨ok.ox.filter _, ok.ob.filter _, fun x hx => ok.good x (List.mem_filter.1 hx).1, fun b hb => ok.fit b (List.mem_filter.1 hb).1, fun b hb => ?_, Nat.le_trans (List.length_filter_le _ _) ok.nx, Nat.le_trans (keepB_le _ s.bs) ok.nb⟩
    obtain ⟨hb1, hb2⟩ := List.mem_filter.1 hb
    obtain ⟨x, hx, e⟩ := ok.leads b hb1
    refine ⟨x, List.mem_filter.2 ⟨hx, ?_⟩, e⟩
    have hb3 : (!(b.ex.toList == n.toList)) = true := hb2
    rw [baList_eq, ← e] at hb3
    exact hb3
set_option maxRecDepth 20000 in
theorem XAt.del {w : World} {b : Nat} {l : List Ex} (h : XAt w b l) (hl : XL l) {s : ByteArray} (hs : s.size ≤ maxLen) :
    ∃ f : TypeId → World, ∀ ty, (Builtin.delete_ #[50, 9] ty #[.map (some b), .string s]).run Tryz.prog w = .ok (.tuple #[]) (f ty) ∧ XAt (f ty) b (l.filter fun x => !decide (x.name = s)) ∧ w.grownBy (f ty) (some b) := by
  have each : ∀ ty : TypeId, ∃ w', (Builtin.delete_ #[50, 9] ty #[.map (some b), .string s]).run Tryz.prog w = .ok (.tuple #[]) w' ∧ XAt w' b (l.filter fun x => !decide (x.name = s)) ∧ w.grownBy w' (some b) := fun ty => by
    obtain ⟨w', h1, h2, h3⟩ := World.ownsMap.drop h xKeyed Tryz.underlying50 (keyOf_str hs) ty
    refine ⟨w', h1, ?_, h3.grown⟩
    rw [del_DofG xKeyed.one hl.keys hl.diff] at h2
    have e : (l.filter fun y => !(xkl y).sameKey (.string s.data.toList)) = l.filter fun x => !decide (x.name = s) := List.filter_congr fun y _ => by
      congr 1
      rw [Bool.eq_iff_iff, sameKey_iff xKeyed.one ⟨_, keyOf_str hs⟩, decide_eq_true_iff]
      exact ⟨fun e => str_inj e, fun e => by rw [← e]; rfl⟩
    rw [e] at h2
    exact ownsMapG_fit h2
  obtain ⟨f, hf⟩ := Classical.axiomOfChoice each
  exact ⟨f, hf⟩

set_option maxRecDepth 20000 in
set_option maxHeartbeats 4000000 in
theorem drop_any (p : Nat) (F : Nat → Prop) (s : Tb) (n : ByteArray) (w : World) (h : T w p F s) (ok : s.Ok) (hs : n.size ≤ maxLen) :
    Calls Tryz.prog 19 #[.pointer (some ⟨p, 0, none⟩), .string n] w fun e w' => e = .returned (.int .i64 (s.drop n).1) ∧ ∃ F', T w' p F' (s.drop n).2 ∧ Moved w w' F F' := by
  obtain ⟨w2, fold⟩ : ∃ w2, w.alloc (.cells #[.string n] 9) = w2 := ⟨_, rfl⟩
  have b02 : Below w.heap.size w w2 := by rw [← fold]; exact (Below.refl _ _).alloc (Nat.le_refl _) _
  have s2 : Hid (w2.heap.size = w.heap.size + 1) := by show w2.heap.size = _; rw [← fold]; simp
  have y0 : w2.cell? ⟨w.heap.size, 0, none⟩ = some (.string n) := by rw [← fold]; exact cell_of_list (C := [.string n]) (heap_alloc_new w _) 0
  have hM := made_any p F s w2 (h.kept b02)
  have hend : Hid (∀ w', Below w.heap.size w w' → ∃ F', T w' p F' s ∧ Moved w w' F F') := fun w' hb => ⟨F, h.kept hb, .of_below hb⟩
  obtain ⟨bx, bb, hq, hF⟩ := h.kept b02
  obtain ⟨c0, c1⟩ := cells2 hq.blk
  have HQ : Hid (TAt w2 p bx bb s) := hq
  have kl : ∀ W', W'.heap[bx]? = w2.heap[bx]? → (Instr.lookup 50 (.map (some bx)) (.string n) true).run Tryz.prog W' = .ok (.tuple #[xv ((findX s.xs n).getD zeroEx), .bool (findX s.xs n).isSome]) W' := fun W' e => (hq.x.same e).look ok.xl hs
  have la := kl w2.drew rfl
  have lb : ∀ o, (Instr.lookup 50 (.map (some bx)) (.string n) true).run Tryz.prog ((w2.alloc o).drew) = _ := fun o => kl ((w2.alloc o).drew) (Below.heap_alloc w2 _ _ hq.x.lt)
  have HB02 : Hid (Below w.heap.size w w2) := b02
  have HF : Hid (∀ k, F k ↔ footT p bx bb k) := hF
  obtain ⟨yy, hyy⟩ : ∃ yy, (findX s.xs n).getD zeroEx = yy := ⟨_, rfl⟩
  obtain ⟨rr, hrr⟩ : ∃ rr, (findX s.xs n).isSome = rr := ⟨_, rfl⟩
  rw [hyy, hrr] at la
  simp only [hyy, hrr] at lb
  have HRR : Hid ((findX s.xs n).isSome = rr) := hrr
  have ya := fun o => cell_allocK o y0
  have ca := fun o => cell_allocK o c0
  clear kl hq hF b02 hyy hrr
  go_enter Tryz.func19, Tryz.ntmps19
  go_wp2_with fail
  refine hM.mono ?_
  rintro e w2 ⟨rfl, rfl⟩
  clear fold
  go_wp2
  go_cut [5, 6] from 7 to 28 (fun s5 s6 wx => s5 = .pointer (some ⟨w2.heap.size, 0, none⟩) ∧ s6 = .bool rr ∧ Below w2.heap.size w2 wx)
  case first =>
    go_region
    all_goals go_wp2
    all_goals go_meet
    all_goals exact ⟨rfl, rfl, ((Below.refl _ _).alloc (Nat.le_refl _) _).drew⟩
  case rest =>
    obtain ⟨rfl, rfl, b3⟩ := hcut
    have hw2 : w.heap.size < w2.heap.size := by have := s2.out; omega
    have u0 := (b3.cell (p := ⟨w.heap.size, 0, none⟩) hw2).trans y0
    have d0 := (b3.cell (p := ⟨p, 0, none⟩) (Array.getElem?_eq_some_iff.1 HQ.out.blk).1).trans c0
    have HQ3 : Hid (TAt wc p bx bb s) := HQ.out.same fun k hk => b3.block k (HQ.out.lts k hk)
    have HB3 : Hid (Below w.heap.size w wc) := HB02.out.trans (b3.mono (by omega))
    have hwc : w.heap.size < wc.heap.size := Nat.lt_of_lt_of_le hw2 b3.size
    clear la lb ya ca y0 c0 c1 b3 hM
    cases hf : findX s.xs n with
    | none =>
      obtain rfl : false = rr := by have := HRR.out; rw [hf] at this; exact this
      have hd : Hid (s.drop n = (3, s)) := by show s.drop n = (3, s); unfold Tb.drop; rw [hf]
      clear hf
      go_wp2
      go_ret
      rw [hd.out]; exact ⟨rfl, hend.out _ HB3.out⟩
    | some y =>
      obtain rfl : true = rr := by have := HRR.out; rw [hf] at this; exact this
      have hd : Hid (s.drop n = (0, ⟨s.xs.filter fun x => !decide (x.name = n), keepB (fun b => b.ex.toList == n.toList) s.bs⟩)) := by show s.drop n = _; unfold Tb.drop; rw [hf]
      obtain ⟨f, hfx⟩ := XAt.del (w := wc.drew) HQ3.out.x ok.xl hs
      have hrun := fun ty => (hfx ty).1
      have HW5 : Hid (∀ ty, T (f ty) p (footT p bx bb) { s with xs := s.xs.filter fun x => !decide (x.name = n) } ∧ Moved w (f ty) F (footT p bx bb) ∧ (f ty).cell? ⟨w.heap.size, 0, none⟩ = some (.string n)) := fun ty => by
        obtain ⟨_, hx5, gr5⟩ := hfx ty
        have m5 : Moved w wc.drew F F := .of_below HB3.out.drew
        refine ⟨⟨bx, bb, (show TAt wc.drew p bx bb s from ⟨HQ3.out.blk, HQ3.out.x, HQ3.out.b, HQ3.out.ne⟩).setX hx5 gr5, fun _ => Iff.rfl⟩, m5.trans ((moved_setX p bb gr5).weak fun k hk => (HF.out k).2 hk), ?_⟩
        have hne : w.heap.size ≠ bx := fun e => by have := h.lts bx ((HF.out bx).2 (.inr (.inl rfl))); omega
        exact gr5.cell (show wc.drew.cell? ⟨w.heap.size, 0, none⟩ = _ from u0) (fun e => hne (by injection e))
      have eg : ∀ args w, (callFunc 43 args).run Tryz.prog w = .ok (.enter 43 args) w := enters_of Tryz.func43 (by kernel_rfl) rfl
      have hwF : Hid (¬ footT p bx bb w.heap.size) := fun hk => by have := h.lts w.heap.size ((HF.out _).2 hk); omega
      have hSH : ∀ ty, Calls Tryz.prog 42 #[.pointer (some ⟨p, 0, none⟩), .func (.func 43) #[] #[.pointer (some ⟨w.heap.size, 0, none⟩)]] (f ty) _ := fun ty =>
        shed_any (fun b => b.ex.toList == n.toList) 43 #[.pointer (some ⟨w.heap.size, 0, none⟩)] p (footT p bx bb) _ (f ty) (HW5.out ty).1 ok.bl (by have := ok.nb; show s.bs.length ≤ 1000; omega) eg (fun W x hk => drop1_any x w.heap.size n W (by
          have hl := World.block_lt_of_cell? _ _ (HW5.out ty).2.2
          have := hk w.heap.size hl hwF.out
          have h2 := (HW5.out ty).2.2
          simp only [World.cell?] at h2 ⊢
          rw [this]; exact h2))
      clear hf hfx eg
      go_wp2
      go_region
      all_goals (go_wp2_with fail; refine (hSH _).mono ?_; rintro e w6 ⟨rfl, F6, t6, m6⟩; go_wp2; go_ret; rw [hd.out]; exact ⟨rfl, F6, t6, (HW5.out _).2.1.trans m6⟩)
end Go.Proofs.YtiaagiijjledkaaGreatDoor
