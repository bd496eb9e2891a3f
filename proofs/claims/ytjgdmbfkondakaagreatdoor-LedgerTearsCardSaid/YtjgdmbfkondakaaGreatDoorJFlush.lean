/-
  Flush, by its contract.
-/
import Derived.Test.YtjgdmbfkondakaaGreatDoorJBegin
import Derived.Test.YtjgdmbfkondakaaGreatDoorJAdd
import Derived.BigRegion
namespace Go.Proofs.YtjgdmbfkondakaaGreatDoor
open Go.RowKit

theorem ef_flush1 : ∀ args w, (callFunc 35 args).run Tryz.prog w = .ok (.enter 35 args) w := enters_of Tryz.func35 (by kernel_rfl) rfl
theorem ef_flush2 : ∀ args w, (callFunc 37 args).run Tryz.prog w = .ok (.enter 37 args) w := enters_of Tryz.func37 (by kernel_rfl) rfl
theorem ef_flush3 : ∀ args w, (callFunc 39 args).run Tryz.prog w = .ok (.enter 39 args) w := enters_of Tryz.func39 (by kernel_rfl) rfl
section
variable {w : World} {q p : Nat} {V : Value} {l : Lg} {F : Nat → Prop} {m : M}
theorem LdAt.write (h : LdAt w q V l p F m) (ok : m.Ok) (hc : m.count ≤ 900000) (n : ByteArray) (hs : n.size ≤ maxLen) (bv : Value) (bs : List UInt8) (hb : Holds w bv bs) : Calls Tryz.prog 36 #[.pointer (some ⟨p, 0, none⟩), .string n, bv] w fun e w' => e = .returned (.int .i64 (m.write n bs).1) ∧ ∃ F', LdAt w' q V l p F' (m.write n bs).2 ∧ Moved w w' (lfoot q V F) (lfoot q V F') := by
  refine (write_any p F m n bv bs w h.st ok hc hs hb).mono ?_
  rintro e w' ⟨rfl, F', s, mv⟩
  exact ⟨rfl, F', h.go s mv⟩
theorem LdAt.sync (h : LdAt w q V l p F m) (ok : m.Ok) (hc : m.count ≤ 900000) (n : ByteArray) (hs : n.size ≤ maxLen) : Calls Tryz.prog 38 #[.pointer (some ⟨p, 0, none⟩), .string n] w fun e w' => e = .returned (.int .i64 (m.sync n).1) ∧ ∃ F', LdAt w' q V l p F' (m.sync n).2 ∧ Moved w w' (lfoot q V F) (lfoot q V F') := by
  refine (sync_any p F m n w h.st ok hc hs).mono ?_
  rintro e w' ⟨rfl, F', s, mv⟩
  exact ⟨rfl, F', h.go s mv⟩
set_option maxRecDepth 20000 in
set_option maxHeartbeats 1000000 in
theorem flush1_at (h : LdAt w q V l p F m) (ok : m.Ok) (hc : m.count ≤ 900000) (nm : ByteArray) (hs : nm.size ≤ maxLen) (B0 B1 : Nat) (hb0 : Boxed w B0 30 (.pointer (some ⟨q, 0, none⟩))) (hb1 : Boxed w B1 9 (.string nm)) (hn0 : ¬ lfoot q V F B0) (hn1 : ¬ lfoot q V F B1) :
    Calls Tryz.prog 35 #[.pointer (some ⟨B0, 0, none⟩), .pointer (some ⟨B1, 0, none⟩)] w fun e w' => e = .returned (.int .i64 (m.write nm l.wait).1) ∧ ∃ F', LdAt w' q V l p F' (m.write nm l.wait).2 ∧ Moved w w' (lfoot q V F) (lfoot q V F') := by
  have c0 := h.cells.1
  have c3 := h.cells.2.2.2.1
  have x0 := hb0.cell
  have x1 := hb1.cell
  have bD : Below w.heap.size w w.drew := (Below.refl _ w).drew
  have hD := h.kept bD
  have hW := hD.write ok hc nm hs V l.wait hD.buf.holds
  have HC : Hid (∀ W G', Moved w.drew W (lfoot q V F) G' → W.cell? ⟨B0, 0, none⟩ = some (.pointer (some ⟨q, 0, none⟩)) ∧ W.cell? ⟨B1, 0, none⟩ = some (.string nm)) := fun W G' mv => ⟨(boxed_moved (boxed_below hb0 bD) mv hn0).cell, (boxed_moved (boxed_below hb1 bD) mv hn1).cell⟩
  obtain ⟨va, vc, hV⟩ := h.buf.slice
  subst hV
  generalize (m.write nm l.wait).1 = z at *
  generalize (m.write nm l.wait).2 = m' at *
  clear h ok hc hb0 hb1 hn0 hn1 hD hs
  go_enter Tryz.func35, Tryz.ntmps35
  go_wp2
  go_region_held3 (fun w' => w'.cell? ⟨B0, 0, none⟩ = some (.pointer (some ⟨q, 0, none⟩)) ∧ w'.cell? ⟨q, 0, none⟩ = some (.pointer (some ⟨p, 0, none⟩)) ∧ w'.cell? ⟨B1, 0, none⟩ = some (.string nm) ∧ w'.cell? ⟨q, 3, none⟩ = some (.slice va l.wait.length vc)) (go_keep) (first
    | (go_at_call 36; refine hW.mono ?_; rintro e w3 ⟨rfl, F', h3, mv3⟩; have r0 := h3.cells.1; have r3 := h3.cells.2.2.2.1; obtain ⟨r1, r2⟩ := HC.out w3 _ mv3))
  all_goals go_wp2
  all_goals go_ret
  all_goals exact ⟨rfl, F', h3, (Moved.of_below bD).trans mv3⟩
set_option maxRecDepth 20000 in
set_option maxHeartbeats 1000000 in
theorem flush2_at (f : Nat) (hf : f = 37) (h : LdAt w q V l p F m) (ok : m.Ok) (hc : m.count ≤ 900000) (nm : ByteArray) (hs : nm.size ≤ maxLen) (B0 B1 : Nat) (hb0 : Boxed w B0 30 (.pointer (some ⟨q, 0, none⟩))) (hb1 : Boxed w B1 9 (.string nm)) (hn0 : ¬ lfoot q V F B0) (hn1 : ¬ lfoot q V F B1) :
    Calls Tryz.prog f #[.pointer (some ⟨B0, 0, none⟩), .pointer (some ⟨B1, 0, none⟩)] w fun e w' => e = .returned (.int .i64 (m.sync nm).1) ∧ ∃ F', LdAt w' q V l p F' (m.sync nm).2 ∧ Moved w w' (lfoot q V F) (lfoot q V F') := by
  subst hf
  have c0 := h.cells.1
  have x0 := hb0.cell
  have x1 := hb1.cell
  have bD : Below w.heap.size w w.drew := (Below.refl _ w).drew
  have hW := (h.kept bD).sync ok hc nm hs
  have HC : Hid (∀ W G', Moved w.drew W (lfoot q V F) G' → W.cell? ⟨B0, 0, none⟩ = some (.pointer (some ⟨q, 0, none⟩)) ∧ W.cell? ⟨B1, 0, none⟩ = some (.string nm)) := fun W G' mv => ⟨(boxed_moved (boxed_below hb0 bD) mv hn0).cell, (boxed_moved (boxed_below hb1 bD) mv hn1).cell⟩
  generalize (m.sync nm).1 = z at *
  generalize (m.sync nm).2 = m' at *
  clear h ok hc hb0 hb1 hn0 hn1 hs
  go_enter Tryz.func37, Tryz.ntmps37
  go_wp2
  go_region_held3 (fun w' => w'.cell? ⟨B0, 0, none⟩ = some (.pointer (some ⟨q, 0, none⟩)) ∧ w'.cell? ⟨q, 0, none⟩ = some (.pointer (some ⟨p, 0, none⟩)) ∧ w'.cell? ⟨B1, 0, none⟩ = some (.string nm)) (go_keep) (first
    | (go_at_call 38; refine hW.mono ?_; rintro e w3 ⟨rfl, F', h3, mv3⟩; have r0 := h3.cells.1; obtain ⟨r1, r2⟩ := HC.out w3 _ mv3))
  all_goals go_wp2
  all_goals go_ret
  all_goals exact ⟨rfl, F', h3, (Moved.of_below bD).trans mv3⟩
set_option maxRecDepth 20000 in
set_option maxHeartbeats 2000000 in
theorem flush3_at (h : LdAt w q V l p F m) (ok : m.Ok) (hc : m.count ≤ 800000) (he : Env w) (h6 : ∀ k, lfoot q V F k → 6 ≤ k) (hl : 0 ≤ l.last ∧ l.last ≤ 999999999) (B0 : Nat) (hb0 : Boxed w B0 30 (.pointer (some ⟨q, 0, none⟩))) (hn0 : ¬ lfoot q V F B0) :
    Calls Tryz.prog 39 #[.pointer (some ⟨B0, 0, none⟩)] w fun e w' => e = .returned (.int .i64 (turnL l.clean m).1) ∧ ∃ V' F', LdAt w' q V' (turnL l.clean m).2.1 p F' (turnL l.clean m).2.2 ∧ Moved w w' (lfoot q V F) (lfoot q V' F') := by
  have x0 := hb0.cell
  have c3 := h.cells.2.2.2.1
  have c4 := h.cells.2.2.2.2.1
  have f3 := h.frozen 3
  have f4 := h.frozen 4
  have hne : B0 ≠ q := fun e => hn0 (.inl e)
  have HE : Hid (∀ X : World, X.heap[q]? = some (.cells (lcell p (.slice none 0 0) l.clean).toArray 56 (0, 0)) → (∀ k, k ≠ q → X.heap[k]? = w.heap[k]?) → X.os = w.os → X.tape = w.tape → X.output = w.output → X.heap.size = w.heap.size → X.cell? ⟨B0, 0, none⟩ = some (.pointer (some ⟨q, 0, none⟩)) ∧ Calls Tryz.prog 40 #[.pointer (some ⟨q, 0, none⟩)] X fun e w' => e = .returned (.int .i64 (turnL l.clean m).1) ∧ ∃ V' F', LdAt w' q V' (turnL l.clean m).2.1 p F' (turnL l.clean m).2.2 ∧ Moved w w' (lfoot q V F) (lfoot q V' F')) := fun X hq ho h1 h2 h3 hz => by
    obtain ⟨r1, r2⟩ := h.turn (w' := X) (V' := .slice none 0 0) (l' := l.clean) hq (fun k _ hk _ => ho k hk) (buf_nil X) (.inr (.inl rfl)) h1 h2 h3 (Nat.le_of_eq hz.symm)
    refine ⟨(show Boxed X B0 _ _ from (ho B0 hne).trans hb0).cell, ?_⟩
    have h6' : ∀ k, lfoot q (.slice none 0 0) F k → 6 ≤ k := by
      rintro k (hk | hk | hk)
      · exact h6 k (.inl hk)
      · simp [Value.ownBlock] at hk
      · exact h6 k (.inr (.inr hk))
    refine (turn_at r1 ok hc (he.moved r2 h6) h6' hl).mono ?_
    rintro e w' ⟨rfl, V', F', h', mv'⟩
    exact ⟨rfl, V', F', h', r2.trans mv'⟩
  have HQ : Hid (w.heap[q]? = some (.cells (lcell p V l).toArray 56 (0, 0))) := h.blk
  obtain ⟨va, vc, hV⟩ := h.buf.slice
  subst hV
  generalize (l.cnt : Int) = cn at *
  clear h ok hc he h6 hl hb0 hn0
  go_enter Tryz.func39, Tryz.ntmps39
  go_wp2
  go_region
  obtain ⟨X, hX⟩ : ∃ X, ((w.setCell ⟨q, 3, none⟩ (.slice none 0 0)).setCell ⟨q, 4, none⟩ (.int .i64 0)).drew = X := ⟨_, rfl⟩
  obtain ⟨y0, hT⟩ := HE.out X (by rw [← hX]; exact heap_set_list (i := 4) (heap_set_list (i := 3) HQ.out _) _) (fun k hk => by rw [← hX]; show ((w.setCell ⟨q, 3, none⟩ (.slice none 0 0)).setCell ⟨q, 4, none⟩ (.int .i64 0)).heap[k]? = _; rw [Below.heap_setCell _ _ _ _ hk, Below.heap_setCell _ _ _ _ hk]) (by rw [← hX]; rfl) (by rw [← hX]; rfl) (by rw [← hX]; rfl) (by rw [← hX]; show ((w.setCell ⟨q, 3, none⟩ (.slice none 0 0)).setCell ⟨q, 4, none⟩ (.int .i64 0)).heap.size = _; simp)
  rw [hX]
  clear HE HQ hX
  go_wp2_with (go_at_call 40; refine hT.mono ?_; rintro e w4 ⟨rfl, HX⟩)
  go_ret
  exact ⟨rfl, HX⟩
end
end Go.Proofs.YtjgdmbfkondakaaGreatDoor

/-
  Flush, by its contract.
-/
namespace Go.Proofs.YtjgdmbfkondakaaGreatDoor
open Go.RowKit

section
variable {w : World} {q p : Nat} {V : Value} {l : Lg} {F : Nat → Prop} {m : M}
/-- The three steps of Flush. -/
theorem flush_steps (h : LdAt w q V l p F m) (ok : m.Ok) (hc : m.count ≤ 700000) (he : Env w) (h6 : ∀ k, lfoot q V F k → 6 ≤ k) (hl : 0 ≤ l.last ∧ l.last ≤ 999999999) (B0 B1 R : Nat) (x0 : Boxed w B0 30 (.pointer (some ⟨q, 0, none⟩))) (x1 : Boxed w B1 9 (.string (nameB l.last))) (hn0 : ¬ lfoot q V F B0) (hn1 : ¬ lfoot q V F B1) (hnR : ¬ lfoot q V F R)
    (hrow : Row w (.slice (some ⟨R, 0, none⟩) 3 3) (clv [⟨35, #[], #[.pointer (some ⟨B0, 0, none⟩), .pointer (some ⟨B1, 0, none⟩)]⟩, ⟨37, #[], #[.pointer (some ⟨B0, 0, none⟩), .pointer (some ⟨B1, 0, none⟩)]⟩, ⟨39, #[], #[.pointer (some ⟨B0, 0, none⟩)]⟩])) :
    Calls Tryz.prog 34 #[.pointer (some ⟨q, 0, none⟩), .slice (some ⟨R, 0, none⟩) 3 3] w fun e w' => e = .returned (.int .i64 (flush1 l m).1) ∧ ∃ V' F', LdAt w' q V' (flush1 l m).2.1 p F' (flush1 l m).2.2 ∧ Moved w w' (lfoot q V F) (lfoot q V' F') := by
  have ok1 := M.write_ok ok (nameB l.last) l.wait
  have k1 := M.write_count m (nameB l.last) l.wait
  have ok2 := M.sync_ok ok1 (nameB l.last)
  have k2 := M.sync_count (m.write (nameB l.last) l.wait).2 (nameB l.last)
  have hS := lsteps q p (.slice (some ⟨R, 0, none⟩) 3 3) [⟨35, #[], #[.pointer (some ⟨B0, 0, none⟩), .pointer (some ⟨B1, 0, none⟩)]⟩, ⟨37, #[], #[.pointer (some ⟨B0, 0, none⟩), .pointer (some ⟨B1, 0, none⟩)]⟩, ⟨39, #[], #[.pointer (some ⟨B0, 0, none⟩)]⟩] w V l F m
    (fun k l1 m1 => (k = 0 → l1 = l ∧ m1 = m) ∧ (k = 1 → l1 = l ∧ m1 = (m.write (nameB l.last) l.wait).2 ∧ (m.write (nameB l.last) l.wait).1 = 0) ∧ (k = 2 → l1 = l ∧ m1 = ((m.write (nameB l.last) l.wait).2.sync (nameB l.last)).2 ∧ (m.write (nameB l.last) l.wait).1 = 0 ∧ ((m.write (nameB l.last) l.wait).2.sync (nameB l.last)).1 = 0) ∧ (k = 3 → (0, l1, m1) = flush1 l m))
    (fun r l1 m1 => (r, l1.die r, m1) = flush1 l m) (by simp)
    (fun c hc => by
      simp only [List.mem_cons, List.not_mem_nil, or_false] at hc
      rcases hc with rfl | rfl | rfl
      · exact ef_flush1
      · exact ef_flush2
      · exact ef_flush3) h hrow (fun ad n c e => by injection e with e; injection e with e; rw [← e]; exact hnR) he h6 ⟨fun _ => ⟨rfl, rfl⟩, by simp, by simp, by simp⟩ (by
      rintro k hk W l1 m1 V1 F1 ⟨t0, t1, t2, t3⟩ hl1 mv hE
      have y0 := boxed_moved x0 mv hn0
      have y1 := boxed_moved x1 mv hn1
      have n0 : ¬ lfoot q V1 F1 B0 := fun hf => (mv.sub _ hf).elim hn0 (fun h => by have := x0.lt; omega)
      have n1 : ¬ lfoot q V1 F1 B1 := fun hf => (mv.sub _ hf).elim hn1 (fun h => by have := x1.lt; omega)
      have h6' : ∀ k, lfoot q V1 F1 k → 6 ≤ k := fun k hf => (mv.sub _ hf).elim (h6 k) (fun h => by have := he.pos; omega)
      match k, hk with
      | 0, _ =>
        obtain ⟨rfl, rfl⟩ := t0 rfl
        refine (flush1_at hl1 ok (by omega) (nameB l1.last) (nameB_max _) _ _ y0 y1 n0 n1).mono ?_
        rintro e W' ⟨rfl, F', h2, mv2⟩
        refine ⟨_, rfl, V1, l1, F', _, h2, mv2, fun hr => ⟨by simp, fun _ => ⟨rfl, rfl, hr⟩, by simp, by simp⟩, fun hr => ?_⟩
        unfold flush1
        rw [if_pos hr]
      | 1, _ =>
        obtain ⟨rfl, rfl, e1⟩ := t1 rfl
        refine (flush2_at _ rfl hl1 ok1 (by omega) (nameB l1.last) (nameB_max _) _ _ y0 y1 n0 n1).mono ?_
        rintro e W' ⟨rfl, F', h2, mv2⟩
        refine ⟨_, rfl, V1, l1, F', _, h2, mv2, fun hr => ⟨by simp, by simp, fun _ => ⟨rfl, rfl, e1, hr⟩, by simp⟩, fun hr => ?_⟩
        unfold flush1 flush2
        rw [if_neg (by simp [e1]), if_pos hr]
      | 2, _ =>
        obtain ⟨rfl, rfl, e1, e2⟩ := t2 rfl
        refine (flush3_at hl1 ok2 (by omega) hE h6' hl _ y0 n0).mono ?_
        rintro e W' ⟨rfl, V', F', h2, mv2⟩
        refine ⟨_, rfl, V', _, F', _, h2, mv2, fun hr => ⟨by simp, by simp, by simp, fun _ => ?_⟩, fun hr => ?_⟩
        · unfold flush1 flush2 flush3
          rw [if_neg (by simp [e1]), if_neg (by simp [e2]), if_neg (by simp [hr])]
        · unfold flush1 flush2 flush3
          rw [if_neg (by simp [e1]), if_neg (by simp [e2]), if_pos hr])
  refine hS.mono ?_
  rintro e w4 ⟨r, rfl, V2, l2, F2, m2, h2, mv2, hq⟩
  rcases hq with ⟨rfl, _, _, _, hT⟩ | ⟨hr, l1, hU, rfl⟩
  · have hT := hT rfl
    rw [← hT]
    exact ⟨rfl, V2, F2, h2, mv2⟩
  · rw [← hU]
    exact ⟨rfl, V2, F2, h2, mv2⟩
set_option maxRecDepth 20000 in
set_option maxHeartbeats 2000000 in
theorem flush_at (h : LdAt w q V l p F m) (ok : m.Ok) (hc : m.count ≤ 700000) (he : Env w) (h6 : ∀ k, lfoot q V F k → 6 ≤ k) (hl : 0 ≤ l.last ∧ l.last ≤ 999999999) :
    Calls Tryz.prog 14 #[.pointer (some ⟨q, 0, none⟩)] w fun e w' => e = .returned (.int .i64 (flushL l m).1) ∧ ∃ V' F', LdAt w' q V' (flushL l m).2.1 p F' (flushL l m).2.2 ∧ Moved w w' (lfoot q V F) (lfoot q V' F') := by
  obtain ⟨W0, fold0⟩ : ∃ W0, w.alloc (.cells #[.pointer (some ⟨q, 0, none⟩)] 30) = W0 := ⟨_, rfl⟩
  have b0 : Below w.heap.size w W0 := by rw [← fold0]; exact (Below.refl _ _).alloc (Nat.le_refl _) _
  have x0 : Boxed W0 w.heap.size 30 (.pointer (some ⟨q, 0, none⟩)) := by rw [← fold0]; exact heap_alloc_new w _
  have hout : ∀ k, w.heap.size ≤ k → ¬ lfoot q V F k := fun k hk hf => by have := h.lts k hf; omega
  have hC := checkL_at (h.kept b0) (he.below b0) h6
  have y0 := x0.cell
  have HX0 : Hid (Boxed W0 w.heap.size 30 (.pointer (some ⟨q, 0, none⟩)) ∧ (∀ k, w.heap.size ≤ k → ¬ lfoot q V F k) ∧ Below w.heap.size w W0 ∧ Env W0 ∧ ∀ k, lfoot q V F k → 6 ≤ k) := ⟨x0, hout, b0, he.below b0, h6⟩
  unfold flushL
  by_cases h0 : offE l m = 0
  · rw [if_neg (by simp [h0])]
    rw [h0, (offE_zero h0).1] at hC
    have HO : Hid (m.Ok) := ok
    clear h x0 hout b0 h0 he h6 ok
    by_cases hcn : l.cnt = 0
    · rw [if_pos hcn]
      go_enter Tryz.func14, Tryz.ntmps14
      go_wp2_with fail
      refine hC.mono ?_
      rintro e w1 ⟨rfl, V1, F1, h1, mv1⟩
      have c4 := h1.cells.2.2.2.2.1
      have z0 := (boxed_moved HX0.out.1 mv1 (HX0.out.2.1 _ (Nat.le_refl _))).cell
      rw [hcn] at c4
      clear hC
      go_wp2
      go_ret
      exact ⟨rfl, V1, F1, h1, (Moved.of_below HX0.out.2.2.1).trans mv1⟩
    · rw [if_neg hcn]
      go_enter Tryz.func14, Tryz.ntmps14
      go_wp2_with fail
      refine hC.mono ?_
      rintro e w1 ⟨rfl, V1, F1, h1, mv1⟩
      have c4 := h1.cells.2.2.2.2.1
      have c2 := h1.cells.2.2.1
      have bx := boxed_moved HX0.out.1 mv1 (HX0.out.2.1 _ (Nat.le_refl _))
      have z0 := bx.cell
      have he1 := HX0.out.2.2.2.1.moved mv1 HX0.out.2.2.2.2
      have h61 : ∀ k, lfoot q V1 F1 k → 6 ≤ k := fun k hf => (mv1.sub _ hf).elim (HX0.out.2.2.2.2 k) (fun h => by have := HX0.out.2.2.2.1.pos; omega)
      have no1 : ¬ lfoot q V1 F1 w.heap.size := fun hf => (mv1.sub _ hf).elim (HX0.out.2.1 _ (Nat.le_refl _)) (fun h => by have := HX0.out.1.lt; omega)
      have hN := name_any l.last (by omega) (by omega) w1 he1
      have hcn' : (l.cnt : Int) ≠ 0 := by omega
      have hcn2 : ((l.cnt : Int) == 0) = false := by simpa using hcn'
      have HM1 : Hid (Moved w w1 (lfoot q V F) (lfoot q V1 F1)) := (Moved.of_below HX0.out.2.2.1).trans mv1
      have H1 : Hid (LdAt w1 q V1 l p F1 m ∧ Env w1 ∧ (∀ k, lfoot q V1 F1 k → 6 ≤ k) ∧ ¬ lfoot q V1 F1 w.heap.size ∧ Boxed w1 w.heap.size 30 (.pointer (some ⟨q, 0, none⟩))) := ⟨h1, he1, h61, no1, bx⟩
      clear hC h1 he1 h61 no1 bx mv1 HX0
      go_wp2_with fail
      refine hN.mono ?_
      rintro e w2 ⟨rfl, b2⟩
      have z2 := cell_on b2 z0
      obtain ⟨W3, fold3⟩ : ∃ W3, w2.alloc (.cells #[.string (nameB l.last)] 9) = W3 := ⟨_, rfl⟩
      obtain ⟨W4, fold4⟩ : ∃ W4, W3.alloc (.cells #[.func (.func 35) #[] #[.pointer (some ⟨w.heap.size, 0, none⟩), .pointer (some ⟨w2.heap.size, 0, none⟩)], .func (.func 37) #[] #[.pointer (some ⟨w.heap.size, 0, none⟩), .pointer (some ⟨w2.heap.size, 0, none⟩)], .func (.func 39) #[] #[.pointer (some ⟨w.heap.size, 0, none⟩)]] 40) = W4 := ⟨_, rfl⟩
      have b3 : Below w2.heap.size w2 W3 := by rw [← fold3]; exact (Below.refl _ _).alloc (Nat.le_refl _) _
      have b4 : Below W3.heap.size W3 W4 := by rw [← fold4]; exact (Below.refl _ _).alloc (Nat.le_refl _) _
      have b24 := keptW b2 (keptW b3 b4)
      have hout1 : ∀ k, w1.heap.size ≤ k → ¬ lfoot q V1 F1 k := fun k hk hf => by have := H1.out.1.lts k hf; omega
      have x1 : Boxed W3 w2.heap.size 9 (.string (nameB l.last)) := by rw [← fold3]; exact heap_alloc_new w2 _
      have hS := flush_steps (H1.out.1.kept b24) HO.out hc (H1.out.2.1.below b24) H1.out.2.2.1 hl w.heap.size w2.heap.size W3.heap.size (boxed_below H1.out.2.2.2.2 b24) (boxed_below x1 b4) H1.out.2.2.2.1 (hout1 _ b2.size) (hout1 _ (Nat.le_trans b2.size b3.size)) (by rw [← fold4]; exact fnrow3 W3 _ _ _ _ rfl)
      have z3 := cell_on b3 z2
      have HB4 : Hid (Below w1.heap.size w1 W4) := b24
      clear hN b2 b3 b4 b24 hout1 x1 H1 HO
      go_wp2_with (go_at_call 34; refine hS.mono ?_; rintro e w5 ⟨rfl, V', F', h', mv'⟩)
      go_ret
      exact ⟨rfl, V', F', h', (HM1.out.trans (Moved.of_below HB4.out)).trans mv'⟩
  · rw [if_pos h0]
    generalize offE l m = z at *
    clear h x0 hout b0 ok he h6
    go_enter Tryz.func14, Tryz.ntmps14
    go_wp2_with (go_at_call 33; refine hC.mono ?_; rintro e w1 ⟨rfl, V1, F1, h1, mv1⟩)
    go_ret
    exact ⟨rfl, V1, F1, h1, (Moved.of_below HX0.out.2.2.1).trans mv1⟩
end
end Go.Proofs.YtjgdmbfkondakaaGreatDoor

/-
  STEPS, as the model runs them; names that are short.
-/
namespace Go.Proofs.YtjgdmbfkondakaaGreatDoor
open Go.RowKit

/-- Steps one behind the other, up to the first error. -/
def runL : List (Lg → M → Int × Lg × M) → Lg → M → Int × Lg × M
  | [], l, m => (0, l, m)
  | s :: r, l, m => if (s l m).1 ≠ 0 then ((s l m).1, (s l m).2.1.die (s l m).1, (s l m).2.2) else runL r (s l m).2.1 (s l m).2.2
theorem runL_err {S : List (Lg → M → Int × Lg × M)} {k : Nat} (hk : k < S.length) {l : Lg} {m : M} (h : (S[k] l m).1 ≠ 0) : runL (S.drop k) l m = ((S[k] l m).1, (S[k] l m).2.1.die (S[k] l m).1, (S[k] l m).2.2) := by
  rw [List.drop_eq_getElem_cons hk]
  unfold runL
  rw [if_pos h]
theorem runL_go {S : List (Lg → M → Int × Lg × M)} {k : Nat} (hk : k < S.length) {l : Lg} {m : M} (h : (S[k] l m).1 = 0) : runL (S.drop k) l m = runL (S.drop (k + 1)) (S[k] l m).2.1 (S[k] l m).2.2 := by
  rw [List.drop_eq_getElem_cons hk]
  conv => lhs; unfold runL
  rw [if_neg (by simp [h])]
theorem lrun (q p : Nat) (v : Value) (fs : List Cl) (S : List (Lg → M → Int × Lg × M)) (w : World) (V : Value) (l : Lg) (F : Nat → Prop) (m : M) (P : Nat → Lg → M → Prop) (hn : fs.length ≤ 1000) (hlen : S.length = fs.length)
    (ef : ∀ c ∈ fs, ∀ args w, (callFunc c.f args).run Tryz.prog w = .ok (.enter c.f args) w)
    (h : LdAt w q V l p F m) (hrow : Row w v (clv fs)) (hout : ∀ ad n c, v = .slice (some ad) n c → ¬ lfoot q V F ad.block) (he : Env w) (h6 : ∀ k, lfoot q V F k → 6 ≤ k) (h0 : P 0 l m)
    (hP : ∀ k (hk : k < S.length) l1 m1, P k l1 m1 → (S[k] l1 m1).1 = 0 → P (k + 1) (S[k] l1 m1).2.1 (S[k] l1 m1).2.2)
    (hstep : ∀ k (hk : k < fs.length) (hk' : k < S.length) W l1 m1 V1 F1, P k l1 m1 → LdAt W q V1 l1 p F1 m1 → Moved w W (lfoot q V F) (lfoot q V1 F1) → Env W → (∀ k, lfoot q V1 F1 k → 6 ≤ k) → Calls Tryz.prog fs[k].f (fs[k].bd ++ fs[k].caps) W fun e W' => e = .returned (.int .i64 (S[k] l1 m1).1) ∧ ∃ V2 F2, LdAt W' q V2 (S[k] l1 m1).2.1 p F2 (S[k] l1 m1).2.2 ∧ Moved W W' (lfoot q V1 F1) (lfoot q V2 F2)) :
    Calls Tryz.prog 34 #[.pointer (some ⟨q, 0, none⟩), v] w fun e w' => e = .returned (.int .i64 (runL S l m).1) ∧ ∃ V' F', LdAt w' q V' (runL S l m).2.1 p F' (runL S l m).2.2 ∧ Moved w w' (lfoot q V F) (lfoot q V' F') := by
  have hS := lsteps q p v fs w V l F m (fun k l1 m1 => runL (S.drop k) l1 m1 = runL S l m ∧ P k l1 m1) (fun r l1 m1 => (r, l1.die r, m1) = runL S l m) hn ef h hrow hout he h6 ⟨rfl, h0⟩ (by
    rintro k hk W l1 m1 V1 F1 ⟨hT, hPk⟩ hl mv hE
    have hk' : k < S.length := by omega
    have h6' : ∀ k, lfoot q V1 F1 k → 6 ≤ k := fun k hf => (mv.sub _ hf).elim (h6 k) (fun h => by have := he.pos; omega)
    refine (hstep k hk hk' W l1 m1 V1 F1 hPk hl mv hE h6').mono ?_
    rintro e W' ⟨rfl, V2, F2, h2, mv2⟩
    refine ⟨_, rfl, V2, _, F2, _, h2, mv2, fun hr => ⟨?_, hP k hk' l1 m1 hPk hr⟩, fun hr => ?_⟩
    · rw [← hT, runL_go hk' hr]
    · rw [← hT, runL_err hk' hr])
  refine hS.mono ?_
  rintro e w4 ⟨r, rfl, V2, l2, F2, m2, h2, mv2, hq⟩
  rcases hq with ⟨rfl, hT, _⟩ | ⟨hr, l1, hU, rfl⟩
  · rw [← hlen, List.drop_length] at hT
    rw [← hT]
    exact ⟨rfl, V2, F2, h2, mv2⟩
  · rw [← hU]
    exact ⟨rfl, V2, F2, h2, mv2⟩
/-- All names are short. -/
def Short (m : M) : Prop := (∀ e ∈ m.dir, e.name.size ≤ 18) ∧ ∀ e ∈ m.sur, e.name.size ≤ 18
theorem Short.names {m : M} (h : Short m) : ∀ n ∈ m.names, n.size ≤ 18 := by
  intro n hn
  unfold M.names at hn
  split at hn
  · cases hn
  · obtain ⟨e, he, rfl⟩ := List.mem_map.1 hn
    exact h.1 e he
theorem short_step {m : M} {f : M → M} (h : Short m) (hf : Short (f m.tick)) : Short (m.step f).2 := by
  unfold M.step
  split
  · exact ⟨h.2, h.2⟩
  · exact hf
theorem short_make {m : M} (h : Short m) {n : ByteArray} (hn : n.size ≤ 18) : Short (m.make n).2 := by
  unfold M.make
  repeat' split
  all_goals try exact h
  refine short_step h ⟨fun e he => ?_, h.2⟩
  rcases mem_putE.1 he with rfl | ⟨he, _⟩
  · exact hn
  · exact h.1 e he
theorem short_write {m : M} (h : Short m) (n : ByteArray) (b : List UInt8) : Short (m.write n b).2 := by
  unfold M.write
  repeat' split
  all_goals first | exact h | exact short_step h h
theorem short_cut {m : M} (h : Short m) (n : ByteArray) (k : Int) : Short (m.cut n k).2 := by
  unfold M.cut
  repeat' split
  all_goals first | exact h | exact short_step h h
theorem short_sync {m : M} (h : Short m) (n : ByteArray) : Short (m.sync n).2 := by
  unfold M.sync
  repeat' split
  all_goals first | exact h | exact short_step h h
theorem short_move {m : M} (h : Short m) (n : ByteArray) {t : ByteArray} (ht : t.size ≤ 18) : Short (m.move n t).2 := by
  unfold M.move
  repeat' split
  all_goals try exact h
  refine short_step h ⟨fun e he => ?_, h.2⟩
  rcases mem_putE.1 he with rfl | ⟨he, _⟩
  · exact ht
  · exact h.1 e (mem_cutE.1 he).1
theorem short_drop {m : M} (h : Short m) (n : ByteArray) : Short (m.drop n).2 := by
  unfold M.drop
  repeat' split
  all_goals try exact h
  exact short_step h ⟨fun e he => h.1 e (mem_cutE.1 he).1, h.2⟩
theorem short_commit {m : M} (h : Short m) : Short m.commit.2 := by
  unfold M.commit
  repeat' split
  all_goals try exact h
  exact short_step h ⟨h.1, h.1⟩
theorem short_fail {m : M} (h : Short m) (k : Int) : Short (m.fail k) := ⟨h.2, h.2⟩
end Go.Proofs.YtjgdmbfkondakaaGreatDoor

/-
  tidy, sweep, sealed, by their contracts.
-/
namespace Go.Proofs.YtjgdmbfkondakaaGreatDoor
open Go.RowKit

def tidyL (m : M) : Int × M := if (m.drop tFresh).1 ≠ 3 then m.drop tFresh else (0, (m.drop tFresh).2)
/-- All parts but one are dropped. -/
def sweepTo (last : Int) (m : M) (l : List Int) : M := l.foldl (fun m n => if n = last then m else (m.drop (nameB n)).2) m
def sweepL (l : Lg) (m : M) : Int × Lg × M := ((sweepTo l.last m (numsM m)).commit.1, l, (sweepTo l.last m (numsM m)).commit.2)
theorem sweepTo_snoc (last : Int) (m : M) (l : List Int) (k : Nat) (h : k < l.length) : sweepTo last m (l.take (k + 1)) = if l[k] = last then sweepTo last m (l.take k) else ((sweepTo last m (l.take k)).drop (nameB l[k])).2 := by
  unfold sweepTo
  rw [List.take_succ_eq_append_getElem h, List.foldl_append]
  rfl
theorem sweepTo_ok {last : Int} {m : M} (ok : m.Ok) (l : List Int) : (sweepTo last m l).Ok := by
  unfold sweepTo
  induction l generalizing m with
  | nil => exact ok
  | cons x r ih =>
    rw [List.foldl_cons]
    apply ih
    split
    · exact ok
    · exact M.drop_ok ok _
theorem sweepTo_short {last : Int} {m : M} (h : Short m) (l : List Int) : Short (sweepTo last m l) := by
  unfold sweepTo
  induction l generalizing m with
  | nil => exact h
  | cons x r ih =>
    rw [List.foldl_cons]
    apply ih
    split
    · exact h
    · exact short_drop h _
theorem sweepTo_count (last : Int) (m : M) (l : List Int) : (sweepTo last m l).count ≤ m.count + l.length := by
  unfold sweepTo
  induction l generalizing m with
  | nil => simp
  | cons x r ih =>
    rw [List.foldl_cons]
    have := ih (m := if x = last then m else (m.drop (nameB x)).2)
    have h2 : (if x = last then m else (m.drop (nameB x)).2).count ≤ m.count + 1 := by
      split
      · exact Nat.le_succ _
      · exact M.drop_count m _
    simp only [List.length_cons]
    omega
theorem nums_range {m : M} {n : Int} (h : n ∈ numsM m) : 1 ≤ n ∧ n ≤ 999999999 := by
  unfold numsM at h
  rw [List.mem_mergeSort] at h
  unfold numsL at h
  obtain ⟨h1, h2⟩ := List.mem_filter.1 h
  obtain ⟨s, _, rfl⟩ := List.mem_map.1 h1
  have h2 : 0 < numB s := by simpa using h2
  rcases numB_pos (s := s) (by omega) with h | rfl
  · exact h
  · exact absurd h2 (by decide)
theorem nums_len {m : M} (ok : m.Ok) : (numsM m).length ≤ m.count := by
  have h1 := numsL_len m.names
  have h2 := ok.ld
  have h3 : m.names.length ≤ m.dir.length := by
    unfold M.names
    split <;> simp
  unfold numsM
  rw [List.length_mergeSort]
  omega
section
variable {w : World} {q p : Nat} {V : Value} {l : Lg} {F : Nat → Prop} {m : M}
theorem LdAt.drop (h : LdAt w q V l p F m) (ok : m.Ok) (hc : m.count ≤ 900000) (n : ByteArray) (hs : n.size ≤ maxLen) : Calls Tryz.prog 81 #[.pointer (some ⟨p, 0, none⟩), .string n] w fun e w' => e = .returned (.int .i64 (m.drop n).1) ∧ ∃ F', LdAt w' q V l p F' (m.drop n).2 ∧ Moved w w' (lfoot q V F) (lfoot q V F') := by
  refine (drop_any p F m n w h.st ok hc hs).mono ?_
  rintro e w' ⟨rfl, F', s, mv⟩
  exact ⟨rfl, F', h.go s mv⟩
theorem LdAt.move (h : LdAt w q V l p F m) (ok : m.Ok) (hc : m.count ≤ 900000) (n t : ByteArray) (hs : n.size ≤ maxLen) (ht : t.size ≤ maxLen) : Calls Tryz.prog 49 #[.pointer (some ⟨p, 0, none⟩), .string n, .string t] w fun e w' => e = .returned (.int .i64 (m.move n t).1) ∧ ∃ F', LdAt w' q V l p F' (m.move n t).2 ∧ Moved w w' (lfoot q V F) (lfoot q V F') := by
  refine (move_any p F m n t w h.st ok hc hs ht).mono ?_
  rintro e w' ⟨rfl, F', s, mv⟩
  exact ⟨rfl, F', h.go s mv⟩
set_option maxRecDepth 20000 in
theorem tidy_at (h : LdAt w q V l p F m) (ok : m.Ok) (hc : m.count ≤ 900000) : Calls Tryz.prog 41 #[.pointer (some ⟨q, 0, none⟩)] w fun e w' => e = .returned (.int .i64 (tidyL m).1) ∧ ∃ F', LdAt w' q V l p F' (tidyL m).2 ∧ Moved w w' (lfoot q V F) (lfoot q V F') := by
  have c0 := h.cells.1
  have hD : Calls Tryz.prog 81 #[.pointer (some ⟨p, 0, none⟩), .string ⟨#[99, 104, 101, 99, 107, 46, 110, 101, 119]⟩] w fun e w' => e = .returned (.int .i64 (m.drop tFresh).1) ∧ ∃ F', LdAt w' q V l p F' (m.drop tFresh).2 ∧ Moved w w' (lfoot q V F) (lfoot q V F') := h.drop ok hc tFresh (by unfold maxLen; decide)
  unfold tidyL
  generalize m.drop tFresh = r at *
  obtain ⟨z, m'⟩ := r
  simp only at hD ⊢
  clear h ok
  by_cases hz : z = 3
  · subst hz
    rw [if_neg (by simp)]
    go_enter Tryz.func41, Tryz.ntmps41
    go_wp2_with (go_at_call 81; refine hD.mono ?_; rintro e w1 ⟨rfl, HX⟩)
    go_ret
    exact ⟨rfl, HX⟩
  · rw [if_pos hz]
    have hz' : (z != 3) = true := by simpa using hz
    go_enter Tryz.func41, Tryz.ntmps41
    go_wp2_with (go_at_call 81; refine hD.mono ?_; rintro e w1 ⟨rfl, HX⟩)
    go_ret
    exact ⟨rfl, HX⟩
set_option maxRecDepth 20000 in
set_option maxHeartbeats 4000000 in
theorem sweep_at (h : LdAt w q V l p F m) (ok : m.Ok) (hc : m.count ≤ 100000) (hsh : Short m) (he : Env w) (h6 : ∀ k, lfoot q V F k → 6 ≤ k) : Calls Tryz.prog 52 #[.pointer (some ⟨q, 0, none⟩)] w fun e w' => e = .returned (.int .i64 (sweepL l m).1) ∧ ∃ V' F', LdAt w' q V' (sweepL l m).2.1 p F' (sweepL l m).2.2 ∧ Moved w w' (lfoot q V F) (lfoot q V' F') := by
  have c0 := h.cells.1
  have hN := numbers_any p F m w h.st ok hc he hsh.names
  have hlen := nums_len ok
  have HRg : Hid (∀ n ∈ numsM m, 1 ≤ n ∧ n ≤ 999999999) := fun n hn => nums_range hn
  have HOK : Hid (m.Ok ∧ Env w ∧ ∀ k, lfoot q V F k → 6 ≤ k) := ⟨ok, he, h6⟩
  have H0 : Hid (LdAt w q V l p F m) := h
  have HCnt : Hid (∀ k, (sweepTo l.last m ((numsM m).take k)).count ≤ 300000) := fun k => by
    have h1 := sweepTo_count l.last m ((numsM m).take k)
    have h2 : ((numsM m).take k).length ≤ (numsM m).length := by rw [List.length_take]; omega
    show _ ≤ _
    omega
  unfold sweepL
  obtain ⟨L, hL⟩ : ∃ L, numsM m = L := ⟨_, rfl⟩
  rw [hL] at hN hlen HRg HCnt ⊢
  clear h ok hsh he h6 hL
  have l63 : L.length ≤ 9223372036854775807 := by omega
  go_enter Tryz.func52, Tryz.ntmps52
  go_wp2_with fail
  refine hN.mono ?_
  rintro e u ⟨v, rfl, rI, b0⟩
  have hR := rI.row
  obtain ⟨va, vc, rfl⟩ := rI.slice
  have hbeh : ∀ ad n c, Value.slice va L.length vc = .slice (some ad) n c → ¬ lfoot q V F ad.block := fun ad n c e hf => by
    rcases rI with ⟨h1, _⟩ | ⟨g, cap, h1, h2, _⟩
    · rw [h1] at e; cases e
    · rw [h1] at e
      injection e with e _ _
      injection e with e
      rw [← e] at hf
      have := H0.out.lts _ hf
      simp at this
      omega
  have HRow : Hid (∀ W G', Moved u W (lfoot q V F) G' → Row W (.slice va L.length vc) (icells L)) := fun W G' mv => row_kept hR mv hbeh
  have HU : Hid (LdAt u q V l p F m ∧ Below w.heap.size w u ∧ Env u) := ⟨H0.out.kept b0, b0, HOK.out.2.1.below b0⟩
  clear hN rI hR hbeh b0 c0
  go_wp2
  go_loopg [11] L.length (fun g u11 wr => ∃ (k : Nat) (Fk : Nat → Prop), u11 = .int .i64 k ∧ k ≤ L.length ∧ g = L.length - k ∧ Hid (LdAt wr q V l p Fk (sweepTo l.last m (L.take k)) ∧ Moved u wr (lfoot q V F) (lfoot q V Fk)))
  case atStart => exact ⟨0, F, rfl, Nat.zero_le _, rfl, HU.out.1, .refl _ _⟩
  case round =>
    obtain ⟨k, Fk, rfl, hk, rfl, HI⟩ := hrel
    by_cases hlt : k < L.length
    · have hlt' : (k : Int) < (L.length : Int) := by omega
      obtain ⟨gb, goff, gcap, hgv, _, _, hgc⟩ := (HRow.out wr _ HI.out.2).atInts (by omega)
      injection hgv with hgv1 _ hgv3
      subst hgv1 hgv3
      have n0 := hgc k hlt
      have hrg := HRg.out _ (List.getElem_mem hlt)
      have hsn := sweepTo_snoc l.last m L k hlt
      obtain ⟨n, hn⟩ : ∃ n, L[k] = n := ⟨_, rfl⟩
      rw [hn] at n0 hrg hsn
      have c0 := HI.out.1.cells.1
      have c2 := HI.out.1.cells.2.2.1
      have HSN : Hid _ := hsn
      clear hgc hn hsn
      by_cases hnl : n = l.last
      · have hnl2 : (n != l.last) = false := by simpa using hnl
        go_wp2
        go_roundg (L.length - (k + 1))
        case measure => omega
        case rel =>
          refine ⟨k + 1, Fk, by go_num, by omega, rfl, ?_⟩
          rw [HSN.out, if_pos hnl]
          exact HI
      · have hnl2 : (n != l.last) = true := by simpa using hnl
        have bD : Below wr.heap.size wr wr.drew := (Below.refl _ wr).drew
        have heW : Env wr.drew := (HU.out.2.2.moved HI.out.2 HOK.out.2.2).below bD
        have hNm := name_any n (by omega) (by omega) wr.drew heW
        have HD : Hid (∀ W, Below wr.drew.heap.size wr.drew W → Calls Tryz.prog 81 #[.pointer (some ⟨p, 0, none⟩), .string (nameB n)] W fun e w' => e = .returned (.int .i64 ((sweepTo l.last m (L.take k)).drop (nameB n)).1) ∧ ∃ F', LdAt w' q V l p F' ((sweepTo l.last m (L.take k)).drop (nameB n)).2 ∧ Moved W w' (lfoot q V Fk) (lfoot q V F')) := fun W b => (HI.out.1.kept (keptW bD b)).drop (sweepTo_ok HOK.out.1 _) (by have := HCnt.out k; omega) (nameB n) (nameB_max n)
        clear heW
        generalize nameB n = nm at *
        generalize ((sweepTo l.last m (L.take k)).drop nm).1 = z at *
        go_wp2
        go_region_held3 (fun w' => w'.cell? ⟨q, 0, none⟩ = some (.pointer (some ⟨p, 0, none⟩))) (go_keep) (first
          | (go_at_call 21; refine hNm.mono ?_; rintro e w2 ⟨rfl, b2⟩; have k0 := cell_on b2 c0)
          | (go_at_call 81; refine (HD.out _ b2).mono ?_; rintro e w3 ⟨rfl, F', h3, mv3⟩; have r0 := h3.cells.1))
        go_wp2
        go_roundg (L.length - (k + 1))
        case measure => omega
        case rel =>
          refine ⟨k + 1, F', by go_num, by omega, rfl, ?_⟩
          rw [HSN.out, if_neg hnl]
          exact ⟨h3, (HI.out.2.trans ((Moved.of_below bD).trans (Moved.of_below b2))).trans mv3⟩
    · have e : k = L.length := by omega
      have hlt' : ¬ (k : Int) < (L.length : Int) := by omega
      have hI := HI.out
      rw [e, List.take_length] at hI
      have c0 := hI.1.cells.1
      have hC := hI.1.commit (sweepTo_ok HOK.out.1 _) (by have := HCnt.out L.length; rw [List.take_length] at this; omega)
      have HMv : Hid (Moved w wr (lfoot q V F) (lfoot q V Fk)) := (Moved.of_below HU.out.2.1).trans hI.2
      clear e HI hI
      go_wp2_with (go_at_call 50; refine hC.mono ?_; rintro e w5 ⟨rfl, F5, h5, mv5⟩)
      go_ret
      exact ⟨rfl, V, F5, h5, HMv.out.trans mv5⟩
end
end Go.Proofs.YtjgdmbfkondakaaGreatDoor

/-
  sealed, and the steps of Mark, by their contracts.
-/
namespace Go.Proofs.YtjgdmbfkondakaaGreatDoor
open Go.RowKit

/-- A checkpoint's file. -/
def sealedB (n : Int) (cs : List UInt8) : List UInt8 := sealL (putL 8 n.toNat ++ cs)
set_option maxRecDepth 20000 in
theorem sealed_any (n : Int) (hn : 0 ≤ n ∧ n ≤ 1000000000) (cv : Value) (cs : List UInt8) (w : World) (he : Env w) (hc : Holds w cv cs) (hl : cs.length ≤ 1048512) : Calls Tryz.prog 45 #[.int .i64 n, cv] w fun e w' => ∃ v, e = .returned v ∧ Holds w' v (sealedB n cs) ∧ Below w.heap.size w w' := by
  have hP := put_good (.slice none 0 0) [] 8 n.toNat w he.tab (.inl ⟨rfl, rfl⟩) (by simp) (by decide) (by omega)
  have hcv : ((n.toNat : Nat) : Int) = n := by omega
  rw [hcv] at hP
  have hconv : IntKind.u64.wrap n = n := by
    unfold IntKind.wrap
    simp only [IntKind.signed, IntKind.bits]
    simp
    omega
  simp only [List.nil_append] at hP
  have HC : Hid (Holds w cv cs) := hc
  have HE : Hid (Env w) := he
  obtain ⟨ca, cc, rfl⟩ := hc.slice
  clear he hc hcv
  go_enter Tryz.func45, Tryz.ntmps45
  go_wp2_with fail
  refine hP.mono ?_
  rintro e w1 ⟨v1, rfl, ow, b1⟩
  have hc1 := HC.out.below b1 (Nat.le_refl _)
  have hp8 : (putL 8 n.toNat).length = 8 := putL_length _ _
  go_wp2_with (first
    | (at_builtin; refine wpList_append_bytes rfl _ _ 31 5 isU8 rfl w.heap.size _ _ (putL 8 n.toNat) cs rfl rfl ow hc1 (by rw [hp8]; omega) b1.size ?_; intro v2 w2 ow2 b2 s2; have hSl := seal_any v2 (putL 8 n.toNat ++ cs) w2 ((HE.out.below (b1.trans b2)).tab) ow2.holds)
    | (go_at_call 32; refine hSl.mono ?_; rintro e w3 ⟨v3, rfl, ow3, b3⟩))
  go_ret
  exact ⟨_, rfl, ow3.holds, keptW (b1.trans b2) b3⟩
theorem ef_tidy : ∀ args w, (callFunc 41 args).run Tryz.prog w = .ok (.enter 41 args) w := enters_of Tryz.func41 (by kernel_rfl) rfl
theorem ef_mark1 : ∀ args w, (callFunc 42 args).run Tryz.prog w = .ok (.enter 42 args) w := enters_of Tryz.func42 (by kernel_rfl) rfl
theorem ef_mark2 : ∀ args w, (callFunc 44 args).run Tryz.prog w = .ok (.enter 44 args) w := enters_of Tryz.func44 (by kernel_rfl) rfl
theorem ef_mark3 : ∀ args w, (callFunc 46 args).run Tryz.prog w = .ok (.enter 46 args) w := enters_of Tryz.func46 (by kernel_rfl) rfl
theorem ef_mark4 : ∀ args w, (callFunc 47 args).run Tryz.prog w = .ok (.enter 47 args) w := enters_of Tryz.func47 (by kernel_rfl) rfl
theorem ef_mark5 : ∀ args w, (callFunc 48 args).run Tryz.prog w = .ok (.enter 48 args) w := enters_of Tryz.func48 (by kernel_rfl) rfl
theorem ef_mark6 : ∀ args w, (callFunc 51 args).run Tryz.prog w = .ok (.enter 51 args) w := enters_of Tryz.func51 (by kernel_rfl) rfl
theorem fresh_max : tFresh.size ≤ maxLen := by unfold maxLen; decide
theorem check_max : tCheck.size ≤ maxLen := by unfold maxLen; decide
section
variable {w : World} {q p : Nat} {V : Value} {l : Lg} {F : Nat → Prop} {m : M}
set_option maxRecDepth 20000 in
theorem mark1_at (h : LdAt w q V l p F m) (ok : m.Ok) (hc : m.count ≤ 900000) (B0 : Nat) (hb0 : Boxed w B0 30 (.pointer (some ⟨q, 0, none⟩))) : Calls Tryz.prog 42 #[.pointer (some ⟨B0, 0, none⟩)] w fun e w' => e = .returned (.int .i64 (m.make tFresh).1) ∧ ∃ F', LdAt w' q V l p F' (m.make tFresh).2 ∧ Moved w w' (lfoot q V F) (lfoot q V F') := by
  have c0 := h.cells.1
  have x0 := hb0.cell
  have hD : Calls Tryz.prog 43 #[.pointer (some ⟨p, 0, none⟩), .string ⟨#[99, 104, 101, 99, 107, 46, 110, 101, 119]⟩] w fun e w' => e = .returned (.int .i64 (m.make tFresh).1) ∧ ∃ F', LdAt w' q V l p F' (m.make tFresh).2 ∧ Moved w w' (lfoot q V F) (lfoot q V F') := h.make ok hc tFresh fresh_max
  clear h hb0
  go_enter Tryz.func42, Tryz.ntmps42
  go_wp2_with (go_at_call 43; refine hD.mono ?_; rintro e w1 ⟨rfl, HX⟩)
  go_ret
  exact ⟨rfl, HX⟩
set_option maxRecDepth 20000 in
theorem mark3_at (h : LdAt w q V l p F m) (ok : m.Ok) (hc : m.count ≤ 900000) (B0 : Nat) (hb0 : Boxed w B0 30 (.pointer (some ⟨q, 0, none⟩))) : Calls Tryz.prog 46 #[.pointer (some ⟨B0, 0, none⟩)] w fun e w' => e = .returned (.int .i64 (m.sync tFresh).1) ∧ ∃ F', LdAt w' q V l p F' (m.sync tFresh).2 ∧ Moved w w' (lfoot q V F) (lfoot q V F') := by
  have c0 := h.cells.1
  have x0 := hb0.cell
  have hD : Calls Tryz.prog 38 #[.pointer (some ⟨p, 0, none⟩), .string ⟨#[99, 104, 101, 99, 107, 46, 110, 101, 119]⟩] w fun e w' => e = .returned (.int .i64 (m.sync tFresh).1) ∧ ∃ F', LdAt w' q V l p F' (m.sync tFresh).2 ∧ Moved w w' (lfoot q V F) (lfoot q V F') := h.sync ok hc tFresh fresh_max
  clear h hb0
  go_enter Tryz.func46, Tryz.ntmps46
  go_wp2_with (go_at_call 38; refine hD.mono ?_; rintro e w1 ⟨rfl, HX⟩)
  go_ret
  exact ⟨rfl, HX⟩
set_option maxRecDepth 20000 in
theorem mark5_at (h : LdAt w q V l p F m) (ok : m.Ok) (hc : m.count ≤ 900000) (B0 : Nat) (hb0 : Boxed w B0 30 (.pointer (some ⟨q, 0, none⟩))) : Calls Tryz.prog 48 #[.pointer (some ⟨B0, 0, none⟩)] w fun e w' => e = .returned (.int .i64 (m.move tFresh tCheck).1) ∧ ∃ F', LdAt w' q V l p F' (m.move tFresh tCheck).2 ∧ Moved w w' (lfoot q V F) (lfoot q V F') := by
  have c0 := h.cells.1
  have x0 := hb0.cell
  have hD : Calls Tryz.prog 49 #[.pointer (some ⟨p, 0, none⟩), .string ⟨#[99, 104, 101, 99, 107, 46, 110, 101, 119]⟩, .string ⟨#[99, 104, 101, 99, 107]⟩] w fun e w' => e = .returned (.int .i64 (m.move tFresh tCheck).1) ∧ ∃ F', LdAt w' q V l p F' (m.move tFresh tCheck).2 ∧ Moved w w' (lfoot q V F) (lfoot q V F') := h.move ok hc tFresh tCheck fresh_max check_max
  clear h hb0
  go_enter Tryz.func48, Tryz.ntmps48
  go_wp2_with (go_at_call 49; refine hD.mono ?_; rintro e w1 ⟨rfl, HX⟩)
  go_ret
  exact ⟨rfl, HX⟩
set_option maxRecDepth 20000 in
set_option maxHeartbeats 1000000 in
theorem mark4_at (h : LdAt w q V l p F m) (ok : m.Ok) (hc : m.count ≤ 900000) (he : Env w) (n : Int) (hn : -9223372036854775808 ≤ n ∧ n ≤ 9223372036854775807) (B0 B1 : Nat) (hb0 : Boxed w B0 30 (.pointer (some ⟨q, 0, none⟩))) (hb1 : Boxed w B1 3 (.int .i64 n)) (hn0 : ¬ lfoot q V F B0) (hn1 : ¬ lfoot q V F B1) :
    Calls Tryz.prog 47 #[.pointer (some ⟨B0, 0, none⟩), .pointer (some ⟨B1, 0, none⟩)] w fun e w' => e = .returned (.int .i64 (m.make (nameB n)).1) ∧ ∃ F', LdAt w' q V l p F' (m.make (nameB n)).2 ∧ Moved w w' (lfoot q V F) (lfoot q V F') := by
  have c0 := h.cells.1
  have x0 := hb0.cell
  have x1 := hb1.cell
  have bD : Below w.heap.size w w.drew := (Below.refl _ w).drew
  have hN := name_any n hn.1 hn.2 w.drew (he.below bD)
  have HM : Hid (∀ W, Below w.drew.heap.size w.drew W → Calls Tryz.prog 43 #[.pointer (some ⟨p, 0, none⟩), .string (nameB n)] W fun e w' => e = .returned (.int .i64 (m.make (nameB n)).1) ∧ ∃ F', LdAt w' q V l p F' (m.make (nameB n)).2 ∧ Moved W w' (lfoot q V F) (lfoot q V F')) := fun W b => (h.kept (keptW bD b)).make ok hc (nameB n) (nameB_max n)
  have HC : Hid (∀ W G', Moved w.drew W (lfoot q V F) G' → W.cell? ⟨B0, 0, none⟩ = some (.pointer (some ⟨q, 0, none⟩)) ∧ W.cell? ⟨B1, 0, none⟩ = some (.int .i64 n)) := fun W G' mv => ⟨(boxed_moved (boxed_below hb0 bD) mv hn0).cell, (boxed_moved (boxed_below hb1 bD) mv hn1).cell⟩
  generalize (m.make (nameB n)).1 = z at *
  generalize (m.make (nameB n)).2 = m' at *
  generalize nameB n = nm at *
  clear h ok hc hn hb0 hb1 he hn0 hn1
  go_enter Tryz.func47, Tryz.ntmps47
  go_wp2
  go_region_held3 (fun w' => w'.cell? ⟨B0, 0, none⟩ = some (.pointer (some ⟨q, 0, none⟩)) ∧ w'.cell? ⟨q, 0, none⟩ = some (.pointer (some ⟨p, 0, none⟩)) ∧ w'.cell? ⟨B1, 0, none⟩ = some (.int .i64 n)) (go_keep) (first
    | (go_at_call 21; refine hN.mono ?_; rintro e w2 ⟨rfl, b2⟩; have k0 := cell_on b2 x0; have k1 := cell_on b2 c0; have k2 := cell_on b2 x1)
    | (go_at_call 43; refine (HM.out _ b2).mono ?_; rintro e w3 ⟨rfl, F', h3, mv3⟩; have r0 := h3.cells.1; obtain ⟨r1, r2⟩ := HC.out w3 _ ((Moved.of_below b2).trans mv3)))
  all_goals go_wp2
  all_goals go_ret
  all_goals exact ⟨rfl, F', h3, ((Moved.of_below bD).trans (Moved.of_below b2)).trans mv3⟩
set_option maxRecDepth 20000 in
set_option maxHeartbeats 1000000 in
theorem mark2_at (h : LdAt w q V l p F m) (ok : m.Ok) (hc : m.count ≤ 900000) (he : Env w) (n : Int) (hn : 0 ≤ n ∧ n ≤ 1000000000) (cv : Value) (cs : List UInt8) (hcs : Holds w cv cs) (hl : cs.length ≤ 1048512) (B0 B1 B2 : Nat) (hb0 : Boxed w B0 30 (.pointer (some ⟨q, 0, none⟩))) (hb1 : Boxed w B1 3 (.int .i64 n)) (hb2 : Boxed w B2 31 cv) (hn0 : ¬ lfoot q V F B0) (hn1 : ¬ lfoot q V F B1) (hn2 : ¬ lfoot q V F B2) :
    Calls Tryz.prog 44 #[.pointer (some ⟨B0, 0, none⟩), .pointer (some ⟨B1, 0, none⟩), .pointer (some ⟨B2, 0, none⟩)] w fun e w' => e = .returned (.int .i64 (m.write tFresh (sealedB n cs)).1) ∧ ∃ F', LdAt w' q V l p F' (m.write tFresh (sealedB n cs)).2 ∧ Moved w w' (lfoot q V F) (lfoot q V F') := by
  have c0 := h.cells.1
  have x0 := hb0.cell
  have x1 := hb1.cell
  have x2 := hb2.cell
  have bD : Below w.heap.size w w.drew := (Below.refl _ w).drew
  have hS := sealed_any n hn cv cs w.drew (he.below bD) (hcs.below bD (Nat.le_refl _)) hl
  have HM : Hid (∀ W bv, Below w.drew.heap.size w.drew W → Holds W bv (sealedB n cs) → Calls Tryz.prog 36 #[.pointer (some ⟨p, 0, none⟩), .string ⟨#[99, 104, 101, 99, 107, 46, 110, 101, 119]⟩, bv] W fun e w' => e = .returned (.int .i64 (m.write tFresh (sealedB n cs)).1) ∧ ∃ F', LdAt w' q V l p F' (m.write tFresh (sealedB n cs)).2 ∧ Moved W w' (lfoot q V F) (lfoot q V F')) := fun W bv b hb => (h.kept (keptW bD b)).write ok hc tFresh fresh_max bv _ hb
  have HC : Hid (∀ W G', Moved w.drew W (lfoot q V F) G' → W.cell? ⟨B0, 0, none⟩ = some (.pointer (some ⟨q, 0, none⟩)) ∧ W.cell? ⟨B1, 0, none⟩ = some (.int .i64 n) ∧ W.cell? ⟨B2, 0, none⟩ = some cv) := fun W G' mv => ⟨(boxed_moved (boxed_below hb0 bD) mv hn0).cell, (boxed_moved (boxed_below hb1 bD) mv hn1).cell, (boxed_moved (boxed_below hb2 bD) mv hn2).cell⟩
  obtain ⟨ca, cc, rfl⟩ := hcs.slice
  generalize (m.write tFresh (sealedB n cs)).1 = z at *
  generalize (m.write tFresh (sealedB n cs)).2 = m' at *
  generalize sealedB n cs = sb at *
  clear h ok hc hn hb0 hb1 hb2 he hn0 hn1 hn2 hcs hl
  go_enter Tryz.func44, Tryz.ntmps44
  go_wp2
  go_region_held3 (fun w' => w'.cell? ⟨B0, 0, none⟩ = some (.pointer (some ⟨q, 0, none⟩)) ∧ w'.cell? ⟨q, 0, none⟩ = some (.pointer (some ⟨p, 0, none⟩)) ∧ w'.cell? ⟨B1, 0, none⟩ = some (.int .i64 n) ∧ w'.cell? ⟨B2, 0, none⟩ = some (.slice ca cs.length cc)) (go_keep) (first
    | (go_at_call 45; refine hS.mono ?_; rintro e w2 ⟨sv, rfl, hsv, b2⟩; obtain ⟨sa, sc, rfl⟩ := hsv.slice; have k0 := cell_on b2 x0; have k1 := cell_on b2 c0; have k2 := cell_on b2 x1; have k3 := cell_on b2 x2)
    | (go_at_call 36; refine (HM.out _ _ b2 hsv).mono ?_; rintro e w3 ⟨rfl, F', h3, mv3⟩; have r0 := h3.cells.1; obtain ⟨r1, r2, r3⟩ := HC.out w3 _ ((Moved.of_below b2).trans mv3)))
  all_goals go_wp2
  all_goals go_ret
  all_goals exact ⟨rfl, F', h3, ((Moved.of_below bD).trans (Moved.of_below b2)).trans mv3⟩
set_option maxRecDepth 20000 in
set_option maxHeartbeats 1000000 in
theorem mark6_at (h : LdAt w q V l p F m) (ok : m.Ok) (hc : m.count ≤ 100000) (hsh : Short m) (he : Env w) (h6 : ∀ k, lfoot q V F k → 6 ≤ k) (n : Int) (B0 B1 : Nat) (hb0 : Boxed w B0 30 (.pointer (some ⟨q, 0, none⟩))) (hb1 : Boxed w B1 3 (.int .i64 n)) (hn0 : ¬ lfoot q V F B0) :
    Calls Tryz.prog 51 #[.pointer (some ⟨B1, 0, none⟩), .pointer (some ⟨B0, 0, none⟩)] w fun e w' => e = .returned (.int .i64 (sweepL { l with last := n } m).1) ∧ ∃ V' F', LdAt w' q V' (sweepL { l with last := n } m).2.1 p F' (sweepL { l with last := n } m).2.2 ∧ Moved w w' (lfoot q V F) (lfoot q V' F') := by
  have x0 := hb0.cell
  have x1 := hb1.cell
  have c2 := h.cells.2.2.1
  have f2 := h.frozen 2
  obtain ⟨X, hX⟩ : ∃ X, w.setCell ⟨q, 2, none⟩ (.int .i64 n) = X := ⟨_, rfl⟩
  obtain ⟨r1, r2⟩ := h.set (i := 2) (u := .int .i64 n) (l' := { l with last := n }) rfl rfl X (by rw [← hX]) (by rw [← hX]; rfl) (by rw [← hX]; rfl) (by rw [← hX]; rfl)
  have hS := sweep_at r1 ok hc hsh (he.moved r2 h6) h6
  have y0 := (boxed_moved hb0 r2 hn0).cell
  have HM : Hid (Moved w X (lfoot q V F) (lfoot q V F)) := r2
  clear h hb0 hb1 r1 r2 ok he
  go_enter Tryz.func51, Tryz.ntmps51
  go_wp2_with (go_at_call 52; refine hS.mono ?_; rintro e w1 ⟨rfl, V', F', h1, mv1⟩)
  go_ret
  exact ⟨rfl, V', F', h1, HM.out.trans mv1⟩
end
end Go.Proofs.YtjgdmbfkondakaaGreatDoor

/-
  Mark, by its contract.
-/
namespace Go.Proofs.YtjgdmbfkondakaaGreatDoor
open Go.RowKit

/-- The steps of a checkpoint. -/
def markS (n : Int) (cs : List UInt8) : List (Lg → M → Int × Lg × M) :=
  [fun l m => ((tidyL m).1, l, (tidyL m).2),
   fun l m => ((m.make tFresh).1, l, (m.make tFresh).2),
   fun l m => ((m.write tFresh (sealedB n cs)).1, l, (m.write tFresh (sealedB n cs)).2),
   fun l m => ((m.sync tFresh).1, l, (m.sync tFresh).2),
   fun l m => ((m.make (nameB n)).1, l, (m.make (nameB n)).2),
   fun l m => ((m.move tFresh tCheck).1, l, (m.move tFresh tCheck).2),
   fun l m => (m.commit.1, l, m.commit.2),
   fun l m => sweepL { l with last := n } m]
def markL (l : Lg) (m : M) (cs : List UInt8) : Int × Lg × M :=
  if refE l m cs.length ≠ 0 then (refE l m cs.length, l.checked m, m)
  else if (flushL l m).1 ≠ 0 then flushL l m
  else if (flushL l m).2.1.last = 999999999 then (11, (flushL l m).2.1, (flushL l m).2.2)
  else runL (markS ((flushL l m).2.1.last + 1) cs) (flushL l m).2.1 (flushL l m).2.2
theorem tidyL_ok {m : M} (ok : m.Ok) : (tidyL m).2.Ok := by
  have := M.drop_ok ok tFresh
  unfold tidyL
  split <;> exact this
theorem tidyL_short {m : M} (h : Short m) : Short (tidyL m).2 := by
  have := short_drop h tFresh
  unfold tidyL
  split <;> exact this
theorem tidyL_count (m : M) : (tidyL m).2.count ≤ m.count + 1 := by
  have := M.drop_count m tFresh
  unfold tidyL
  split <;> exact this
/-- What the steps keep. -/
def MarkP (c : Nat) (k : Nat) (_ : Lg) (m : M) : Prop := m.Ok ∧ Short m ∧ (k ≤ 7 → m.count ≤ c + k)
theorem name18 (n : Int) : (nameB n).size ≤ 18 := by have := nameB_size n; omega
theorem markP_next (n : Int) (cs : List UInt8) (c : Nat) (k : Nat) (hk : k < (markS n cs).length) (l : Lg) (m : M) (h : MarkP c k l m) : MarkP c (k + 1) ((markS n cs)[k] l m).2.1 ((markS n cs)[k] l m).2.2 := by
  obtain ⟨ok, hs, hc⟩ := h
  match k, hk with
  | 0, _ => exact ⟨tidyL_ok ok, tidyL_short hs, fun _ => by have := tidyL_count m; have := hc (by omega); show (tidyL m).2.count ≤ _; omega⟩
  | 1, _ => exact ⟨M.make_ok ok _, short_make hs (by decide), fun _ => by have := M.make_count m tFresh; have := hc (by omega); show (m.make tFresh).2.count ≤ _; omega⟩
  | 2, _ => exact ⟨M.write_ok ok _ _, short_write hs _ _, fun _ => by have := M.write_count m tFresh (sealedB n cs); have := hc (by omega); show (m.write tFresh (sealedB n cs)).2.count ≤ _; omega⟩
  | 3, _ => exact ⟨M.sync_ok ok _, short_sync hs _, fun _ => by have := M.sync_count m tFresh; have := hc (by omega); show (m.sync tFresh).2.count ≤ _; omega⟩
  | 4, _ => exact ⟨M.make_ok ok _, short_make hs (name18 n), fun _ => by have := M.make_count m (nameB n); have := hc (by omega); show (m.make (nameB n)).2.count ≤ _; omega⟩
  | 5, _ => exact ⟨M.move_ok ok _ _, short_move hs _ (by decide), fun _ => by have := M.move_count m tFresh tCheck; have := hc (by omega); show (m.move tFresh tCheck).2.count ≤ _; omega⟩
  | 6, _ => exact ⟨M.commit_ok ok, short_commit hs, fun _ => by have := M.commit_count m; have := hc (by omega); show m.commit.2.count ≤ _; omega⟩
  | 7, _ => exact ⟨M.commit_ok (sweepTo_ok ok _), short_commit (sweepTo_short hs _), fun h => by omega⟩
section
variable {w : World} {q p : Nat} {V : Value} {l : Lg} {F : Nat → Prop} {m : M}
theorem mark_steps (h : LdAt w q V l p F m) (ok : m.Ok) (hsh : Short m) (hc : m.count ≤ 90000) (he : Env w) (h6 : ∀ k, lfoot q V F k → 6 ≤ k) (n : Int) (hn : 0 ≤ n ∧ n ≤ 1000000000) (cv : Value) (cs : List UInt8) (hcs : ∀ W G', Moved w W (lfoot q V F) G' → Holds W cv cs) (hl : cs.length ≤ 1048512) (B0 B1 B2 R : Nat) (x0 : Boxed w B0 30 (.pointer (some ⟨q, 0, none⟩))) (x1 : Boxed w B1 3 (.int .i64 n)) (x2 : Boxed w B2 31 cv) (hn0 : ¬ lfoot q V F B0) (hn1 : ¬ lfoot q V F B1) (hn2 : ¬ lfoot q V F B2) (hnR : ¬ lfoot q V F R)
    (hrow : Row w (.slice (some ⟨R, 0, none⟩) 8 8) (clv [⟨41, #[.pointer (some ⟨q, 0, none⟩)], #[]⟩, ⟨42, #[], #[.pointer (some ⟨B0, 0, none⟩)]⟩, ⟨44, #[], #[.pointer (some ⟨B0, 0, none⟩), .pointer (some ⟨B1, 0, none⟩), .pointer (some ⟨B2, 0, none⟩)]⟩, ⟨46, #[], #[.pointer (some ⟨B0, 0, none⟩)]⟩, ⟨47, #[], #[.pointer (some ⟨B0, 0, none⟩), .pointer (some ⟨B1, 0, none⟩)]⟩, ⟨48, #[], #[.pointer (some ⟨B0, 0, none⟩)]⟩, ⟨50, #[.pointer (some ⟨p, 0, none⟩)], #[]⟩, ⟨51, #[], #[.pointer (some ⟨B1, 0, none⟩), .pointer (some ⟨B0, 0, none⟩)]⟩])) :
    Calls Tryz.prog 34 #[.pointer (some ⟨q, 0, none⟩), .slice (some ⟨R, 0, none⟩) 8 8] w fun e w' => e = .returned (.int .i64 (runL (markS n cs) l m).1) ∧ ∃ V' F', LdAt w' q V' (runL (markS n cs) l m).2.1 p F' (runL (markS n cs) l m).2.2 ∧ Moved w w' (lfoot q V F) (lfoot q V' F') := by
  refine lrun q p (.slice (some ⟨R, 0, none⟩) 8 8) _ (markS n cs) w V l F m (MarkP m.count) (by simp) rfl (fun c hc => ?_) h hrow (fun ad n c e => by injection e with e; injection e with e; rw [← e]; exact hnR) he h6 ⟨ok, hsh, fun _ => by omega⟩ (fun k hk l1 m1 hp _ => markP_next n cs _ k hk l1 m1 hp) ?_
  · simp only [List.mem_cons, List.not_mem_nil, or_false] at hc
    rcases hc with rfl | rfl | rfl | rfl | rfl | rfl | rfl | rfl
    · exact ef_tidy
    · exact ef_mark1
    · exact ef_mark2
    · exact ef_mark3
    · exact ef_mark4
    · exact ef_mark5
    · exact ef_commit
    · exact ef_mark6
  · rintro k hk hk' W l1 m1 V1 F1 ⟨ok1, sh1, c1⟩ hl1 mv hE h61
    have y0 := boxed_moved x0 mv hn0
    have y1 := boxed_moved x1 mv hn1
    have y2 := boxed_moved x2 mv hn2
    have n0 : ¬ lfoot q V1 F1 B0 := fun hf => (mv.sub _ hf).elim hn0 (fun h => by have := x0.lt; omega)
    have n1 : ¬ lfoot q V1 F1 B1 := fun hf => (mv.sub _ hf).elim hn1 (fun h => by have := x1.lt; omega)
    have n2 : ¬ lfoot q V1 F1 B2 := fun hf => (mv.sub _ hf).elim hn2 (fun h => by have := x2.lt; omega)
    have one : ∀ {f : Nat} {args : Array Value} {r : Int} {m2 : M}, (Calls Tryz.prog f args W fun e w' => e = .returned (.int .i64 r) ∧ ∃ F', LdAt w' q V1 l1 p F' m2 ∧ Moved W w' (lfoot q V1 F1) (lfoot q V1 F')) → Calls Tryz.prog f args W fun e W' => e = .returned (.int .i64 r) ∧ ∃ V2 F2, LdAt W' q V2 l1 p F2 m2 ∧ Moved W W' (lfoot q V1 F1) (lfoot q V2 F2) := fun hx => hx.mono fun e w' ⟨he, F', h1, h2⟩ => ⟨he, V1, F', h1, h2⟩
    match k, hk with
    | 0, _ => exact one (tidy_at hl1 ok1 (by have := c1 (by omega); omega))
    | 1, _ => exact one (mark1_at hl1 ok1 (by have := c1 (by omega); omega) _ y0)
    | 2, _ => exact one (mark2_at hl1 ok1 (by have := c1 (by omega); omega) hE n hn cv cs (hcs W _ mv) hl _ _ _ y0 y1 y2 n0 n1 n2)
    | 3, _ => exact one (mark3_at hl1 ok1 (by have := c1 (by omega); omega) _ y0)
    | 4, _ => exact one (mark4_at hl1 ok1 (by have := c1 (by omega); omega) hE n (by omega) _ _ y0 y1 n0 n1)
    | 5, _ => exact one (mark5_at hl1 ok1 (by have := c1 (by omega); omega) _ y0)
    | 6, _ => exact one (hl1.commit ok1 (by have := c1 (by omega); omega))
    | 7, _ => exact mark6_at hl1 ok1 (by have := c1 (by omega); omega) sh1 hE h61 n _ _ y0 y1 n0
end
end Go.Proofs.YtjgdmbfkondakaaGreatDoor

/-
  Mark, by its contract.
-/
namespace Go.Proofs.YtjgdmbfkondakaaGreatDoor
open Go.RowKit

theorem fnrowL (w : World) (us : List Value) (hl : us.length ≤ 1000) : Row (w.alloc (.cells us.toArray 40)) (.slice (some ⟨w.heap.size, 0, none⟩) us.length us.length) us := by
  refine .inr ⟨⟨w.heap.size, 0, none⟩, us.length, rfl, Nat.le_refl _, by unfold maxLen; omega, fun j u hj => ?_⟩
  rw [Addr.add_lit, Nat.zero_add]
  simp only [World.cell?]
  rw [heap_alloc_new]
  simpa using hj
theorem make_name {m : M} {n : Int} (h : (m.make (nameB n)).1 = 0) : 1 ≤ n ∧ n ≤ 999999999 := by
  by_cases hn : 1 ≤ n ∧ n ≤ 999999999
  · exact hn
  · rw [nameB_out hn] at h
    have hf : m.first ⟨#[]⟩ false ≠ 0 := by
      unfold M.first
      cases m.dark with
      | true => simp
      | false => simp [show goodN ⟨#[]⟩ = false by decide]
    unfold M.make at h
    rw [if_pos hf] at h
    exact absurd h hf
theorem begin_last (x : Lg) (m : M) (n : Int) : (beginL x m n).2.1.last = x.last ∨ ((beginL x m n).2.1.last = n ∧ 1 ≤ n ∧ n ≤ 999999999) := by
  unfold beginL
  split
  · exact .inl rfl
  · rename_i h1
    split
    · exact .inl rfl
    · exact .inr ⟨rfl, make_name (by simpa using h1)⟩
theorem flush_last {l : Lg} {m : M} (h : 0 ≤ l.last ∧ l.last ≤ 999999999) : 0 ≤ (flushL l m).2.1.last ∧ (flushL l m).2.1.last ≤ 999999999 := by
  have ht : ∀ m, 0 ≤ (turnL l.clean m).2.1.last ∧ (turnL l.clean m).2.1.last ≤ 999999999 := fun m => by
    unfold turnL
    split
    · exact h
    · have := begin_last l.clean m (l.clean.last + 1)
      have hcl : l.clean.last = l.last := rfl
      simp only
      omega
  have h3 : ∀ m, 0 ≤ (flush3 l m).2.1.last ∧ (flush3 l m).2.1.last ≤ 999999999 := fun m => by
    unfold flush3
    split <;> exact ht m
  have h2 : ∀ m, 0 ≤ (flush2 l m).2.1.last ∧ (flush2 l m).2.1.last ≤ 999999999 := fun m => by
    unfold flush2
    split
    · exact h
    · exact h3 _
  have h1 : ∀ m, 0 ≤ (flush1 l m).2.1.last ∧ (flush1 l m).2.1.last ≤ 999999999 := fun m => by
    unfold flush1
    split
    · exact h
    · exact h2 _
  have hc : (l.checked m).last = l.last := by unfold Lg.checked; split <;> rfl
  unfold flushL
  split
  · simp only [hc]; omega
  · split
    · exact h
    · exact h1 m
theorem flush_short {l : Lg} {m : M} (h : Short m) : Short (flushL l m).2.2 := by
  have hb : ∀ (x : Lg) (m : M) (n : Int), Short m → Short (beginL x m n).2.2 := fun x m n h => by
    have h1 := short_make h (name18 n)
    have h2 := short_commit h1
    unfold beginL
    repeat' split
    all_goals first | exact h1 | exact h2
  have ht : ∀ m, Short m → Short (turnL l.clean m).2.2 := fun m h => by
    unfold turnL
    split
    · exact h
    · exact hb _ _ _ h
  have h3 : ∀ m, Short m → Short (flush3 l m).2.2 := fun m h => by
    unfold flush3
    split <;> exact ht m h
  have h2 : ∀ m, Short m → Short (flush2 l m).2.2 := fun m h => by
    have := short_sync h (nameB l.last)
    unfold flush2
    split
    · exact this
    · exact h3 _ this
  have h1 : ∀ m, Short m → Short (flush1 l m).2.2 := fun m h => by
    have := short_write h (nameB l.last) l.wait
    unfold flush1
    split
    · exact this
    · exact h2 _ this
  unfold flushL
  split
  · exact h
  · split
    · exact h
    · exact h1 m h
section
variable {w : World} {q p : Nat} {V : Value} {l : Lg} {F : Nat → Prop} {m : M}
set_option maxRecDepth 20000 in
set_option maxHeartbeats 4000000 in
theorem mark_at (h : LdAt w q V l p F m) (ok : m.Ok) (hsh : Short m) (hc : m.count ≤ 80000) (he : Env w) (h6 : ∀ k, lfoot q V F k → 6 ≤ k) (hl : 0 ≤ l.last ∧ l.last ≤ 999999999) (cv : Value) (cs : List UInt8) (hcs : ∀ W G', Moved w W (lfoot q V F) G' → Holds W cv cs) :
    Calls Tryz.prog 15 #[.pointer (some ⟨q, 0, none⟩), cv] w fun e w' => e = .returned (.int .i64 (markL l m cs).1) ∧ ∃ V' F', LdAt w' q V' (markL l m cs).2.1 p F' (markL l m cs).2.2 ∧ Moved w w' (lfoot q V F) (lfoot q V' F') := by
  obtain ⟨ca, cc, rfl⟩ := (hcs w _ (.refl _ _)).slice
  obtain ⟨W0, fold0⟩ : ∃ W0, (w.alloc (.cells #[.pointer (some ⟨q, 0, none⟩)] 30)).alloc (.cells #[.slice ca cs.length cc] 31) = W0 := ⟨_, rfl⟩
  have b0 : Below w.heap.size w W0 := by rw [← fold0]; exact ((Below.refl _ _).alloc (Nat.le_refl _) _).alloc (by simp) _
  have x0 : Boxed W0 w.heap.size 30 (.pointer (some ⟨q, 0, none⟩)) := by rw [← fold0]; exact (Below.heap_alloc _ _ _ (by simp)).trans (heap_alloc_new w _)
  have x2 : Boxed W0 (w.heap.size + 1) 31 (.slice ca cs.length cc) := by
    rw [← fold0]
    have := heap_alloc_new (w.alloc (.cells #[.pointer (some ⟨q, 0, none⟩)] 30)) (.cells #[.slice ca cs.length cc] 31)
    rwa [World.size_alloc] at this
  have hout : ∀ k, w.heap.size ≤ k → ¬ lfoot q V F k := fun k hk hf => by have := h.lts k hf; omega
  have hR := refuse_at (h.kept b0) (he.below b0) h6 (.slice ca cs.length cc) cs.length ⟨_, _, rfl⟩
  have y0 := x0.cell
  have y2 := x2.cell
  have HX0 : Hid (Boxed W0 w.heap.size 30 (.pointer (some ⟨q, 0, none⟩)) ∧ Boxed W0 (w.heap.size + 1) 31 (.slice ca cs.length cc) ∧ (∀ k, w.heap.size ≤ k → ¬ lfoot q V F k) ∧ Below w.heap.size w W0 ∧ Env W0 ∧ ∀ k, lfoot q V F k → 6 ≤ k) := ⟨x0, x2, hout, b0, he.below b0, h6⟩
  have HCS : Hid (∀ W G', Moved w W (lfoot q V F) G' → Holds W (.slice ca cs.length cc) cs) := hcs
  have HO : Hid (m.Ok ∧ Short m) := ⟨ok, hsh⟩
  unfold markL
  by_cases h0 : refE l m cs.length = 0
  · rw [if_neg (by simp [h0])]
    have hlc : l.checked m = l ∧ cs.length ≤ 1048512 := by
      unfold refE at h0
      split at h0
      · rename_i h1; exact absurd h0 h1
      · rename_i h1
        refine ⟨(offE_zero (by simpa using h1)).1, ?_⟩
        split at h0
        · cases h0
        · omega
    rw [h0, hlc.1] at hR
    have HLen : Hid (cs.length ≤ 1048512) := hlc.2
    have HFl : Hid (0 ≤ (flushL l m).2.1.last ∧ (flushL l m).2.1.last ≤ 999999999) := flush_last hl
    have HFc : Hid ((flushL l m).2.2.count ≤ m.count + 4 ∧ (flushL l m).2.2.Ok ∧ Short (flushL l m).2.2) := ⟨flushL_count l m, flushL_ok ok, flush_short hsh⟩
    clear h x0 x2 hout b0 h0 he h6 ok hcs hsh hlc
    have HFlush : Hid (∀ W V1 F1, LdAt W q V1 l p F1 m → Env W → (∀ k, lfoot q V1 F1 k → 6 ≤ k) → Calls Tryz.prog 14 #[.pointer (some ⟨q, 0, none⟩)] W fun e w' => e = .returned (.int .i64 (flushL l m).1) ∧ ∃ V' F', LdAt w' q V' (flushL l m).2.1 p F' (flushL l m).2.2 ∧ Moved W w' (lfoot q V1 F1) (lfoot q V' F')) := fun W V1 F1 h1 h2 h3 => flush_at h1 HO.out.1 (by omega) h2 h3 hl
    generalize flushL l m = fr at *
    obtain ⟨fz, fl, fm⟩ := fr
    simp only at HFl HFc HFlush ⊢
    by_cases hfz : fz = 0
    · subst hfz
      rw [if_neg (by simp)]
      by_cases hlast : fl.last = 999999999
      · rw [if_pos hlast]
        go_enter Tryz.func15, Tryz.ntmps15
        go_wp2_with fail
        refine hR.mono ?_
        rintro e w1 ⟨rfl, V1, F1, h1, mv1⟩
        have z0 := (boxed_moved HX0.out.1 mv1 (HX0.out.2.2.1 _ (Nat.le_refl _))).cell
        have h61 : ∀ k, lfoot q V1 F1 k → 6 ≤ k := fun k hf => (mv1.sub _ hf).elim (HX0.out.2.2.2.2.2 k) (fun h => by have := HX0.out.2.2.2.2.1.pos; omega)
        have hF := HFlush.out w1 V1 F1 h1 (HX0.out.2.2.2.2.1.moved mv1 HX0.out.2.2.2.2.2) h61
        have n01 : ¬ lfoot q V1 F1 w.heap.size := fun hf => (mv1.sub _ hf).elim (HX0.out.2.2.1 _ (Nat.le_refl _)) (fun h => by have := HX0.out.1.lt; omega)
        have HB1 : Hid (Boxed w1 w.heap.size 30 (.pointer (some ⟨q, 0, none⟩)) ∧ ¬ lfoot q V1 F1 w.heap.size) := ⟨boxed_moved HX0.out.1 mv1 (HX0.out.2.2.1 _ (Nat.le_refl _)), n01⟩
        have HM1 : Hid (Moved w w1 (lfoot q V F) (lfoot q V1 F1)) := (Moved.of_below HX0.out.2.2.2.1).trans mv1
        clear hR h1 mv1 h61 n01
        go_wp2_with fail
        refine hF.mono ?_
        rintro e w2 ⟨rfl, V2, F2, h2, mv2⟩
        have z2 := (boxed_moved HB1.out.1 mv2 HB1.out.2).cell
        have c2 := h2.cells.2.2.1
        rw [hlast] at c2
        clear hF
        go_wp2
        go_ret
        exact ⟨rfl, V2, F2, h2, HM1.out.trans mv2⟩
      · rw [if_neg hlast]
        have hl2 : (fl.last == 999999999) = false := by simpa using hlast
        have hlw : IntKind.i64.wrap (fl.last + 1) = fl.last + 1 := by have := HFl.out; rw [IntKind.wrap_i64]; omega
        go_enter Tryz.func15, Tryz.ntmps15
        go_wp2_with fail
        refine hR.mono ?_
        rintro e w1 ⟨rfl, V1, F1, h1, mv1⟩
        have z0 := (boxed_moved HX0.out.1 mv1 (HX0.out.2.2.1 _ (Nat.le_refl _))).cell
        have h61 : ∀ k, lfoot q V1 F1 k → 6 ≤ k := fun k hf => (mv1.sub _ hf).elim (HX0.out.2.2.2.2.2 k) (fun h => by have := HX0.out.2.2.2.2.1.pos; omega)
        have hF := HFlush.out w1 V1 F1 h1 (HX0.out.2.2.2.2.1.moved mv1 HX0.out.2.2.2.2.2) h61
        have n01 : ¬ lfoot q V1 F1 w.heap.size := fun hf => (mv1.sub _ hf).elim (HX0.out.2.2.1 _ (Nat.le_refl _)) (fun h => by have := HX0.out.1.lt; omega)
        have n02 : ¬ lfoot q V1 F1 (w.heap.size + 1) := fun hf => (mv1.sub _ hf).elim (HX0.out.2.2.1 _ (Nat.le_succ _)) (fun h => by have := HX0.out.2.1.lt; omega)
        have HB1 : Hid (Boxed w1 w.heap.size 30 (.pointer (some ⟨q, 0, none⟩)) ∧ ¬ lfoot q V1 F1 w.heap.size ∧ Boxed w1 (w.heap.size + 1) 31 (.slice ca cs.length cc) ∧ ¬ lfoot q V1 F1 (w.heap.size + 1) ∧ Env w1 ∧ ∀ k, lfoot q V1 F1 k → 6 ≤ k) := ⟨boxed_moved HX0.out.1 mv1 (HX0.out.2.2.1 _ (Nat.le_refl _)), n01, boxed_moved HX0.out.2.1 mv1 (HX0.out.2.2.1 _ (Nat.le_succ _)), n02, HX0.out.2.2.2.2.1.moved mv1 HX0.out.2.2.2.2.2, h61⟩
        have HM1 : Hid (Moved w w1 (lfoot q V F) (lfoot q V1 F1)) := (Moved.of_below HX0.out.2.2.2.1).trans mv1
        clear hR h1 mv1 h61 n01 n02
        go_wp2_with fail
        refine hF.mono ?_
        rintro e w2 ⟨rfl, V2, F2, h2, mv2⟩
        have bx2 := boxed_moved HB1.out.1 mv2 HB1.out.2.1
        have bc2 := boxed_moved HB1.out.2.2.1 mv2 HB1.out.2.2.2.1
        have z2 := bx2.cell
        have c2 := h2.cells.2.2.1
        have m0 : ¬ lfoot q V2 F2 w.heap.size := fun hf => (mv2.sub _ hf).elim HB1.out.2.1 (fun h => by have := HB1.out.1.lt; omega)
        have m2 : ¬ lfoot q V2 F2 (w.heap.size + 1) := fun hf => (mv2.sub _ hf).elim HB1.out.2.2.2.1 (fun h => by have := HB1.out.2.2.1.lt; omega)
        have he2 : Env w2 := HB1.out.2.2.2.2.1.moved mv2 HB1.out.2.2.2.2.2
        have h62 : ∀ k, lfoot q V2 F2 k → 6 ≤ k := fun k hf => (mv2.sub _ hf).elim (HB1.out.2.2.2.2.2 k) (fun h => by have := HB1.out.2.2.2.2.1.pos; omega)
        obtain ⟨W3, fold3⟩ : ∃ W3, w2.alloc (.cells #[.int .i64 (fl.last + 1)] 3) = W3 := ⟨_, rfl⟩
        have b3 : Below w2.heap.size w2 W3 := by rw [← fold3]; exact (Below.refl _ _).alloc (Nat.le_refl _) _
        have x1 : Boxed W3 w2.heap.size 3 (.int .i64 (fl.last + 1)) := by rw [← fold3]; exact heap_alloc_new w2 _
        have bD : Below W3.heap.size W3 W3.drew := (Below.refl _ W3).drew
        obtain ⟨W4, fold4⟩ : ∃ W4, W3.drew.alloc (.cells #[.func (.func 41) #[.pointer (some ⟨q, 0, none⟩)] #[], .func (.func 42) #[] #[.pointer (some ⟨w.heap.size, 0, none⟩)], .func (.func 44) #[] #[.pointer (some ⟨w.heap.size, 0, none⟩), .pointer (some ⟨w2.heap.size, 0, none⟩), .pointer (some ⟨w.heap.size + 1, 0, none⟩)], .func (.func 46) #[] #[.pointer (some ⟨w.heap.size, 0, none⟩)], .func (.func 47) #[] #[.pointer (some ⟨w.heap.size, 0, none⟩), .pointer (some ⟨w2.heap.size, 0, none⟩)], .func (.func 48) #[] #[.pointer (some ⟨w.heap.size, 0, none⟩)], .func (.func 50) #[.pointer (some ⟨p, 0, none⟩)] #[], .func (.func 51) #[] #[.pointer (some ⟨w2.heap.size, 0, none⟩), .pointer (some ⟨w.heap.size, 0, none⟩)]] 40) = W4 := ⟨_, rfl⟩
        have b4 : Below W3.heap.size W3 W4 := by rw [← fold4]; exact keptW bD ((Below.refl _ _).alloc (Nat.le_refl _) _)
        have b34 := keptW b3 b4
        have hout2 : ∀ k, w2.heap.size ≤ k → ¬ lfoot q V2 F2 k := fun k hk hf => by have := h2.lts k hf; omega
        have hmv2 : Moved w w2 (lfoot q V F) (lfoot q V2 F2) := HM1.out.trans mv2
        have hS := mark_steps (h2.kept b34) HFc.out.2.1 HFc.out.2.2 (by have := HFc.out.1; omega) (he2.below b34) h62 (fl.last + 1) (by have := HFl.out; omega) (.slice ca cs.length cc) cs (fun W G' mv => HCS.out W G' ((hmv2.trans (Moved.of_below b34)).trans mv)) HLen.out w.heap.size w2.heap.size (w.heap.size + 1) W3.heap.size (boxed_below bx2 b34) (boxed_below x1 b4) (boxed_below bc2 b34) m0 (hout2 _ (Nat.le_refl _)) m2 (hout2 _ b3.size) (by rw [← fold4]; exact fnrowL W3.drew _ (by simp))
        have z3 := cell_on b3 z2
        have q3 := (h2.kept b3).cells.1
        have u0 := cell_on b34 z2
        have u1 := (h2.kept b34).cells.1
        have HC : Hid (∀ W G', Moved W4 W (lfoot q V2 F2) G' → W.cell? ⟨w.heap.size, 0, none⟩ = some (.pointer (some ⟨q, 0, none⟩))) := fun W G' mv => (boxed_moved (boxed_below bx2 b34) mv m0).cell
        have HM4 : Hid (Moved w W4 (lfoot q V F) (lfoot q V2 F2)) := hmv2.trans (Moved.of_below b34)
        clear hF h2 mv2 bx2 bc2 m0 m2 he2 h62 b3 x1 bD b4 b34 hout2 hmv2 HX0 HCS HO HLen HFc HFlush HB1 HM1 hlast
        go_wp2
        refine wp_region_noPanic ?_
        refine wp_region_held_drew (S := fun w' => w'.cell? ⟨w.heap.size, 0, none⟩ = some (.pointer (some ⟨q, 0, none⟩)) ∧ w'.cell? ⟨q, 0, none⟩ = some (.pointer (some ⟨p, 0, none⟩))) (by kernel_rfl) ⟨z3, q3⟩ (fun hHeld => ?_)
        refine wpAnyH_take (i := 0) (v := ?_) (by simp only [List.getElem?_toArray, List.getElem?_cons_zero]; rfl) (by kernel_rfl) (by kernel_rfl) (by kernel_rfl) (fun _ _ _ h => h) (Or.inl ⟨by rfl, ?_⟩) (by assumption) ?_
        rotate_left
        · (intro w hSw; (try dsimp only at hSw); go_simp; try with_reducible rfl)
        try simp only [Act.put, List.setIfInBounds_toArray, List.set_cons_zero, List.set_cons_succ]
        refine wpAnyH_take (i := 1) (v := ?_) (by simp only [List.getElem?_toArray, List.getElem?_cons_succ, List.getElem?_cons_zero]; rfl) (by kernel_rfl) (by kernel_rfl) (by kernel_rfl) (fun _ _ _ h => h) (Or.inl ⟨by rfl, ?_⟩) (by assumption) ?_
        rotate_left
        · (intro w hSw; (try dsimp only at hSw); go_simp; try with_reducible rfl)
        try simp only [Act.put, List.setIfInBounds_toArray, List.set_cons_zero, List.set_cons_succ]
        refine wpAnyH_take (i := 2) (v := ?_) (by simp only [List.getElem?_toArray, List.getElem?_cons_succ, List.getElem?_cons_zero]; rfl) (by kernel_rfl) (by kernel_rfl) (by kernel_rfl) (fun _ _ _ h => h) (Or.inl ⟨by rfl, ?_⟩) (by assumption) ?_
        rotate_left
        · (intro w hSw; (try dsimp only at hSw); go_simp; try with_reducible rfl)
        try simp only [Act.put, List.setIfInBounds_toArray, List.set_cons_zero, List.set_cons_succ]
        refine wpAnyH_take (i := 3) (v := ?_) (by simp only [List.getElem?_toArray, List.getElem?_cons_succ, List.getElem?_cons_zero]; rfl) (by kernel_rfl) (by kernel_rfl) (by kernel_rfl) (fun _ _ _ h => h) (Or.inl ⟨by rfl, ?_⟩) (by assumption) ?_
        rotate_left
        · (intro w hSw; (try dsimp only at hSw); go_simp; try with_reducible rfl)
        try simp only [Act.put, List.setIfInBounds_toArray, List.set_cons_zero, List.set_cons_succ]
        refine wpAnyH_take (i := 4) (v := ?_) (by simp only [List.getElem?_toArray, List.getElem?_cons_succ, List.getElem?_cons_zero]; rfl) (by kernel_rfl) (by kernel_rfl) (by kernel_rfl) (fun _ _ _ h => h) (Or.inl ⟨by rfl, ?_⟩) (by assumption) ?_
        rotate_left
        · (intro w hSw; (try dsimp only at hSw); go_simp; try with_reducible rfl)
        try simp only [Act.put, List.setIfInBounds_toArray, List.set_cons_zero, List.set_cons_succ]
        refine wpAnyH_take (i := 5) (v := ?_) (by simp only [List.getElem?_toArray, List.getElem?_cons_succ, List.getElem?_cons_zero]; rfl) (by kernel_rfl) (by kernel_rfl) (by kernel_rfl) (fun _ _ _ h => h) (Or.inl ⟨by rfl, ?_⟩) (by assumption) ?_
        rotate_left
        · (intro w hSw; (try dsimp only at hSw); go_simp; try with_reducible rfl)
        try simp only [Act.put, List.setIfInBounds_toArray, List.set_cons_zero, List.set_cons_succ]
        refine wpAnyH_take (i := 6) (v := ?_) (by simp only [List.getElem?_toArray, List.getElem?_cons_succ, List.getElem?_cons_zero]; rfl) (by kernel_rfl) (by kernel_rfl) (by kernel_rfl) (fun _ _ _ h => h) (Or.inl ⟨by rfl, ?_⟩) (by assumption) ?_
        rotate_left
        · (intro w hSw; (try dsimp only at hSw); go_simp; try with_reducible rfl)
        try simp only [Act.put, List.setIfInBounds_toArray, List.set_cons_zero, List.set_cons_succ]
        refine wpAnyH_take (i := 7) (v := ?_) (by simp only [List.getElem?_toArray, List.getElem?_cons_succ, List.getElem?_cons_zero]; rfl) (by kernel_rfl) (by kernel_rfl) (by kernel_rfl) (fun _ _ _ h => h) (Or.inl ⟨by rfl, ?_⟩) (by assumption) ?_
        rotate_left
        · (intro w hSw; (try dsimp only at hSw); go_simp; try with_reducible rfl)
        try simp only [Act.put, List.setIfInBounds_toArray, List.set_cons_zero, List.set_cons_succ]
        refine wpAnyH_take (i := 8) (v := ?_) (by simp only [List.getElem?_toArray, List.getElem?_cons_succ, List.getElem?_cons_zero]; rfl) (by kernel_rfl) (by kernel_rfl) (by kernel_rfl) (fun _ _ _ h => h) (Or.inl ⟨by rfl, ?_⟩) (by assumption) ?_
        rotate_left
        · (intro w hSw; (try dsimp only at hSw); go_simp; try with_reducible rfl)
        try simp only [Act.put, List.setIfInBounds_toArray, List.set_cons_zero, List.set_cons_succ]
        refine wpAnyH_take (i := 9) (v := ?_) (by simp only [List.getElem?_toArray, List.getElem?_cons_succ, List.getElem?_cons_zero]; rfl) (by kernel_rfl) (by kernel_rfl) (by kernel_rfl) (fun _ _ _ h => h) (Or.inl ⟨by rfl, ?_⟩) (by assumption) ?_
        rotate_left
        · (intro w hSw; (try dsimp only at hSw); go_simp; try with_reducible rfl)
        try simp only [Act.put, List.setIfInBounds_toArray, List.set_cons_zero, List.set_cons_succ]
        refine wpAnyH_take (i := 10) (v := ?_) (by simp only [List.getElem?_toArray, List.getElem?_cons_succ, List.getElem?_cons_zero]; rfl) (by kernel_rfl) (by kernel_rfl) (by kernel_rfl) (fun _ _ _ h => h) (Or.inl ⟨by rfl, ?_⟩) (by assumption) ?_
        rotate_left
        · (intro w hSw; (try dsimp only at hSw); go_simp; try with_reducible rfl)
        try simp only [Act.put, List.setIfInBounds_toArray, List.set_cons_zero, List.set_cons_succ]
        refine wpAnyH_take (i := 11) (v := ?_) (by simp only [List.getElem?_toArray, List.getElem?_cons_succ, List.getElem?_cons_zero]; rfl) (by kernel_rfl) (by kernel_rfl) (by kernel_rfl) (fun _ _ _ h => h) (Or.inl ⟨by rfl, ?_⟩) (by assumption) ?_
        rotate_left
        · (intro w hSw; (try dsimp only at hSw); go_simp; try with_reducible rfl)
        try simp only [Act.put, List.setIfInBounds_toArray, List.set_cons_zero, List.set_cons_succ]
        refine wpAnyH_take (i := 12) (v := ?_) (by simp only [List.getElem?_toArray, List.getElem?_cons_succ, List.getElem?_cons_zero]; rfl) (by kernel_rfl) (by kernel_rfl) (by kernel_rfl) (fun _ _ _ h => h) (Or.inl ⟨by rfl, ?_⟩) (by assumption) ?_
        rotate_left
        · (intro w hSw; (try dsimp only at hSw); go_simp; try with_reducible rfl)
        try simp only [Act.put, List.setIfInBounds_toArray, List.set_cons_zero, List.set_cons_succ]
        refine wpAnyH_take (i := 13) (v := ?_) (by simp only [List.getElem?_toArray, List.getElem?_cons_succ, List.getElem?_cons_zero]; rfl) (by kernel_rfl) (by kernel_rfl) (by kernel_rfl) (fun _ _ _ h => h) (Or.inl ⟨by rfl, ?_⟩) (by assumption) ?_
        rotate_left
        · (intro w hSw; (try dsimp only at hSw); go_simp; try with_reducible rfl)
        try simp only [Act.put, List.setIfInBounds_toArray, List.set_cons_zero, List.set_cons_succ]
        refine wpAnyH_ready (rs := [14]) (by kernel_rfl) (by simp) ?_
        refine AllReadyH.cons rfl (fun K hK => ?_) AllReadyH.nil
        go_simp
        refine hK.out _ _ ⟨u0, u1⟩ (fun hHeld => ?_)
        clear hK K
        try simp only [Act.put, List.setIfInBounds_toArray, List.set_cons_zero, List.set_cons_succ]
        refine wpAnyH_ready (rs := [15]) (by kernel_rfl) (by simp) ?_
        refine AllReadyH.cons rfl (fun K hK => ?_) AllReadyH.nil
        go_simp
        go_at_call 34
        refine hS.mono ?_
        rintro e w5 ⟨rfl, V5, F5, h5, mv5⟩
        dsimp only
        have k0 := HC.out w5 _ mv5
        have k1 := h5.cells.1
        refine hK.out _ _ ⟨k0, k1⟩ (fun hHeld => ?_)
        clear hK K
        try simp only [Act.put, List.setIfInBounds_toArray, List.set_cons_zero, List.set_cons_succ]
        refine wpAnyH_take (i := 16) (v := ?_) (by simp only [List.getElem?_toArray, List.getElem?_cons_succ, List.getElem?_cons_zero]; rfl) (by kernel_rfl) (by kernel_rfl) (by kernel_rfl) (fun _ _ _ h => h) (Or.inl ⟨by rfl, ?_⟩) (by assumption) ?_
        rotate_left
        · (intro w hSw; (try dsimp only at hSw); go_simp; try with_reducible rfl)
        try simp only [Act.put, List.setIfInBounds_toArray, List.set_cons_zero, List.set_cons_succ]
        refine wpAnyH_done (by kernel_rfl) ?_ _
        refine NoPanic.normal ?_
        go_wp2
        go_ret
        exact ⟨rfl, V5, F5, h5, HM4.out.trans mv5⟩
    · rw [if_pos hfz]
      have hfz' : (fz != 0) = true := by simpa using hfz
      go_enter Tryz.func15, Tryz.ntmps15
      go_wp2_with fail
      refine hR.mono ?_
      rintro e w1 ⟨rfl, V1, F1, h1, mv1⟩
      have z0 := (boxed_moved HX0.out.1 mv1 (HX0.out.2.2.1 _ (Nat.le_refl _))).cell
      have h61 : ∀ k, lfoot q V1 F1 k → 6 ≤ k := fun k hf => (mv1.sub _ hf).elim (HX0.out.2.2.2.2.2 k) (fun h => by have := HX0.out.2.2.2.2.1.pos; omega)
      have hF := HFlush.out w1 V1 F1 h1 (HX0.out.2.2.2.2.1.moved mv1 HX0.out.2.2.2.2.2) h61
      have HM1 : Hid (Moved w w1 (lfoot q V F) (lfoot q V1 F1)) := (Moved.of_below HX0.out.2.2.2.1).trans mv1
      clear hR h1 mv1 h61
      go_wp2_with (go_at_call 14; refine hF.mono ?_; rintro e w2 ⟨rfl, V2, F2, h2, mv2⟩)
      go_ret
      exact ⟨rfl, V2, F2, h2, HM1.out.trans mv2⟩
  · rw [if_pos h0]
    generalize refE l m cs.length = z at *
    clear h x0 x2 hout b0 ok he h6 hcs
    go_enter Tryz.func15, Tryz.ntmps15
    go_wp2_with (go_at_call 31; refine hR.mono ?_; rintro e w1 ⟨rfl, V1, F1, h1, mv1⟩)
    go_ret
    exact ⟨rfl, V1, F1, h1, (Moved.of_below HX0.out.2.2.2.1).trans mv1⟩
end
end Go.Proofs.YtjgdmbfkondakaaGreatDoor

/-
  unseal, trim, by their contracts.
-/
namespace Go.Proofs.YtjgdmbfkondakaaGreatDoor
open Go.RowKit

/-- What a checkpoint's file tells: the first part, and the checkpoint's bytes. -/
def unsealL (bs : List UInt8) : Option (Int × List UInt8) :=
  if errO bs ≠ 0 ∨ sizeO bs ≠ bs.length ∨ (contO bs).length < 8 ∨ getN ((contO bs).take 8) < 1 ∨ 999999999 < getN ((contO bs).take 8) then none
  else some ((getN ((contO bs).take 8) : Int), (contO bs).drop 8)
theorem holds_drop8 {w : World} {a : Option Addr} {n c : Nat} {bs : List UInt8} {base : Nat} (h : Owns w base 5 (.slice a n c) bs) (h8 : 8 ≤ bs.length) : ∃ g, a = some ⟨g, 0, none⟩ ∧ base ≤ g ∧ n = bs.length ∧ n ≤ c ∧ c ≤ maxLen ∧ Holds w (.slice (some ⟨g, 8, none⟩) (n - 8) (c - 8)) (bs.drop 8) := by
  have hh := h.holds
  rcases h.2 with ⟨h1, h2⟩ | ⟨g, cap, cur, h1, hb, hg, hnc, hcm, _, _⟩
  · omega
  · injection h1 with e1 e2 e3
    subst e1 e2 e3
    refine ⟨g, rfl, hb, rfl, hnc, hcm, ?_⟩
    rcases hh with ⟨hv, _⟩ | ⟨ad, cap', hv, q1, q2, q3⟩
    · cases hv
    · injection hv with e1 e2 e3
      injection e1 with e1
      subst e1 e3
      refine .inr ⟨⟨g, 8, none⟩, _, by rw [List.length_drop], by rw [List.length_drop]; omega, by omega, fun j u hj => ?_⟩
      have hj' : (bcells bs)[8 + j]? = some u := by
        rw [← hj]
        simp only [bcells]
        rw [List.map_drop, List.getElem?_drop]
      have := q3 (8 + j) u hj'
      rw [Addr.add_lit] at this ⊢
      rw [Nat.zero_add] at this
      exact this
/-- How unseal ends. -/
def Unsealed (w : World) (r : Option (Int × List UInt8)) (e : Ending) (w' : World) : Prop := Below w.heap.size w w' ∧ match r with
  | none => e = .returned (.tuple #[.int .i64 0, .slice none 0 0, .int .i64 7])
  | some (n, cs) => ∃ v, e = .returned (.tuple #[.int .i64 n, v, .int .i64 0]) ∧ Holds w' v cs ∧ Behind w.heap.size v
set_option maxRecDepth 20000 in
set_option maxHeartbeats 2000000 in
theorem unseal_any (bv : Value) (bs : List UInt8) (w : World) (he : Env w) (hb : Holds w bv bs) : Calls Tryz.prog 28 #[bv] w (Unsealed w (unsealL bs)) := by
  have hO := open_any bv bs w he.tab hb
  obtain ⟨ba, bc, rfl⟩ := hb.slice
  have HE : Hid (Env w) := he
  clear he hb
  by_cases h1 : errO bs = 0
  · by_cases h2 : sizeO bs = bs.length
    · by_cases h3 : 8 ≤ (contO bs).length
      · have hsz : (contO bs).length ≤ 1048576 := by
          obtain ⟨_, h, _⟩ := errO_zero bs h1
          unfold contO
          rw [if_pos h1, List.length_take]
          omega
        obtain ⟨z, hz⟩ : ∃ z, getN ((contO bs).take 8) = z := ⟨_, rfl⟩
        have hzlt : z < 18446744073709551616 := by rw [← hz]; exact getN_lt (contO bs) 8 h3
        by_cases h4 : z < 1
        · have hU : unsealL bs = none := by unfold unsealL; rw [if_pos (.inr (.inr (.inr (.inl (by rw [hz]; exact h4)))))]
          rw [hU]
          have h4' : (z : Int) < 1 := by omega
          go_enter Tryz.func28, Tryz.ntmps28
          go_wp2_with fail
          refine hO.mono ?_
          rintro e w1 ⟨v1, rfl, ow, b1⟩
          have hG := get_good v1 (contO bs) 8 w1 (HE.out.below b1).tab ow.holds rfl h3
          obtain ⟨va, vc, rfl⟩ := ow.holds.slice
          rw [hz] at hG
          rw [h1, h2]
          clear hO ow
          generalize (contO bs).length = cl at *
          go_wp2_with (go_at_call 69; refine hG.mono ?_; rintro e w ⟨rfl, rfl⟩)
          go_ret3
          exact ⟨b1, rfl⟩
        · have h4' : ¬ (z : Int) < 1 := by omega
          by_cases h5 : 999999999 < z
          · have hU : unsealL bs = none := by unfold unsealL; rw [if_pos (.inr (.inr (.inr (.inr (by rw [hz]; exact h5)))))]
            rw [hU]
            have h5' : (999999999 : Int) < (z : Int) := by omega
            go_enter Tryz.func28, Tryz.ntmps28
            go_wp2_with fail
            refine hO.mono ?_
            rintro e w1 ⟨v1, rfl, ow, b1⟩
            have hG := get_good v1 (contO bs) 8 w1 (HE.out.below b1).tab ow.holds rfl h3
            obtain ⟨va, vc, rfl⟩ := ow.holds.slice
            rw [hz] at hG
            rw [h1, h2]
            clear hO ow
            generalize (contO bs).length = cl at *
            go_wp2_with (go_at_call 69; refine hG.mono ?_; rintro e w ⟨rfl, rfl⟩)
            go_ret3
            exact ⟨b1, rfl⟩
          · have h5' : ¬ (999999999 : Int) < (z : Int) := by omega
            have hU : unsealL bs = some ((z : Int), (contO bs).drop 8) := by
              unfold unsealL
              rw [hz, if_neg]
              rintro (h | h | h | h | h)
              · exact h h1
              · exact h h2
              · omega
              · exact h4 h
              · exact h5 h
            rw [hU]
            have hcv : IntKind.i64.wrap (z : Int) = (z : Int) := by rw [IntKind.wrap_i64]; omega
            go_enter Tryz.func28, Tryz.ntmps28
            go_wp2_with fail
            refine hO.mono ?_
            rintro e w1 ⟨v1, rfl, ow, b1⟩
            have hG := get_good v1 (contO bs) 8 w1 (HE.out.below b1).tab ow.holds rfl h3
            obtain ⟨va, vc, rfl⟩ := ow.holds.slice
            obtain ⟨g, rfl, hbg, _, hnc, hcm, hD⟩ := holds_drop8 ow h3
            rw [hz] at hG
            rw [h1, h2]
            have HBg : Hid (w.heap.size ≤ g) := hbg
            have HD : Hid (Holds w1 (.slice (some ⟨g, 8, none⟩) ((contO bs).length - 8) (vc - 8)) ((contO bs).drop 8)) := hD
            clear hO ow hD hbg
            have h8c : (8 : Int) ≤ ((contO bs).length : Int) := by omega
            have h8d : ((contO bs).length : Int) ≤ (vc : Int) := by omega
            go_wp2_with (go_at_call 69; refine hG.mono ?_; rintro e w ⟨rfl, rfl⟩)
            go_quiet (fail)
            all_goals go_wp2
            all_goals go_ret3
            all_goals refine ⟨b1.trans ⟨rfl, rfl, rfl, Nat.le_refl _, fun _ _ => rfl⟩, _, rfl, ?_, fun ad n c e => by injection e with e _ _; injection e with e; rw [← e]; exact HBg.out⟩
            all_goals first
              | exact Holds.below HD.out ⟨rfl, rfl, rfl, Nat.le_refl _, fun _ _ => rfl⟩ (Nat.le_refl _)
              | (have e8 : (contO bs).length = 8 := by omega
                 have ed : (contO bs).drop 8 = [] := List.drop_eq_nil_of_le (by omega)
                 rw [ed]
                 refine .inr ⟨⟨g, 0, none⟩, 0, ?_, Nat.le_refl _, Nat.zero_le _, fun j u hj => by simp [bcells] at hj⟩
                 show Value.slice _ ((contO bs).length - 8) 0 = _
                 rw [e8]
                 rfl)
      · have hU : unsealL bs = none := by unfold unsealL; rw [if_pos (.inr (.inr (.inl (by omega))))]
        rw [hU]
        go_enter Tryz.func28, Tryz.ntmps28
        go_wp2_with fail
        refine hO.mono ?_
        rintro e w1 ⟨v1, rfl, ow, b1⟩
        have hG := get_bad v1 (contO bs) 8 w1 (HE.out.below b1).tab ow.holds (by unfold getB; simp; omega)
        obtain ⟨va, vc, rfl⟩ := ow.holds.slice
        rw [h1, h2]
        clear hO ow
        generalize (contO bs).length = cl at *
        go_wp2_with (go_at_call 69; refine hG.mono ?_; rintro e w ⟨rfl, rfl⟩)
        go_ret3
        exact ⟨b1, rfl⟩
    · have hU : unsealL bs = none := by unfold unsealL; rw [if_pos (.inr (.inl h2))]
      rw [hU]
      have h2' : ¬ ((sizeO bs : Nat) : Int) = (bs.length : Int) := by omega
      have h2b : (((sizeO bs : Nat) : Int) != (bs.length : Int)) = true := by simpa using h2'
      go_enter Tryz.func28, Tryz.ntmps28
      go_wp2_with fail
      refine hO.mono ?_
      rintro e w1 ⟨v1, rfl, ow, b1⟩
      obtain ⟨va, vc, rfl⟩ := ow.holds.slice
      rw [h1]
      clear hO ow
      go_wp2
      go_ret3
      exact ⟨b1, rfl⟩
  · have hU : unsealL bs = none := by unfold unsealL; rw [if_pos (.inl h1)]
    rw [hU]
    have h1' : ¬ ((errO bs : Nat) : Int) = 0 := by omega
    have h1b : (((errO bs : Nat) : Int) != 0) = true := by simpa using h1'
    go_enter Tryz.func28, Tryz.ntmps28
    go_wp2_with fail
    refine hO.mono ?_
    rintro e w1 ⟨v1, rfl, ow, b1⟩
    obtain ⟨va, vc, rfl⟩ := ow.holds.slice
    clear hO ow
    generalize ((errO bs : Nat) : Int) = er at *
    go_wp2
    go_ret3
    exact ⟨b1, rfl⟩
theorem ef_trim1 : ∀ args w, (callFunc 100 args).run Tryz.prog w = .ok (.enter 100 args) w := enters_of Tryz.func100 (by kernel_rfl) rfl
theorem ef_trim2 : ∀ args w, (callFunc 101 args).run Tryz.prog w = .ok (.enter 101 args) w := enters_of Tryz.func101 (by kernel_rfl) rfl
/-- What the last part has more is cut off. -/
def cutL (nm : ByteArray) (size more : Int) (m : M) : Int × M := if more = 0 then (0, m) else m.cut nm size
def trimS (nm : ByteArray) (size more : Int) : List (Lg → M → Int × Lg × M) := [fun l m => ((cutL nm size more m).1, l, (cutL nm size more m).2), fun l m => ((m.sync nm).1, l, (m.sync nm).2)]
section
variable {w : World} {q p : Nat} {V : Value} {l : Lg} {F : Nat → Prop} {m : M}
theorem LdAt.cut (h : LdAt w q V l p F m) (ok : m.Ok) (hc : m.count ≤ 900000) (n : ByteArray) (k : Int) (hs : n.size ≤ maxLen) : Calls Tryz.prog 25 #[.pointer (some ⟨p, 0, none⟩), .string n, .int .i64 k] w fun e w' => e = .returned (.int .i64 (m.cut n k).1) ∧ ∃ F', LdAt w' q V l p F' (m.cut n k).2 ∧ Moved w w' (lfoot q V F) (lfoot q V F') := by
  refine (cut_any p F m n k w h.st ok hc hs).mono ?_
  rintro e w' ⟨rfl, F', s, mv⟩
  exact ⟨rfl, F', h.go s mv⟩
set_option maxRecDepth 20000 in
set_option maxHeartbeats 1000000 in
theorem trim1_at (h : LdAt w q V l p F m) (ok : m.Ok) (hc : m.count ≤ 900000) (nm : ByteArray) (hs : nm.size ≤ maxLen) (size more : Int) (Bm B0 Bn Bs : Nat) (xm : Boxed w Bm 3 (.int .i64 more)) (hb0 : Boxed w B0 30 (.pointer (some ⟨q, 0, none⟩))) (hbn : Boxed w Bn 9 (.string nm)) (hbs : Boxed w Bs 3 (.int .i64 size)) (hn0 : ¬ lfoot q V F B0) (hnn : ¬ lfoot q V F Bn) (hns : ¬ lfoot q V F Bs) :
    Calls Tryz.prog 100 #[.pointer (some ⟨Bm, 0, none⟩), .pointer (some ⟨B0, 0, none⟩), .pointer (some ⟨Bn, 0, none⟩), .pointer (some ⟨Bs, 0, none⟩)] w fun e w' => e = .returned (.int .i64 (cutL nm size more m).1) ∧ ∃ F', LdAt w' q V l p F' (cutL nm size more m).2 ∧ Moved w w' (lfoot q V F) (lfoot q V F') := by
  have y0 := xm.cell
  unfold cutL
  by_cases hm : more = 0
  · rw [if_pos hm]
    subst hm
    have H : Hid (LdAt w q V l p F m) := h
    clear h xm hb0 hbn hbs
    go_enter Tryz.func100, Tryz.ntmps100
    go_wp2
    go_ret
    exact ⟨rfl, F, H.out, .refl _ _⟩
  · rw [if_neg hm]
    have hm' : (more == 0) = false := by simpa using hm
    have c0 := h.cells.1
    have x0 := hb0.cell
    have x1 := hbn.cell
    have x2 := hbs.cell
    have bD : Below w.heap.size w w.drew := (Below.refl _ w).drew
    have hW := (h.kept bD).cut ok hc nm size hs
    have HC : Hid (∀ W G', Moved w.drew W (lfoot q V F) G' → W.cell? ⟨B0, 0, none⟩ = some (.pointer (some ⟨q, 0, none⟩)) ∧ W.cell? ⟨Bn, 0, none⟩ = some (.string nm) ∧ W.cell? ⟨Bs, 0, none⟩ = some (.int .i64 size)) := fun W G' mv => ⟨(boxed_moved (boxed_below hb0 bD) mv hn0).cell, (boxed_moved (boxed_below hbn bD) mv hnn).cell, (boxed_moved (boxed_below hbs bD) mv hns).cell⟩
    generalize (m.cut nm size).1 = z at *
    generalize (m.cut nm size).2 = m' at *
    clear h ok hc hb0 hbn hbs hn0 hnn hns hs xm
    go_enter Tryz.func100, Tryz.ntmps100
    go_wp2
    go_region_held3 (fun w' => w'.cell? ⟨B0, 0, none⟩ = some (.pointer (some ⟨q, 0, none⟩)) ∧ w'.cell? ⟨q, 0, none⟩ = some (.pointer (some ⟨p, 0, none⟩)) ∧ w'.cell? ⟨Bn, 0, none⟩ = some (.string nm) ∧ w'.cell? ⟨Bs, 0, none⟩ = some (.int .i64 size)) (go_keep) (first
      | (go_at_call 25; refine hW.mono ?_; rintro e w3 ⟨rfl, F', h3, mv3⟩; have r0 := h3.cells.1; obtain ⟨r1, r2, r3⟩ := HC.out w3 _ mv3))
    all_goals go_wp2
    all_goals go_ret
    all_goals exact ⟨rfl, F', h3, (Moved.of_below bD).trans mv3⟩
set_option maxRecDepth 20000 in
set_option maxHeartbeats 1000000 in
theorem trim2_at (h : LdAt w q V l p F m) (ok : m.Ok) (hc : m.count ≤ 900000) (nm : ByteArray) (hs : nm.size ≤ maxLen) (B0 B1 : Nat) (hb0 : Boxed w B0 30 (.pointer (some ⟨q, 0, none⟩))) (hb1 : Boxed w B1 9 (.string nm)) (hn0 : ¬ lfoot q V F B0) (hn1 : ¬ lfoot q V F B1) :
    Calls Tryz.prog 101 #[.pointer (some ⟨B0, 0, none⟩), .pointer (some ⟨B1, 0, none⟩)] w fun e w' => e = .returned (.int .i64 (m.sync nm).1) ∧ ∃ F', LdAt w' q V l p F' (m.sync nm).2 ∧ Moved w w' (lfoot q V F) (lfoot q V F') := by
  have c0 := h.cells.1
  have x0 := hb0.cell
  have x1 := hb1.cell
  have bD : Below w.heap.size w w.drew := (Below.refl _ w).drew
  have hW := (h.kept bD).sync ok hc nm hs
  have HC : Hid (∀ W G', Moved w.drew W (lfoot q V F) G' → W.cell? ⟨B0, 0, none⟩ = some (.pointer (some ⟨q, 0, none⟩)) ∧ W.cell? ⟨B1, 0, none⟩ = some (.string nm)) := fun W G' mv => ⟨(boxed_moved (boxed_below hb0 bD) mv hn0).cell, (boxed_moved (boxed_below hb1 bD) mv hn1).cell⟩
  generalize (m.sync nm).1 = z at *
  generalize (m.sync nm).2 = m' at *
  clear h ok hc hb0 hb1 hn0 hn1 hs
  go_enter Tryz.func101, Tryz.ntmps101
  go_wp2
  go_region_held3 (fun w' => w'.cell? ⟨B0, 0, none⟩ = some (.pointer (some ⟨q, 0, none⟩)) ∧ w'.cell? ⟨q, 0, none⟩ = some (.pointer (some ⟨p, 0, none⟩)) ∧ w'.cell? ⟨B1, 0, none⟩ = some (.string nm)) (go_keep) (first
    | (go_at_call 38; refine hW.mono ?_; rintro e w3 ⟨rfl, F', h3, mv3⟩; have r0 := h3.cells.1; obtain ⟨r1, r2⟩ := HC.out w3 _ mv3))
  all_goals go_wp2
  all_goals go_ret
  all_goals exact ⟨rfl, F', h3, (Moved.of_below bD).trans mv3⟩
def trimL (size more : Int) (l : Lg) (m : M) : Int × Lg × M := runL (trimS (nameB l.last) size more) l m
set_option maxRecDepth 20000 in
set_option maxHeartbeats 2000000 in
theorem trim_at (h : LdAt w q V l p F m) (ok : m.Ok) (hc : m.count ≤ 800000) (he : Env w) (h6 : ∀ k, lfoot q V F k → 6 ≤ k) (hl : 0 ≤ l.last ∧ l.last ≤ 999999999) (size more : Int) :
    Calls Tryz.prog 74 #[.pointer (some ⟨q, 0, none⟩), .int .i64 size, .int .i64 more] w fun e w' => e = .returned (.int .i64 (trimL size more l m).1) ∧ ∃ V' F', LdAt w' q V' (trimL size more l m).2.1 p F' (trimL size more l m).2.2 ∧ Moved w w' (lfoot q V F) (lfoot q V' F') := by
  obtain ⟨W0, fold0⟩ : ∃ W0, ((w.alloc (.cells #[.pointer (some ⟨q, 0, none⟩)] 30)).alloc (.cells #[.int .i64 size] 3)).alloc (.cells #[.int .i64 more] 3) = W0 := ⟨_, rfl⟩
  have b0 : Below w.heap.size w W0 := by rw [← fold0]; exact (((Below.refl _ _).alloc (Nat.le_refl _) _).alloc (by simp) _).alloc (by simp; omega) _
  have x0 : Boxed W0 w.heap.size 30 (.pointer (some ⟨q, 0, none⟩)) := by rw [← fold0]; exact (Below.heap_alloc _ _ _ (by simp; omega)).trans ((Below.heap_alloc _ _ _ (by simp)).trans (heap_alloc_new w _))
  have x1 : Boxed W0 (w.heap.size + 1) 3 (.int .i64 size) := by
    rw [← fold0]
    have := heap_alloc_new (w.alloc (.cells #[.pointer (some ⟨q, 0, none⟩)] 30)) (.cells #[.int .i64 size] 3)
    rw [World.size_alloc] at this
    exact (Below.heap_alloc _ _ _ (by simp)).trans this
  have x2 : Boxed W0 (w.heap.size + 1 + 1) 3 (.int .i64 more) := by
    rw [← fold0]
    have := heap_alloc_new ((w.alloc (.cells #[.pointer (some ⟨q, 0, none⟩)] 30)).alloc (.cells #[.int .i64 size] 3)) (.cells #[.int .i64 more] 3)
    rwa [World.size_alloc, World.size_alloc] at this
  have hout : ∀ k, w.heap.size ≤ k → ¬ lfoot q V F k := fun k hk hf => by have := h.lts k hf; omega
  have h0 := h.kept b0
  have c2 := h0.cells.2.2.1
  have y0 := x0.cell
  have hN := name_any l.last (by omega) (by omega) W0 (he.below b0)
  have HX : Hid (LdAt W0 q V l p F m ∧ Boxed W0 w.heap.size 30 (.pointer (some ⟨q, 0, none⟩)) ∧ Boxed W0 (w.heap.size + 1) 3 (.int .i64 size) ∧ Boxed W0 (w.heap.size + 1 + 1) 3 (.int .i64 more) ∧ (∀ k, w.heap.size ≤ k → ¬ lfoot q V F k) ∧ Below w.heap.size w W0 ∧ Env W0 ∧ (∀ k, lfoot q V F k → 6 ≤ k) ∧ m.Ok) := ⟨h0, x0, x1, x2, hout, b0, he.below b0, h6, ok⟩
  unfold trimL
  clear h x0 x1 x2 hout b0 h0 he h6 ok
  go_enter Tryz.func74, Tryz.ntmps74
  go_wp2_with fail
  refine hN.mono ?_
  rintro e w2 ⟨rfl, b2⟩
  have z2 := cell_on b2 y0
  obtain ⟨W3, fold3⟩ : ∃ W3, w2.alloc (.cells #[.string (nameB l.last)] 9) = W3 := ⟨_, rfl⟩
  obtain ⟨W4, fold4⟩ : ∃ W4, W3.alloc (.cells #[.func (.func 100) #[] #[.pointer (some ⟨w.heap.size + 1 + 1, 0, none⟩), .pointer (some ⟨w.heap.size, 0, none⟩), .pointer (some ⟨w2.heap.size, 0, none⟩), .pointer (some ⟨w.heap.size + 1, 0, none⟩)], .func (.func 101) #[] #[.pointer (some ⟨w.heap.size, 0, none⟩), .pointer (some ⟨w2.heap.size, 0, none⟩)]] 40) = W4 := ⟨_, rfl⟩
  have b3 : Below w2.heap.size w2 W3 := by rw [← fold3]; exact (Below.refl _ _).alloc (Nat.le_refl _) _
  have b4 : Below W3.heap.size W3 W4 := by rw [← fold4]; exact (Below.refl _ _).alloc (Nat.le_refl _) _
  have b24 := keptW b2 (keptW b3 b4)
  have hz : w.heap.size ≤ w2.heap.size := Nat.le_trans HX.out.2.2.2.2.2.1.size b2.size
  have x3 : Boxed W3 w2.heap.size 9 (.string (nameB l.last)) := by rw [← fold3]; exact heap_alloc_new w2 _
  have H4 := HX.out.1.kept b24
  have hS := lrun q p (.slice (some ⟨W3.heap.size, 0, none⟩) 2 2) [⟨100, #[], #[.pointer (some ⟨w.heap.size + 1 + 1, 0, none⟩), .pointer (some ⟨w.heap.size, 0, none⟩), .pointer (some ⟨w2.heap.size, 0, none⟩), .pointer (some ⟨w.heap.size + 1, 0, none⟩)]⟩, ⟨101, #[], #[.pointer (some ⟨w.heap.size, 0, none⟩), .pointer (some ⟨w2.heap.size, 0, none⟩)]⟩] (trimS (nameB l.last) size more) W4 V l F m (fun k _ m1 => m1.Ok ∧ m1.count ≤ m.count + k) (by simp) rfl
    (fun c hc => by
      simp only [List.mem_cons, List.not_mem_nil, or_false] at hc
      rcases hc with rfl | rfl
      · exact ef_trim1
      · exact ef_trim2) H4 (by rw [← fold4]; exact fnrowL W3 _ (by simp)) (fun ad n c e => by injection e with e; injection e with e; rw [← e]; exact HX.out.2.2.2.2.1 _ (Nat.le_trans hz b3.size)) (HX.out.2.2.2.2.2.2.1.below b24) HX.out.2.2.2.2.2.2.2.1 ⟨HX.out.2.2.2.2.2.2.2.2, Nat.le_refl _⟩
    (fun k hk l1 m1 ⟨o1, c1⟩ _ => by
      match k, hk with
      | 0, _ =>
        refine ⟨?_, ?_⟩
        · show (cutL (nameB l.last) size more m1).2.Ok
          unfold cutL
          split
          · exact o1
          · exact M.cut_ok o1 _ _
        · show (cutL (nameB l.last) size more m1).2.count ≤ _
          unfold cutL
          split
          · simp only; omega
          · have := M.cut_count m1 (nameB l.last) size; omega
      | 1, _ => exact ⟨M.sync_ok o1 _, by have := M.sync_count m1 (nameB l.last); show (m1.sync (nameB l.last)).2.count ≤ _; omega⟩)
    (by
      rintro k hk hk' W l1 m1 V1 F1 ⟨o1, c1⟩ hl1 mv hE h61
      have sz := HX.out.2.2.2.2.2.1.size
      have bx : ∀ {B : Nat} {t : TypeId} {v : Value}, Boxed W4 B t v → w.heap.size ≤ B → Boxed W B t v ∧ ¬ lfoot q V1 F1 B := fun {B t v} hB hw => ⟨boxed_moved hB mv (HX.out.2.2.2.2.1 _ hw), fun hf => (mv.sub _ hf).elim (HX.out.2.2.2.2.1 _ hw) (fun h => by have := hB.lt; omega)⟩
      obtain ⟨p0, q0⟩ := bx (boxed_below HX.out.2.1 b24) (Nat.le_refl _)
      obtain ⟨p1, q1⟩ := bx (boxed_below HX.out.2.2.1 b24) (Nat.le_succ _)
      obtain ⟨p2, _⟩ := bx (boxed_below HX.out.2.2.2.1 b24) (by omega)
      obtain ⟨p3, q3⟩ := bx (boxed_below x3 b4) hz
      have one : ∀ {f : Nat} {args : Array Value} {r : Int} {m2 : M}, (Calls Tryz.prog f args W fun e w' => e = .returned (.int .i64 r) ∧ ∃ F', LdAt w' q V1 l1 p F' m2 ∧ Moved W w' (lfoot q V1 F1) (lfoot q V1 F')) → Calls Tryz.prog f args W fun e W' => e = .returned (.int .i64 r) ∧ ∃ V2 F2, LdAt W' q V2 l1 p F2 m2 ∧ Moved W W' (lfoot q V1 F1) (lfoot q V2 F2) := fun hx => hx.mono fun e w' ⟨he, F', h1, h2⟩ => ⟨he, V1, F', h1, h2⟩
      match k, hk with
      | 0, _ => exact one (trim1_at hl1 o1 (by omega) (nameB l.last) (nameB_max _) size more _ _ _ _ p2 p0 p3 p1 q0 q3 q1)
      | 1, _ => exact one (trim2_at hl1 o1 (by omega) (nameB l.last) (nameB_max _) _ _ p0 p3 q0 q3))
  have z3 := cell_on b3 z2
  have HB4 : Hid (Below w.heap.size w W4) := keptW HX.out.2.2.2.2.2.1 b24
  clear hN b2 b3 b4 b24 x3 HX H4 hz
  go_wp2_with (go_at_call 34; refine hS.mono ?_; rintro e w5 ⟨rfl, V', F', h', mv'⟩)
  go_ret
  exact ⟨rfl, V', F', h', (Moved.of_below HB4.out).trans mv'⟩
end
end Go.Proofs.YtjgdmbfkondakaaGreatDoor
