/-
  begin, by its contract.
-/
import Derived.Test.YtjgdmbfkondakaaGreatDoorJLedgers
import Derived.Deep.RegionHeld3
namespace Go.Proofs.YtjgdmbfkondakaaGreatDoor
open Go.RowKit

theorem ef_begin1 : ∀ args w, (callFunc 97 args).run Tryz.prog w = .ok (.enter 97 args) w := enters_of Tryz.func97 (by kernel_rfl) rfl
theorem ef_begin2 : ∀ args w, (callFunc 98 args).run Tryz.prog w = .ok (.enter 98 args) w := enters_of Tryz.func98 (by kernel_rfl) rfl
theorem ef_commit : ∀ args w, (callFunc 50 args).run Tryz.prog w = .ok (.enter 50 args) w := enters_of Tryz.func50 (by kernel_rfl) rfl
section
variable {w : World} {q p : Nat} {V : Value} {l : Lg} {F : Nat → Prop} {m : M}
theorem nameB_max (n : Int) : (nameB n).size ≤ maxLen := by have := nameB_size n; unfold maxLen; omega
/-- The store's calls, on a ledger. -/
theorem LdAt.make (h : LdAt w q V l p F m) (ok : m.Ok) (hc : m.count ≤ 900000) (n : ByteArray) (hs : n.size ≤ maxLen) : Calls Tryz.prog 43 #[.pointer (some ⟨p, 0, none⟩), .string n] w fun e w' => e = .returned (.int .i64 (m.make n).1) ∧ ∃ F', LdAt w' q V l p F' (m.make n).2 ∧ Moved w w' (lfoot q V F) (lfoot q V F') := by
  refine (make_any p F m n w h.st ok hc hs).mono ?_
  rintro e w' ⟨rfl, F', s, mv⟩
  exact ⟨rfl, F', h.go s mv⟩
theorem LdAt.commit (h : LdAt w q V l p F m) (ok : m.Ok) (hc : m.count ≤ 900000) : Calls Tryz.prog 50 #[.pointer (some ⟨p, 0, none⟩)] w fun e w' => e = .returned (.int .i64 m.commit.1) ∧ ∃ F', LdAt w' q V l p F' m.commit.2 ∧ Moved w w' (lfoot q V F) (lfoot q V F') := by
  refine (commit_any p F m w h.st ok hc).mono ?_
  rintro e w' ⟨rfl, F', s, mv⟩
  exact ⟨rfl, F', h.go s mv⟩
set_option maxRecDepth 20000 in
set_option maxHeartbeats 1000000 in
theorem begin1_at (h : LdAt w q V l p F m) (ok : m.Ok) (hc : m.count ≤ 900000) (he : Env w) (n : Int) (hn : -9223372036854775808 ≤ n ∧ n ≤ 9223372036854775807) (B0 B1 : Nat) (hb0 : Boxed w B0 30 (.pointer (some ⟨q, 0, none⟩))) (hb1 : Boxed w B1 3 (.int .i64 n)) (hn0 : ¬ lfoot q V F B0) (hn1 : ¬ lfoot q V F B1) :
    Calls Tryz.prog 97 #[.pointer (some ⟨B0, 0, none⟩), .pointer (some ⟨B1, 0, none⟩)] w fun e w' => e = .returned (.int .i64 (m.make (nameB n)).1) ∧ ∃ F', LdAt w' q V l p F' (m.make (nameB n)).2 ∧ Moved w w' (lfoot q V F) (lfoot q V F') := by
  have c0 := h.cells.1
  have x0 := hb0.cell
  have x1 := hb1.cell
  have bD : Below w.heap.size w w.drew := (Below.refl _ w).drew
  have hN := name_any n hn.1 hn.2 w.drew (he.below bD)
  have HM : Hid (∀ W, Below w.drew.heap.size w.drew W → Calls Tryz.prog 43 #[.pointer (some ⟨p, 0, none⟩), .string (nameB n)] W fun e w' => e = .returned (.int .i64 (m.make (nameB n)).1) ∧ ∃ F', LdAt w' q V l p F' (m.make (nameB n)).2 ∧ Moved W w' (lfoot q V F) (lfoot q V F')) := fun W b => (h.kept (keptW bD b)).make ok hc (nameB n) (nameB_max n)
  have HC : Hid (∀ W G', Moved w.drew W (lfoot q V F) G' → W.cell? ⟨B0, 0, none⟩ = some (.pointer (some ⟨q, 0, none⟩)) ∧ W.cell? ⟨B1, 0, none⟩ = some (.int .i64 n)) := fun W G' mv => ⟨(boxed_moved (boxed_below hb0 bD) mv hn0).cell, (boxed_moved (boxed_below hb1 bD) mv hn1).cell⟩
  generalize (m.make (nameB n)).1 = z at *
  generalize (m.make (nameB n)).2 = m' at *
  generalize nameB n = nm at *
  clear h ok hc hn hb0 hb1 he hn0 hn1
  go_enter Tryz.func97, Tryz.ntmps97
  go_wp2
  go_region_held3 (fun w' => w'.cell? ⟨B0, 0, none⟩ = some (.pointer (some ⟨q, 0, none⟩)) ∧ w'.cell? ⟨q, 0, none⟩ = some (.pointer (some ⟨p, 0, none⟩)) ∧ w'.cell? ⟨B1, 0, none⟩ = some (.int .i64 n)) (go_keep) (first
    | (go_at_call 21; refine hN.mono ?_; rintro e w2 ⟨rfl, b2⟩; have k0 := cell_on b2 x0; have k1 := cell_on b2 c0; have k2 := cell_on b2 x1)
    | (go_at_call 43; refine (HM.out _ b2).mono ?_; rintro e w3 ⟨rfl, F', h3, mv3⟩; have r0 := h3.cells.1; obtain ⟨r1, r2⟩ := HC.out w3 _ ((Moved.of_below b2).trans mv3)))
  all_goals go_wp2
  all_goals go_ret
  all_goals exact ⟨rfl, F', h3, ((Moved.of_below bD).trans (Moved.of_below b2)).trans mv3⟩
set_option maxRecDepth 20000 in
theorem begin2_at (h : LdAt w q V l p F m) (n : Int) (B0 B1 : Nat) (hb0 : Boxed w B0 30 (.pointer (some ⟨q, 0, none⟩))) (hb1 : Boxed w B1 3 (.int .i64 n)) :
    Calls Tryz.prog 98 #[.pointer (some ⟨B1, 0, none⟩), .pointer (some ⟨B0, 0, none⟩)] w fun e w' => e = .returned (.int .i64 0) ∧ LdAt w' q V { l with last := n } p F m ∧ Moved w w' (lfoot q V F) (lfoot q V F) := by
  have x0 := hb0.cell
  have x1 := hb1.cell
  have c2 := h.cells.2.2.1
  have f2 := h.frozen 2
  have HE : Hid (LdAt (w.setCell ⟨q, 2, none⟩ (.int .i64 n)) q V { l with last := n } p F m ∧ Moved w (w.setCell ⟨q, 2, none⟩ (.int .i64 n)) (lfoot q V F) (lfoot q V F)) := h.set (i := 2) (u := .int .i64 n) (l' := { l with last := n }) rfl rfl _ rfl rfl rfl rfl
  clear h hb0 hb1
  go_enter Tryz.func98, Tryz.ntmps98
  go_wp2
  go_ret
  exact ⟨rfl, HE.out⟩
theorem fnrow3 (w : World) (a b c : Value) (n : Nat) (hn : n = w.heap.size) : Row (w.alloc (.cells #[a, b, c] 40)) (.slice (some ⟨n, 0, none⟩) 3 3) [a, b, c] := by
  subst hn
  refine .inr ⟨⟨w.heap.size, 0, none⟩, 3, rfl, Nat.le_refl _, by unfold maxLen; simp, fun j u hj => ?_⟩
  rw [Addr.add_lit, Nat.zero_add]
  simp only [World.cell?]
  rw [heap_alloc_new]
  simpa using hj
set_option maxRecDepth 20000 in
set_option maxHeartbeats 2000000 in
theorem begin_at (h : LdAt w q V l p F m) (ok : m.Ok) (hc : m.count ≤ 800000) (he : Env w) (h6 : ∀ k, lfoot q V F k → 6 ≤ k) (n : Int) (hn : -9223372036854775808 ≤ n ∧ n ≤ 9223372036854775807) :
    Calls Tryz.prog 72 #[.pointer (some ⟨q, 0, none⟩), .int .i64 n] w fun e w' => e = .returned (.int .i64 (beginL l m n).1) ∧ ∃ V' F', LdAt w' q V' (beginL l m n).2.1 p F' (beginL l m n).2.2 ∧ Moved w w' (lfoot q V F) (lfoot q V' F') := by
  obtain ⟨W0, fold0⟩ : ∃ W0, (w.alloc (.cells #[.pointer (some ⟨q, 0, none⟩)] 30)).alloc (.cells #[.int .i64 n] 3) = W0 := ⟨_, rfl⟩
  have b0 : Below w.heap.size w W0 := by rw [← fold0]; exact ((Below.refl _ _).alloc (Nat.le_refl _) _).alloc (by simp) _
  have x0 : Boxed W0 w.heap.size 30 (.pointer (some ⟨q, 0, none⟩)) := by rw [← fold0]; exact (Below.heap_alloc _ _ _ (by simp)).trans (heap_alloc_new w _)
  have x1 : Boxed W0 (w.heap.size + 1) 3 (.int .i64 n) := by
    rw [← fold0]
    have := heap_alloc_new (w.alloc (.cells #[.pointer (some ⟨q, 0, none⟩)] 30)) (.cells #[.int .i64 n] 3)
    rwa [World.size_alloc] at this
  have s0 : W0.heap.size = w.heap.size + 2 := by rw [← fold0]; simp
  have bD : Below W0.heap.size W0 W0.drew := (Below.refl _ W0).drew
  obtain ⟨W1, fold1⟩ : ∃ W1, W0.drew.alloc (.cells #[.func (.func 97) #[] #[.pointer (some ⟨w.heap.size, 0, none⟩), .pointer (some ⟨w.heap.size + 1, 0, none⟩)], .func (.func 50) #[.pointer (some ⟨p, 0, none⟩)] #[], .func (.func 98) #[] #[.pointer (some ⟨w.heap.size + 1, 0, none⟩), .pointer (some ⟨w.heap.size, 0, none⟩)]] 40) = W1 := ⟨_, rfl⟩
  have b1 : Below W0.heap.size W0 W1 := by rw [← fold1]; exact keptW bD ((Below.refl _ _).alloc (Nat.le_refl _) _)
  have b01 := keptW b0 b1
  have h1 := h.kept b01
  have hout : ∀ k, w.heap.size ≤ k → ¬ lfoot q V F k := fun k hk hf => by have := h.lts k hf; omega
  have hrow : Row W1 (.slice (some ⟨W0.heap.size, 0, none⟩) 3 3) (clv [⟨97, #[], #[.pointer (some ⟨w.heap.size, 0, none⟩), .pointer (some ⟨w.heap.size + 1, 0, none⟩)]⟩, ⟨50, #[.pointer (some ⟨p, 0, none⟩)], #[]⟩, ⟨98, #[], #[.pointer (some ⟨w.heap.size + 1, 0, none⟩), .pointer (some ⟨w.heap.size, 0, none⟩)]⟩]) := by rw [← fold1]; exact fnrow3 W0.drew _ _ _ _ rfl
  have hok1 := M.make_ok ok (nameB n)
  have hc1 := M.make_count m (nameB n)
  have hS := lsteps q p (.slice (some ⟨W0.heap.size, 0, none⟩) 3 3) [⟨97, #[], #[.pointer (some ⟨w.heap.size, 0, none⟩), .pointer (some ⟨w.heap.size + 1, 0, none⟩)]⟩, ⟨50, #[.pointer (some ⟨p, 0, none⟩)], #[]⟩, ⟨98, #[], #[.pointer (some ⟨w.heap.size + 1, 0, none⟩), .pointer (some ⟨w.heap.size, 0, none⟩)]⟩] W1 V l F m
    (fun k l1 m1 => (k = 0 → l1 = l ∧ m1 = m) ∧ (k = 1 → l1 = l ∧ m1 = (m.make (nameB n)).2 ∧ (m.make (nameB n)).1 = 0) ∧ (k = 2 → l1 = l ∧ m1 = (m.make (nameB n)).2.commit.2 ∧ (m.make (nameB n)).1 = 0 ∧ (m.make (nameB n)).2.commit.1 = 0) ∧ (k = 3 → (0, l1, m1) = beginL l m n))
    (fun r l1 m1 => (r, l1.die r, m1) = beginL l m n) (by simp)
    (fun c hc => by
      simp only [List.mem_cons, List.not_mem_nil, or_false] at hc
      rcases hc with rfl | rfl | rfl
      · exact ef_begin1
      · exact ef_commit
      · exact ef_begin2) h1 hrow (fun ad n c e => by injection e with e; injection e with e; rw [← e]; exact hout _ (by show w.heap.size ≤ W0.heap.size; omega)) (he.below b01) h6 ⟨fun _ => ⟨rfl, rfl⟩, by simp, by simp, by simp⟩ (by
      rintro k hk W l1 m1 V1 F1 ⟨t0, t1, t2, t3⟩ hl mv hE
      have y0 := boxed_moved (boxed_below x0 b1) mv (hout _ (Nat.le_refl _))
      have y1 := boxed_moved (boxed_below x1 b1) mv (hout _ (Nat.le_succ _))
      have n0 : ¬ lfoot q V1 F1 w.heap.size := fun hf => by
        rcases mv.sub _ hf with hf | hf
        · exact hout _ (Nat.le_refl _) hf
        · have := b1.size; omega
      have n1 : ¬ lfoot q V1 F1 (w.heap.size + 1) := fun hf => by
        rcases mv.sub _ hf with hf | hf
        · exact hout _ (Nat.le_succ _) hf
        · have := b1.size; omega
      match k, hk with
      | 0, _ =>
        obtain ⟨rfl, rfl⟩ := t0 rfl
        refine (begin1_at hl ok (by omega) hE n hn _ _ y0 y1 n0 n1).mono ?_
        rintro e W' ⟨rfl, F', h2, mv2⟩
        refine ⟨_, rfl, V1, l1, F', _, h2, mv2, fun hr => ⟨by simp, fun _ => ⟨rfl, rfl, hr⟩, by simp, by simp⟩, fun hr => ?_⟩
        unfold beginL
        rw [if_pos hr]
      | 1, _ =>
        obtain ⟨rfl, rfl, e1⟩ := t1 rfl
        refine (hl.commit hok1 (by omega)).mono ?_
        rintro e W' ⟨rfl, F', h2, mv2⟩
        refine ⟨_, rfl, V1, l1, F', _, h2, mv2, fun hr => ⟨by simp, by simp, fun _ => ⟨rfl, rfl, e1, hr⟩, by simp⟩, fun hr => ?_⟩
        unfold beginL
        rw [if_neg (by simp [e1]), if_pos hr]
      | 2, _ =>
        obtain ⟨rfl, rfl, e1, e2⟩ := t2 rfl
        refine (begin2_at hl n _ _ y0 y1).mono ?_
        rintro e W' ⟨rfl, h2, mv2⟩
        refine ⟨_, rfl, V1, _, F1, _, h2, mv2, fun hr => ⟨by simp, by simp, by simp, fun _ => ?_⟩, fun hr => absurd rfl hr⟩
        unfold beginL
        rw [if_neg (by simp [e1]), if_neg (by simp [e2])])
  have c0 := (h.kept (keptW b0 bD)).cells.1
  have z0 := (boxed_below x0 bD).cell
  have u0 := (boxed_below x0 b1).cell
  have u1 := h1.cells.1
  have HB : Hid (Below w.heap.size w W1) := b01
  have HC : Hid (∀ W G', Moved W1 W (lfoot q V F) G' → W.cell? ⟨w.heap.size, 0, none⟩ = some (.pointer (some ⟨q, 0, none⟩))) := fun W G' mv => (boxed_moved (boxed_below x0 b1) mv (hout _ (Nat.le_refl _))).cell
  clear x0 x1 b0 b1 h1 hrow hout h he b01 hok1 hc1 ok hc hn s0
  go_enter Tryz.func72, Tryz.ntmps72
  go_wp2
  go_region_held3 (fun w' => w'.cell? ⟨w.heap.size, 0, none⟩ = some (.pointer (some ⟨q, 0, none⟩)) ∧ w'.cell? ⟨q, 0, none⟩ = some (.pointer (some ⟨p, 0, none⟩))) (go_keep) (first
    | (go_at_call 34; refine hS.mono ?_; rintro e w4 ⟨r, rfl, V2, l2, F2, m2, h2, mv2, hq⟩; have k0 := HC.out w4 _ mv2; have k1 := h2.cells.1))
  all_goals go_wp2
  all_goals go_ret
  all_goals
    rcases hq with ⟨rfl, _, _, _, hT⟩ | ⟨hr, l1, hU, rfl⟩
    · have hT := hT rfl
      rw [← hT]
      exact ⟨rfl, V2, F2, h2, (Moved.of_below HB.out).trans mv2⟩
    · rw [← hU]
      exact ⟨rfl, V2, F2, h2, (Moved.of_below HB.out).trans mv2⟩
end
end Go.Proofs.YtjgdmbfkondakaaGreatDoor

/-
  turn, by its contract.
-/
namespace Go.Proofs.YtjgdmbfkondakaaGreatDoor
open Go.RowKit

section
variable {w : World} {q p : Nat} {V : Value} {l : Lg} {F : Nat → Prop} {m : M}
set_option maxRecDepth 20000 in
set_option maxHeartbeats 2000000 in
theorem turn_at (h : LdAt w q V l p F m) (ok : m.Ok) (hc : m.count ≤ 800000) (he : Env w) (h6 : ∀ k, lfoot q V F k → 6 ≤ k) (hl : 0 ≤ l.last ∧ l.last ≤ 999999999) :
    Calls Tryz.prog 40 #[.pointer (some ⟨q, 0, none⟩)] w fun e w' => e = .returned (.int .i64 (turnL l m).1) ∧ ∃ V' F', LdAt w' q V' (turnL l m).2.1 p F' (turnL l m).2.2 ∧ Moved w w' (lfoot q V F) (lfoot q V' F') := by
  obtain ⟨c0, c1, c2, _, _, _⟩ := h.cells
  have bD : Below w.heap.size w w.drew := (Below.refl _ w).drew
  have hN := name_any l.last (by omega) (by omega) w.drew (he.below bD)
  have HRd : Hid (∀ W, Below w.drew.heap.size w.drew W → Calls Tryz.prog 26 #[.pointer (some ⟨p, 0, none⟩), .string (nameB l.last)] W fun e w' => ∃ v, e = .returned (.tuple #[v, .int .i64 (m.read (nameB l.last)).2]) ∧ Holds w' v (m.read (nameB l.last)).1 ∧ Below W.heap.size W w') := fun W b => read_any p F m (nameB l.last) W (h.kept (keptW bD b)).st ok (nameB_max _)
  have HBg : Hid (∀ W, Below w.heap.size w W → LdAt W q V l p F m ∧ Calls Tryz.prog 72 #[.pointer (some ⟨q, 0, none⟩), .int .i64 (l.last + 1)] W fun e w' => e = .returned (.int .i64 (beginL l m (l.last + 1)).1) ∧ ∃ V' F', LdAt w' q V' (beginL l m (l.last + 1)).2.1 p F' (beginL l m (l.last + 1)).2.2 ∧ Moved W w' (lfoot q V F) (lfoot q V' F')) := fun W b => ⟨h.kept b, begin_at (h.kept b) ok hc (he.below b) h6 (l.last + 1) (by omega)⟩
  have hlw : IntKind.i64.wrap (l.last + 1) = l.last + 1 := by rw [IntKind.wrap_i64]; omega
  unfold turnL
  generalize hrd : m.read (nameB l.last) = rd at *
  clear hrd
  obtain ⟨bs, z⟩ := rd
  simp only at HRd ⊢
  clear h ok hc he
  by_cases hz : z = 0
  · subst hz
    by_cases hle : (bs.length : Int) ≤ l.part
    · rw [if_pos (.inr hle)]
      go_enter Tryz.func40, Tryz.ntmps40
      go_wp2
      go_region_held3 (fun w' => w'.cell? ⟨q, 0, none⟩ = some (.pointer (some ⟨p, 0, none⟩)) ∧ w'.cell? ⟨q, 2, none⟩ = some (.int .i64 l.last)) (go_keep) (first
        | (go_at_call 21; refine hN.mono ?_; rintro e w2 ⟨rfl, b2⟩; have k0 := cell_on b2 c0; have k1 := cell_on b2 c2)
        | (go_at_call 26; refine (HRd.out _ b2).mono ?_; rintro e w3 ⟨rv, rfl, hh, b3⟩; obtain ⟨ra, rc, rfl⟩ := hh.slice; have r0 := cell_on b3 k0; have r1 := cell_on b3 k1))
      have g1 := cell_on b3 (cell_on b2 (cell_on bD c1))
      go_wp2
      go_ret
      have bb := keptW (keptW bD b2) b3
      exact ⟨rfl, V, F, (HBg.out _ bb).1, .of_below bb⟩
    · rw [if_neg (by simp; omega)]
      generalize beginL l m (l.last + 1) = bg at *
      obtain ⟨y, lb, mb⟩ := bg
      simp only at HBg ⊢
      by_cases hy : y = 9
      · subst hy
        rw [if_pos rfl]
        go_enter Tryz.func40, Tryz.ntmps40
        go_wp2
        go_region_held3 (fun w' => w'.cell? ⟨q, 0, none⟩ = some (.pointer (some ⟨p, 0, none⟩)) ∧ w'.cell? ⟨q, 2, none⟩ = some (.int .i64 l.last)) (go_keep) (first
          | (go_at_call 21; refine hN.mono ?_; rintro e w2 ⟨rfl, b2⟩; have k0 := cell_on b2 c0; have k1 := cell_on b2 c2)
          | (go_at_call 26; refine (HRd.out _ b2).mono ?_; rintro e w3 ⟨rv, rfl, hh, b3⟩; obtain ⟨ra, rc, rfl⟩ := hh.slice; have r0 := cell_on b3 k0; have r1 := cell_on b3 k1))
        have g1 := cell_on b3 (cell_on b2 (cell_on bD c1))
        have bb := keptW (keptW bD b2) b3
        obtain ⟨_, hBg⟩ := HBg.out _ bb
        have HB3 : Hid (Below w.heap.size w w3) := bb
        clear hN HRd HBg bD b2 b3 bb hh
        go_wp2_with (go_at_call 72; refine hBg.mono ?_; rintro e w4 ⟨rfl, V', F', h4, mv4⟩)
        go_ret
        exact ⟨rfl, V', F', h4, (Moved.of_below HB3.out).trans mv4⟩
      · rw [if_neg hy]
        have hy' : (y == 9) = false := by simpa using hy
        go_enter Tryz.func40, Tryz.ntmps40
        go_wp2
        go_region_held3 (fun w' => w'.cell? ⟨q, 0, none⟩ = some (.pointer (some ⟨p, 0, none⟩)) ∧ w'.cell? ⟨q, 2, none⟩ = some (.int .i64 l.last)) (go_keep) (first
          | (go_at_call 21; refine hN.mono ?_; rintro e w2 ⟨rfl, b2⟩; have k0 := cell_on b2 c0; have k1 := cell_on b2 c2)
          | (go_at_call 26; refine (HRd.out _ b2).mono ?_; rintro e w3 ⟨rv, rfl, hh, b3⟩; obtain ⟨ra, rc, rfl⟩ := hh.slice; have r0 := cell_on b3 k0; have r1 := cell_on b3 k1))
        have g1 := cell_on b3 (cell_on b2 (cell_on bD c1))
        have bb := keptW (keptW bD b2) b3
        obtain ⟨_, hBg⟩ := HBg.out _ bb
        have HB3 : Hid (Below w.heap.size w w3) := bb
        clear hN HRd HBg bD b2 b3 bb hh
        go_wp2_with (go_at_call 72; refine hBg.mono ?_; rintro e w4 ⟨rfl, V', F', h4, mv4⟩)
        go_ret
        exact ⟨rfl, V', F', h4, (Moved.of_below HB3.out).trans mv4⟩
  · rw [if_pos (.inl hz)]
    have hz' : (z != 0) = true := by simpa using hz
    go_enter Tryz.func40, Tryz.ntmps40
    go_wp2
    go_region_held3 (fun w' => w'.cell? ⟨q, 0, none⟩ = some (.pointer (some ⟨p, 0, none⟩)) ∧ w'.cell? ⟨q, 2, none⟩ = some (.int .i64 l.last)) (go_keep) (first
      | (go_at_call 21; refine hN.mono ?_; rintro e w2 ⟨rfl, b2⟩; have k0 := cell_on b2 c0; have k1 := cell_on b2 c2)
      | (go_at_call 26; refine (HRd.out _ b2).mono ?_; rintro e w3 ⟨rv, rfl, hh, b3⟩; obtain ⟨ra, rc, rfl⟩ := hh.slice; have r0 := cell_on b3 k0; have r1 := cell_on b3 k1))
    go_wp2
    go_ret
    have bb := keptW (keptW bD b2) b3
    exact ⟨rfl, V, F, (HBg.out _ bb).1, .of_below bb⟩
end
end Go.Proofs.YtjgdmbfkondakaaGreatDoor
