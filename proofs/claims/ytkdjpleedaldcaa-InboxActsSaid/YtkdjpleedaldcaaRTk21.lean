/-
  THE DOCUMENT's INBOX: Take, Pop, by their contracts.
-/
import Derived.Test.YtkdjpleedaldcaaRPut21
namespace Go.Proofs.Ytkdjpleedaldcaa
open Go.RowKit Go.Maps
set_option maxRecDepth 20000

theorem Dry.far {p g : Nat} {w u v : World} (h : Dry p p w u) (k : Dry g g u v) (hg : w.heap.size ≤ g) : Dry p p w v :=
  ⟨k.os.trans h.os, k.tape.trans h.tape, k.output.trans h.output, Nat.le_trans h.size k.size, fun i hi h1 h2 => (k.block i (Nat.lt_of_lt_of_le hi h.size) (by omega) (by omega)).trans (h.block i hi h1 h2)⟩
section
variable {B : Nat} {w : World} {p : Nat} {v : Value} {m : Ib}
/-- A place is filled. -/
theorem RI.putPlace {g n c : Nat} (h : RI B w p (.slice (some ⟨g, 0, none⟩) n c) m) (hgp : g ≠ p) {k : Nat} (hk : k < m.s) (y : Ms) :
    RI B (((((((w.setCell ⟨g, k * 7, none⟩ (.bool true)).setCell ⟨g, k * 7 + 1, none⟩ (.int .i64 y.origin)).setCell ⟨g, k * 7 + 2, none⟩ (.int .u64 y.seq)).setCell ⟨g, k * 7 + 3, none⟩ (.int .i64 y.hop)).setCell ⟨g, k * 7 + 4, none⟩ (.string y.ex)).setCell ⟨g, k * 7 + 5, none⟩ (.string y.key)).setCell ⟨g, k * 7 + 6, none⟩ (.string y.body)) p (.slice (some ⟨g, 0, none⟩) n c) (putI m k y) ∧
    Dry g g w (((((((w.setCell ⟨g, k * 7, none⟩ (.bool true)).setCell ⟨g, k * 7 + 1, none⟩ (.int .i64 y.origin)).setCell ⟨g, k * 7 + 2, none⟩ (.int .u64 y.seq)).setCell ⟨g, k * 7 + 3, none⟩ (.int .i64 y.hop)).setCell ⟨g, k * 7 + 4, none⟩ (.string y.ex)).setCell ⟨g, k * 7 + 5, none⟩ (.string y.key)).setCell ⟨g, k * 7 + 6, none⟩ (.string y.body)) := by
  have hd : Dry g g w _ := ((((((Dry.set g g w (k * 7) (.bool true)).trans (Dry.set g g _ (k * 7 + 1) (.int .i64 y.origin))).trans (Dry.set g g _ (k * 7 + 2) (.int .u64 y.seq))).trans (Dry.set g g _ (k * 7 + 3) (.int .i64 y.hop))).trans (Dry.set g g _ (k * 7 + 4) (.string y.ex))).trans (Dry.set g g _ (k * 7 + 5) (.string y.key))).trans (Dry.set g g _ (k * 7 + 6) (.string y.body))
  refine ⟨⟨(hd.block p h.lt (fun e => hgp e.symm) (fun e => hgp e.symm)).trans h.blk, ?_⟩, hd⟩
  have := own_put7 h.row (i := k) (by rw [PLi_len]; exact hk) y
  rw [PLi_put] at this
  exact this
set_option maxHeartbeats 1000000 in
theorem ritake_at (h : RI B w p v m) (ok : m.Ok) (hB : B ≤ w.heap.size) (num : Nat) (x : Ms) : Calls Try.prog 12 #[.pointer (some ⟨p, 0, none⟩), .int .u16 num, mv x] w fun e w' => e = .returned (.bool (mayT m num)) ∧ RIPost B w p (takeM m num x) w' := by
  have hs1 := ok.s1
  have hs2 := ok.s2
  obtain ⟨W, fold⟩ : ∃ W, w.alloc (.cells #[.int .i64 x.origin, .int .u64 x.seq, .int .i64 x.hop, .string x.ex, .string x.key, .string x.body] 33) = W := ⟨_, rfl⟩
  have bW : Below w.heap.size w W := by rw [← fold]; exact (Below.refl _ _).alloc (Nat.le_refl _) _
  have hh : W.heap[w.heap.size]? = some (.cells (mcells x).toArray 33 (0, 0)) := by rw [← fold]; exact heap_alloc_new w _
  have hW := h.go bW
  obtain ⟨c0, c1, c2⟩ := hW.cells
  obtain ⟨g, c, rfl, hc1, hc2, hP⟩ := hW.cells7 ok
  have hF := fun X => rfar_any (m.n : Int) (num : Int) X
  have em : mayT m num = (decide (0 ≤ farI m.n num ∧ farI m.n num < m.s) && (lookI m num).isNone) := rfl
  have el : lookI m num = if 0 ≤ farI m.n num ∧ farI m.n num < m.s then m.h (farI m.n num).toNat else none := rfl
  obtain ⟨f, hfe⟩ : ∃ f, farI (m.n : Int) (num : Int) = f := ⟨_, rfl⟩
  rw [hfe] at em el
  simp only [hfe] at hF
  have h63 : (m.s : Int) ≤ 32 := by omega
  have HNo : Hid (mayT m num = false → RIPost B w p (takeM m num x) W) := fun hm => by
    unfold takeM; rw [hm]
    exact RIPost.of_below h bW
  by_cases hf0 : f < 0
  · have hm : mayT m num = false := by rw [em, decide_eq_false (by omega)]; rfl
    rw [hm]
    have HN := HNo.out hm
    have HN' : Hid _ := HN
    clear h hW hP hh HN HNo em el bW ok hm hfe
    go_enter Try.func12, Try.ntmps12
    go_wp2_with fail
    try rw [fold]
    clear fold
    refine (hF W).mono ?_
    rintro e V ⟨rfl, h9⟩
    subst h9
    go_wp2
    go_ret
    exact ⟨rfl, HN'.out⟩
  · by_cases hfs : (m.s : Int) ≤ f
    · have hm : mayT m num = false := by rw [em, decide_eq_false (by omega)]; rfl
      rw [hm]
      have HN := HNo.out hm
      have HN' : Hid _ := HN
      clear h hW hP hh HN HNo em el bW ok hm hfe
      go_enter Try.func12, Try.ntmps12
      go_wp2_with fail
      try rw [fold]
      clear fold
      refine (hF W).mono ?_
      rintro e V ⟨rfl, h9⟩
      subst h9
      go_wp2
      go_ret
      exact ⟨rfl, HN'.out⟩
    · obtain ⟨k, rfl⟩ : ∃ k : Nat, f = k := ⟨f.toNat, by omega⟩
      have hks : k < m.s := by omega
      have hksi : (k : Int) < (m.s : Int) := by omega
      rw [if_pos ⟨by omega, by omega⟩, Int.toNat_natCast] at el
      rw [decide_eq_true (by omega), Bool.true_and, el] at em
      obtain ⟨p0, p1, p2, p3, p4, p5, p6⟩ := hP k hks
      cases hk : m.h k with
      | some y =>
        have hm : mayT m num = false := by rw [em, hk]; rfl
        rw [hm]
        have HN := HNo.out hm
        have HN' : Hid _ := HN
        rw [hk] at p0
        simp only [Option.isSome_some] at p0
        clear h hW hP hh HN HNo em el bW ok hm hfe p1 p2 p3 p4 p5 p6
        go_enter Try.func12, Try.ntmps12
        go_wp2_with fail
        try rw [fold]
        clear fold
        refine (hF W).mono ?_
        rintro e V ⟨rfl, h9⟩
        subst h9
        go_wp2
        go_ret
        exact ⟨rfl, HN'.out⟩
      | none =>
        have hm : mayT m num = true := by rw [em, hk]; rfl
        have ht : takeM m num x = putI m k x := by
          unfold takeM
          rw [if_pos hm]
          show putI m (farI m.n num).toNat x = _
          rw [hfe, Int.toNat_natCast]
        rw [hm, ht]
        rw [hk] at p0
        simp only [Option.isSome_none] at p0
        obtain ⟨ii, hi, hz, hsz, hbz⟩ := info_parts placeInfo
        have HW : Hid (RI B W p (.slice (some ⟨g, 0, none⟩) m.s c) m ∧ Below w.heap.size w W ∧ m.Ok ∧ W.heap[w.heap.size]? = some (.cells (mcells x).toArray 33 (0, 0)) ∧ B ≤ W.heap.size ∧ p < w.heap.size) := ⟨hW, bW, ok, hh, Nat.le_trans hB bW.size, h.lt⟩
        have HRow : Hid (RowOf plcells W (.slice (some ⟨g, 0, none⟩) m.s c) (PLi m)) := hW.row.rng
        have hpl := PLi_len m
        clear h hW hP hh HNo em el bW ok hm ht hfe p1 p2 p3 p4 p5 p6 hk
        go_enter Try.func12, Try.ntmps12
        go_wp2_with fail
        try rw [fold]
        clear fold
        refine (hF W).mono ?_
        rintro e W ⟨rfl, rfl⟩
        have ce2 := cell_alloc21 (w := W) (.cells #[] 63) c2
        go_wp2_with (at_builtin; refine wpList_append_rows (enc := plcells) rfl _ _ 38 rfl Try.underlying38 ii _ 80 hi hz hsz hbz rfl W.heap.size _ _ [] (PLi m) rfl rfl (ownOf_empty W W.heap.size (Nat.le_refl _)) (RowOf.below HRow.out ((Below.refl _ W).alloc (Nat.le_refl _) _) (Nat.le_refl _)) (by unfold maxLen; simp; omega) (by simp; omega) (by simp) ?_; intro v2 w2 own2 gr2 nw2; rw [List.nil_append] at own2; have b2 : Below W.heap.size W w2 := (ownOf_empty (enc := plcells) (K := 7) (T := 63) W W.heap.size (Nat.le_refl _)).below gr2 ((Below.refl _ W).alloc (Nat.le_refl _) _) (by simp) (Nat.le_refl _); obtain ⟨va, vc, hv2⟩ := own2.rng.slice; rw [hpl] at hv2; subst hv2; have d2 := (HW.out.1.go b2).cells.2.2; have d1 := (HW.out.1.go b2).free 2)
        have HR := HW.out.1.newRow (b2.mono (Nat.le_refl _)) rfl rfl own2 HW.out.2.2.2.2.1
        obtain ⟨w3, hw3⟩ : ∃ w3, w3 = w2.setCell ⟨p, 2, none⟩ (.slice va m.s vc) := ⟨_, rfl⟩
        rw [← hw3] at HR ⊢
        obtain ⟨g2, c3, R2, e2, _, hb3, hc3, hm3, hgp⟩ := HR.1.split HW.out.2.2.1
        injection e2 with e2 _ e3
        subst e2 e3
        have hg2 : W.heap.size ≤ g2 := (own2.lt (g := g2) rfl).1
        obtain ⟨g3, c4, e4, _, _, hP3⟩ := HR.1.cells7 HW.out.2.2.1
        injection e4 with e4 _ _
        injection e4 with e4
        injection e4 with e4 _ _
        subst e4
        obtain ⟨q0, q1, q2, q3, q4, q5, q6⟩ := hP3 k hks
        have f3 : ∀ j, w3.frozen? ⟨g2, j, none⟩ = false := fun j => by simp [World.frozen?, hb3]
        have hbx : w3.heap[w.heap.size]? = some (.cells (mcells x).toArray 33 (0, 0)) := (HR.2.block _ (Array.getElem?_eq_some_iff.1 HW.out.2.2.2.1).1 (by have := HW.out.2.2.2.2.2; omega) (by have := HW.out.2.2.2.2.2; omega)).trans HW.out.2.2.2.1
        have k0 : w3.cell? ⟨w.heap.size, 0, none⟩ = some (.int .i64 x.origin) := cell_of_list21 hbx 0 rfl
        have k1 : w3.cell? ⟨w.heap.size, 1, none⟩ = some (.int .u64 x.seq) := cell_of_list21 hbx 1 rfl
        have k2 : w3.cell? ⟨w.heap.size, 2, none⟩ = some (.int .i64 x.hop) := cell_of_list21 hbx 2 rfl
        have k3 : w3.cell? ⟨w.heap.size, 3, none⟩ = some (.string x.ex) := cell_of_list21 hbx 3 rfl
        have k4 : w3.cell? ⟨w.heap.size, 4, none⟩ = some (.string x.key) := cell_of_list21 hbx 4 rfl
        have k5 : w3.cell? ⟨w.heap.size, 5, none⟩ = some (.string x.body) := cell_of_list21 hbx 5 rfl
        have r2 := HR.1.cells.2.2
        have HPut := RI.putPlace HR.1 hgp hks x
        have HD : Hid (Dry p p W w3) := HR.2
        have HPP : Hid _ := HPut
        clear HPut HR own2 gr2 nw2 b2 d2 d1 hw3 c0 c1 c2 p0 hb3 hbx hP3 ce2 HRow
        go_region
        all_goals go_wp2_with fail
        all_goals go_ret
        all_goals exact ⟨rfl, ⟨_, HPP.out.1.go (Below.refl _ _).drew⟩, (Dry.of_below HW.out.2.1).trans ((HD.out.far HPP.out.2 hg2).trans (Dry.of_below (Below.refl _ _).drew))⟩
end
end Go.Proofs.Ytkdjpleedaldcaa
