/-
  THE DOCUMENT's INBOX: Pop, by its contract.
-/
import Derived.Test.YtkdjpleedaldcaaRTk21
namespace Go.Proofs.Ytkdjpleedaldcaa
open Go.RowKit Go.Maps
set_option maxRecDepth 20000

section
variable {B : Nat} {w : World} {p : Nat} {v : Value} {m : Ib}
theorem RI.popped (h : RI B w p v m) {w3 : World} (hb : Below w.heap.size w w3) {m' : Ib} (hs : m'.s = m.s) {v3 : Value} (own : OwnOf plcells 7 63 w3 w.heap.size v3 (PLi m')) (hB : B ≤ w.heap.size) {x : Int} (hx : x = (m'.n : Int)) : RIPost B w p m' ((w3.setCell ⟨p, 2, none⟩ v3).setCell ⟨p, 1, none⟩ (.int .u16 x)) := by
  subst hx
  have hb2 : w3.heap[p]? = some (.cells #[.int .i64 m.s, .int .u16 m.n, v] 40 (0, 0)) := (hb.block p h.lt).trans h.blk
  have h1 := heap_setCell_same w3 p 2 _ 40 v3 hb2
  have h2 := heap_setCell_same _ p 1 _ 40 (.int .u16 (m'.n : Int)) h1
  refine ⟨⟨v3, ⟨?_, ?_⟩⟩, ((Dry.of_below hb).trans (Dry.set p p w3 2 _)).trans (Dry.set p p _ 1 _)⟩
  · rw [h2, hs]
    rfl
  · have hne : ∀ g, v3.ownBlock = some g → g ≠ p := fun g hg => by have := (own.lt hg).1; have := h.lt; omega
    exact (own.same fun g hg => (Below.heap_setCell _ _ _ _ (by simpa using hne g hg)).trans (Below.heap_setCell _ _ _ _ (by simpa using hne g hg))).mono hB
set_option maxHeartbeats 1000000 in
theorem ripop_at (h : RI B w p v m) (ok : m.Ok) (hB : B ≤ w.heap.size) : Calls Try.prog 14 #[.pointer (some ⟨p, 0, none⟩)] w fun e w' => e = .returned (.bool (m.h 0).isSome) ∧ RIPost B w p (popM m) w' := by
  have hs1 := ok.s1
  have hs2 := ok.s2
  have hn2 := ok.n2
  obtain ⟨c0, c1, c2⟩ := h.cells
  obtain ⟨g, c, rfl, hc1, hc2, hP⟩ := h.cells7 ok
  obtain ⟨p0, _⟩ := hP 0 (by omega)
  simp only [Nat.zero_mul] at p0
  have h63 : (m.s : Int) ≤ 32 := by omega
  have h0s : (0 : Int) < (m.s : Int) := by omega
  cases hb : (m.h 0).isSome with
  | false =>
    rw [hb] at p0
    have HN : Hid (RIPost B w p (popM m) w) := by
      have : popM m = m := by unfold popM; rw [hb]; rfl
      rw [this]; exact RIPost.of_below h (Below.refl _ _)
    clear h hP ok
    go_enter Try.func14, Try.ntmps14
    go_wp2
    go_ret
    exact ⟨rfl, HN.out⟩
  | true =>
    rw [hb] at p0
    obtain ⟨ii, hi, hz, hsz, hbz⟩ := info_parts placeInfo
    have hpl := PLi_len m
    have hdl : ((PLi m).drop 1).length = m.s - 1 := by rw [List.length_drop, hpl]
    have hpop := PLi_pop ok hb
    have hps : (popM m).s = m.s ∧ (popM m).n = (m.n + 1) % 65536 := by unfold popM; rw [if_pos hb]; exact ⟨rfl, rfl⟩
    have HRow : Hid (RowOf plcells w (.slice (if c = 1 then some ⟨g, 0, none⟩ else some ⟨g, 7, none⟩) (m.s - 1) (c - 1)) ((PLi m).drop 1)) := by
      obtain ⟨g', c', R, e1, _, hg, hc, hm, _⟩ := h.split ok
      injection e1 with e1 _ e3
      injection e1 with e1
      injection e1 with e1 _ _
      subst e1 e3
      by_cases h1 : c = 1
      · rw [if_pos h1]
        have hnil : (PLi m).drop 1 = [] := List.eq_nil_of_length_eq_zero (by omega)
        rw [hnil]
        exact .inr ⟨⟨g, 0, none⟩, c - 1, by simp; omega, Nat.zero_le _, by omega, fun j u hj => by simp [cellsOf_nil] at hj⟩
      · rw [if_neg h1]
        refine .inr ⟨⟨g, 7, none⟩, c - 1, by rw [hdl], by rw [hdl]; omega, by omega, fun j u hj => ?_⟩
        rw [← cellsOf_drop, List.getElem?_drop] at hj
        rw [Go.WideShapes.add_plain, cell_of_row w g _ _ 63 (0, 0) hg]
        have hlt := (List.getElem?_eq_some_iff.1 hj).1
        simp only [List.getElem?_toArray]
        rw [List.getElem?_append_left (by omega)]
        simpa using hj
    have HH : Hid (RI B w p (.slice (some ⟨g, 0, none⟩) m.s c) m ∧ p < w.heap.size) := ⟨h, h.lt⟩
    have hc1i : (1 : Int) ≤ (m.s : Int) := by omega
    have hci : (m.s : Int) ≤ (c : Int) := by omega
    have hcm : (c : Int) ≤ 9223372036854775807 := by unfold maxLen at hc2; omega
    have ce2 := cell_alloc21 (w := w) (.cells #[] 63) c2
    clear h hP
    go_enter Try.func14, Try.ntmps14
    go_wp2_with (first
      | (at_builtin; refine wpList_append_rows (enc := plcells) rfl _ _ 38 rfl Try.underlying38 ii _ 80 hi hz hsz hbz rfl w.heap.size _ _ [] ((PLi m).drop 1) rfl rfl (ownOf_empty w w.heap.size (Nat.le_refl _)) (RowOf.below HRow.out ((Below.refl _ w).alloc (Nat.le_refl _) _) (Nat.le_refl _)) (by unfold maxLen; simp only [List.length_nil]; omega) (by simp only [List.length_nil]; omega) (by simp) ?_; intro v2 w2 own2 gr2 nw2; rw [List.nil_append] at own2; obtain ⟨va2, vc2, hv2⟩ := own2.rng.slice; rw [hdl] at hv2; subst hv2; have b2 : Below w.heap.size w w2 := (ownOf_empty (enc := plcells) (K := 7) (T := 63) w w.heap.size (Nat.le_refl _)).below gr2 ((Below.refl _ w).alloc (Nat.le_refl _) _) (by simp) (Nat.le_refl _))
      | (at_builtin; refine wpList_append_rows (enc := plcells) rfl _ _ 38 rfl Try.underlying38 ii _ 80 hi hz hsz hbz rfl w.heap.size _ _ ((PLi m).drop 1) [zeroP] rfl rfl (own2.alloc _) (rowK_one _ _ _ rfl) (by unfold maxLen; simp only [List.length_singleton]; omega) (by simp only [List.length_singleton]; omega) (by have := b2.size; simp; omega) ?_; intro v3 w3 own3 gr3 nw3; have b3 : Below w.heap.size w w3 := OwnOf.below (own2.alloc _) gr3 (b2.alloc b2.size _) (by have := b2.size; simp; omega) (Nat.le_refl _); rw [hpop] at own3; obtain ⟨va3, vc3, hv3⟩ := own3.rng.slice; rw [PLi_len, hps.1] at hv3; subst hv3; have d2 := (HH.out.1.go b3).cells.2.2; have d1 := (HH.out.1.go b3).cells.2.1; have f1 := (HH.out.1.go b3).free 1; have f2 := (HH.out.1.go b3).free 2))
    all_goals go_ret
    all_goals exact ⟨rfl, HH.out.1.popped b3 hps.1 own3 hB (by rw [hps.2, IntKind.wrap_u16]; omega)⟩
end
end Go.Proofs.Ytkdjpleedaldcaa
