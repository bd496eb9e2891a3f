/-
  THE DOCUMENT's Drop, by its contract.
-/
import Derived.Test.YtooaiomghbjpiaaRAdd17
import Derived.Deep.RegionLaw
namespace Go.Proofs.Ytooaiomghbjpiaa
open Go.RowKit Go.Maps Go.Sort Go.Shelf
set_option maxRecDepth 20000

def cutR (X : List Ro) (c : Int) : List Ro := X.filter fun x => !decide (x.s.c = c)
theorem cutR_s (X : List Ro) (c : Int) : (cutR X c).map Ro.s = cutC (X.map Ro.s) c := by
  unfold cutR cutC
  rw [List.filter_map]
  rfl
theorem cutR_at {X : List Ro} (ok : LOk (X.map Ro.s)) {c : Int} {k : Nat} (hk : k < X.length) (h1 : X[k].s.c = c) : X.take k ++ X.drop (k + 1) = cutR X c := by
  have hd : X.Pairwise fun a b => a.s.c ≠ b.s.c := by
    have := ok.diff
    rw [List.pairwise_map] at this
    exact this
  rw [List.pairwise_iff_getElem] at hd
  have e : cutR X c = cutR (X.take k) c ++ cutR (X[k] :: X.drop (k + 1)) c := by
    unfold cutR
    rw [← List.filter_append, ← List.drop_eq_getElem_cons hk, List.take_append_drop]
  rw [e]
  congr 1
  · refine (List.filter_eq_self.2 fun x hx => ?_).symm
    obtain ⟨i, hi, rfl⟩ := List.mem_iff_getElem.1 hx
    rw [List.length_take] at hi
    rw [List.getElem_take]
    have := hd i k (by omega) hk (by omega)
    rw [h1] at this
    simpa using this
  · unfold cutR
    rw [List.filter_cons_of_neg (by simp [h1])]
    refine (List.filter_eq_self.2 fun x hx => ?_).symm
    obtain ⟨i, hi, rfl⟩ := List.mem_iff_getElem.1 hx
    rw [List.length_drop] at hi
    rw [List.getElem_drop]
    have := hd k (k + 1 + i) hk (by omega) (by omega)
    rw [h1] at this
    simpa using fun e => this e.symm
theorem row_take {w : World} {b off n cap : Nat} {X : List Ro} (h : K.RowOf roc w (.slice (some ⟨b, off, none⟩) n cap) X) {k : Nat} (hk : k ≤ X.length) : K.RowOf roc w (.slice (some ⟨b, off, none⟩) k cap) (X.take k) := by
  rcases h with ⟨h1, h2⟩ | ⟨ad, cp, h1, h2, h3, h4⟩
  · cases h1
  · injection h1 with e1 e2 e3
    injection e1 with e1
    subst e1 e2 e3
    refine .inr ⟨_, cap, by rw [List.length_take]; congr 1; omega, by rw [List.length_take]; omega, h3, fun j u hj => h4 j u ?_⟩
    rw [← K.cellsOf_take] at hj
    obtain ⟨hl, _⟩ := List.getElem?_eq_some_iff.1 hj
    rw [List.length_take] at hl
    rw [List.getElem?_take_of_lt (by omega)] at hj
    exact hj
theorem row_drop {w : World} {b off n cap : Nat} {X : List Ro} (h : K.RowOf roc w (.slice (some ⟨b, off, none⟩) n cap) X) {k : Nat} (hk : k ≤ X.length) : K.RowOf roc w (.slice (some ⟨b, off + k * 4, none⟩) (n - k) (cap - k)) (X.drop k) := by
  rcases h with ⟨h1, h2⟩ | ⟨ad, cp, h1, h2, h3, h4⟩
  · cases h1
  · injection h1 with e1 e2 e3
    injection e1 with e1
    subst e1 e2 e3
    refine .inr ⟨_, cap - k, by rw [List.length_drop], by rw [List.length_drop]; omega, by omega, fun j u hj => ?_⟩
    rw [← K.cellsOf_drop, List.getElem?_drop] at hj
    have := h4 _ u hj
    rw [show Addr.add ⟨b, off + k * 4, none⟩ j = Addr.add ⟨b, off, none⟩ (k * 4 + j) from by by_cases h1 : j = 0 <;> by_cases h2 : k = 0 <;> simp [Addr.add, h1, h2, Nat.add_assoc] <;> omega]
    exact this
theorem app_more2 {w1 w2 w3 : World} {v2 v3 : Value} {X Y : List Ro} (H2 : Hid (K.OwnOf roc 4 44 w2 w1.heap.size v2 X ∧ Below w1.heap.size w1 w2)) (own3 : K.OwnOf roc 4 44 w3 w1.heap.size v3 (X ++ Y)) (gr3 : w2.grownBy w3 v2.ownBlock) : (∃ a n c, v3 = .slice a n c) ∧ Hid (K.OwnOf roc 4 44 w3 w1.heap.size v3 (X ++ Y) ∧ Below w1.heap.size w1 w3) :=
  ⟨by obtain ⟨a, c, h⟩ := K.RowOf.slice (K.OwnOf.rng own3); exact ⟨a, _, c, h⟩, own3, K.OwnOf.below H2.out.1 gr3 H2.out.2 H2.out.2.size (Nat.le_refl _)⟩
/-- A line of the call's own comes in the elder one's place; then a box of the call's own is written. -/
theorem RdAt.newRow2 {w V w3 : World} {p : Nat} {v v' : Value} {X X' : List Ro} (h : RdAt w p v X) (hb : Below w.heap.size w w3) (own : K.OwnOf roc 4 44 w3 (w.heap.size + 1) v' X') (sub : ∀ x ∈ X', x ∈ X) (hos : V.os = w3.os) (ht : V.tape = w3.tape) (hou : V.output = w3.output) (hs : w3.heap.size ≤ V.heap.size) (hp : V.heap[p]? = some (.cells #[v'] 28 (0, 0))) (ho : ∀ k, k ≠ p → k ≠ w.heap.size → V.heap[k]? = w3.heap[k]?) :
    (∀ x ∈ X, Own1 V 0 31 x.tv (ucells x.s.t)) ∧ RdAt V p v' X' ∧ Moved w V (footR p v X) (footR p v' X') := by
  have hp0 : p < w.heap.size := h.lts p (.inl rfl)
  have h3 := h.kept hb
  have hnt : ∀ x ∈ X, ∀ k, x.tv.ownBlock = some k → k ≠ p ∧ k < w.heap.size := fun x hx k hk => by
    refine ⟨fun e => ?_, h.lts k (.inr (.inr ⟨x, hx, hk⟩))⟩
    obtain ⟨_, cur, hc⟩ := own1_blk (h.tags x hx) hk
    rw [e, h.blk] at hc
    simp at hc
  have ht' : ∀ x ∈ X, Own1 V 0 31 x.tv (ucells x.s.t) := fun x hx => own1_same (h3.tags x hx) fun g hg => ho g (hnt x hx g hg).1 (by have := (hnt x hx g hg).2; omega)
  refine ⟨ht', ⟨hp, ownK_same (own.mono (Nat.zero_le _)) fun g hg => ho g (by have := (own.lt hg).1; omega) (by have := (own.lt hg).1; omega), fun x hx => ht' x (sub x hx)⟩, ?_⟩
  refine ⟨hos.trans hb.os, ht.trans hb.tape, hou.trans hb.output, Nat.le_trans hb.size hs, fun k hk hn => (ho k (fun e => hn (.inl e)) (by omega)).trans (hb.block k hk), ?_⟩
  rintro k (rfl | hk | ⟨x, hx, hk⟩)
  · exact .inl (.inl rfl)
  · exact .inr (by have := (own.lt hk).1; omega)
  · exact .inl (.inr (.inr ⟨x, sub x hx, hk⟩))
set_option linter.unusedSimpArgs false in
set_option maxHeartbeats 4000000 in
theorem rdrop_at {w : World} {p : Nat} {v : Value} {X : List Ro} (h : RdAt w p v X) (ok : LOk (X.map Ro.s)) (c : Int) :
    Calls Try.prog 25 #[.pointer (some ⟨p, 0, none⟩), .int .i64 c] w fun e w' => e = .returned (.tuple #[roV (findR X c), .int .i64 (dropE (X.map Ro.s) c)]) ∧ (∀ x ∈ X, Own1 w' 0 31 x.tv (ucells x.s.t)) ∧ ∃ v', RdAt w' p v' (cutR X c) ∧ Moved w w' (footR p v X) (footR p v' (cutR X c)) := by
  obtain ⟨W, fold⟩ : ∃ W, w.alloc (.cells #[.int .i64 0, .string ⟨#[]⟩, .int .i64 0, .slice none 0 0] 44) = W := ⟨_, rfl⟩
  have bW : Below w.heap.size w W := by rw [← fold]; exact (Below.refl _ w).alloc (Nat.le_refl _) _
  have hZ : W.heap[w.heap.size]? = some (.cells #[.int .i64 0, .string ⟨#[]⟩, .int .i64 0, .slice none 0 0] 44 (0, 0)) := by rw [← fold]; exact heap_alloc_new w _
  have hsz : W.heap.size = w.heap.size + 1 := by rw [← fold]; simp
  have hdW := h.kept bW
  have hF := rfind_at hdW c
  have hr := h.row.rng
  have hfs := findR_s X c
  have HL : Hid (∀ w1, Below W.heap.size W w1 → RdAt w1 p v X) := fun w1 b => hdW.kept b
  obtain ⟨va, vc, rfl⟩ := hr.slice
  rcases pos_cases X c with ⟨h1, h2⟩ | ⟨k, hk, h1, h2, h3, h4⟩
  · rw [h1] at hF
    have hcut : cutR X c = X := by
      unfold cutR
      rw [List.filter_eq_self]
      intro x hx
      unfold findR at h2
      simpa using List.find?_eq_none.1 h2 x hx
    have e1 : dropE (X.map Ro.s) c = 3 := by unfold dropE; rw [← hfs, h2]; rfl
    have HE : Hid (∀ w', Below w.heap.size w w' → (∀ x ∈ X, Own1 w' 0 31 x.tv (ucells x.s.t)) ∧ ∃ v', RdAt w' p v' X ∧ Moved w w' (footR p (.slice va X.length vc) X) (footR p v' X)) := fun w' b => ⟨(h.kept b).tags, _, h.kept b, Moved.of_below b⟩
    rw [h2, hcut, e1]
    simp only [roV]
    clear h1 h2 hr h HL hdW hfs e1 hcut
    go_enter Try.func25, Try.ntmps25
    go_wp2_with fail
    refine hF.mono ?_
    rintro e w1 ⟨rfl, b1⟩
    obtain ⟨y0, y1, y2, y3, f0, f1, f2, f3⟩ := one_cells ((b1.block _ (by omega)).trans hZ)
    have HB : Hid (Below w.heap.size w w1) := bW.trans (b1.mono bW.size)
    clear b1 hF bW hZ fold
    go_wp2
    refine bodyPost_ret (v := .tuple #[.agg #[.int .i64 0, .string ⟨#[]⟩, .int .i64 0, .slice none 0 0], .int .i64 3]) (by simp [results, Try.results25, go_sem, y0, y1, y2, y3]) rfl ?_
    exact ⟨rfl, HE.out _ ((((HB.out.setCell (Nat.le_refl _) _).setCell (Nat.le_refl _) _).setCell (Nat.le_refl _) _).setCell (Nat.le_refl _) _)⟩
  · rw [h1] at hF
    have e1 : dropE (X.map Ro.s) c = 0 := by unfold dropE; rw [← hfs, h2]; rfl
    have hcut := cutR_at ok hk h3
    obtain ⟨x, hx⟩ : ∃ z, X[k] = z := ⟨_, rfl⟩
    rw [h2, e1, hx]
    simp only [roV]
    have hn32 : X.length ≤ 32 := by have := ok.few; rw [List.length_map] at this; exact this
    obtain ⟨b, off, e2, r2⟩ := (ros_at hr).2.2 k hk
    subst e2
    clear r2
    have HX : Hid (∀ w1, Below W.heap.size W w1 → w1.cell? ⟨p, 0, none⟩ = some (.slice (some ⟨b, off, none⟩) X.length vc) ∧ w1.cell? ⟨b, off + k * 4, none⟩ = some (.int .i64 x.s.c) ∧ w1.cell? ⟨b, off + k * 4 + 1, none⟩ = some (.string x.s.q) ∧ w1.cell? ⟨b, off + k * 4 + 2, none⟩ = some (.int .i64 x.s.m) ∧ w1.cell? ⟨b, off + k * 4 + 3, none⟩ = some (.slice x.a x.s.t.length x.c)) := fun w1 b1 => by
      have hd1 := HL.out w1 b1
      obtain ⟨b', off', e1, g⟩ := (ros_at hd1.row.rng).2.2 k hk
      injection e1 with e1
      injection e1 with e1 e2
      subst e1 e2
      rw [hx] at g
      exact ⟨hd1.cell.1, g⟩
    have hk' : (k : Int) < (X.length : Int) := by omega
    obtain ⟨k1, hk1⟩ : ∃ z, k + 1 = z := ⟨_, rfl⟩
    have ek1 : (k : Int) + 1 = (k1 : Int) := by omega
    have hk1' : (k1 : Int) ≤ (X.length : Int) := by omega
    have hcap : (X.length : Int) ≤ (vc : Int) ∧ X.length ≤ vc := by
      rcases hr with ⟨h, _⟩ | ⟨_, _, h, hh, _⟩
      · cases h
      · injection h with _ _ h; omega
    obtain ⟨hcap1, hcap2⟩ := hcap
    have hkc : (k : Int) ≤ (vc : Int) := by omega
    obtain ⟨n, hn⟩ : ∃ z, X.length = z := ⟨_, rfl⟩
    rw [hn] at HX hk' hk1' hcap1 hcap2 hn32
    obtain ⟨i0, hi0, hz0, hzs, hzb⟩ := oneInfo
    have H0 : Hid (RdAt w p (.slice (some ⟨b, off, none⟩) X.length vc) X ∧ X.take k ++ X.drop (k + 1) = cutR X c ∧ X.length = n ∧ k + 1 = k1 ∧ k < n ∧ Below w.heap.size w W ∧ W.heap.size = w.heap.size + 1 ∧ W.heap[w.heap.size]? = some (.cells #[.int .i64 0, .string ⟨#[]⟩, .int .i64 0, .slice none 0 0] 44 (0, 0))) := ⟨h, hcut, hn, hk1, by omega, bW, hsz, hZ⟩
    clear h1 h2 hr h HL hdW hx h3 h4 hfs e1 hcut hn hk1 ok bW hZ hsz
    clear hk
    generalize x.s.c = xc at *
    generalize x.s.q = xq at *
    generalize x.s.m = xm at *
    generalize x.s.t.length = xl at *
    generalize x.a = xa at *
    generalize x.c = xk at *
    go_enter Try.func25, Try.ntmps25
    go_wp2_with fail
    refine hF.mono ?_
    rintro e w1 ⟨rfl, b1⟩
    obtain ⟨cp, g0, g1, g2, g3⟩ := HX.out w1 b1
    have HB1 : Hid (Below W.heap.size W w1) := b1
    clear b1 hF HX fold
    go_wp2
    obtain ⟨V, hV⟩ : ∃ V, w1.alloc (.cells #[.int .i64 xc, .string xq, .int .i64 xm, .slice xa xl xk] 44) = V := ⟨_, rfl⟩
    rw [hV]
    have bV : Below w1.heap.size w1 V := by rw [← hV]; exact (Below.refl _ w1).alloc (Nat.le_refl _) _
    have kV : V.cell? ⟨p, 0, none⟩ = some (.slice (some ⟨b, off, none⟩) n vc) := cell_on bV cp
    have pV : p < V.heap.size := World.block_lt_of_cell? _ _ kV
    have np1 : ¬ p = V.heap.size := by omega
    have np2 : ¬ V.heap.size = p := by omega
    have kE : (V.alloc (.cells #[] 44)).cell? ⟨p, 0, none⟩ = some (.slice (some ⟨b, off, none⟩) n vc) := cell_on ((Below.refl _ V).alloc (Nat.le_refl _) _) kV
    have hwk : IntKind.i64.wrap (k1 : Int) = (k1 : Int) := by rw [IntKind.wrap_i64]; omega
    have bw1 : w.heap.size < w1.heap.size := by have := HB1.out.size; have := H0.out.2.2.2.2.2.2.1; omega
    have HbV : Hid (V.heap.size = w1.heap.size + 1) := by show _ = _; rw [← hV]; simp
    have HR : Hid (∀ Y : World, Below V.heap.size V Y → K.RowOf roc Y (.slice (some ⟨b, off, none⟩) k vc) (X.take k) ∧ K.RowOf roc Y (.slice (if vc = k1 then some ⟨b, off, none⟩ else some ⟨b, off + k1 * 4, none⟩) (n - k1) (vc - k1)) (X.drop k1)) := fun Y bY => by
      obtain ⟨h0, _, hn, hk1, hkn, hbW, hsz, _⟩ := H0.out
      have hrY := (((((h0.kept hbW).kept HB1.out).kept bV).kept bY).row).rng
      rw [hn] at hrY
      refine ⟨row_take hrY (by omega), ?_⟩
      by_cases hvk : vc = k1
      · rw [if_pos hvk, List.drop_eq_nil_of_le (by omega)]
        exact .inr ⟨_, vc - k1, by congr 1; simp; omega, by simp, by unfold maxLen; omega, fun j u hj => by simp [K.cellsOf] at hj⟩
      · rw [if_neg hvk]
        exact row_drop hrY (by omega)
    have HV : Hid (V.heap[w.heap.size]? = some (.cells #[.int .i64 0, .string ⟨#[]⟩, .int .i64 0, .slice none 0 0] 44 (0, 0)) ∧ V.heap[w1.heap.size]? = some (.cells #[.int .i64 xc, .string xq, .int .i64 xm, .slice xa xl xk] 44 (0, 0)) ∧ Below w.heap.size w V ∧ V.heap[p]? = some (.cells #[.slice (some ⟨b, off, none⟩) n vc] 28 (0, 0))) := by
      obtain ⟨h0, _, hn, hk1, hkn, hbW, hsz, hz⟩ := H0.out
      refine ⟨(bV.block _ bw1).trans ((HB1.out.block _ (by omega)).trans hz), by rw [← hV]; exact heap_alloc_new w1 _, (hbW.trans (HB1.out.mono hbW.size)).trans (bV.mono (by omega)), ?_⟩
      have := ((h0.kept hbW).kept HB1.out).kept bV
      rw [← hn]
      exact this.blk
    have fV : V.frozen? ⟨p, 0, none⟩ = false := by simp [World.frozen?, HV.out.2.2.2]
    have htk : (X.take k).length = k := by rw [List.length_take, H0.out.2.2.1]; have := H0.out.2.2.2.2.1; omega
    have hdk : (X.drop k1).length = n - k1 := by rw [List.length_drop, H0.out.2.2.1]
    have hpw : p < w.heap.size := H0.out.1.lts p (.inl rfl)
    have d1 : ¬ p = w1.heap.size := by omega
    have d2 : ¬ w1.heap.size = p := by omega
    have d3 : ¬ p = w.heap.size := by omega
    have d4 : ¬ w.heap.size = p := by omega
    have d5 : ¬ w.heap.size = w1.heap.size := by omega
    have d6 : ¬ w1.heap.size = w.heap.size := by omega
    have HE : Hid (∀ w3 v3 a0 a1 a2 a3, K.OwnOf roc 4 44 w3 V.heap.size v3 (X.take k ++ X.drop k1) → Below V.heap.size V w3 → (∀ x ∈ X, Own1 (((((w3.setCell ⟨p, 0, none⟩ v3).setCell ⟨w.heap.size, 0, none⟩ a0).setCell ⟨w.heap.size, 1, none⟩ a1).setCell ⟨w.heap.size, 2, none⟩ a2).setCell ⟨w.heap.size, 3, none⟩ a3) 0 31 x.tv (ucells x.s.t)) ∧ ∃ v', RdAt (((((w3.setCell ⟨p, 0, none⟩ v3).setCell ⟨w.heap.size, 0, none⟩ a0).setCell ⟨w.heap.size, 1, none⟩ a1).setCell ⟨w.heap.size, 2, none⟩ a2).setCell ⟨w.heap.size, 3, none⟩ a3) p v' (cutR X c) ∧ Moved w (((((w3.setCell ⟨p, 0, none⟩ v3).setCell ⟨w.heap.size, 0, none⟩ a0).setCell ⟨w.heap.size, 1, none⟩ a1).setCell ⟨w.heap.size, 2, none⟩ a2).setCell ⟨w.heap.size, 3, none⟩ a3) (footR p (.slice (some ⟨b, off, none⟩) X.length vc) X) (footR p v' (cutR X c))) := fun w3 v3 a0 a1 a2 a3 own b3 => by
      obtain ⟨h0, hcut, hn, hk1, hkn, hbW, hsz, _⟩ := H0.out
      rw [← hk1, hcut] at own
      have hbw : Below w.heap.size w w3 := HV.out.2.2.1.trans (b3.mono HV.out.2.2.1.size)
      have r := h0.newRow2 (V := ((((w3.setCell ⟨p, 0, none⟩ v3).setCell ⟨w.heap.size, 0, none⟩ a0).setCell ⟨w.heap.size, 1, none⟩ a1).setCell ⟨w.heap.size, 2, none⟩ a2).setCell ⟨w.heap.size, 3, none⟩ a3) hbw (own.mono (by have := HbV.out; omega)) (fun x hx => (List.mem_filter.1 hx).1) rfl rfl rfl (by simp) (by
        rw [Below.heap_setCell _ _ _ _ d3, Below.heap_setCell _ _ _ _ d3, Below.heap_setCell _ _ _ _ d3, Below.heap_setCell _ _ _ _ d3]
        exact heap_set0 ((hbw.block p hpw).trans h0.blk) v3) (fun j h1 h2 => by
        rw [Below.heap_setCell _ _ _ _ h2, Below.heap_setCell _ _ _ _ h2, Below.heap_setCell _ _ _ _ h2, Below.heap_setCell _ _ _ _ h2, Below.heap_setCell _ _ _ _ h1])
      exact ⟨r.1, v3, r.2⟩
    clear cp g0 g1 g2 g3 hV HB1
    go_cut [] from 8 to 40 (fun wx => ∃ (w3 : World) (wa : Option Addr) (wn wc : Nat), wx = w3.setCell ⟨p, 0, none⟩ (.slice wa wn wc) ∧ Hid (K.OwnOf roc 4 44 w3 V.heap.size (.slice wa wn wc) (X.take k ++ X.drop k1) ∧ Below V.heap.size V w3))
    case first =>
      first
        | (go_region_law (first
        | (refine K.step_append_rows (enc := roc) rfl (.tmp 22) (.tmp 28) 26 rfl Try.underlying26 i0 _ 56 hi0 hz0 hzs hzb rfl V.heap.size (.slice (some ⟨V.heap.size, 0, none⟩) 0 0) (.slice (some ⟨b, off, none⟩) k vc) [] (X.take k) (by simp [Act.eval, Act.put]) (by simp [Act.eval, Act.put]) (K.ownOf_empty V.drew _ (Nat.le_refl _)) (HR.out _ ((Below.refl _ V).alloc (Nat.le_refl _) _)).1 (by rw [htk]; unfold maxLen; simp; omega) (by rw [htk]; simp; omega) (by simp) ?_; intro v2 w2 own2 gr2 nw2; obtain ⟨⟨ua, uc, hv2⟩, H2⟩ := app_new (w1 := V) own2 ⟨gr2.os, gr2.tape, gr2.output, gr2.size, gr2.block⟩; rw [htk] at hv2; subst hv2; have c2 := cell_on H2.out.2 kV; clear own2 gr2 nw2)
        | (refine K.step_append_rows (enc := roc) rfl (.tmp 29) (.tmp 36) 26 rfl Try.underlying26 i0 _ 56 hi0 hz0 hzs hzb rfl V.heap.size (.slice ua k uc) (.slice (if vc = k1 then some ⟨b, off, none⟩ else some ⟨b, off + k1 * 4, none⟩) (n - k1) (vc - k1)) (X.take k) (X.drop k1) (by simp [Act.eval, Act.put]) (by simp [Act.eval, Act.put]) H2.out.1 (HR.out _ H2.out.2).2 (by rw [htk, hdk]; unfold maxLen; omega) (by rw [htk, hdk]; omega) H2.out.2.size ?_; intro v3 w3 own3 gr3 nw3; obtain ⟨⟨wa, wn, wc, hv3⟩, H3⟩ := app_more2 H2 own3 gr3; subst hv3; have c3 := cell_on H3.out.2 kV; have f3 : w3.frozen? ⟨p, 0, none⟩ = false := (by rw [H3.out.2.frozen (p := ⟨p, 0, none⟩) pV]; exact fV); clear own3 gr3 nw3)))
        | fail
      all_goals go_wp2
      all_goals go_meet
      all_goals exact ⟨_, _, _, _, rfl, H3⟩
    case rest =>
      obtain ⟨w3, wa, wn, wc2, rfl, H3⟩ := hcut
      have c3 := cell_on H3.out.2 kV
      obtain ⟨x0, x1, x2, x3, _, _, _, _⟩ := one_cells ((H3.out.2.block w1.heap.size (by have := HbV.out; omega)).trans HV.out.2.1)
      obtain ⟨y0, y1, y2, y3, z0, z1, z2, z3⟩ := one_cells ((H3.out.2.block w.heap.size (by have := HbV.out; omega)).trans HV.out.1)
      go_wp2
      refine bodyPost_ret (v := .tuple #[.agg #[.int .i64 xc, .string xq, .int .i64 xm, .slice xa xl xk], .int .i64 0]) (by simp [results, Try.results25, go_sem, y0, y1, y2, y3, d1, d2, d3, d4, d5, d6]) rfl ?_
      exact ⟨rfl, HE.out _ _ _ _ _ _ H3.out.1 H3.out.2⟩
end Go.Proofs.Ytooaiomghbjpiaa
