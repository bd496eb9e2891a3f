/-
  THE DOCUMENT's Settle, by its contract.
-/
import Derived.Test.YtooaiomghbjpiaaRAdd17
import Derived.Test.YtooaiomghbjpiaaRDrop17
import Derived.Test.YtooaiomghbjpiaaJIns17
import Derived.BigQuiet
import Derived.BigRegion
namespace Go.Proofs.Ytooaiomghbjpiaa
open Go.RowKit Go.Maps Go.Sort Go.Shelf
set_option maxRecDepth 20000

theorem cells_set4 (L : List Ro) (i j : Nat) (hi : i < L.length) (hj : j < 4) (u : Value) (x' : Ro) (hx : (roc L[i]).set j u = roc x') : (K.cellsOf roc L).set (i * 4 + j) u = K.cellsOf roc (L.set i x') := by
  induction L generalizing i with
  | nil => simp at hi
  | cons r t ih =>
    cases i with
    | zero =>
      rw [List.set_cons_zero, K.cellsOf_cons, K.cellsOf_cons, List.set_append_left _ _ (by simp [roc]; omega)]
      simp only [Nat.zero_mul, Nat.zero_add]
      rw [show (roc r).set j u = roc x' from hx]
    | succ i =>
      have hl : (roc r).length = 4 := rfl
      rw [List.set_cons_succ, K.cellsOf_cons, K.cellsOf_cons, List.set_append_right _ _ (by rw [hl]; omega), hl, show (i + 1) * 4 + j - 4 = i * 4 + j by omega]
      rw [ih i (by simpa using hi) hx]
theorem own_set4 {w : World} {T : TypeId} {B g n cap : Nat} {L : List Ro} (h : K.OwnOf roc 4 T w B (.slice (some ⟨g, 0, none⟩) n cap) L) {i j : Nat} (hi : i < L.length) (hj : j < 4) (u : Value) (x' : Ro) (hx : (roc L[i]).set j u = roc x') : K.OwnOf roc 4 T (w.setCell ⟨g, i * 4 + j, none⟩ u) B (.slice (some ⟨g, 0, none⟩) n cap) (L.set i x') := by
  have hc := cells_set4 L i j hi hj u x' hx
  obtain ⟨h1, h2⟩ := h
  unfold K.OwnOf World.ownsRow
  have hl : (L.set i x').length = L.length := List.length_set
  rw [hl, ← hc]
  refine ⟨by rw [List.length_set]; exact h1, ?_⟩
  rcases h2 with ⟨hv, _⟩ | ⟨g', cap', cur, hv, h3, h4, h5, h6, h7, h8⟩
  · cases hv
  · injection hv with hv1 hv2 hv3
    injection hv1 with hv1
    injection hv1 with hv1
    subst hv1 hv2 hv3
    refine .inr ⟨g, cap, cur.setIfInBounds (i * 4 + j) u, rfl, h3, ?_, h5, h6, by simpa using h7, ?_⟩
    · simp [World.setCell, Array.getElem?_modify, h4]
    · rw [← h8]
      simp only [Array.toList_setIfInBounds]
      rw [List.take_set]
theorem isU17 : Elem Try.prog 38 31 (.int .u64 0) 8 := ⟨Try.underlying38, info_parts infoU, rfl⟩
theorem row_newU (w : World) (e : TypeId) (u : Value) (n : Nat) (hn : n = w.heap.size) : Row (w.alloc (.cells #[u] e)) (.slice (some ⟨n, 0, none⟩) 1 1) [u] := by
  subst hn; exact row_one w e u
theorem cutU_take {l : List Int} {t : Int} {k : Nat} (hk : k < l.length) : cutU t (l.take (k + 1)) = cutU t (l.take k) ++ if l[k] = t then [] else [l[k]] := by
  unfold cutU
  rw [List.take_succ_eq_append_getElem hk, List.filter_append]
  by_cases h : l[k] = t <;> simp [h]
theorem cutU_len (t : Int) (l : List Int) (k : Nat) : (cutU t (l.take k)).length ≤ k := Nat.le_trans (List.length_filter_le _ _) (by rw [List.length_take]; omega)
/-- What a settled tag leaves of a line. -/
theorem settle_set {X : List Ro} (ok : LOk (X.map Ro.s)) {c t : Int} {k : Nat} (hk : k < X.length) (h1 : X[k].s.c = c) (hh : hasB X[k].s t = true) (hf : findR X c = some X[k]) (a : Option Addr) (m : Nat) : (X.set k ⟨settleS X[k].s t, a, m⟩).map Ro.s = settleL (X.map Ro.s) c t := by
  have hfs := findR_s X c
  rw [hf] at hfs
  have e : settleE (X.map Ro.s) c t = 0 := by unfold settleE; rw [← hfs]; simp [hh]
  unfold settleL
  rw [if_pos e]
  have hd : X.Pairwise fun a b => a.s.c ≠ b.s.c := by
    have := ok.diff
    rw [List.pairwise_map] at this
    exact this
  rw [List.pairwise_iff_getElem] at hd
  apply List.ext_getElem
  · simp
  · intro i h2 h3
    have hi : i < X.length := by simpa using h2
    simp only [List.getElem_map, List.getElem_set]
    by_cases ei : k = i
    · subst ei
      simp [h1]
    · rw [if_neg ei, if_neg]
      intro e2
      rcases Nat.lt_or_gt_of_ne ei with h | h
      · exact hd k i hk hi h (by rw [h1, e2])
      · exact hd i k hi hk h (by rw [h1, e2])
theorem RdAt.again {w V : World} {p : Nat} {v v' : Value} {X X' : List Ro} (h : RdAt w p v X) (hos : V.os = w.os) (ht : V.tape = w.tape) (hou : V.output = w.output) (hs : w.heap.size ≤ V.heap.size) (ho : ∀ k, k < w.heap.size → k ≠ p → V.heap[k]? = w.heap[k]?) (hp : V.heap[p]? = some (.cells #[v'] 28 (0, 0))) (own : K.OwnOf roc 4 44 V w.heap.size v' X') (tags : ∀ x ∈ X', Own1 V 0 31 x.tv (ucells x.s.t) ∧ ∀ k, x.tv.ownBlock = some k → footR p v X k ∨ w.heap.size ≤ k) : ∃ F', Rd V p F' (X'.map Ro.s) ∧ Moved w V (footR p v X) F' := by
  refine ⟨footR p v' X', ⟨v', X', ⟨hp, own.mono (Nat.zero_le _), fun x hx => (tags x hx).1⟩, rfl, rfl⟩, hos, ht, hou, hs, fun k hk hn => ho k hk (fun e => hn (.inl e)), ?_⟩
  rintro k (rfl | hk | ⟨x, hx, hk⟩)
  · exact .inl (.inl rfl)
  · exact .inr (own.lt hk).1
  · exact (tags x hx).2 k hk
set_option maxHeartbeats 4000000 in
theorem rsettle_any (p : Nat) (F : Nat → Prop) (L : List Se) (c t : Int) (w : World) (h : Rd w p F L) (ok : LOk L) :
    Calls Try.prog 28 #[.pointer (some ⟨p, 0, none⟩), .int .i64 c, .int .u64 t] w fun e w' => e = .returned (settleV L c t) ∧ ∃ F', Rd w' p F' (settleL L c t) ∧ Moved w w' F F' := by
  obtain ⟨v, X, hd, rfl, rfl⟩ := h
  have hF := rfind_at hd c
  have hr := hd.row.rng
  obtain ⟨va, vc, rfl⟩ := hr.slice
  have hfs := findR_s X c
  rcases pos_cases X c with ⟨h1, h2⟩ | ⟨k, hk, h1, h2, h3, h4⟩
  · rw [h1] at hF
    rw [h2] at hfs
    have e1 : settleV (X.map Ro.s) c t = .tuple #[.string ⟨#[]⟩, .int .i64 3] := by unfold settleV; rw [← hfs]; rfl
    have e2 : settleL (X.map Ro.s) c t = X.map Ro.s := by unfold settleL settleE; rw [← hfs]; rfl
    have HE : Hid (∀ w1, Below w.heap.size w w1 → ∃ F', Rd w1 p F' (X.map Ro.s) ∧ Moved w w1 (footR p (.slice va X.length vc) X) F') := fun w1 b => ⟨_, ⟨_, X, hd.kept b, rfl, rfl⟩, Moved.of_below b⟩
    rw [e1, e2]
    clear hd hr hfs e1 e2 h1 h2 ok
    go_enter Try.func28, Try.ntmps28
    go_wp2_with fail
    refine hF.mono ?_
    rintro e w1 ⟨rfl, b1⟩
    have HG : Hid _ := HE.out w1 b1
    clear b1
    go_wp2
    go_ret2
    exact ⟨rfl, HG.out⟩
  · rw [h1] at hF
    obtain ⟨x, hx⟩ : ∃ z, X[k] = z := ⟨_, rfl⟩
    have hxm : x ∈ X := by rw [← hx]; exact List.getElem_mem hk
    have hxo := ok.ok x.s (List.mem_map.2 ⟨x, hxm, rfl⟩)
    rw [h2, hx] at hfs
    obtain ⟨b, off, e2, r2⟩ := (ros_at hr).2.2 k hk
    subst e2
    clear r2
    have HX : Hid (∀ w1, Below w.heap.size w w1 → w1.cell? ⟨p, 0, none⟩ = some (.slice (some ⟨b, off, none⟩) X.length vc) ∧ w1.cell? ⟨b, off + k * 4 + 3, none⟩ = some (.slice x.a x.s.t.length x.c) ∧ Row w1 (.slice x.a x.s.t.length x.c) (ucells x.s.t)) := fun w1 b1 => by
      have hd1 := hd.kept b1
      obtain ⟨b', off', e1, g⟩ := (ros_at hd1.row.rng).2.2 k hk
      injection e1 with e1
      injection e1 with e1 e2
      subst e1 e2
      rw [hx] at g
      exact ⟨hd1.cell.1, g.2.2.2, (hd1.tags x hxm).row⟩
    have hk' : (k : Int) < (X.length : Int) := by omega
    have hlen : x.s.t.length ≤ 100 := by have := hxo.len; have := hxo.m2; omega
    have HH : Hid (∀ w1, Below w.heap.size w w1 → Calls Try.prog 45 #[.slice x.a x.s.t.length x.c, .int .u64 t] w1 fun e w' => e = .returned (.bool (hasB x.s t)) ∧ w' = w1) := fun w1 b1 => rhas_any _ x.s.t t w1 (HX.out w1 b1).2.2 (by omega)
    cases hB : hasB x.s t with
    | false =>
      have e1 : settleV (X.map Ro.s) c t = .tuple #[.string ⟨#[]⟩, .int .i64 10] := by unfold settleV; rw [← hfs]; simp [hB]
      have e2 : settleL (X.map Ro.s) c t = X.map Ro.s := by unfold settleL settleE; rw [← hfs]; simp [hB]
      have HE : Hid (∀ w1, Below w.heap.size w w1 → ∃ F', Rd w1 p F' (X.map Ro.s) ∧ Moved w w1 (footR p (.slice (some ⟨b, off, none⟩) X.length vc) X) F') := fun w1 b => ⟨_, ⟨_, X, hd.kept b, rfl, rfl⟩, Moved.of_below b⟩
      rw [e1, e2]
      rw [hB] at HH
      clear hd hr hfs e1 e2 h1 h2 h3 h4 ok hx hxo hxm hB
      clear hk
      generalize x.s.t.length = tl at *
      go_enter Try.func28, Try.ntmps28
      go_wp2_with fail
      refine hF.mono ?_
      rintro e w1 ⟨rfl, b1⟩
      obtain ⟨c0, c1, _⟩ := HX.out w1 b1
      have hHa := HH.out w1 b1
      have HG : Hid _ := HE.out w1 b1
      clear b1
      go_wp2_with fail
      refine hHa.mono ?_
      rintro e w1 ⟨rfl, rfl⟩
      go_wp2
      go_ret2
      exact ⟨rfl, HG.out⟩
    | true =>
      have e1 : settleV (X.map Ro.s) c t = .tuple #[.string x.s.q, .int .i64 0] := by unfold settleV; rw [← hfs]; simp [hB]
      have HSet : Hid (∀ a m, (X.set k ⟨settleS x.s t, a, m⟩).map Ro.s = settleL (X.map Ro.s) c t) := fun a m => by
        have := settle_set ok hk h3 (by rw [hx]; exact hB) h2 (t := t) a m
        rw [hx] at this
        exact this
      obtain ⟨ts, hts⟩ : ∃ z, x.s.t = z := ⟨_, rfl⟩
      obtain ⟨tl, htl⟩ : ∃ z, ts.length = z := ⟨_, rfl⟩
      obtain ⟨n, hn⟩ : ∃ z, X.length = z := ⟨_, rfl⟩
      have HE : Hid (∀ w2 w3 a m g cap, Below w.heap.size w w2 → Below w2.heap.size w2 w3 → K.OwnOf roc 4 44 w3 w2.heap.size (.slice (some ⟨g, 0, none⟩) n cap) X → Own1 w2 w.heap.size 31 (.slice a (cutU t ts).length m) (ucells (cutU t ts)) → ∃ F', Rd ((w3.setCell ⟨p, 0, none⟩ (.slice (some ⟨g, 0, none⟩) n cap)).setCell ⟨g, k * 4 + 3, none⟩ (.slice a (cutU t ts).length m)) p F' (settleL (X.map Ro.s) c t) ∧ Moved w ((w3.setCell ⟨p, 0, none⟩ (.slice (some ⟨g, 0, none⟩) n cap)).setCell ⟨g, k * 4 + 3, none⟩ (.slice a (cutU t ts).length m)) (footR p (.slice (some ⟨b, off, none⟩) X.length vc) X) F') := fun w2 w3 a m g cap b2 b3 own ot => by
        have hgl := (own.lt (g := g) rfl).1
        have hpl : p < w.heap.size := hd.lts p (.inl rfl)
        have s2 := b2.size
        have s3 := b3.size
        have hgp : g ≠ p := by omega
        have b23 : Below w.heap.size w w3 := b2.trans (b3.mono s2)
        have hd3 := hd.kept b23
        have hoth : ∀ j, j ≠ p → j ≠ g → ((w3.setCell ⟨p, 0, none⟩ (.slice (some ⟨g, 0, none⟩) n cap)).setCell ⟨g, k * 4 + 3, none⟩ (.slice a (cutU t ts).length m)).heap[j]? = w3.heap[j]? := fun j j1 j2 => by rw [Below.heap_setCell _ _ _ _ j2, Below.heap_setCell _ _ _ _ j1]
        have own2 : K.OwnOf roc 4 44 (w3.setCell ⟨p, 0, none⟩ (.slice (some ⟨g, 0, none⟩) n cap)) w2.heap.size (.slice (some ⟨g, 0, none⟩) n cap) X := own.same fun j hj => by
          have hj' : g = j := by simpa [Value.ownBlock] using hj
          rw [Below.heap_setCell _ _ _ _ (by show j ≠ p; omega)]
        have own3 := own_set4 own2 hk (j := 3) (by decide) (.slice a (cutU t ts).length m) ⟨settleS x.s t, a, m⟩ (by rw [hx]; simp [roc, settleS, hts])
        have r := hd.again (V := (w3.setCell ⟨p, 0, none⟩ (.slice (some ⟨g, 0, none⟩) n cap)).setCell ⟨g, k * 4 + 3, none⟩ (.slice a (cutU t ts).length m)) b23.os b23.tape b23.output (by simpa using b23.size) (fun j j1 j2 => (hoth j j2 (by omega)).trans (b23.block j j1)) (by rw [Below.heap_setCell _ _ _ _ hgp.symm]; exact heap_set0 ((b23.block p hpl).trans hd.blk) _) (own3.mono s2) (fun y hy => by
          rcases List.mem_or_eq_of_mem_set hy with hy | rfl
          · have hyl : ∀ j, y.tv.ownBlock = some j → j < w.heap.size ∧ j ≠ p := fun j hj => ⟨hd.lts j (.inr (.inr ⟨y, hy, hj⟩)), fun e => by
              obtain ⟨_, cur, hcu⟩ := own1_blk (hd.tags y hy) hj
              rw [e, hd.blk] at hcu
              simp at hcu⟩
            exact ⟨own1_same (hd3.tags y hy) fun j hj => hoth j (hyl j hj).2 (by have := (hyl j hj).1; omega), fun j hj => .inl (.inr (.inr ⟨y, hy, hj⟩))⟩
          · have e : (settleS x.s t).t = cutU t ts := by simp [settleS, hts]
            refine ⟨?_, fun j hj => .inr ?_⟩
            · unfold Ro.tv
              simp only [e]
              refine own1_same (own1_lower ot (Nat.zero_le _)) fun j hj => ?_
              have hjl := own_lt ot hj
              rw [hoth j (by have := (own1_blk ot hj).1; omega) (by omega)]
              exact b3.block j hjl
            · unfold Ro.tv at hj
              simp only [e] at hj
              exact (own1_blk ot hj).1)
        rw [HSet.out] at r
        exact r
      have HR : Hid (∀ Y, Below w.heap.size w Y → Y.cell? ⟨p, 0, none⟩ = some (.slice (some ⟨b, off, none⟩) n vc) ∧ p < Y.heap.size ∧ Y.frozen? ⟨p, 0, none⟩ = false ∧ K.RowOf roc Y (.slice (some ⟨b, off, none⟩) n vc) X) := fun Y bY => by
        have hdY := hd.kept bY
        rw [hn] at hdY
        exact ⟨hdY.cell.1, hdY.lts p (.inl rfl), hdY.cell.2, hdY.row.rng⟩
      have HC : Hid (∀ w2 w3 v3, K.OwnOf roc 4 44 w3 (World.heap w2).size v3 X → ∃ g cap, v3 = .slice (some ⟨g, 0, none⟩) n cap ∧ ¬ g < w2.heap.size ∧ w3.cell? ⟨g, k * 4 + 3, none⟩ = some (.slice x.a tl x.c) ∧ w3.cell? ⟨g, k * 4 + 1, none⟩ = some (.string x.s.q) ∧ w3.frozen? ⟨g, k * 4 + 3, none⟩ = false) := fun w2 w3 v3 own => by
        obtain ⟨a3, c3, hv3⟩ := own.rng.slice
        subst hv3
        have h9 := (ros_at own.rng).2.2 k hk
        rcases own.2 with ⟨e, _⟩ | ⟨g, cap, cur, e, _, hg, _⟩
        · injection e with e1 e2 e3; omega
        · injection e with e1 e2 e3
          subst e1 e3
          obtain ⟨b', off', e4, k0, k1, k2, k3⟩ := h9
          injection e4 with e4
          injection e4 with e4 e5
          subst e4 e5
          rw [hx, hts, htl] at k3
          rw [hx] at k1
          refine ⟨_, _, by rw [hn], by have := (own.lt (g := g) rfl).1; omega, by simpa using k3, by simpa using k1, by simp [World.frozen?, hg]⟩
      rw [e1]
      rw [hB] at HH
      rw [hts, htl] at HX HH hlen
      rw [hn] at HX hk'
      have HN : Hid (X.length = n ∧ n ≤ 32) := ⟨hn, by have := ok.few; rw [List.length_map] at this; omega⟩
      clear hd hr hfs e1 h1 h2 h3 h4 ok hx hxo hxm hB HSet
      clear hk hn
      generalize settleL (X.map Ro.s) c t = LL at *
      generalize x.s.q = xq at *
      generalize x.a = xa at *
      generalize x.c = xk at *
      obtain ⟨i0, hi0, hz0, hzs, hzb⟩ := oneInfo
      have hE : Elem Try.prog 38 31 (.int .u64 0) 8 := isU17
      go_enter Try.func28, Try.ntmps28
      go_wp2_with fail
      refine hF.mono ?_
      rintro e w1 ⟨rfl, b1⟩
      obtain ⟨c0, c1, cr⟩ := HX.out w1 b1
      have hHa := HH.out w1 b1
      have HB1 : Hid (Below w.heap.size w w1 ∧ Row w1 (.slice xa tl xk) (ucells ts)) := ⟨b1, cr⟩
      clear b1 cr
      go_wp2_with fail
      refine hHa.mono ?_
      rintro e w1 ⟨rfl, rfl⟩
      go_wp2
      go_loopw [9, 11, 37] (fun u9 _ u37 wr => ∃ j : Nat, u37 = .int .i64 (j : Int) ∧ j ≤ tl ∧ Hid (Own1 wr w1.heap.size 31 u9 (ucells (cutU t (ts.take j))) ∧ Below w1.heap.size w1 wr)) (fun _ _ u37 _ => tl - (intOf u37).toNat)
      case atStart => exact ⟨0, rfl, Nat.zero_le _, own1_nil _ _ _, Below.refl _ _⟩
      case round =>
        obtain ⟨j, rfl, hj, HJ⟩ := hrel
        obtain ⟨ac, hac⟩ : ∃ z, cutU t (ts.take j) = z := ⟨_, rfl⟩
        obtain ⟨nl, hnl⟩ : ∃ z, ac.length = z := ⟨_, rfl⟩
        have hnj : nl ≤ j := by rw [← hnl, ← hac]; exact cutU_len _ _ _
        rw [hac] at HJ
        obtain ⟨oa, oc, hu⟩ := HJ.out.1.row.sliceU
        rw [hnl] at hu
        subst hu
        have HA : Hid (cutU t (ts.take j) = ac ∧ ac.length = nl) := ⟨hac, hnl⟩
        clear hac hnl
        have hws : w1.heap.size ≤ wr.heap.size := HJ.out.2.size
        by_cases hlt : j < tl
        · have hlt' : (j : Int) < (tl : Int) := by omega
          have hjl : j < ts.length := by omega
          obtain ⟨bt, ot, cap', hv, _, _, hcs⟩ := HB1.out.2.atU (by omega)
          have hy0 := hcs j hjl
          rw [htl] at hv
          injection hv with hv1 _ _
          subst hv1
          obtain ⟨y, hy⟩ : ∃ z, ts[j] = z := ⟨_, rfl⟩
          rw [hy] at hy0
          have hyc := cell_on HJ.out.2 hy0
          have hct := cutU_take (t := t) hjl
          rw [hy, HA.out.1] at hct
          clear hcs hy hy0
          by_cases he : y = t
          · rw [if_pos he, List.append_nil] at hct
            have hb : (y == t) = true := by simpa using he
            have hbn : (y != t) = false := by simpa using he
            have HC2 : Hid (cutU t (ts.take (j + 1)) = ac) := hct
            clear hct
            go_wp2
            go_roundw
            case rel => exact ⟨j + 1, by go_num, by omega, by rw [HC2.out]; exact HJ⟩
            case measure => simp [intOf]; omega
          · rw [if_neg he] at hct
            have hb : (y == t) = false := by simpa using he
            have hbn : (y != t) = true := by simpa using he
            have HC2 : Hid (cutU t (ts.take (j + 1)) = ac ++ [y]) := hct
            clear hct
            go_wp2_with (at_builtin; refine wpList_append_row rfl _ _ 38 31 (.int .u64 0) 8 hE rfl w1.heap.size _ _ (ucells ac) [.int .u64 y] rfl rfl ?_ ?_ ?_ ?_ ?_ ?_ ?_; (exact World.ownsRow.alloc HJ.out.1 _); (exact row_newU _ _ _ _ (by simp)); (simp [Value.oneCell']); (rw [ucells_length, HA.out.2]; simp; omega); (rw [ucells_length, HA.out.2]; simp; omega); (simp; omega); intro v4 w4 own4 hb4 hs4; obtain ⟨oa4, oc4, hv4⟩ := own4.row.slice; generalize (ucells ac ++ [Value.int .u64 y]).length = l4 at hv4; subst hv4; have H4 : Hid (Own1 w4 w1.heap.size 31 (.slice oa4 l4 oc4) (ucells (ac ++ [y])) ∧ Below w1.heap.size w1 w4) := ⟨(by rw [ucells_append]; exact own4), (HJ.out.2.alloc hws _).trans hb4⟩; clear own4 hb4 hs4)
            go_roundw
            case rel => exact ⟨.slice oa4 l4 oc4, .int .u64 y, .int .i64 ((j : Int) + 1), ⟨j + 1, by go_num, by omega, by rw [HC2.out]; exact H4⟩, rfl, rfl, rfl⟩
            case measure => simp [intOf]; omega
        · have hlt' : ¬ (j : Int) < (tl : Int) := by omega
          obtain rfl : j = tl := by omega
          have hcu : cutU t ts = ac := by rw [← HA.out.1, List.take_of_length_le (by omega)]
          have bwr : Below w.heap.size w wr := HB1.out.1.trans (HJ.out.2.mono HB1.out.1.size)
          obtain ⟨q0, q1, q2, q3⟩ := HR.out wr bwr
          have HW : Hid (Below w.heap.size w wr ∧ Own1 wr w.heap.size 31 (.slice oa nl oc) (ucells ac) ∧ ∀ o, K.RowOf roc (wr.alloc o) (.slice (some ⟨b, off, none⟩) n vc) X) := ⟨bwr, own1_lower HJ.out.1 HB1.out.1.size, fun o => (HR.out _ (bwr.alloc bwr.size o)).2.2.2⟩
          rw [hcu, HA.out.2] at HE
          clear bwr q3 hcu
          go_wp2_with (at_builtin; refine K.wpList_append_rows (enc := roc) rfl _ _ 26 rfl Try.underlying26 i0 _ 56 hi0 hz0 hzs hzb rfl wr.heap.size (.slice (some ⟨wr.heap.size, 0, none⟩) 0 0) (.slice (some ⟨b, off, none⟩) n vc) [] X rfl rfl (K.ownOf_empty wr _ (Nat.le_refl _)) (HW.out.2.2 _) ?_ ?_ ?_ ?_; (rw [HN.out.1]; have := HN.out.2; unfold maxLen; simp; omega); (rw [HN.out.1]; have := HN.out.2; simp; omega); (simp); intro v3 w3 own3 gr3 nw3; obtain ⟨_, H3⟩ := app_new own3 gr3; obtain ⟨g, cap, hv3, g0, g1, g2, g3⟩ := HC.out wr w3 v3 H3.out.1; subst hv3; have c3 := cell_on H3.out.2 q0; have f3 : w3.frozen? ⟨p, 0, none⟩ = false := (by rw [H3.out.2.frozen (p := ⟨p, 0, none⟩) q1]; exact q2); have n1 : ¬ g = p := (by omega); have n2 : ¬ p = g := (by omega); clear own3 gr3 nw3)
          go_ret2
          exact ⟨rfl, HE.out wr w3 _ _ _ _ HW.out.1 H3.out.2 H3.out.1 HW.out.2.1⟩
end Go.Proofs.Ytooaiomghbjpiaa

/-
  THE DOCUMENT's Took, by its contract.
-/
namespace Go.Proofs.Ytooaiomghbjpiaa
open Go.RowKit Go.Maps Go.Sort Go.Shelf
set_option maxRecDepth 20000

theorem ucells_one (l : List Int) : ∀ u ∈ ucells l, u.oneCell' = true := by
  intro u hu
  unfold ucells at hu
  obtain ⟨x, _, rfl⟩ := List.mem_map.1 hu
  rfl
theorem ur_of {W : World} {base : Nat} {v : Value} {l : List Int} {c : Int} (h : Own1 W base 31 v (ucells l ++ [.int .u64 c])) : ∃ g cap, v = .slice (some ⟨g, 0, none⟩) (l.length + 1) cap ∧ UR W base g cap (insAt l c l.length) := by
  have e : ucells l ++ [.int .u64 c] = ucells (l ++ [c]) := by rw [ucells_append]; rfl
  rw [e] at h
  have hl : (ucells (l ++ [c])).length = l.length + 1 := by rw [ucells_length]; simp
  rcases h.2 with ⟨_, h2⟩ | ⟨g, cap, cur, h1, h2⟩
  · rw [hl] at h2; omega
  · rw [hl] at h1
    refine ⟨g, cap, h1, ?_⟩
    unfold UR
    rw [insAt_end]
    simp only [List.size_toArray, List.length_append, List.length_singleton]
    rw [← h1]
    exact h
theorem UR.own {W : World} {base g cap : Nat} {l : List Int} (h : UR W base g cap l.toArray) : Own1 W base 31 (.slice (some ⟨g, 0, none⟩) l.length cap) (ucells l) := h
/-- A client's box, with a row of tags of its own. -/
structure TkS (w W : World) (bx g cap : Nat) (c : Int) (q : ByteArray) (m : Int) (d : Array Int) : Prop where
  ur : UR W w.heap.size g cap d
  box : W.heap[bx]? = some (.cells #[.int .i64 c, .string q, .int .i64 m, .slice (some ⟨g, 0, none⟩) d.size cap] 44 (0, 0))
  bel : Below w.heap.size w W
  lo : w.heap.size ≤ bx
section
variable {w W : World} {bx g cap : Nat} {c m : Int} {q : ByteArray} {d : Array Int}
theorem TkS.ne (h : TkS w W bx g cap c q m d) : g ≠ bx := by
  obtain ⟨cur, hg, _⟩ := h.ur.blk
  have hb := h.box
  rintro rfl
  rw [hg] at hb
  simp at hb
theorem TkS.swap (h : TkS w W bx g cap c q m d) {i j : Nat} (hi : i < d.size) (hj : j < d.size) : TkS w ((W.setCell ⟨g, i, none⟩ (.int .u64 d[j]!)).setCell ⟨g, j, none⟩ (.int .u64 d[i]!)) bx g cap c q m (swp d i j) := by
  refine ⟨h.ur.swap hi hj, ?_, h.ur.swapBelow h.bel _ _ _ _, h.lo⟩
  rw [size_swpU, Below.heap_setCell _ _ _ _ h.ne.symm, Below.heap_setCell _ _ _ _ h.ne.symm]
  exact h.box
theorem TkS.drewN (h : TkS w W bx g cap c q m d) (n : Nat) : TkS w (W.drewN n) bx g cap c q m d := ⟨h.ur.same rfl, h.box, ⟨h.bel.os, h.bel.tape, h.bel.output, h.bel.size, h.bel.block⟩, h.lo⟩
end
theorem heap_set3 {w : World} {p : Nat} {a b c d : Value} {t : TypeId} (h : w.heap[p]? = some (.cells #[a, b, c, d] t (0, 0))) (v : Value) : (w.setCell ⟨p, 3, none⟩ v).heap[p]? = some (.cells #[a, b, c, v] t (0, 0)) := by
  simp [World.setCell, Array.getElem?_modify, h]
theorem tks_new {w Z w4 : World} {bx : Nat} {c m t : Int} {q : ByteArray} {v0 v4 : Value} {ts : List Int} (bZ : Below w.heap.size w Z) (hb : Z.heap[bx]? = some (.cells #[.int .i64 c, .string q, .int .i64 m, v0] 44 (0, 0))) (lo : w.heap.size ≤ bx) (own : Own1 w4 Z.heap.size 31 v4 (ucells ts ++ [.int .u64 t])) (b4 : Below Z.heap.size Z w4) :
    ∃ g cap, v4 = .slice (some ⟨g, 0, none⟩) (ts.length + 1) cap ∧ Hid (TkS w (w4.setCell ⟨bx, 3, none⟩ v4) bx g cap c q m (insAt ts t ts.length)) := by
  obtain ⟨g, cap, hv, hu⟩ := ur_of own
  have hbl : bx < Z.heap.size := (Array.getElem?_eq_some_iff.1 hb).1
  have hgl := hu.lt.2
  refine ⟨g, cap, hv, UR.same (show UR w4 w.heap.size g cap _ from own1_lower hu bZ.size) (Below.heap_setCell _ _ _ _ (by show g ≠ bx; omega)), ?_, (bZ.trans (b4.mono bZ.size)).setCell lo _, lo⟩
  rw [insAt_size _ _ _ (Nat.le_refl _), ← hv]
  exact heap_set3 ((b4.block bx hbl).trans hb) v4
/-- What Took leaves. -/
theorem rtook_end {w W V w3 : World} {p bx g cap : Nat} {v v' v3 : Value} {X : List Ro} {c c2 m : Int} {q : ByteArray} {l : List Int} {o : Obj} {x' : Ro} (hd : RdAt w p v X) (S : TkS w W bx g cap c2 q m l.toArray) (hV : RdAt V p v' (cutR X c)) (mv : Moved W V (footR p v X) (footR p v' (cutR X c)))
    (own : K.OwnOf roc 4 44 w3 0 v3 (cutR X c ++ [x'])) (gr : (V.alloc o).grownBy w3 v'.ownBlock) (nw : K.NewOr (V.alloc o) v' v3) (hx' : x'.tv = .slice (some ⟨g, 0, none⟩) l.length cap) (hl : x'.s.t = l) :
    ∃ F', Rd (w3.setCell ⟨p, 0, none⟩ v3) p F' ((cutR X c ++ [x']).map Ro.s) ∧ Moved w (w3.setCell ⟨p, 0, none⟩ v3) (footR p v X) F' := by
  have hpw : p < w.heap.size := hd.lts p (.inl rfl)
  have hpV : p < V.heap.size := hV.lts p (.inl rfl)
  have hsz : V.heap.size ≤ w3.heap.size := by have := gr.size; simp at this; omega
  have bw := S.bel
  have hvp : v'.ownBlock ≠ some p := fun e => by
    obtain ⟨_, cur, hc⟩ := ownK_blk hV.row e
    rw [hV.blk] at hc; simp at hc
  have h3 : ∀ k, k < V.heap.size → v'.ownBlock ≠ some k → w3.heap[k]? = V.heap[k]? := fun k hk hn => (gr.block k (by simp; omega) (fun e => hn e.symm)).trans (Below.heap_alloc _ _ k hk)
  have hZ : ∀ k, k ≠ p → (w3.setCell ⟨p, 0, none⟩ v3).heap[k]? = w3.heap[k]? := fun k hk => Below.heap_setCell _ _ _ _ hk
  have hv3 : ∀ k, v3.ownBlock = some k → v'.ownBlock = some k ∨ V.heap.size ≤ k := fun k hk => by
    rcases nw with h | ⟨g', h, hg'⟩
    · exact .inl (by rw [← h]; exact hk)
    · rw [h] at hk; injection hk with hk; simp at hg'; exact .inr (by omega)
  have hv3p : ∀ k, v3.ownBlock = some k → k ≠ p := fun k hk e => by
    rcases hv3 k hk with h | h
    · exact hvp (by rw [← e]; exact h)
    · omega
  have hgW := S.ur.lt
  have hgn : ¬ footR p v X g := fun hf => by have := hd.lts g hf; omega
  have hgV : V.heap[g]? = W.heap[g]? := mv.block g hgW.1 hgn
  have hVs := mv.size
  have ownV : Own1 V w.heap.size 31 (.slice (some ⟨g, 0, none⟩) l.length cap) (ucells l) := own1_same S.ur.own fun k hk => by injection hk with hk; subst hk; exact hgV
  have ht : ∀ (y : Value) (ys : List Value) (b : Nat), Own1 V b 31 y ys → Own1 (w3.setCell ⟨p, 0, none⟩ v3) 0 31 y ys := fun y ys b hy => own1_same (own1_lower hy (Nat.zero_le _)) fun k hk => by
    obtain ⟨_, cur, hc⟩ := own1_blk hy hk
    rw [hZ k (fun e => by rw [e, hV.blk] at hc; simp at hc)]
    exact h3 k (own_lt hy hk) (fun e => by
      obtain ⟨_, cur', hc'⟩ := ownK_blk hV.row e
      rw [hc] at hc'; simp at hc')
  refine ⟨footR p v3 (cutR X c ++ [x']), ⟨v3, _, ⟨heap_set0 ((h3 p hpV hvp).trans hV.blk) v3, ownK_same own fun k hk => hZ k (hv3p k hk), fun x hx => ?_⟩, rfl, rfl⟩, ?_⟩
  · rcases List.mem_append.1 hx with hx | hx
    · exact ht _ _ _ (hV.tags x hx)
    · rw [List.mem_singleton.1 hx, hx', hl]
      exact ht _ _ _ ownV
  · refine ⟨?_, ?_, ?_, ?_, fun k hk hn => ?_, ?_⟩
    · exact gr.os.trans (mv.os.trans bw.os)
    · exact gr.tape.trans (mv.tape.trans bw.tape)
    · exact gr.output.trans (mv.output.trans bw.output)
    · have := bw.size
      simp
      omega
    · have hkW : k < W.heap.size := Nat.lt_of_lt_of_le hk bw.size
      rw [hZ k (fun e => hn (.inl e)), h3 k (Nat.lt_of_lt_of_le hkW hVs) (fun e => (mv.sub k (.inr (.inl e))).elim hn (fun h => by omega)), mv.block k hkW hn]
      exact bw.block k hk
    · have hbs := bw.size
      rintro k (rfl | hk | ⟨x, hx, hk⟩)
      · exact .inl (.inl rfl)
      · rcases hv3 k hk with h | h
        · exact (mv.sub k (.inr (.inl h))).imp id fun h => by omega
        · exact .inr (by omega)
      · rcases List.mem_append.1 hx with hx | hx
        · exact (mv.sub k (.inr (.inr ⟨x, hx, hk⟩))).imp id fun h => by omega
        · rw [List.mem_singleton.1 hx, hx'] at hk
          injection hk with hk
          subst hk
          exact .inr hgW.2
theorem rtook_cell {V w3 : World} {p : Nat} {v' : Value} {X : List Ro} {o : Obj} (hV : RdAt V p v' X) (gr : (V.alloc o).grownBy w3 v'.ownBlock) : w3.cell? ⟨p, 0, none⟩ = some v' ∧ w3.frozen? ⟨p, 0, none⟩ = false := by
  have hpV : p < V.heap.size := hV.lts p (.inl rfl)
  have hvp : v'.ownBlock ≠ some p := fun e => by
    obtain ⟨_, cur, hc⟩ := ownK_blk hV.row e
    rw [hV.blk] at hc; simp at hc
  have hp2 := (gr.block p (by simp; omega) (fun e => hvp e.symm)).trans ((Below.heap_alloc _ _ p hpV).trans hV.blk)
  exact ⟨by simp [World.cell?, hp2], by simp [World.frozen?, hp2]⟩
theorem anyR_take {X : List Ro} {f : Se → Bool} {k : Nat} (hk : k < X.length) (h : (X.take k).any (fun x => f x.s) = false) : (X.take (k + 1)).any (fun x => f x.s) = f X[k].s := by
  rw [List.take_succ_eq_append_getElem hk, List.any_append, h]; simp
theorem anyR_pre {X : List Ro} {f : Se → Bool} {k : Nat} (h : (X.take k).any (fun x => f x.s) = true) : X.any (fun x => f x.s) = true := by
  rw [← List.take_append_drop k X, List.any_append, h]; rfl
theorem heldB_R (X : List Ro) (q : ByteArray) (t : Int) : heldB (X.map Ro.s) q t = X.any fun x => ownB q t x.s := by unfold heldB; rw [List.any_map]; rfl
end Go.Proofs.Ytooaiomghbjpiaa

/-
  THE DOCUMENT's Took, walked.
-/
namespace Go.Proofs.Ytooaiomghbjpiaa
open Go.RowKit Go.Maps Go.Sort Go.Shelf
set_option maxRecDepth 20000

set_option linter.unusedSimpArgs false in
set_option maxHeartbeats 8000000 in
theorem rtook_any (p : Nat) (F : Nat → Prop) (L : List Se) (c t : Int) (w : World) (h : Rd w p F L) (ok : LOk L) :
    Calls Try.prog 27 #[.pointer (some ⟨p, 0, none⟩), .int .i64 c, .int .u64 t] w fun e w' => e = .returned (.int .i64 (tookE L c t)) ∧ ∃ F', Rd w' p F' (tookL L c t) ∧ Moved w w' F F' := by
  obtain ⟨v, X, hd, rfl, rfl⟩ := h
  have hFi := rFind_at hd c
  have hfs := findR_s X c
  have HSt : Hid (∀ w1, tookE (X.map Ro.s) c t ≠ 0 → Below w.heap.size w w1 → ∃ F', Rd w1 p F' (tookL (X.map Ro.s) c t) ∧ Moved w w1 (footR p v X) F') := fun w1 he b => by
    rw [tookL_bad he]
    exact ⟨_, ⟨_, X, hd.kept b, rfl, rfl⟩, Moved.of_below b⟩
  cases hf : findR X c with
  | none =>
    have e1 : tookE (X.map Ro.s) c t = 3 := by unfold tookE; rw [← hfs, hf]; rfl
    rw [hf] at hFi
    have HE : Hid (∀ w1, Below w.heap.size w w1 → ∃ F', Rd w1 p F' (tookL (X.map Ro.s) c t) ∧ Moved w w1 (footR p v X) F') := fun w1 b => HSt.out w1 (by rw [e1]; decide) b
    simp only [roV, Option.isSome_none] at hFi
    rw [e1]
    clear hf hfs hd HSt e1 ok
    generalize tookL (X.map Ro.s) c t = LL at *
    go_enter Try.func27, Try.ntmps27
    go_wp2_with fail
    refine hFi.mono ?_
    rintro e w1 ⟨rfl, b1⟩
    have HB : Hid (∀ o, Below w.heap.size w (w1.alloc o)) := fun o => b1.alloc b1.size o
    clear b1
    go_wp2
    go_ret
    exact ⟨rfl, HE.out _ (HB.out _)⟩
  | some x =>
    obtain ⟨hxm, hxc⟩ := findR_some hf
    have hxo := ok.ok x.s (List.mem_map.2 ⟨x, hxm, rfl⟩)
    have hfc : findC (X.map Ro.s) c = some x.s := by rw [← hfs, hf]; rfl
    rw [hf] at hFi
    simp only [roV, Option.isSome_some] at hFi
    have hn32 : X.length ≤ 32 := by have := ok.few; rw [List.length_map] at this; exact this
    have htl : x.s.t.length ≤ 100 := by have := hxo.len; have := hxo.m2; omega
    have HT : Hid (∀ W, Below w.heap.size w W → Row W (.slice x.a x.s.t.length x.c) (ucells x.s.t)) := fun W b => ((hd.kept b).tags x hxm).row
    by_cases hfull : x.s.m ≤ (x.s.t.length : Int)
    · have e1 : tookE (X.map Ro.s) c t = 5 := by unfold tookE; rw [hfc]; simp [fullB, hfull]
      have HE : Hid (∀ w1, Below w.heap.size w w1 → ∃ F', Rd w1 p F' (tookL (X.map Ro.s) c t) ∧ Moved w w1 (footR p v X) F') := fun w1 b => HSt.out w1 (by rw [e1]; decide) b
      rw [e1]
      clear hf hfs hd HSt e1 ok hxm hxc hxo hfc HT
      generalize tookL (X.map Ro.s) c t = LL at *
      generalize x.s.t.length = tl at *
      generalize x.s.q = xq at *
      generalize x.s.m = xm at *
      generalize x.s.c = xc at *
      generalize x.a = xa at *
      generalize x.c = xk at *
      go_enter Try.func27, Try.ntmps27
      go_wp2_with fail
      refine hFi.mono ?_
      rintro e w1 ⟨rfl, b1⟩
      have HB : Hid (∀ o, Below w.heap.size w (w1.alloc o)) := fun o => b1.alloc b1.size o
      clear b1
      go_wp2
      go_ret
      exact ⟨rfl, HE.out _ (HB.out _)⟩
    · have hr := hd.row.rng
      obtain ⟨va, vc, rfl⟩ := hr.slice
      have hfb : fullB x.s = false := by simp [fullB, hfull]
      have HH : Hid (∀ b, heldB (X.map Ro.s) x.s.q t = b → tookE (X.map Ro.s) c t = if b then 4 else if t = 0 then 2 else 0) := fun b hb => by unfold tookE; rw [hfc]; simp [hfb, hb]
      have HE : Hid (∀ w1, tookE (X.map Ro.s) c t ≠ 0 → Below w.heap.size w w1 → ∃ F', Rd w1 p F' (tookL (X.map Ro.s) c t) ∧ Moved w w1 (footR p (.slice va X.length vc) X) F') := HSt
      have HA : Hid (∀ W, Below w.heap.size w W → W.cell? ⟨p, 0, none⟩ = some (.slice va X.length vc) ∧ ∀ i (hi : i < X.length), ∃ b off, va = some ⟨b, off, none⟩ ∧ W.cell? ⟨b, off + i * 4, none⟩ = some (.int .i64 X[i].s.c) ∧ W.cell? ⟨b, off + i * 4 + 1, none⟩ = some (.string X[i].s.q) ∧ W.cell? ⟨b, off + i * 4 + 2, none⟩ = some (.int .i64 X[i].s.m) ∧ W.cell? ⟨b, off + i * 4 + 3, none⟩ = some (.slice X[i].a X[i].s.t.length X[i].c)) := fun W b => ⟨(hd.kept b).cell.1, (ros_at (hd.kept b).row.rng).2.2⟩
      have HHa : Hid (∀ W i (hi : i < X.length), Below w.heap.size w W → Calls Try.prog 45 #[.slice X[i].a X[i].s.t.length X[i].c, .int .u64 t] W fun e w' => e = .returned (.bool (hasB X[i].s t)) ∧ w' = W) := fun W i hi b => rhas_any _ X[i].s.t t W ((hd.kept b).tags X[i] (List.getElem_mem hi)).row (by
        have h1 := ok.ok X[i].s (List.mem_map.2 ⟨X[i], List.getElem_mem hi, rfl⟩)
        have := h1.len; have := h1.m2; omega)
      have HQ : Hid (heldB (X.map Ro.s) x.s.q t = X.any fun y => ownB x.s.q t y.s) := heldB_R X x.s.q t
      have HD : Hid (∀ W, Below w.heap.size w W → Calls Try.prog 25 #[.pointer (some ⟨p, 0, none⟩), .int .i64 c] W fun e w' => e = .returned (.tuple #[roV (some x), .int .i64 (dropE (X.map Ro.s) c)]) ∧ ∃ v', RdAt w' p v' (cutR X c) ∧ Moved W w' (footR p (.slice va X.length vc) X) (footR p v' (cutR X c))) := fun W b => (rdrop_at (hd.kept b) ok c).mono fun _ _ ⟨e, _, h⟩ => ⟨by rw [e, hf], h⟩
      have H0 : Hid (RdAt w p (.slice va X.length vc) X ∧ (∀ l, tookE (X.map Ro.s) c t = 0 → insU t x.s.t = l → tookL (X.map Ro.s) c t = (cutR X c).map Ro.s ++ [⟨x.s.c, x.s.q, x.s.m, l⟩]) ∧ (cutR X c).length ≤ 32 ∧ x.s.t.Pairwise (· ≤ ·)) := ⟨hd, fun l he hl => by rw [tookL_zero he hfc, cutR_s, ← hl]; rfl, Nat.le_trans (List.length_filter_le _ _) hn32, hxo.up.imp fun {a b} h => by omega⟩
      clear hf hfs hd HSt ok hxm hxc hxo hfc hr hfb
      obtain ⟨ts, hts⟩ : ∃ z, x.s.t = z := ⟨_, rfl⟩
      obtain ⟨tl, htl2⟩ : ∃ z, ts.length = z := ⟨_, rfl⟩
      simp only [roV] at HD
      rw [hts] at HT H0 hFi htl hfull HD
      rw [htl2] at HT hFi htl hfull HD
      obtain ⟨n, hn⟩ : ∃ z, X.length = z := ⟨_, rfl⟩
      rw [hn] at hn32 HE H0 HD ⊢
      generalize dropE (X.map Ro.s) c = dE at *
      generalize tookE (X.map Ro.s) c t = tE at *
      generalize tookL (X.map Ro.s) c t = tL at *
      generalize x.s.q = xq at *
      generalize x.s.m = xm at *
      generalize x.s.c = xc at *
      generalize x.a = xa at *
      generalize x.c = xk at *
      generalize heldB (X.map Ro.s) xq t = hB at *
      clear hts
      have hE : Elem Try.prog 38 31 (.int .u64 0) 8 := isU17
      obtain ⟨i0, hi0, hz0, hzs, hzb⟩ := oneInfo
      go_enter Try.func27, Try.ntmps27
      go_wp2_with fail
      refine hFi.mono ?_
      rintro e w1 ⟨rfl, b1⟩
      clear hFi
      obtain ⟨W, fold⟩ : ∃ W, w1.alloc (.cells #[.int .i64 xc, .string xq, .int .i64 xm, .slice xa tl xk] 44) = W := ⟨_, rfl⟩
      have bW : Below w.heap.size w W := by rw [← fold]; exact b1.alloc b1.size _
      have hbox : W.heap[w1.heap.size]? = some (.cells #[.int .i64 xc, .string xq, .int .i64 xm, .slice xa tl xk] 44 (0, 0)) := by rw [← fold]; exact heap_alloc_new w1 _
      have hbs := b1.size
      have hW1 : w1.heap.size < W.heap.size := by rw [← fold]; simp
      obtain ⟨bx, hbx⟩ : ∃ z, w1.heap.size = z := ⟨_, rfl⟩
      rw [hbx] at hbox hbs hW1
      have HW : Hid (Below w.heap.size w W ∧ W.heap[bx]? = some (.cells #[.int .i64 xc, .string xq, .int .i64 xm, .slice xa tl xk] 44 (0, 0)) ∧ w.heap.size ≤ bx ∧ bx < W.heap.size) := ⟨bW, hbox, hbs, hW1⟩
      obtain ⟨z0, z1, z2, z3, _, _, _, _⟩ := one_cells hbox
      obtain ⟨c0, _⟩ := HA.out W bW
      rw [hn] at c0
      clear b1 bW hbox hbs hW1
      subst hbx
      go_wp2
      obtain ⟨bx, hbx⟩ : ∃ z, w1.heap.size = z := ⟨_, rfl⟩
      rw [hbx] at z0 z1 z2 z3 HW ⊢
      clear fold hbx
      go_loopw [10, 33] (fun _ u33 wr => ∃ k : Nat, u33 = .int .i64 (k : Int) ∧ k ≤ n ∧ Hid ((X.take k).any (fun y => ownB xq t y.s) = false ∧ Below W.heap.size W wr)) (fun _ u33 _ => n - (intOf u33).toNat)
      case atStart => exact ⟨0, rfl, Nat.zero_le _, rfl, Below.refl _ _⟩
      case round =>
        obtain ⟨k, rfl, hk, HI⟩ := hrel
        clear z0 z1 z2 z3
        have bwr : Below w.heap.size w wr := HW.out.1.trans (HI.out.2.mono HW.out.1.size)
        have hbw := (HI.out.2.block bx HW.out.2.2.2).trans HW.out.2.1
        obtain ⟨z0, z1, z2, z3, f0, f1, f2, f3⟩ := one_cells hbw
        by_cases hlt : k < n
        · have hlt' : (k : Int) < (n : Int) := by omega
          have hkl : k < X.length := by omega
          obtain ⟨_, hat⟩ := HA.out wr bwr
          obtain ⟨b, off, hva, g0, g1, g2, g3⟩ := hat k hkl
          subst hva
          have zA : ∀ o, (wr.alloc o).cell? ⟨bx, 1, none⟩ = some (.string xq) := fun o => cell_on ((Below.refl _ wr).alloc (Nat.le_refl _) o) z1
          have HK : Hid (∀ o, Calls Try.prog 45 #[.slice X[k].a X[k].s.t.length X[k].c, .int .u64 t] (wr.alloc o) fun e w' => e = .returned (.bool (hasB X[k].s t)) ∧ w' = wr.alloc o) := fun o => HHa.out (wr.alloc o) k hkl (bwr.alloc bwr.size o)
          have HB : Hid (∀ o, Below w.heap.size w (wr.alloc o) ∧ Below W.heap.size W (wr.alloc o)) := fun o => ⟨bwr.alloc bwr.size o, HI.out.2.alloc HI.out.2.size o⟩
          have HT1 : Hid ((X.take (k + 1)).any (fun y => ownB xq t y.s) = (wantB xq X[k].s && hasB X[k].s t)) := anyR_take (f := ownB xq t) hkl HI.out.1
          obtain ⟨y, hy⟩ : ∃ z, X[k] = z := ⟨_, rfl⟩
          rw [hy] at g0 g1 g2 g3 HK HT1
          have hWq : (y.s.q.toList == xq.toList) = wantB xq y.s := txt_dec _ _
          clear hat hy bwr hbw HI
          generalize wantB xq y.s = B at *
          generalize hasB y.s t = Hb at *
          generalize y.s.t.length = yl at *
          generalize y.s.q = yq at *
          generalize y.s.m = ym at *
          generalize y.s.c = yc at *
          generalize y.a = ya at *
          generalize y.c = yk at *
          cases B with
          | false =>
            go_wp2
            go_roundw
            case rel => exact ⟨k + 1, by go_num, by omega, by rw [HT1.out]; rfl, (HB.out _).2⟩
            case measure => simp [intOf]; omega
          | true =>
            go_wp2_with fail
            refine (HK.out _).mono ?_
            rintro e w2 ⟨rfl, rfl⟩
            cases Hb with
            | false =>
              go_wp2
              go_roundw
              case rel => exact ⟨k + 1, by go_num, by omega, by rw [HT1.out]; rfl, (HB.out _).2⟩
              case measure => simp [intOf]; omega
            | true =>
              have HX : Hid (tE = 4) := by
                show tE = 4
                rw [HH.out true (by rw [HQ.out]; exact anyR_pre (f := ownB xq t) (k := k + 1) HT1.out)]; rfl
              go_wp2
              go_ret
              exact ⟨by rw [HX.out]; rfl, HE.out _ (by rw [HX.out]; decide) (HB.out _).1⟩
        · have hlt' : ¬ (k : Int) < (n : Int) := by omega
          have HX : Hid (tE = if t = 0 then 2 else 0) := by
            have h1 := HI.out.1
            rw [List.take_of_length_le (by omega)] at h1
            have := HH.out false (by rw [HQ.out]; exact h1)
            rw [if_neg (by decide)] at this
            exact this
          have HBw : Hid (Below w.heap.size w wr) := bwr
          by_cases ht0 : t = 0
          · have hb0 : (t == (0 : Int)) = true := by simpa using ht0
            have HY : Hid (tE = 2) := by show tE = 2; rw [HX.out, if_pos ht0]
            clear ht0 HX hbw bwr HI
            go_wp2
            go_ret
            exact ⟨by rw [HY.out]; rfl, HE.out _ (by rw [HY.out]; decide) HBw.out⟩
          · have hb0 : (t == (0 : Int)) = false := by simpa using ht0
            have HY : Hid (tE = 0) := by show tE = 0; rw [HX.out, if_neg ht0]
            have HR : Hid (Row wr (.slice xa tl xk) (ucells ts)) := HT.out wr bwr
            have HN : Hid (∀ w4 v4, Own1 w4 wr.heap.size 31 v4 (ucells ts ++ [.int .u64 t]) → Below wr.heap.size wr w4 → ∃ g cap, v4 = .slice (some ⟨g, 0, none⟩) (tl + 1) cap ∧ Hid (TkS w (w4.setCell ⟨bx, 3, none⟩ v4) bx g cap xc xq xm (insAt ts t tl))) := fun w4 v4 own b => by
              have := tks_new bwr hbw HW.out.2.2.1 own b
              rw [htl2] at this
              exact this
            have HZ : Hid (wr.heap[bx]? = some (.cells #[.int .i64 xc, .string xq, .int .i64 xm, .slice xa tl xk] 44 (0, 0)) ∧ bx < wr.heap.size) := ⟨hbw, (Array.getElem?_eq_some_iff.1 hbw).1⟩
            have HL : Hid (ts.length = tl ∧ tl ≤ 100) := ⟨htl2, htl⟩
            have zA : ∀ o, (wr.alloc o).cell? ⟨bx, 3, none⟩ = some (.slice xa tl xk) := fun o => cell_on ((Below.refl _ wr).alloc (Nat.le_refl _) o) z3
            clear ht0 HX hbw bwr HI HHa HQ HH HA hk hlt c0
            go_wp2_with (first
              | (at_builtin; refine wpList_append_row rfl _ _ 38 31 (.int .u64 0) 8 hE rfl wr.heap.size (.slice (some ⟨wr.heap.size, 0, none⟩) 0 0) (.slice xa tl xk) [] (ucells ts) rfl rfl ?_ ?_ ?_ ?_ ?_ ?_ ?_; (exact own1_new wr _ _ [] (Nat.le_refl _) (Nat.zero_le _)); (exact HR.out.below ((Below.refl _ wr).alloc (Nat.le_refl _) _) (Nat.le_refl _)); (exact ucells_one _); (rw [ucells_length, HL.out.1]; have := HL.out.2; simp; omega); (rw [ucells_length, HL.out.1]; have := HL.out.2; simp; omega); (simp); intro v2 w2 own2 hb2 hs2; rw [List.nil_append] at own2; obtain ⟨ua, uc, hv2⟩ := own2.row.sliceU; rw [HL.out.1] at hv2; subst hv2; have H2 : Hid (Own1 w2 wr.heap.size 31 (.slice ua tl uc) (ucells ts) ∧ Below wr.heap.size wr w2) := ⟨own2, ((Below.refl _ wr).alloc (Nat.le_refl _) _).trans hb2⟩; clear own2 hb2 hs2)
              | (at_builtin; refine wpList_append_row rfl _ _ 38 31 (.int .u64 0) 8 hE rfl wr.heap.size (.slice ua tl uc) (.slice (some ⟨w2.heap.size, 0, none⟩) 1 1) (ucells ts) [.int .u64 t] rfl rfl ?_ ?_ ?_ ?_ ?_ ?_ ?_; (exact World.ownsRow.alloc H2.out.1 _); (exact row_newU _ _ _ _ rfl); (simp [Value.oneCell']); (rw [ucells_length, HL.out.1]; have := HL.out.2; simp; omega); (rw [ucells_length, HL.out.1]; have := HL.out.2; simp; omega); (have := H2.out.2.size; simp; omega); intro v4 w4 own4 hb4 hs4; have b4 : Below wr.heap.size wr w4 := (H2.out.2.alloc H2.out.2.size _).trans hb4; obtain ⟨g, cap, hv4, HS⟩ := HN.out w4 v4 own4 b4; subst hv4; obtain ⟨y0, y1, y2, y3, e0, e1, e2, e3⟩ := one_cells ((b4.block bx HZ.out.2).trans HZ.out.1); clear own4 hb4 hs4 b4))
            clear zA z0 z1 z2 z3 f0 f1 f2 f3 y0 y1 y2 e0 e1 e2
            obtain ⟨W0, hW0⟩ : ∃ z, z = wr := ⟨_, rfl⟩
            subst hW0
            have htp : ((tl : Int) + 1 - 1) = (tl : Int) := by omega
            go_loopw [11] (fun u11 wv => ∃ j : Nat, u11 = .int .i64 (j : Int) ∧ j ≤ tl ∧ Hid (TkS w wv bx g cap xc xq xm (insAt ts t j) ∧ ∀ i (hi : i < ts.length), j ≤ i → t < ts[i])) (fun u11 _ => (intOf u11).toNat)
            case atStart => exact ⟨tl, by go_num, Nat.le_refl _, HS.out, fun i hi h => by have := HL.out.1; omega⟩
            case round =>
              obtain ⟨j, rfl, hjk, HJ⟩ := hrel
              have hol := HL.out.1
              have hsz : (insAt ts t j).size = tl + 1 := by rw [insAt_size _ _ _ (by omega)]; omega
              have hbox := HJ.out.1.box
              rw [hsz] at hbox
              obtain ⟨q0, q1, q2, q3, r0, r1, r2, r3⟩ := one_cells hbox
              have hgb := HJ.out.1.ne
              have n1 : ¬ g = bx := hgb
              have n2 : ¬ bx = g := fun e => hgb e.symm
              clear HS hbox hgb y3 e3
              obtain ⟨l, hl⟩ : ∃ z, insU t ts = z := ⟨_, rfl⟩
              have HLL : Hid (insU t ts = l) := hl
              have OUT : Hid ((j = 0 ∨ ts[j - 1]! ≤ t) → TkS w wr bx g cap xc xq xm l.toArray) := fun h1 => by
                have e := insAt_done H0.out.2.2.2 (show j ≤ ts.length by omega) h1 HJ.out.2
                have h2 := HJ.out.1
                rw [e, hl] at h2
                exact h2
              clear hl
              by_cases hgo : 0 < j ∧ t < ts[j - 1]!
              · obtain ⟨hj0, hgt⟩ := hgo
                obtain ⟨m, rfl⟩ : ∃ m, j = m + 1 := ⟨j - 1, by omega⟩
                rw [Nat.add_sub_cancel] at hgt
                have hj0' : (0 : Int) < (m : Int) + 1 := by omega
                have hj0d : decide ((0 : Int) < (m : Int) + 1) = true := decide_eq_true hj0'
                obtain ⟨y, hy⟩ : ∃ y, ts[m]! = y := ⟨_, rfl⟩
                have k1 : wr.cell? ⟨g, m + 1, none⟩ = some (.int .u64 t) := by rw [← insAt_here (l := ts) (t := t) (j := m + 1) (by omega)]; exact HJ.out.1.ur.cell (by omega)
                have k2 : wr.cell? ⟨g, m, none⟩ = some (.int .u64 y) := by rw [← hy, ← insAt_left (l := ts) (t := t) (j := m + 1) (by omega) (Nat.lt_succ_self m)]; exact HJ.out.1.ur.cell (by omega)
                have u1 := HJ.out.1.ur.frozen (m + 1)
                have u2 := HJ.out.1.ur.frozen m
                have nm : (m : Int) + 1 < (tl : Int) + 1 := by omega
                have hgt' : t < y := by rw [← hy]; exact hgt
                have HW2 : Hid (∀ q, TkS w (((wr.setCell ⟨g, m, none⟩ (.int .u64 t)).setCell ⟨g, m + 1, none⟩ (.int .u64 y)).drewN q) bx g cap xc xq xm (insAt ts t m) ∧ ∀ i (hi : i < ts.length), m ≤ i → t < ts[i]) := fun q => by
                  have h1 := HJ.out.1.swap (i := m) (j := m + 1) (by omega) (by omega)
                  rw [insAt_here (by omega), insAt_left (by omega) (Nat.lt_succ_self m), hy, insAt_step2 (by omega)] at h1
                  refine ⟨h1.drewN q, fun i hi h => ?_⟩
                  by_cases e : i = m
                  · subst e
                    rw [getElem!_pos ts i hi] at hgt
                    exact hgt
                  · exact HJ.out.2 i hi (by omega)
                clear OUT HJ hy hgt
                go_wp2
                go_quiet (fail)
                go_wp2
                go_region
                all_goals go_wp2
                all_goals go_roundw
                case rel => exact ⟨m, by go_num, by omega, HW2.out _⟩
                case measure => simp [intOf]
              · have hout := OUT.out (by omega)
                have HTK : Hid (∀ q, TkS w (wr.drewN q) bx g cap xc xq xm l.toArray) := fun q => hout.drewN q
                have HB2 : Hid (∀ q, Below w.heap.size w (wr.drewN q)) := fun q => (hout.drewN q).bel
                have HBX : Hid (bx < wr.heap.size ∧ ¬ footR p (.slice va n vc) X bx) := ⟨(Array.getElem?_eq_some_iff.1 hout.box).1, fun hf => by have := H0.out.1.lts bx hf; have := hout.lo; omega⟩
                have HBX2 : Hid (wr.heap[bx]? = some (.cells #[.int .i64 xc, .string xq, .int .i64 xm, .slice (some ⟨g, 0, none⟩) l.length cap] 44 (0, 0))) := by
                  have := hout.box
                  rw [List.size_toArray] at this
                  exact this
                by_cases hj0 : 0 < j
                · obtain ⟨m, rfl⟩ : ∃ m, j = m + 1 := ⟨j - 1, by omega⟩
                  rw [Nat.add_sub_cancel] at hgo
                  have hj0' : (0 : Int) < (m : Int) + 1 := by omega
                  have hj0d : decide ((0 : Int) < (m : Int) + 1) = true := decide_eq_true hj0'
                  obtain ⟨y, hy⟩ : ∃ y, ts[m]! = y := ⟨_, rfl⟩
                  have k1 : wr.cell? ⟨g, m + 1, none⟩ = some (.int .u64 t) := by rw [← insAt_here (l := ts) (t := t) (j := m + 1) (by omega)]; exact HJ.out.1.ur.cell (by omega)
                  have k2 : wr.cell? ⟨g, m, none⟩ = some (.int .u64 y) := by rw [← hy, ← insAt_left (l := ts) (t := t) (j := m + 1) (by omega) (Nat.lt_succ_self m)]; exact HJ.out.1.ur.cell (by omega)
                  have nm : (m : Int) + 1 < (tl : Int) + 1 := by omega
                  have hgt' : ¬ t < y := by rw [← hy]; omega
                  clear OUT HJ hy hgo hout
                  go_wp2
                  go_quiet (fail)
                  go_wp2_with fail
                  refine (HD.out _ (HB2.out _)).mono ?_
                  rintro e V ⟨rfl, v', hV, mv⟩
                  obtain ⟨va', vc', hv'⟩ := hV.row.rng.slice
                  obtain ⟨nc, hnc⟩ : ∃ z, (cutR X c).length = z := ⟨_, rfl⟩
                  rw [hnc] at hv'
                  subst hv'
                  obtain ⟨cp, fp⟩ := hV.cell
                  have hbV := (mv.block bx (HBX.out.1) HBX.out.2).trans HBX2.out
                  obtain ⟨x0, x1, x2, x3, _, _, _, _⟩ := one_cells hbV
                  have HV : Hid (RdAt V p (.slice va' nc vc') (cutR X c)) := hV
                  have HFin : Hid (∀ w3 v3 o, (V.alloc o).grownBy w3 (Value.slice va' nc vc').ownBlock → K.NewOr (V.alloc o) (.slice va' nc vc') v3 → K.OwnOf roc 4 44 w3 0 v3 (cutR X c ++ [⟨⟨xc, xq, xm, l⟩, some ⟨g, 0, none⟩, cap⟩]) → ∃ F', Rd (w3.setCell ⟨p, 0, none⟩ v3) p F' tL ∧ Moved w (w3.setCell ⟨p, 0, none⟩ v3) (footR p (.slice va n vc) X) F') := fun w3 v3 o gr nw own => by
                    have := rtook_end (x' := ⟨⟨xc, xq, xm, l⟩, some ⟨g, 0, none⟩, cap⟩) H0.out.1 (HTK.out _) hV mv own gr nw rfl rfl
                    rw [H0.out.2.1 l HY.out HLL.out]
                    simpa using this
                  have kE : (V.alloc (.cells #[.int .i64 xc, .string xq, .int .i64 xm, .slice (some ⟨g, 0, none⟩) l.length cap] 44)).cell? ⟨p, 0, none⟩ = some (.slice va' nc vc') := cell_on ((Below.refl _ V).alloc (Nat.le_refl _) _) cp
                  have HC : Hid ((cutR X c).length = nc ∧ nc ≤ 32) := ⟨hnc, by rw [← hnc]; exact H0.out.2.2.1⟩
                  clear hV mv hbV hnc
                  go_wp2
                  first
                    | (go_region_law (refine K.step_append_rows (enc := roc) rfl (.tmp 108) (.tmp 110) 26 rfl Try.underlying26 i0 _ 56 hi0 hz0 hzs hzb rfl 0 (.slice va' nc vc') (.slice (some ⟨V.heap.size, 0, none⟩) 1 1) (cutR X c) [⟨⟨xc, xq, xm, l⟩, some ⟨g, 0, none⟩, cap⟩] (by simp [Act.eval, Act.put]) (by simp [Act.eval, Act.put]) (K.OwnOf.alloc (w := V.drew) HV.out.row _) (K.row_one (enc := roc) (T := 44) V.drew ⟨⟨xc, xq, xm, l⟩, some ⟨g, 0, none⟩, cap⟩ _ rfl) (by rw [HC.out.1]; have := HC.out.2; unfold maxLen; simp; omega) (by rw [HC.out.1]; have := HC.out.2; simp; omega) (Nat.zero_le _) ?_; intro v3 w3 own3 gr3 nw3; obtain ⟨ea, ec, hv3⟩ := own3.rng.slice; generalize (cutR X c ++ [(⟨⟨xc, xq, xm, l⟩, some ⟨g, 0, none⟩, cap⟩ : Ro)]).length = en at hv3; subst hv3; have HR3 : Hid (∃ F', Rd (w3.setCell ⟨p, 0, none⟩ (.slice ea en ec)) p F' tL ∧ Moved w (w3.setCell ⟨p, 0, none⟩ (.slice ea en ec)) (footR p (.slice va n vc) X) F') := HFin.out w3 _ _ ⟨gr3.os, gr3.tape, gr3.output, gr3.size, gr3.block⟩ nw3 own3; obtain ⟨c3, f3⟩ := rtook_cell (w3 := w3) HV.out ⟨gr3.os, gr3.tape, gr3.output, gr3.size, gr3.block⟩; clear own3 gr3 nw3))
                    | fail
                  all_goals go_wp2
                  all_goals go_ret
                  all_goals exact ⟨by rw [HY.out]; rfl, HR3.out⟩
                · obtain rfl : j = 0 := by omega
                  clear OUT HJ hgo hout
                  go_wp2
                  go_quiet (fail)
                  go_wp2_with fail
                  refine (HD.out _ (HB2.out _)).mono ?_
                  rintro e V ⟨rfl, v', hV, mv⟩
                  obtain ⟨va', vc', hv'⟩ := hV.row.rng.slice
                  obtain ⟨nc, hnc⟩ : ∃ z, (cutR X c).length = z := ⟨_, rfl⟩
                  rw [hnc] at hv'
                  subst hv'
                  obtain ⟨cp, fp⟩ := hV.cell
                  have hbV := (mv.block bx (HBX.out.1) HBX.out.2).trans HBX2.out
                  obtain ⟨x0, x1, x2, x3, _, _, _, _⟩ := one_cells hbV
                  have HV : Hid (RdAt V p (.slice va' nc vc') (cutR X c)) := hV
                  have HFin : Hid (∀ w3 v3 o, (V.alloc o).grownBy w3 (Value.slice va' nc vc').ownBlock → K.NewOr (V.alloc o) (.slice va' nc vc') v3 → K.OwnOf roc 4 44 w3 0 v3 (cutR X c ++ [⟨⟨xc, xq, xm, l⟩, some ⟨g, 0, none⟩, cap⟩]) → ∃ F', Rd (w3.setCell ⟨p, 0, none⟩ v3) p F' tL ∧ Moved w (w3.setCell ⟨p, 0, none⟩ v3) (footR p (.slice va n vc) X) F') := fun w3 v3 o gr nw own => by
                    have := rtook_end (x' := ⟨⟨xc, xq, xm, l⟩, some ⟨g, 0, none⟩, cap⟩) H0.out.1 (HTK.out _) hV mv own gr nw rfl rfl
                    rw [H0.out.2.1 l HY.out HLL.out]
                    simpa using this
                  have kE : (V.alloc (.cells #[.int .i64 xc, .string xq, .int .i64 xm, .slice (some ⟨g, 0, none⟩) l.length cap] 44)).cell? ⟨p, 0, none⟩ = some (.slice va' nc vc') := cell_on ((Below.refl _ V).alloc (Nat.le_refl _) _) cp
                  have HC : Hid ((cutR X c).length = nc ∧ nc ≤ 32) := ⟨hnc, by rw [← hnc]; exact H0.out.2.2.1⟩
                  clear hV mv hbV hnc
                  go_wp2
                  first
                    | (go_region_law (refine K.step_append_rows (enc := roc) rfl (.tmp 108) (.tmp 110) 26 rfl Try.underlying26 i0 _ 56 hi0 hz0 hzs hzb rfl 0 (.slice va' nc vc') (.slice (some ⟨V.heap.size, 0, none⟩) 1 1) (cutR X c) [⟨⟨xc, xq, xm, l⟩, some ⟨g, 0, none⟩, cap⟩] (by simp [Act.eval, Act.put]) (by simp [Act.eval, Act.put]) (K.OwnOf.alloc (w := V.drew) HV.out.row _) (K.row_one (enc := roc) (T := 44) V.drew ⟨⟨xc, xq, xm, l⟩, some ⟨g, 0, none⟩, cap⟩ _ rfl) (by rw [HC.out.1]; have := HC.out.2; unfold maxLen; simp; omega) (by rw [HC.out.1]; have := HC.out.2; simp; omega) (Nat.zero_le _) ?_; intro v3 w3 own3 gr3 nw3; obtain ⟨ea, ec, hv3⟩ := own3.rng.slice; generalize (cutR X c ++ [(⟨⟨xc, xq, xm, l⟩, some ⟨g, 0, none⟩, cap⟩ : Ro)]).length = en at hv3; subst hv3; have HR3 : Hid (∃ F', Rd (w3.setCell ⟨p, 0, none⟩ (.slice ea en ec)) p F' tL ∧ Moved w (w3.setCell ⟨p, 0, none⟩ (.slice ea en ec)) (footR p (.slice va n vc) X) F') := HFin.out w3 _ _ ⟨gr3.os, gr3.tape, gr3.output, gr3.size, gr3.block⟩ nw3 own3; obtain ⟨c3, f3⟩ := rtook_cell (w3 := w3) HV.out ⟨gr3.os, gr3.tape, gr3.output, gr3.size, gr3.block⟩; clear own3 gr3 nw3))
                    | fail
                  all_goals go_wp2
                  all_goals go_ret
                  all_goals exact ⟨by rw [HY.out]; rfl, HR3.out⟩
end Go.Proofs.Ytooaiomghbjpiaa
