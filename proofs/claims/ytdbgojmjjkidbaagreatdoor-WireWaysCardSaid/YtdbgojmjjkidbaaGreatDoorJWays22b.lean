/-
  WHAT WireWays SAYS, of no program.
-/
import Derived.Test.YtdbgojmjjkidbaaGreatDoorJOwn22
namespace Go.Proofs.YtdbgojmjjkidbaaGreatDoor
open Go.RowKit Go.Maps Go.Sort K
set_option maxRecDepth 20000

/-- How many go a way. -/
def ofL (e : Ed) (I : List Pk) : Nat := (I.filter fun p => decide (pway p = e)).length
/-- Those that go others. -/
def othersL (e : Ed) (I : List Pk) : List Pk := I.filter fun p => !decide (pway p = e)
theorem others_len (e : Ed) : ∀ I : List Pk, (othersL e I).length + ofL e I = I.length
  | [] => rfl
  | p :: r => by
    have ih := others_len e r
    unfold othersL ofL at ih ⊢
    by_cases h : pway p = e
    · simp [h]; omega
    · simp [h]; omega
theorem ofL_more (e : Ed) (I : List Pk) (p : Pk) : ofL e (I ++ [p]) = ofL e I + if pway p = e then 1 else 0 := by
  unfold ofL
  rw [List.filter_append, List.length_append]
  by_cases h : pway p = e <;> simp [h]
theorem goes_pc {e : Ed} {p : Pk} (hg : goodP p = true) (hf : p.Fits) : goesB e (bytesP p, false) = decide (pway p = e) := by
  unfold goesB
  simp only [readP_back p hg hf]
theorem sever_pcs {m : Nat} {I : List Pk} {e : Ed} (hI : AllG I) (hw : wayB e = true) : severW ⟨m, pcs I, []⟩ e = (0, ⟨m, pcs (othersL e I), [e]⟩) := by
  rw [severW_new hw (by simp)]
  have : (pcs I).filter (fun x => !goesB e x) = pcs (othersL e I) := by
    unfold pcs othersL
    rw [List.filter_map]
    congr 1
    refine List.filter_congr fun p hp => ?_
    simp only [Function.comp]
    rw [goes_pc (hI p hp).1 (hI p hp).2]
  simp only [this]
  rfl
/-- The hellos of the law. -/
def hiP (e : Ed) : Pk := ⟨1, e.1, e.2, 1, 0, 0, zM⟩
theorem hi_good {e : Ed} (h : wayB e = true) : goodP (hiP e) = true := by
  obtain ⟨h1, h2, h3⟩ := wayB_tells h
  obtain ⟨k1, k2⟩ := wayB_both h
  have hk : kindB (hiP e) = true := rfl
  unfold goodP
  show (inB e.1 1 8 && inB e.2 1 8 && !decide (e.1 = e.2) && kindB (hiP e)) = true
  rw [k1, k2, hk, decide_eq_false h3]; rfl
theorem hi_fits {e : Ed} (h : EFit e) : (hiP e).Fits := by
  obtain ⟨⟨h1, h2⟩, h3, h4⟩ := h
  exact ⟨by show _ ≤ (1 : Int) ∧ (1 : Int) < _; omega, ⟨h1, by show e.1 < _; omega⟩, ⟨h3, by show e.2 < _; omega⟩, by show (0 : Int) ≤ 1 ∧ (1 : Int) < _; omega, by show (0 : Int) ≤ 0 ∧ (0 : Int) < _; omega, by show (0 : Int) ≤ 0 ∧ (0 : Int) < _; omega, zM_fits19⟩
theorem hi_way (e : Ed) : pway (hiP e) = e := rfl
def swapE (e : Ed) : Ed := ⟨e.2, e.1⟩
theorem swap_way {e : Ed} (h : wayB e = true) : wayB (swapE e) = true := by
  obtain ⟨h1, h2, h3⟩ := wayB_tells h
  obtain ⟨k1, k2⟩ := wayB_both h
  show (inB e.2 1 8 && inB e.1 1 8 && !decide (e.2 = e.1)) = true
  rw [k1, k2, decide_eq_false (fun x => h3 x.symm)]; rfl
theorem swap_ne {e : Ed} (h : wayB e = true) : swapE e ≠ e := fun x => by
  have := (wayB_tells h).2.2
  have h1 : (swapE e).1 = e.1 := by rw [x]
  exact this h1.symm
theorem sever_again {m : Nat} {l : List Pc} {e : Ed} (hw : wayB e = true) : severW ⟨m, l, [e]⟩ e = (4, ⟨m, l, [e]⟩) := severW_old hw (by simp)
theorem send_cut {m : Nat} {l : List Pc} {e : Ed} (hw : wayB e = true) : sendW ⟨m, l, [e]⟩ (hiP e) = (0, ⟨m, l, [e]⟩) := sendW_cut (hi_good hw) (by rw [hi_way]; simp)
theorem send_back {m : Nat} {J : List Pk} {e : Ed} (hw : wayB e = true) (hl : J.length < m) : sendW ⟨m, pcs J, [e]⟩ (hiP (swapE e)) = (0, ⟨m, pcs (J ++ [hiP (swapE e)]), [e]⟩) := by
  rw [sendW_add (hi_good (swap_way hw)) (by rw [hi_way]; simp [swap_ne hw]), addW_room (by show ¬ m ≤ (pcs J).length; rw [pcs_length]; omega)]
  simp [pcs]
theorem mend_one {m : Nat} {l : List Pc} {e : Ed} : mendW ⟨m, l, [e]⟩ e = (0, ⟨m, l, []⟩) := by
  rw [mendW_yes (by simp)]
  simp
theorem mend_not {m : Nat} {l : List Pc} {e : Ed} : mendW ⟨m, l, []⟩ e = (3, ⟨m, l, []⟩) := mendW_no (by simp)
/-- Two packets in boxes that are no wire's. -/
structure Bq (U : World) (F : Nat → Prop) (g1 g2 : Nat) (e : Ed) : Prop where
  b1 : BxP g1 (hiP e) U
  b2 : BxP g2 (hiP (swapE e)) U
  n1 : ¬ F g1
  n2 : ¬ F g2
theorem Bq.go {U V : World} {F : Nat → Prop} {g1 g2 : Nat} {e : Ed} (h : Bq U F g1 g2 e) (b : Below U.heap.size U V) : Bq V F g1 g2 e := ⟨h.b1.go b, h.b2.go b, h.n1, h.n2⟩
theorem Bq.moved {U V : World} {F F' : Nat → Prop} {g1 g2 : Nat} {e : Ed} (h : Bq U F g1 g2 e) (m : Moved U V F F') : Bq V F' g1 g2 e :=
  ⟨h.b1.moved m h.n1, h.b2.moved m h.n2, fun hf => (m.sub _ hf).elim h.n1 (by have := h.b1.lt; omega), fun hf => (m.sub _ hf).elim h.n2 (by have := h.b2.lt; omega)⟩
theorem wayB_five {e : Ed} (h : wayB e = false) : e.1 < 1 ∨ (1 ≤ e.1 ∧ 8 < e.1) ∨ (1 ≤ e.1 ∧ e.1 ≤ 8 ∧ e.2 < 1) ∨ (1 ≤ e.1 ∧ e.1 ≤ 8 ∧ 1 ≤ e.2 ∧ 8 < e.2) ∨ (1 ≤ e.1 ∧ e.1 ≤ 8 ∧ 1 ≤ e.2 ∧ e.2 ≤ 8 ∧ e.1 = e.2) := by
  rcases wayB_split h with h1 | ⟨h1, h2⟩ | ⟨h1, h2, h3⟩
  · simp [inB] at h1; omega
  · simp [inB] at h1 h2; omega
  · simp [inB] at h1 h2; omega
theorem wrap_sub {n o r : Nat} (h : r + o = n) (hn : n ≤ 60) : wrap64 ((n : Int) - (o : Int)) = (r : Int) := by unfold wrap64; omega
theorem wrap_add {r : Nat} (k : Nat) (h : r ≤ 60) (hk : k ≤ 60) : wrap64 ((r : Int) + (k : Int)) = ((r + k : Nat) : Int) := by unfold wrap64; omega
theorem len_pcs {w0 U : World} {p : Nat} {F : Nat → Prop} {m : Nat} {I : List Pk} {E : List Ed} (h : Lw w0 U p F ⟨m, pcs I, E⟩) {n : Nat} (hn : I.length = n) : Calls Tryz.prog 29 #[.pointer (some ⟨p, 0, none⟩)] U fun e V => e = .returned (.int .i64 (n : Nat)) ∧ V = U := by
  have hl := h.len
  change Calls _ _ _ _ (fun e V => e = .returned (.int .i64 ((pcs I).length : Nat)) ∧ V = U) at hl
  rw [pcs_length, hn] at hl
  exact hl
end Go.Proofs.YtdbgojmjjkidbaaGreatDoor

/-
  THE WALK of WireWays.
-/
namespace Go.Proofs.YtdbgojmjjkidbaaGreatDoor
open Go.RowKit Go.Maps Go.Sort K
set_option maxRecDepth 20000

theorem keptB {w U V : World} (h : Below w.heap.size w U) (b : Below U.heap.size U V) : Below w.heap.size w V := keptW h b
set_option maxHeartbeats 16000000 in
theorem ways_law (e : Ed) (v1 : Value) (z0 : List Pk) (w : World) (ht : Tbs w) (he : EFit e) (h0 : RowOf pcells w v1 z0) (b0 : ∀ a ∈ z0, Fit22 a) :
    Calls Tryz.prog 5 #[ev e, v1] w fun e' w' => e' = .returned (.bool true) ∧ Below w.heap.size w w' := by
  obtain ⟨a0, c0, hv0⟩ := h0.slice
  subst hv0
  obtain ⟨W, hW⟩ : ∃ W, w.alloc (.cells #[.int .i64 e.1, .int .i64 e.2] 37) = W := ⟨_, rfl⟩
  have bW : Below w.heap.size w W := by rw [← hW]; exact box_belowW w _
  have xW : W.heap[w.heap.size]? = some (.cells (ecells e).toArray 37 (0, 0)) := by rw [← hW]; exact heap_alloc_new w _
  have hWl : w.heap.size < W.heap.size := (Array.getElem?_eq_some_iff.1 xW).1
  have htW := ht.at bW
  have h0W : RowOf pcells W (.slice a0 z0.length c0) z0 := RowOf.below h0 bW (Nat.le_refl _)
  have HW : Hid (Below w.heap.size w W) := bW
  have HT : Hid (Tbs W) := htW
  have HB : Hid (∀ a ∈ z0, Fit22 a) := b0
  have HEF : Hid (EFit e) := he
  have H0 : Hid (RowOf pcells W (.slice a0 z0.length c0) z0) := h0W
  obtain ⟨q, hq⟩ : ∃ q, w.heap.size = q := ⟨_, rfl⟩
  rw [hq] at xW hWl
  have HE : Hid (∀ V, Below W.heap.size W V → V.cell? ⟨q, 0, none⟩ = some (.int .i64 e.1) ∧ V.cell? ⟨q, 1, none⟩ = some (.int .i64 e.2)) := fun V b => ⟨cell_of_list (C := ecells e) ((b.block _ hWl).trans xW) 0, cell_of_list (C := ecells e) ((b.block _ hWl).trans xW) 1⟩
  obtain ⟨n0, hn0⟩ : ∃ n, z0.length = n := ⟨_, rfl⟩
  rw [hn0] at H0 ⊢
  have HN : Hid (z0.length = n0) := hn0
  have hN := new_lw W W (Below.refl _ _) 200 (by omega) (by omega)
  have HLv : Hid (∀ U, Below W.heap.size W U → Calls Tryz.prog 10 #[] U fun e w' => e = .returned (.bool true) ∧ Below U.heap.size U w') := fun U b => lives_any U (htW.at b)
  clear ht htW he h0 h0W b0 hn0 bW xW hWl
  go_enter Tryz.func5, Tryz.ntmps5
  go_wp2_with fail
  try rw [hW]
  try rw [hq]
  refine hN.mono ?_
  rintro e' w1 ⟨p, rfl, F, l1, hF1, b1⟩
  have L1 : Hid (Lw W w1 p F ⟨200, pcs [], []⟩) := l1
  clear l1 hF1 b1 hN hW
  by_cases hg : 60 < n0
  · have hgi : (60 : Int) < (n0 : Int) := by omega
    have hL := HLv.out w1 L1.out.bel
    go_wp2_with fail
    refine hL.mono ?_
    rintro e' w99 ⟨rfl, b99⟩
    have B99 : Hid (Below w.heap.size w w99) := keptW HW.out (keptB L1.out.bel b99)
    clear b99 hL
    go_wp2
    go_ret
    exact ⟨rfl, B99.out⟩
  · have hgi : ¬ (60 : Int) < (n0 : Int) := by omega
    have HN6 : Hid (n0 ≤ 60) := by show n0 ≤ 60; omega
    go_wp2
    clear hg hgi
    go_loopg [6, 7, 9, 29] n0 (fun gg u6 u7 _ u29 wr => ∃ (i n o : Nat) (F : Nat → Prop), u6 = .int .i64 (n : Int) ∧ u7 = .int .i64 (o : Int) ∧ u29 = .int .i64 (i : Int) ∧ i ≤ n0 ∧ gg = n0 - i ∧ Hid (Lw W wr p F ⟨200, pcs (goodsL z0 i), []⟩ ∧ (goodsL z0 i).length = n ∧ ofL e (goodsL z0 i) = o))
    case atStart => exact ⟨0, 0, 0, F, rfl, rfl, rfl, Nat.zero_le _, rfl, L1.out, rfl, rfl⟩
    case round =>
      clear L1
      obtain ⟨i, n, o, F, rfl, rfl, rfl, hin, rfl, HO⟩ := hrel
      by_cases hlt : i < n0
      · have hlt' : (i : Int) < (n0 : Int) := by omega
        have hil : i < z0.length := by rw [HN.out]; exact hlt
        obtain ⟨hx1, hx2, hat⟩ := RowOf.pks H0.out
        obtain ⟨b, off, ha, hpk⟩ := hat i hil
        subst ha
        have hpk2 := hpk.same (w' := wr) (HO.out.1.bel.block b hpk.lt)
        have hsm := HB.out z0[i] (List.getElem_mem hil)
        have HG : Hid (goodsL z0 (i + 1) = if goodP z0[i] = true then goodsL z0 i ++ [z0[i]] else goodsL z0 i) := goods_next hil
        have HS : Hid (Fit22 z0[i]) := hsm
        have HI : Hid (i < n0 ∧ n ≤ i ∧ o ≤ n) := ⟨hlt, by rw [← HO.out.2.1]; exact goods_len z0 i, by rw [← HO.out.2.1, ← HO.out.2.2]; exact List.length_filter_le _ _⟩
        generalize z0[i] = P at *
        have HPK : Hid (PkAt wr b (off + i * 12) P) := hpk2
        clear hpk hpk2 hat hil hsm hx1 hx2
        obtain ⟨X1, g1⟩ : ∃ X, wr.alloc (.cells #[.int .i64 0, .int .i64 0, .int .i64 0, .int .u64 0, .int .u16 0, .int .u64 0, .int .i64 0, .int .u64 0, .int .i64 0, .string ⟨#[]⟩, .string ⟨#[]⟩, .string ⟨#[]⟩] 35) = X := ⟨_, rfl⟩
        have x1 : X1.heap[wr.heap.size]? = some (.cells (pcells nilP).toArray 35 (0, 0)) := by rw [← g1]; exact heap_alloc_new wr _
        have c1 : Below wr.heap.size wr X1 := by rw [← g1]; exact box_belowW wr _
        obtain ⟨V1, f1⟩ : ∃ X, X1.setRow wr.heap.size (pcells P).toArray = X := ⟨_, rfl⟩
        have D1 : Hid (Below wr.heap.size wr V1) := by show Below _ _ _; rw [← f1]; exact below_setRow c1 (Nat.le_refl _) _
        have E1 : Hid (V1.heap[wr.heap.size]? = some (.cells (pcells P).toArray 35 (0, 0))) := by show _ = _; rw [← f1]; exact setRow_heap _ _ _ _ _ _ x1
        have Y1 : Hid (X1.heap[wr.heap.size]? = some (.cells (pcells nilP).toArray 35 (0, 0))) := x1
        clear x1 c1
        go_wp2_with (first
          | (refine wpList_store_row rfl 35 _ _ rfl wr.heap.size (pcells P).toArray rfl rfl 35 (pcells nilP).toArray Y1.out info12 rfl (one12 _) ?_; rw [f1])
          | (refine wpList_load_mid rfl 35 _ rfl b (off + i * 12) rfl (pcells P) _ HPK.out Tryz.underlying35 rfl (info12L _) ?_)
          | (refine wpList_load_row rfl 35 _ rfl wr.heap.size rfl 35 (pcells P).toArray (0, 0) _ E1.out Tryz.underlying35 rfl info12 ?_))
        clear f1 g1
        refine (greatP_any P V1 HS.out.2).mono ?_
        rintro e' w2 ⟨rfl, b2⟩
        have E2 : Hid (BxP wr.heap.size P w2) := BxP.go E1.out b2
        have O2 : Hid (Lw W w2 p F ⟨200, pcs (goodsL z0 i), []⟩) := (HO.out.1.go D1.out).go b2
        have HnF0 : Hid (¬ F wr.heap.size) := fun hf => by have := HO.out.1.wt.lts _ hf; omega
        have HC : Hid ((goodsL z0 i).length = n ∧ ofL e (goodsL z0 i) = o) := HO.out.2
        clear b2 HO
        cases greatP P
        rotate_left
        · skip
          have hL := HLv.out w2 O2.out.bel
          go_wp2_with fail
          refine hL.mono ?_
          rintro e' w99 ⟨rfl, b99⟩
          have B99 : Hid (Below w.heap.size w w99) := keptW HW.out (keptB O2.out.bel b99)
          clear b99 hL
          go_wp2
          go_ret
          exact ⟨rfl, B99.out⟩
        · have hS := O2.out.send HT.out P HS.out.1
          cases hgp : goodP P
          · rw [sendW_bad hgp] at hS
            have HGG : Hid (goodsL z0 (i + 1) = goodsL z0 i) := by
              have := HG.out
              rw [hgp, if_neg (by simp)] at this
              exact this
            clear hgp
            go_wp2_with (refine wpList_load_row rfl 35 _ rfl wr.heap.size rfl 35 (pcells P).toArray (0, 0) _ E2.out Tryz.underlying35 rfl info12 ?_)
            refine hS.mono ?_
            rintro e' w3 ⟨rfl, F3, l3, m3⟩
            have O3 : Hid (Lw W w3 p F3 ⟨200, pcs (goodsL z0 (i + 1)), []⟩ ∧ (goodsL z0 (i + 1)).length = n ∧ ofL e (goodsL z0 (i + 1)) = o) := by
              show _ ∧ _
              rw [HGG.out]
              exact ⟨l3, HC.out⟩
            clear l3 m3 hS
            go_wp2
            go_roundg (n0 - (i + 1))
            case measure => have := HI.out; omega
            case rel => exact ⟨i + 1, n, o, F3, rfl, rfl, congrArg (Value.int IntKind.i64) (by have := HI.out; have := HN6.out; first | omega | (unfold wrap64; omega)), HI.out.1, rfl, O3⟩
          · rw [send_good (by have := HN6.out; have := HI.out; have := HC.out.1; omega) hgp] at hS
            have HGG : Hid (goodsL z0 (i + 1) = goodsL z0 i ++ [P]) := by
              have := HG.out
              rw [hgp, if_pos rfl] at this
              exact this
            clear hgp
            have hw1 : wrap64 ((n : Int) + 1) = ((n + 1 : Nat) : Int) := by have := HI.out; have := HN6.out; unfold wrap64; omega
            have hw2 : wrap64 ((o : Int) + 1) = ((o + 1 : Nat) : Int) := by have := HI.out; have := HN6.out; unfold wrap64; omega
            go_wp2_with (refine wpList_load_row rfl 35 _ rfl wr.heap.size rfl 35 (pcells P).toArray (0, 0) _ E2.out Tryz.underlying35 rfl info12 ?_)
            refine hS.mono ?_
            rintro e' w3 ⟨rfl, F3, l3, m3⟩
            have E3 : Hid (BxP wr.heap.size P w3) := BxP.moved E2.out m3 HnF0.out
            have O3 : Hid (Lw W w3 p F3 ⟨200, pcs (goodsL z0 (i + 1)), []⟩ ∧ (goodsL z0 (i + 1)).length = n + 1 ∧ ofL e (goodsL z0 (i + 1)) = o + if pway P = e then 1 else 0) := by
              show _ ∧ _
              rw [HGG.out]
              exact ⟨l3, by rw [List.length_append, HC.out.1]; rfl, by rw [ofL_more, HC.out.2]⟩
            clear l3 m3 hS
            obtain ⟨_, k1, k2, _⟩ := cells12 E3.out
            have y0 : w3.cell? ⟨q, 0, none⟩ = some (.int .i64 e.1) := (HE.out w3 O3.out.1.bel).1
            have y1 : w3.cell? ⟨q, 1, none⟩ = some (.int .i64 e.2) := (HE.out w3 O3.out.1.bel).2
            by_cases h1 : P.fr = e.1
            · by_cases h2 : P.dest = e.2
              · have hpe : pway P = e := (ed_iff _ _).2 ⟨h1, h2⟩
                have O4 : Hid (Lw W w3 p F3 ⟨200, pcs (goodsL z0 (i + 1)), []⟩ ∧ (goodsL z0 (i + 1)).length = n + 1 ∧ ofL e (goodsL z0 (i + 1)) = o + 1) := by
                  have := O3.out
                  rw [if_pos hpe] at this
                  exact this
                have h1' : (P.fr == e.1) = true := by rw [h1]; exact beq_self_eq_true _
                have h2' : (P.dest == e.2) = true := by rw [h2]; exact beq_self_eq_true _
                clear hpe O3
                go_wp2
                go_roundg (n0 - (i + 1))
                case measure => have := HI.out; omega
                case rel => exact ⟨i + 1, n + 1, o + 1, F3, congrArg (Value.int IntKind.i64) (by first | rfl | omega), congrArg (Value.int IntKind.i64) (by first | rfl | omega), congrArg (Value.int IntKind.i64) (by have := HI.out; have := HN6.out; first | omega | (unfold wrap64; omega)), HI.out.1, rfl, O4⟩
              · have hpe : ¬ pway P = e := fun h => h2 ((ed_iff _ _).1 h).2
                have O4 : Hid (Lw W w3 p F3 ⟨200, pcs (goodsL z0 (i + 1)), []⟩ ∧ (goodsL z0 (i + 1)).length = n + 1 ∧ ofL e (goodsL z0 (i + 1)) = o) := by
                  have := O3.out
                  rw [if_neg hpe] at this
                  exact this
                clear hpe O3
                go_wp2
                go_roundg (n0 - (i + 1))
                case measure => have := HI.out; omega
                case rel => exact ⟨i + 1, n + 1, o, F3, congrArg (Value.int IntKind.i64) (by first | rfl | omega), rfl, congrArg (Value.int IntKind.i64) (by have := HI.out; have := HN6.out; first | omega | (unfold wrap64; omega)), HI.out.1, rfl, O4⟩
            · have hpe : ¬ pway P = e := fun h => h1 ((ed_iff _ _).1 h).1
              have O4 : Hid (Lw W w3 p F3 ⟨200, pcs (goodsL z0 (i + 1)), []⟩ ∧ (goodsL z0 (i + 1)).length = n + 1 ∧ ofL e (goodsL z0 (i + 1)) = o) := by
                have := O3.out
                rw [if_neg hpe] at this
                exact this
              clear hpe O3
              go_wp2
              go_roundg (n0 - (i + 1))
              case measure => have := HI.out; omega
              case rel => exact ⟨i + 1, n + 1, o, F3, congrArg (Value.int IntKind.i64) (by first | rfl | omega), rfl, congrArg (Value.int IntKind.i64) (by have := HI.out; have := HN6.out; first | omega | (unfold wrap64; omega)), HI.out.1, rfl, O4⟩
      · have hlt' : ¬ (i : Int) < (n0 : Int) := by omega
        have hAG : AllG (goodsL z0 i) := goods_all (fun p hp => (HB.out p hp).1)
        obtain ⟨I, hI⟩ : ∃ I, goodsL z0 i = I := ⟨_, rfl⟩
        have hIn : I.length ≤ 60 := by rw [← hI]; exact Nat.le_trans (goods_len z0 i) (by have := HN6.out; omega)
        rw [hI] at HO hAG
        have HA : Hid (AllG I ∧ I.length ≤ 60) := ⟨hAG, hIn⟩
        clear hAG hIn hI
        have y0 : wr.cell? ⟨q, 0, none⟩ = some (.int .i64 e.1) := (HE.out wr HO.out.1.bel).1
        have y1 : wr.cell? ⟨q, 1, none⟩ = some (.int .i64 e.2) := (HE.out wr HO.out.1.bel).2
        have hS := HO.out.1.sever HT.out e HEF.out
        have hE : wayB e = (inB e.1 1 8 && inB e.2 1 8 && !decide (e.1 = e.2)) := rfl
        have HQ : Hid (I.length = n ∧ ofL e I = o) := HO.out.2
        cases hw : wayB e
        · rw [severW_bad hw] at hS
          have hcs := wayB_five hw
          clear hE hw HO
          rcases hcs with h1 | ⟨h1, h2⟩ | ⟨h1, h2, h3⟩ | ⟨h1, h2, h3, h4⟩ | ⟨h1, h2, h3, h4, h5⟩
          · have h1' : ¬ (1 : Int) ≤ e.1 := by omega
            go_wp2_with fail
            refine hS.mono ?_
            rintro e' w4 ⟨rfl, F4, l4, m4⟩
            have L4 : Hid (Lw W w4 p F4 ⟨200, pcs I, []⟩) := l4
            clear l4 m4 hS y0 y1
            have hLn := len_pcs L4.out HQ.out.1
            have y0 : w4.cell? ⟨q, 0, none⟩ = some (.int .i64 e.1) := (HE.out w4 L4.out.bel).1
            have y1 : w4.cell? ⟨q, 1, none⟩ = some (.int .i64 e.2) := (HE.out w4 L4.out.bel).2
            go_wp2_with fail
            refine hLn.mono ?_
            rintro e' w4 ⟨rfl, rfl⟩
            have hM := L4.out.mend e HEF.out
            rw [mend_not] at hM
            go_wp2_with fail
            refine hM.mono ?_
            rintro e' w5 ⟨rfl, F5, l5, m5⟩
            have L5 : Hid (Lw W w5 p F5 ⟨200, pcs I, []⟩) := l5
            clear l5 m5 hM y0 y1
            have hL := HLv.out w5 L5.out.bel
            go_wp2_with fail
            refine hL.mono ?_
            rintro e' w99 ⟨rfl, b99⟩
            have B99 : Hid (Below w.heap.size w w99) := keptW HW.out (keptB L5.out.bel b99)
            clear b99 hL
            go_wp2
            go_ret
            exact ⟨rfl, B99.out⟩
          · have h2' : ¬ e.1 ≤ (8 : Int) := by omega
            go_wp2_with fail
            refine hS.mono ?_
            rintro e' w4 ⟨rfl, F4, l4, m4⟩
            have L4 : Hid (Lw W w4 p F4 ⟨200, pcs I, []⟩) := l4
            clear l4 m4 hS y0 y1
            have hLn := len_pcs L4.out HQ.out.1
            have y0 : w4.cell? ⟨q, 0, none⟩ = some (.int .i64 e.1) := (HE.out w4 L4.out.bel).1
            have y1 : w4.cell? ⟨q, 1, none⟩ = some (.int .i64 e.2) := (HE.out w4 L4.out.bel).2
            go_wp2_with fail
            refine hLn.mono ?_
            rintro e' w4 ⟨rfl, rfl⟩
            have hM := L4.out.mend e HEF.out
            rw [mend_not] at hM
            go_wp2_with fail
            refine hM.mono ?_
            rintro e' w5 ⟨rfl, F5, l5, m5⟩
            have L5 : Hid (Lw W w5 p F5 ⟨200, pcs I, []⟩) := l5
            clear l5 m5 hM y0 y1
            have hL := HLv.out w5 L5.out.bel
            go_wp2_with fail
            refine hL.mono ?_
            rintro e' w99 ⟨rfl, b99⟩
            have B99 : Hid (Below w.heap.size w w99) := keptW HW.out (keptB L5.out.bel b99)
            clear b99 hL
            go_wp2
            go_ret
            exact ⟨rfl, B99.out⟩
          · have h3' : ¬ (1 : Int) ≤ e.2 := by omega
            go_wp2_with fail
            refine hS.mono ?_
            rintro e' w4 ⟨rfl, F4, l4, m4⟩
            have L4 : Hid (Lw W w4 p F4 ⟨200, pcs I, []⟩) := l4
            clear l4 m4 hS y0 y1
            have hLn := len_pcs L4.out HQ.out.1
            have y0 : w4.cell? ⟨q, 0, none⟩ = some (.int .i64 e.1) := (HE.out w4 L4.out.bel).1
            have y1 : w4.cell? ⟨q, 1, none⟩ = some (.int .i64 e.2) := (HE.out w4 L4.out.bel).2
            go_wp2_with fail
            refine hLn.mono ?_
            rintro e' w4 ⟨rfl, rfl⟩
            have hM := L4.out.mend e HEF.out
            rw [mend_not] at hM
            go_wp2_with fail
            refine hM.mono ?_
            rintro e' w5 ⟨rfl, F5, l5, m5⟩
            have L5 : Hid (Lw W w5 p F5 ⟨200, pcs I, []⟩) := l5
            clear l5 m5 hM y0 y1
            have hL := HLv.out w5 L5.out.bel
            go_wp2_with fail
            refine hL.mono ?_
            rintro e' w99 ⟨rfl, b99⟩
            have B99 : Hid (Below w.heap.size w w99) := keptW HW.out (keptB L5.out.bel b99)
            clear b99 hL
            go_wp2
            go_ret
            exact ⟨rfl, B99.out⟩
          · have h4' : ¬ e.2 ≤ (8 : Int) := by omega
            go_wp2_with fail
            refine hS.mono ?_
            rintro e' w4 ⟨rfl, F4, l4, m4⟩
            have L4 : Hid (Lw W w4 p F4 ⟨200, pcs I, []⟩) := l4
            clear l4 m4 hS y0 y1
            have hLn := len_pcs L4.out HQ.out.1
            have y0 : w4.cell? ⟨q, 0, none⟩ = some (.int .i64 e.1) := (HE.out w4 L4.out.bel).1
            have y1 : w4.cell? ⟨q, 1, none⟩ = some (.int .i64 e.2) := (HE.out w4 L4.out.bel).2
            go_wp2_with fail
            refine hLn.mono ?_
            rintro e' w4 ⟨rfl, rfl⟩
            have hM := L4.out.mend e HEF.out
            rw [mend_not] at hM
            go_wp2_with fail
            refine hM.mono ?_
            rintro e' w5 ⟨rfl, F5, l5, m5⟩
            have L5 : Hid (Lw W w5 p F5 ⟨200, pcs I, []⟩) := l5
            clear l5 m5 hM y0 y1
            have hL := HLv.out w5 L5.out.bel
            go_wp2_with fail
            refine hL.mono ?_
            rintro e' w99 ⟨rfl, b99⟩
            have B99 : Hid (Below w.heap.size w w99) := keptW HW.out (keptB L5.out.bel b99)
            clear b99 hL
            go_wp2
            go_ret
            exact ⟨rfl, B99.out⟩
          · obtain ⟨f, hf⟩ : ∃ f : Int, e = ⟨f, f⟩ := ⟨e.1, (ed_iff _ _).2 ⟨rfl, h5.symm⟩⟩
            subst hf
            dsimp only at h1 h2 h3 h4 y0 y1
            clear h5
            go_wp2_with fail
            refine hS.mono ?_
            rintro e' w4 ⟨rfl, F4, l4, m4⟩
            have L4 : Hid (Lw W w4 p F4 ⟨200, pcs I, []⟩) := l4
            clear l4 m4 hS y0 y1
            have hLn := len_pcs L4.out HQ.out.1
            have y0 : w4.cell? ⟨q, 0, none⟩ = some (.int .i64 f) := (HE.out w4 L4.out.bel).1
            have y1 : w4.cell? ⟨q, 1, none⟩ = some (.int .i64 f) := (HE.out w4 L4.out.bel).2
            go_wp2_with fail
            refine hLn.mono ?_
            rintro e' w4 ⟨rfl, rfl⟩
            have hM := L4.out.mend ⟨f, f⟩ HEF.out
            rw [mend_not] at hM
            go_wp2_with fail
            refine hM.mono ?_
            rintro e' w5 ⟨rfl, F5, l5, m5⟩
            have L5 : Hid (Lw W w5 p F5 ⟨200, pcs I, []⟩) := l5
            clear l5 m5 hM y0 y1
            have hL := HLv.out w5 L5.out.bel
            go_wp2_with fail
            refine hL.mono ?_
            rintro e' w99 ⟨rfl, b99⟩
            have B99 : Hid (Below w.heap.size w w99) := keptW HW.out (keptB L5.out.bel b99)
            clear b99 hL
            go_wp2
            go_ret
            exact ⟨rfl, B99.out⟩
        · obtain ⟨⟨q1, q2⟩, ⟨q3, q4⟩, q5⟩ := wayB_tells hw
          have q6 : (e.1 == e.2) = false := by rw [beq_eq_false_iff_ne]; exact q5
          have q7 : (e.1 != e.2) = true := by rw [bne, q6]; rfl
          have HWB : Hid (wayB e = true) := hw
          rw [sever_pcs HA.out.1 hw] at hS
          obtain ⟨J, hJ⟩ : ∃ J, othersL e I = J := ⟨_, rfl⟩
          have hJl := others_len e I
          rw [hJ] at hS hJl
          obtain ⟨r, hr⟩ : ∃ r, J.length = r := ⟨_, rfl⟩
          have hro : r + o = n := by rw [← hr, ← HQ.out.1, ← HQ.out.2]; exact hJl
          have hn60 : n ≤ 60 := by rw [← HQ.out.1]; exact HA.out.2
          have hr60 : r ≤ 60 := Nat.le_trans (Nat.le_add_right r o) (hro ▸ hn60)
          have HR : Hid (J.length = r ∧ J.length < 200 ∧ (J ++ [hiP (swapE e)]).length < 200) := ⟨hr, by rw [hr]; exact Nat.lt_of_le_of_lt hr60 (by decide), by rw [List.length_append, hr]; exact Nat.lt_of_le_of_lt (Nat.add_le_add_right hr60 1) (by decide)⟩
          have HWR : Hid (wrap64 ((n : Int) - (o : Int)) = (r : Int) ∧ wrap64 ((r : Int) + 1) = ((r + 1 : Nat) : Int) ∧ wrap64 ((r : Int) + 2) = ((r + 2 : Nat) : Int)) := ⟨wrap_sub hro hn60, wrap_add 1 hr60 (by decide), wrap_add 2 hr60 (by decide)⟩
          clear hro hn60 hr60
          clear hE hw HO hJ hJl hr HQ HA q5
          go_wp2_with fail
          refine hS.mono ?_
          rintro e' w4 ⟨rfl, F4, l4, m4⟩
          have L4 : Hid (Lw W w4 p F4 ⟨200, pcs J, [e]⟩) := l4
          clear l4 m4 hS y0 y1
          have y0 : w4.cell? ⟨q, 0, none⟩ = some (.int .i64 e.1) := (HE.out w4 L4.out.bel).1
          have y1 : w4.cell? ⟨q, 1, none⟩ = some (.int .i64 e.2) := (HE.out w4 L4.out.bel).2
          obtain ⟨X1, g1⟩ : ∃ X, w4.alloc (.cells #[.int .i64 0, .int .i64 0, .int .i64 0, .int .u64 0, .int .u16 0, .int .u64 0, .int .i64 0, .int .u64 0, .int .i64 0, .string ⟨#[]⟩, .string ⟨#[]⟩, .string ⟨#[]⟩] 35) = X := ⟨_, rfl⟩
          have x1 : X1.heap[w4.heap.size]? = some (.cells (pcells nilP).toArray 35 (0, 0)) := by rw [← g1]; exact heap_alloc_new w4 _
          have c1 : Below w4.heap.size w4 X1 := by rw [← g1]; exact box_belowW w4 _
          obtain ⟨V1, f1⟩ : ∃ X, X1.setRow w4.heap.size (pcells (hiP e)).toArray = X := ⟨_, rfl⟩
          have D1 : Hid (Below w4.heap.size w4 V1) := by show Below _ _ _; rw [← f1]; exact below_setRow c1 (Nat.le_refl _) _
          have E1 : Hid (V1.heap[w4.heap.size]? = some (.cells (pcells (hiP e)).toArray 35 (0, 0))) := by show _ = _; rw [← f1]; exact setRow_heap _ _ _ _ _ _ x1
          have Y1 : Hid (X1.heap[w4.heap.size]? = some (.cells (pcells nilP).toArray 35 (0, 0))) := x1
          clear x1 c1
          have z0e : V1.cell? ⟨q, 0, none⟩ = some (.int .i64 e.1) := (HE.out V1 (L4.out.go D1.out).bel).1
          have z1e : V1.cell? ⟨q, 1, none⟩ = some (.int .i64 e.2) := (HE.out V1 (L4.out.go D1.out).bel).2
          obtain ⟨X2, g2⟩ : ∃ X, V1.alloc (.cells #[.int .i64 0, .int .i64 0, .int .i64 0, .int .u64 0, .int .u16 0, .int .u64 0, .int .i64 0, .int .u64 0, .int .i64 0, .string ⟨#[]⟩, .string ⟨#[]⟩, .string ⟨#[]⟩] 35) = X := ⟨_, rfl⟩
          have x2 : X2.heap[V1.heap.size]? = some (.cells (pcells nilP).toArray 35 (0, 0)) := by rw [← g2]; exact heap_alloc_new V1 _
          have c2 : Below V1.heap.size V1 X2 := by rw [← g2]; exact box_belowW V1 _
          obtain ⟨V2, f2⟩ : ∃ X, X2.setRow V1.heap.size (pcells (hiP (swapE e))).toArray = X := ⟨_, rfl⟩
          have D2 : Hid (Below V1.heap.size V1 V2) := by show Below _ _ _; rw [← f2]; exact below_setRow c2 (Nat.le_refl _) _
          have E2 : Hid (V2.heap[V1.heap.size]? = some (.cells (pcells (hiP (swapE e))).toArray 35 (0, 0))) := by show _ = _; rw [← f2]; exact setRow_heap _ _ _ _ _ _ x2
          have Y2 : Hid (X2.heap[V1.heap.size]? = some (.cells (pcells nilP).toArray 35 (0, 0))) := x2
          clear x2 c2
          have B2 : Hid (Bq V2 F4 w4.heap.size V1.heap.size e ∧ Lw W V2 p F4 ⟨200, pcs J, [e]⟩) := ⟨⟨BxP.go E1.out D2.out, E2.out, fun hf => by have := L4.out.wt.lts _ hf; omega, fun hf => by have := L4.out.wt.lts _ hf; have := D1.out.size; omega⟩, (L4.out.go D1.out).go D2.out⟩
          go_wp2_with (first
            | (refine wpList_store_row rfl 35 _ _ rfl w4.heap.size (pcells (hiP e)).toArray rfl rfl 35 (pcells nilP).toArray Y1.out info12 rfl (one12 _) ?_; rw [f1])
            | (refine wpList_store_row rfl 35 _ _ rfl V1.heap.size (pcells (hiP (swapE e))).toArray rfl rfl 35 (pcells nilP).toArray Y2.out info12 rfl (one12 _) ?_; rw [f2]))
          clear f1 f2 g1 g2 y0 y1 z0e z1e D1 D2 E1 E2 Y1 Y2 L4
          obtain ⟨gp, hgp⟩ : ∃ z, w4.heap.size = z := ⟨_, rfl⟩
          obtain ⟨gq, hgq⟩ : ∃ z, V1.heap.size = z := ⟨_, rfl⟩
          rw [hgp, hgq] at B2
          try rw [hgp]
          try rw [hgq]
          obtain ⟨hw1, hw2, hw3⟩ := HWR.out
          refine (len_pcs B2.out.2 HR.out.1).mono ?_
          rintro e' V2 ⟨rfl, rfl⟩
          have hX := B2.out.2.sever HT.out e HEF.out
          rw [sever_again HWB.out] at hX
          have y0 : V2.cell? ⟨q, 0, none⟩ = some (.int .i64 e.1) := (HE.out V2 B2.out.2.bel).1
          have y1 : V2.cell? ⟨q, 1, none⟩ = some (.int .i64 e.2) := (HE.out V2 B2.out.2.bel).2
          go_wp2_with fail
          refine hX.mono ?_
          rintro e' w5 ⟨rfl, F5, l5, m5⟩
          have B5 : Hid (Bq w5 F5 gp gq e ∧ Lw W w5 p F5 ⟨200, pcs J, [e]⟩) := ⟨B2.out.1.moved m5, l5⟩
          clear l5 m5 hX y0 y1 B2
          have hX := B5.out.2.send HT.out (hiP e) (hi_fits HEF.out)
          rw [send_cut HWB.out] at hX
          go_wp2_with (refine wpList_load_rowG (by first | rfl | (simp [Region.wanted]; done)) 35 _ rfl gp rfl 35 (pcells (hiP e)).toArray (0, 0) _ B5.out.1.b1 Tryz.underlying35 rfl info12 ?_)
          refine hX.mono ?_
          rintro e' w6 ⟨rfl, F6, l6, m6⟩
          have B6 : Hid (Bq w6 F6 gp gq e ∧ Lw W w6 p F6 ⟨200, pcs J, [e]⟩) := ⟨B5.out.1.moved m6, l6⟩
          clear l6 m6 hX B5
          go_wp2_with fail
          refine (len_pcs B6.out.2 HR.out.1).mono ?_
          rintro e' w6 ⟨rfl, rfl⟩
          have hX := B6.out.2.send HT.out (hiP (swapE e)) (hi_fits ⟨HEF.out.2, HEF.out.1⟩)
          rw [send_back HWB.out HR.out.2.1] at hX
          go_wp2_with (refine wpList_load_rowG (by first | rfl | (simp [Region.wanted]; done)) 35 _ rfl gq rfl 35 (pcells (hiP (swapE e))).toArray (0, 0) _ B6.out.1.b2 Tryz.underlying35 rfl info12 ?_)
          refine hX.mono ?_
          rintro e' w7 ⟨rfl, F7, l7, m7⟩
          have B7 : Hid (Bq w7 F7 gp gq e ∧ Lw W w7 p F7 ⟨200, pcs (J ++ [hiP (swapE e)]), [e]⟩) := ⟨B6.out.1.moved m7, l7⟩
          clear l7 m7 hX B6
          go_wp2_with fail
          refine (len_pcs (n := r + 1) B7.out.2 (by rw [List.length_append, HR.out.1]; rfl)).mono ?_
          rintro e' w7 ⟨rfl, rfl⟩
          have hX := B7.out.2.mend e HEF.out
          rw [mend_one] at hX
          have y0 : w7.cell? ⟨q, 0, none⟩ = some (.int .i64 e.1) := (HE.out w7 B7.out.2.bel).1
          have y1 : w7.cell? ⟨q, 1, none⟩ = some (.int .i64 e.2) := (HE.out w7 B7.out.2.bel).2
          go_wp2_with fail
          refine hX.mono ?_
          rintro e' w8 ⟨rfl, F8, l8, m8⟩
          have B8 : Hid (Bq w8 F8 gp gq e ∧ Lw W w8 p F8 ⟨200, pcs (J ++ [hiP (swapE e)]), []⟩) := ⟨B7.out.1.moved m8, l8⟩
          clear l8 m8 hX y0 y1 B7
          have hX := B8.out.2.send HT.out (hiP e) (hi_fits HEF.out)
          rw [send_good HR.out.2.2 (hi_good HWB.out)] at hX
          go_wp2_with (refine wpList_load_rowG (by first | rfl | (simp [Region.wanted]; done)) 35 _ rfl gp rfl 35 (pcells (hiP e)).toArray (0, 0) _ B8.out.1.b1 Tryz.underlying35 rfl info12 ?_)
          refine hX.mono ?_
          rintro e' w9 ⟨rfl, F9, l9, m9⟩
          have L9 : Hid (Lw W w9 p F9 ⟨200, pcs (J ++ [hiP (swapE e)] ++ [hiP e]), []⟩) := l9
          clear l9 m9 hX B8
          go_wp2_with fail
          refine (len_pcs (n := r + 2) L9.out (by rw [List.length_append, List.length_append, HR.out.1]; rfl)).mono ?_
          rintro e' w9 ⟨rfl, rfl⟩
          go_wp2_with fail
          refine L9.out.severed.mono ?_
          rintro e' w10 ⟨v10, rfl, o10, b10⟩
          obtain ⟨a10, c10, hv⟩ := o10.rng.slice
          have hv : v10 = .slice a10 0 c10 := hv
          subst hv
          have L10 : Hid (Lw W w10 p F9 ⟨200, pcs (J ++ [hiP (swapE e)] ++ [hiP e]), []⟩) := L9.out.go b10
          clear o10 b10 L9
          have hL := HLv.out w10 L10.out.bel
          go_wp2_with fail
          refine hL.mono ?_
          rintro e' w99 ⟨rfl, b99⟩
          have B99 : Hid (Below w.heap.size w w99) := keptW HW.out (keptB L10.out.bel b99)
          clear b99 hL
          go_wp2
          go_ret
          exact ⟨rfl, B99.out⟩
end Go.Proofs.YtdbgojmjjkidbaaGreatDoor
