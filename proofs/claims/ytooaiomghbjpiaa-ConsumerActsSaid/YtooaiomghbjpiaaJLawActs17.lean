/-
  THE STATEMENT ConsumerActs, walked.
-/
import Derived.Test.YtooaiomghbjpiaaJTwo17
import Derived.Deep.RegionLaw
import Derived.Deep.CutRange
import Derived.BigQuiet
namespace Go.Proofs.Ytooaiomghbjpiaa
open Go.RowKit Go.Maps Go.Sort Go.Shelf
set_option maxRecDepth 20000

/-- Clients, and one more, in a row behind a drawn region. -/
def After (w V W : World) (p : Nat) (L : List Se) (r : Nat) (v : Value) (l : List Int) : Prop := TwoX w W p L r L ∧ Row W v (icells l) ∧ Below V.heap.size V W
theorem app_after {w V Y Z W : World} {p r : Nat} {L : List Se} {v v2 : Value} {cl : List Int} {c : Int} (hT : TwoX w V p L r L) (bY : Below V.heap.size V Y) (o1 : Own1 Y V.heap.size 3 v (icells cl)) (hZ : Below Y.heap.size Y Z) (own : K.OwnOf encI 1 3 W V.heap.size v2 (cl ++ [c])) (gr : Z.grownBy W v.ownBlock) : After w V W p L r v2 (cl ++ [c]) := by
  have o2 : K.OwnOf encI 1 3 Z V.heap.size v cl := ownI.2 (own1_same o1 fun k hk => hZ.block k (own_lt o1 hk))
  have hb : Below V.heap.size V W := o2.below gr (bY.trans (hZ.mono bY.size)) (Nat.le_trans bY.size hZ.size) (Nat.le_refl _)
  exact ⟨hT.below hb, (ownI.1 own).row, hb⟩
set_option linter.unusedSimpArgs false in
set_option maxHeartbeats 8000000 in
theorem acts_law (v : Value) (acts : List Ac) (w : World) (hr : K.RowOf acells w v acts) (hf : ∀ a ∈ acts, a.Fits) :
    Calls Try.prog 3 #[v] w fun e w' => e = .returned (.bool true) ∧ Below w.heap.size w w' := by
  obtain ⟨va, vc, rfl⟩ := hr.slice
  have hl : acts.length ≤ maxLen := (acs_at hr).2.1
  have l63 : acts.length ≤ 9223372036854775807 := by unfold maxLen at hl; omega
  have HR : Hid (∀ W, Below w.heap.size w W → ∀ i (hi : i < acts.length), ∃ b off, va = some ⟨b, off, none⟩ ∧ W.cell? ⟨b, off + i * 5, none⟩ = some (.int .i64 acts[i].kind) ∧ W.cell? ⟨b, off + i * 5 + 1, none⟩ = some (.int .i64 acts[i].c) ∧ W.cell? ⟨b, off + i * 5 + 2, none⟩ = some (.string acts[i].q) ∧ W.cell? ⟨b, off + i * 5 + 3, none⟩ = some (.int .i64 acts[i].n) ∧ W.cell? ⟨b, off + i * 5 + 4, none⟩ = some (.int .u64 acts[i].t)) := fun W b => (acs_at (hr.below b (Nat.le_refl _))).2.2
  have HFt : Hid (∀ a ∈ acts, a.Fits) := hf
  have kLi : Hid (∀ V, Below w.heap.size w V → Calls Try.prog 9 #[.slice va acts.length vc] V fun e w' => ∃ b, e = .returned (.bool b) ∧ (b = true → acts.length ≤ 250) ∧ Below V.heap.size V w') := fun V hV => light_any _ acts V (hr.below hV (Nat.le_refl _)) hf
  clear hr hf hl
  obtain ⟨n, hn⟩ : ∃ z, acts.length = z := ⟨_, rfl⟩
  rw [hn] at kLi l63 ⊢
  go_enter Try.func3, Try.ntmps3
  go_wp2_with fail
  refine (Lv.new w).mono ?_
  rintro e w1 ⟨p, rfl, h1⟩
  obtain ⟨W2, fold2⟩ : ∃ W2, w1.alloc (.cells #[.slice none 0 0] 28) = W2 := ⟨_, rfl⟩
  have T2 := two_new h1 fold2
  clear h1
  go_wp2_with fail
  clear fold2
  refine (kLi.out W2 T2.bel).mono ?_
  rintro e w3 ⟨rb, rfl, _, b3⟩
  have T3 : Hid (TwoX w w3 p [] w1.heap.size []) := T2.below b3
  clear T2 b3 kLi
  obtain ⟨r, hrr⟩ : ∃ z, w1.heap.size = z := ⟨_, rfl⟩
  rw [hrr] at T3 ⊢
  clear hrr
  cases rb with
  | false =>
    go_wp2_with (go_at_call 10; refine (lives_any _).mono ?_; rintro e w4 ⟨rfl, b4⟩)
    go_ret
    exact ⟨rfl, T3.out.bel.trans (b4.mono T3.out.bel.size)⟩
  | true =>
    go_wp2
    go_loopw [22] (fun u22 wr => ∃ (k : Nat) (L : List Se), u22 = .int .i64 (k : Int) ∧ k ≤ n ∧ Hid (TwoX w wr p L r L)) (fun u22 _ => n - (intOf u22).toNat)
    case atStart => exact ⟨0, [], rfl, Nat.zero_le _, T3⟩
    case round =>
      obtain ⟨k, L, rfl, hk, HT⟩ := hrel
      clear T3
      by_cases hlt2 : k < n
      · have hlt : (k : Int) < (n : Int) := by omega
        have hkl : k < acts.length := by omega
        obtain ⟨b, off, hva, i0, i1, i2, i3, i4⟩ := HR.out wr HT.out.bel k hkl
        have hfa := HFt.out _ (List.getElem_mem hkl)
        obtain ⟨a, ha⟩ : ∃ z, acts[k] = z := ⟨_, rfl⟩
        rw [ha] at i0 i1 i2 i3 i4 hfa
        clear ha
        subst hva
        obtain ⟨X, foldX⟩ : ∃ X, wr.alloc (.cells #[.int .i64 a.kind, .int .i64 a.c, .string a.q, .int .i64 a.n, .int .u64 a.t] 33) = X := ⟨_, rfl⟩
        have bX : Below wr.heap.size wr X := by rw [← foldX]; exact (Below.refl _ _).alloc (Nat.le_refl _) _
        have kA := HT.out.act bX a hfa
        have hbx : X.heap[wr.heap.size]? = some (.cells #[.int .i64 a.kind, .int .i64 a.c, .string a.q, .int .i64 a.n, .int .u64 a.t] 33 (0, 0)) := by rw [← foldX]; exact heap_alloc_new wr _
        have hsX : wr.heap.size < X.heap.size := by rw [← foldX]; simp
        have HBX : Hid (X.heap[wr.heap.size]? = some (.cells #[.int .i64 a.kind, .int .i64 a.c, .string a.q, .int .i64 a.n, .int .u64 a.t] 33 (0, 0)) ∧ wr.heap.size < X.heap.size) := ⟨hbx, hsX⟩
        have x0 : X.cell? ⟨wr.heap.size, 0, none⟩ = some (.int .i64 a.kind) := by simp [World.cell?, hbx]
        have x1 : X.cell? ⟨wr.heap.size, 1, none⟩ = some (.int .i64 a.c) := by simp [World.cell?, hbx]
        have x2 : X.cell? ⟨wr.heap.size, 2, none⟩ = some (.string a.q) := by simp [World.cell?, hbx]
        have x3 : X.cell? ⟨wr.heap.size, 3, none⟩ = some (.int .i64 a.n) := by simp [World.cell?, hbx]
        have x4 : X.cell? ⟨wr.heap.size, 4, none⟩ = some (.int .u64 a.t) := by simp [World.cell?, hbx]
        have hP := actP_same L a
        obtain ⟨L', hL'⟩ : ∃ z, (actP L L a).1 = z := ⟨_, rfl⟩
        unfold ActX at kA
        rw [← hP, hL'] at kA
        have HC : Hid (I64 a.c) := hfa.c
        unfold acv at kA
        clear hP hL' hbx hsX bX hfa
        generalize a.kind = ak at *
        generalize a.c = ac at *
        generalize a.q = aq at *
        generalize a.n = an at *
        generalize a.t = at' at *
        go_wp2_with fail
        refine kA.mono ?_
        rintro e w4 ⟨bb, rfl, hb, T4, kp⟩
        obtain rfl : bb = true := hb (by first | rfl | trivial)
        have T4' : Hid (TwoX w w4 p L' r L') := T4
        have hb4 := (kp _ (Nat.le_refl _) HBX.out.2).trans HBX.out.1
        have HB4 : Hid (w4.heap[wr.heap.size]? = some (.cells #[.int .i64 ak, .int .i64 ac, .string aq, .int .i64 an, .int .u64 at'] 33 (0, 0))) := hb4
        clear kA hb kp hb4 i0 i1 i2 i3 i4 x0 x1 x2 x3 x4 foldX HT
        go_wp2_with fail
        refine T4.clients.mono ?_
        rintro e w5 ⟨v5, rfl, o5, b5⟩
        have T5 := T4.below b5
        obtain ⟨c5a, c5c, hv5⟩ := o5.row.sliceInts
        generalize (clientsL L').length = m at hv5
        subst hv5
        clear T4
        go_wp2_with fail
        refine T5.rclients.mono ?_
        rintro e w6 ⟨v6, rfl, o6, b6⟩
        have T6 := T5.below b6
        obtain ⟨c6a, c6c, hv6⟩ := o6.row.sliceInts
        have hcl : (clientsL L').length ≤ 32 := by rw [clientsL_len]; exact T5.ok.1.few
        have hI := ints_same _ _ _ w6 (o5.row.below b6 (Nat.le_refl _)) o6.row (by omega)
        generalize (clientsL L').length = m6 at hv6
        subst hv6
        clear T5
        go_wp2_with fail
        refine hI.mono ?_
        rintro e w7 ⟨rfl, q7, rfl⟩
        have b47 : Below w4.heap.size w4 (w6.drewN q7) := (b5.trans (b6.mono b5.size)).trans ((drewN_below w6 q7).mono (Nat.le_trans b5.size b6.size))
        obtain ⟨V, hV⟩ : ∃ z, z = w6.drewN q7 := ⟨_, rfl⟩
        rw [← hV] at b47 ⊢
        have T7 : Hid (TwoX w V p L' r L') := by rw [hV]; exact T6.below (drewN_below w6 q7)
        have hb7 := (b47.block _ (Array.getElem?_eq_some_iff.1 HB4.out).1).trans HB4.out
        have g1 : V.cell? ⟨wr.heap.size, 1, none⟩ = some (.int .i64 ac) := by simp [World.cell?, hb7]
        obtain ⟨cl, hcl2⟩ : ∃ z, clientsL L' = z := ⟨_, rfl⟩
        have HCL : Hid (cl.length ≤ 32 ∧ (∀ c ∈ cl ++ [ac], I64 c)) := ⟨by rw [← hcl2]; exact hcl, fun c hc => by
          rcases List.mem_append.1 hc with hc | hc
          · rw [← hcl2] at hc
            obtain ⟨j1, j2⟩ := clients_i64 T7.out.ok.1 hc
            exact ⟨by show _ ≤ c; omega, by show c ≤ _; omega⟩
          · rw [List.mem_singleton.1 hc]; exact HC.out⟩
        have kC : Hid (∀ Y, Below V.heap.size V Y → Calls Try.prog 14 #[.pointer (some ⟨r, 0, none⟩)] Y fun e w' => ∃ v, e = .returned v ∧ Own1 w' V.heap.size 3 v (icells cl) ∧ Below Y.heap.size Y w') := fun Y bY => (T7.out.below bY).rclients.mono fun e w' ⟨v, h1, h2, h3⟩ => ⟨v, h1, by rw [← hcl2]; exact own1_lower h2 bY.size, h3⟩
        obtain ⟨ii, hi0, hz0, hz1, hz2⟩ := intInfo
        clear o5 o6 b5 b6 T6 hI hcl T4' HB4 hb7 b47 hcl2 hV HBX
        go_wp2
        go_cut [22, 44, 45, 46] from 22 to 81 (fun u22 u44 u45 u46 wx => u22 = .int .i64 (k : Int) ∧ ∃ (sa : Option Addr) (sc sn : Nat), u44 = .slice sa sn sc ∧ u45 = .int .i64 (sn : Int) ∧ u46 = .int .i64 0 ∧ sn = cl.length + 1 ∧ Hid (After w V wx p L' r (.slice sa sn sc) (cl ++ [ac])))
        case first =>
          first
            | (go_region_law (first
              | (rw [if_pos (by simp [Region.wanted])]; go_simp; refine Calls.mono (kC.out V.drew (Below.refl _ _).drew) ?_; rintro e y1 ⟨u1, rfl, o1, bb1⟩; obtain ⟨ua, uc, hu1⟩ := o1.row.sliceInts; subst hu1; have g1' := cell_on bb1 g1; have H1 : Hid (Own1 y1 V.heap.size 3 (.slice ua cl.length uc) (icells cl) ∧ Below V.heap.size V y1) := ⟨o1, (Below.refl _ _).drew.trans bb1⟩; clear o1 bb1; dsimp only)
              | (rw [if_pos (by simp [Region.wanted])]; go_simp; refine Calls.mono (kC.out (V.drew.alloc (.cells #[.int .i64 ac] 3)) ((Below.refl _ _).drew.alloc (Nat.le_refl _) _)) ?_; rintro e y2 ⟨u2, rfl, o2, bb2⟩; obtain ⟨ub, ud, hu2⟩ := o2.row.sliceInts; subst hu2; have H2 : Hid (Own1 y2 V.heap.size 3 (.slice ub cl.length ud) (icells cl) ∧ Below V.heap.size V y2 ∧ Row y2 (.slice (some ⟨V.heap.size, 0, none⟩) 1 1) [.int .i64 ac]) := ⟨o2, ((Below.refl _ _).drew.alloc (Nat.le_refl _) _).trans (bb2.mono (by simp)), (row_new V.drew 3 (.int .i64 ac) _ rfl).below bb2 (Nat.le_refl _)⟩; clear o2 bb2; dsimp only)
              | (refine K.step_append_rows (enc := encI) rfl (.tmp 40) (.tmp 43) 36 rfl Try.underlying36 ii _ 8 hi0 hz0 hz1 hz2 rfl V.heap.size (.slice ua cl.length uc) (.slice (some ⟨y1.heap.size, 0, none⟩) 1 1) cl [ac] (by simp [Act.eval, Act.put]) (by simp [Act.eval, Act.put]) (K.OwnOf.alloc (ownI.2 H1.out.1) _) (rowI (row_new _ _ _ _ rfl)) (by have := HCL.out.1; unfold maxLen; simp; omega) (by have := HCL.out.1; simp; omega) (by have := H1.out.2.size; simp; omega) ?_; intro v3 w8 own8 gr8 nw8; have HA := app_after (c := ac) T7.out H1.out.2 H1.out.1 ((Below.refl _ y1).alloc (Nat.le_refl _) _) own8 gr8; obtain ⟨sa, sc, hs⟩ := HA.2.1.sliceInts; rw [List.length_append, List.length_singleton] at hs; subst hs; have HAF : Hid _ := HA; clear own8 gr8 nw8 HA)
              | (refine K.step_append_rows (enc := encI) rfl (.tmp 40) (.tmp 43) 36 rfl Try.underlying36 ii _ 8 hi0 hz0 hz1 hz2 rfl V.heap.size (.slice ub cl.length ud) (.slice (some ⟨V.heap.size, 0, none⟩) 1 1) cl [ac] (by simp [Act.eval, Act.put]) (by simp [Act.eval, Act.put]) (ownI.2 H2.out.1) (rowI H2.out.2.2) (by have := HCL.out.1; unfold maxLen; simp; omega) (by have := HCL.out.1; simp; omega) H2.out.2.1.size ?_; intro v3 w8 own8 gr8 nw8; have HA := app_after (c := ac) T7.out H2.out.2.1 H2.out.1 (Below.refl _ y2) own8 gr8; obtain ⟨sa, sc, hs⟩ := HA.2.1.sliceInts; rw [List.length_append, List.length_singleton] at hs; subst hs; have HAF : Hid _ := HA; clear own8 gr8 nw8 HA)))
            | fail
          all_goals go_wp2
          all_goals go_meet
          all_goals exact ⟨rfl, _, _, _, rfl, rfl, rfl, rfl, HAF⟩
        case rest =>
          obtain ⟨rfl, sa, sc, sn, rfl, rfl, rfl, hsn, HAF⟩ := hcut
          obtain ⟨W0, hW0⟩ : ∃ z, z = wr := ⟨_, rfl⟩
          subst hW0
          obtain ⟨cl2, hcl2⟩ : ∃ z, cl ++ [ac] = z := ⟨_, rfl⟩
          have HL2 : Hid (cl2.length = sn ∧ sn ≤ 33 ∧ ∀ c ∈ cl2, I64 c) := ⟨by rw [← hcl2, hsn]; simp, by have := HCL.out.1; omega, by rw [← hcl2]; exact HCL.out.2⟩
          rw [hcl2] at HAF
          clear hcl2 hsn kC T7 HCL HC g1 hi0 hz0 hz1 hz2
          have hs33 : sn ≤ 33 := HL2.out.2.1
          go_wp2
          go_loopw [46] (fun u46 wv => ∃ j : Nat, u46 = .int .i64 (j : Int) ∧ j ≤ sn ∧ Hid (TwoX w wv p L' r L' ∧ Row wv (.slice sa sn sc) (icells cl2))) (fun u46 _ => sn - (intOf u46).toNat)
          case atStart => exact ⟨0, rfl, Nat.zero_le _, HAF.out.1, HAF.out.2.1⟩
          case round =>
            obtain ⟨j, rfl, hj, HJ⟩ := hrel
            clear HAF
            by_cases hj2 : j < sn
            · have hj3 : (j : Int) < (sn : Int) := by omega
              have hjl : j < cl2.length := by have := HL2.out.1; omega
              obtain ⟨bs, os, cs, hv, _, _, hcs⟩ := HJ.out.2.atInts (by omega)
              rw [HL2.out.1] at hv
              injection hv with hv1 _ hv2
              obtain ⟨c, hc⟩ : ∃ z, cl2[j] = z := ⟨_, rfl⟩
              have cc := hcs j hjl
              rw [hc] at cc
              have hci : I64 c := by rw [← hc]; exact HL2.out.2.2 _ (List.getElem_mem hjl)
              have kH := HJ.out.1.lv.holds c hci
              have kF : Hid (∀ Y, Below wr.heap.size wr Y → _) := fun Y b => (HJ.out.1.below b).find c
              have kT : Hid (∀ Y, Below wr.heap.size wr Y → TwoX w Y p L' r L' ∧ Row Y (.slice sa sn sc) (icells cl2)) := fun Y b => ⟨HJ.out.1.below b, HJ.out.2.below b (Nat.le_refl _)⟩
              have hN : (htL L' c).length ≤ 100 := htL_len HJ.out.1.ok.1 c
              subst hv1 hv2
              obtain ⟨tl, htl⟩ : ∃ z, (htL L' c).length = z := ⟨_, rfl⟩
              rw [htl] at kH kF hN
              have HTL : Hid ((htL L' c).length = tl) := htl
              generalize hqL L' c = hq at *
              generalize htL L' c = ht at *
              generalize holdB L' c = hb at *
              clear hcs hc hci htl HJ
              go_wp2_with fail
              refine kH.mono ?_
              rintro e w9 ⟨a1, k1, rfl, o1, b9⟩
              obtain ⟨W9, fold9⟩ : ∃ W, w9.alloc (.cells #[.string hq, .slice a1 tl k1] 40) = W := ⟨_, rfl⟩
              have b9' : Below w9.heap.size w9 W9 := by rw [← fold9]; exact (Below.refl _ _).alloc (Nat.le_refl _) _
              have hb9 : W9.heap[w9.heap.size]? = some (.cells #[.string hq, .slice a1 tl k1] 40 (0, 0)) := by rw [← fold9]; exact heap_alloc_new w9 _
              have bw9 : Below wr.heap.size wr W9 := b9.trans (b9'.mono b9.size)
              have hF := kF.out W9 bw9
              have H9 : Hid (Row W9 (.slice a1 tl k1) (ucells ht) ∧ Below wr.heap.size wr W9 ∧ W9.heap[w9.heap.size]? = some (.cells #[.string hq, .slice a1 tl k1] 40 (0, 0))) := ⟨o1.row.below b9' (Nat.le_refl _), bw9, hb9⟩
              clear kH o1 b9 b9' bw9 hb9
              go_wp2_with fail
              refine hF.mono ?_
              rintro e w10 ⟨z, m, a2, k2, rfl, r2, b10⟩
              obtain ⟨W10, fold10⟩ : ∃ W, w10.alloc (.cells #[.int .i64 z, .string hq, .int .i64 m, .slice a2 tl k2] 44) = W := ⟨_, rfl⟩
              have b10' : Below w10.heap.size w10 W10 := by rw [← fold10]; exact (Below.refl _ _).alloc (Nat.le_refl _) _
              obtain ⟨x0, x1, x2, x3, _, _, _, _⟩ := one_cells (show W10.heap[w10.heap.size]? = some (.cells #[.int .i64 z, .string hq, .int .i64 m, .slice a2 tl k2] 44 (0, 0)) by rw [← fold10]; exact heap_alloc_new w10 _)
              have bb : Below W9.heap.size W9 W10 := b10.trans (b10'.mono b10.size)
              have hb1 := (bb.block _ (Array.getElem?_eq_some_iff.1 H9.out.2.2).1).trans H9.out.2.2
              have u0' : W10.cell? ⟨w9.heap.size, 0, none⟩ = some (.string hq) := by simp [World.cell?, hb1]
              have u1' : W10.cell? ⟨w9.heap.size, 1, none⟩ = some (.slice a1 tl k1) := by simp [World.cell?, hb1]
              have hT := tags_same (.slice a1 tl k1) (.slice a2 tl k2) ht W10 (H9.out.1.below bb (Nat.le_refl _)) (r2.below b10' (Nat.le_refl _)) (by have := HTL.out; omega)
              have HB : Hid (∀ q, Below wr.heap.size wr (W10.drewN q)) := fun q => (H9.out.2.1.trans (bb.mono H9.out.2.1.size)).trans ((drewN_below W10 q).mono (Nat.le_trans H9.out.2.1.size bb.size))
              clear hF r2 b10 b10' bb hb1 H9 fold9
              go_wp2_with fail
              refine hT.mono ?_
              rintro e w11 ⟨rfl, q11, rfl⟩
              go_wp2
              go_roundw
              case rel => exact ⟨j + 1, by go_num, by omega, kT.out _ (HB.out _)⟩
              case measure => simp [intOf]; omega
            · have hj3 : ¬ (j : Int) < (sn : Int) := by omega
              have HTE : Hid (TwoX w wr p L' r L') := HJ.out.1
              go_wp2
              go_roundw
              case rel => exact ⟨k + 1, L', by go_num, by omega, HTE⟩
              case measure => simp [intOf]; omega
      · have hlt : ¬ (k : Int) < (n : Int) := by omega
        go_wp2_with (go_at_call 10; refine (lives_any _).mono ?_; rintro e w4 ⟨rfl, b4⟩)
        go_ret
        exact ⟨rfl, HT.out.bel.trans (b4.mono HT.out.bel.size)⟩
end Go.Proofs.Ytooaiomghbjpiaa
