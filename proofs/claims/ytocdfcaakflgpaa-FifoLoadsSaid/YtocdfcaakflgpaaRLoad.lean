/-
  THE DOCUMENT's Load, by its contract.
-/
import Derived.Test.YtocdfcaakflgpaaRRise
import Derived.Test.YtocdfcaakflgpaaRDone
namespace Go.Proofs.Ytocdfcaakflgpaa
open Go.RowKit Go.Sort Go.Shelf

/-- In the midst of the document's Load. -/
structure RL (w W : World) (p : Nat) (vr vo : Value) (s : St) : Prop where
  q : RAt W p vr vo s
  bel : Below w.heap.size w W
  ft : ∀ k, rfoot p vr vo k → w.heap.size ≤ k ∧ k < W.heap.size
theorem RL.lt {w W : World} {p : Nat} {vr vo : Value} {s : St} (h : RL w W p vr vo s) : w.heap.size ≤ p ∧ p < W.heap.size := h.ft p (.inl rfl)
theorem RL.next {w W W' : World} {p : Nat} {vr vo : Value} {s : St} (h : RL w W p vr vo s) (hb : Below W.heap.size W W') : RL w W' p vr vo s :=
  ⟨h.q.same fun k hk => hb.block k (h.ft k hk).2, h.bel.trans (hb.mono h.bel.size), fun k hk => ⟨(h.ft k hk).1, Nat.lt_of_lt_of_le (h.ft k hk).2 hb.size⟩⟩
theorem RL.of {w W : World} {p : Nat} {F : Nat → Prop} {s : St} (h : R W p F s) (hF : ∀ k, F k → w.heap.size ≤ k) (hb : Below w.heap.size w W) : ∃ vr vo, RL w W p vr vo s := by
  obtain ⟨vr, vo, hq, hf, hl⟩ := h
  exact ⟨vr, vo, hq, hb, fun k hk => ⟨hF k ((hf k).2 hk), hl k ((hf k).2 hk)⟩⟩
theorem RL.set1 {w W : World} {p : Nat} {vr vo : Value} {s : St} (h : RL w W p vr vo s) (n : Nat) : RL w (W.setCell ⟨p, 1, none⟩ (.int .u64 (n : Int))) p vr vo { s with next := n } := by
  refine ⟨⟨set4_1 _ h.q.blk, h.q.rdy.same fun g hg => heap_setCell_other _ _ _ _ (fun he => h.q.nr (by rw [hg, he])), h.q.out.same fun g hg => heap_setCell_other _ _ _ _ (fun he => h.q.no (by rw [hg, he])), h.q.nr, h.q.no⟩, h.bel.setCell (by show w.heap.size ≤ p; exact h.lt.1) _, fun k hk => ?_⟩
  rw [World.size_setCell]; exact h.ft k hk
theorem RL.set2 {w V W : World} {p : Nat} {vr vo v' : Value} {s : St} {l : List It} (h : RL w V p vr vo s) (hb : Below V.heap.size V W) (own : Own8 W V.heap.size v' l) : RL w (W.setCell ⟨p, 2, none⟩ v') p v' vo { s with rdy := l } := by
  have hW := h.next hb
  have hne := ref_row_not own h.lt.2
  refine ⟨⟨set4_2 _ hW.q.blk, own.rng.same fun g hg => heap_setCell_other _ _ _ _ (fun he => hne (by rw [hg, he])), hW.q.out.same fun g hg => heap_setCell_other _ _ _ _ (fun he => h.q.no (by rw [hg, he])), hne, h.q.no⟩, hW.bel.setCell (by show w.heap.size ≤ p; exact h.lt.1) _, ?_⟩
  rintro k (rfl | hk | hk)
  · rw [World.size_setCell]; exact hW.lt
  · rw [World.size_setCell]; have := own.lt hk; have := h.bel.size; omega
  · rw [World.size_setCell]; exact hW.ft k (.inr (.inr hk))
theorem RL.set3 {w V W : World} {p : Nat} {vr vo v' : Value} {s : St} {l : List It} (h : RL w V p vr vo s) (hb : Below V.heap.size V W) (own : Own8 W V.heap.size v' l) : RL w (W.setCell ⟨p, 3, none⟩ v') p vr v' { s with out := l } := by
  have hW := h.next hb
  have hne := ref_row_not own h.lt.2
  refine ⟨⟨set4_3 _ hW.q.blk, hW.q.rdy.same fun g hg => heap_setCell_other _ _ _ _ (fun he => h.q.nr (by rw [hg, he])), own.rng.same fun g hg => heap_setCell_other _ _ _ _ (fun he => hne (by rw [hg, he])), h.q.nr, hne⟩, hW.bel.setCell (by show w.heap.size ≤ p; exact h.lt.1) _, ?_⟩
  rintro k (rfl | hk | hk)
  · rw [World.size_setCell]; exact hW.lt
  · rw [World.size_setCell]; exact hW.ft k (.inr (.inl hk))
  · rw [World.size_setCell]; have := own.lt hk; have := h.bel.size; omega
theorem below_append {V w' : World} (gr : (V.alloc (.cells #[] 38)).grownBy w' (some V.heap.size)) : Below V.heap.size V w' :=
  (below_alloc _ _).grown gr (by simp) (fun k hk => by injection hk with hk; omega)

/-- What the document's Load hands back. -/
def RLoadPost (m : Int) (nx : Nat) (r o : List It) (w : World) (e : Ending) (w' : World) : Prop := (LoadOk m nx r o → ∃ p, e = .returned (.tuple #[.pointer (some ⟨p, 0, none⟩), .int .i64 0]) ∧ ∃ F, R w' p F ⟨m.toNat, nx, r, o⟩ ∧ ∀ k, F k → w.heap.size ≤ k) ∧ (¬ LoadOk m nx r o → e = .returned (.tuple #[.pointer none, .int .i64 7])) ∧ Below w.heap.size w w'
theorem rloadPost_no {m : Int} {nx : Nat} {r o : List It} {w w' : World} (h : ¬ LoadOk m nx r o) (b : Below w.heap.size w w') : RLoadPost m nx r o w (.returned (.tuple #[.pointer none, .int .i64 7])) w' := ⟨fun h' => absurd h' h, fun _ => rfl, b⟩
theorem rloadPost_yes {M nx : Nat} {r o : List It} {w w' : World} {p : Nat} {vr vo : Value} (h : LoadOk M nx r o) (hl : RL w w' p vr vo ⟨M, nx, r, o⟩) : RLoadPost M nx r o w (.returned (.tuple #[.pointer (some ⟨p, 0, none⟩), .int .i64 0])) w' := ⟨fun _ => ⟨p, rfl, _, ⟨vr, vo, hl.q, fun _ => Iff.rfl, fun k hk => (hl.ft k hk).2⟩, fun k hk => (hl.ft k hk).1⟩, fun h' => absurd h h', hl.bel⟩
theorem apart_of {r o : List It} (h : ∀ x ∈ r, findT o x.tag = none) : ∀ y ∈ o, hasT r y.tag = false := fun y hy => hasT_false.2 fun x hx he => by
  have := hasT_false.1 (findT_none (h x hx)) y hy
  exact this he.symm
theorem apart_not {r o : List It} {x z : It} (hx : x ∈ r) (h : findT o x.tag = some z) : ¬ ∀ y ∈ o, hasT r y.tag = false := fun hh => by
  obtain ⟨h1, h2⟩ := findT_some h
  exact hasT_false.1 (hh z h1) x hx h2.symm

set_option maxRecDepth 20000 in
set_option maxHeartbeats 4000000 in
theorem rload_any (m : Int) (nx : Nat) (vr vo : Value) (r o : List It) (w : World) (hr : Rows w vr r) (ho : Rows w vo o) (lr : r.length ≤ 1000) (lo : o.length ≤ 1000) :
    Calls Try.prog 20 #[.int .i64 m, .int .u64 (nx : Int), vr, vo] w fun e w' => RLoadPost m nx r o w e w' := by
  obtain ⟨ra, rc, rfl⟩ := hr.slice
  obtain ⟨oa, oc, rfl⟩ := ho.slice
  have HR : Hid (Rows w (.slice ra r.length rc) r) := hr
  have HO : Hid (Rows w (.slice oa o.length oc) o) := ho
  clear hr ho
  by_cases hm : 1 ≤ m ∧ m ≤ 1000
  · obtain ⟨M, rfl⟩ : ∃ M : Nat, m = M := ⟨m.toNat, by omega⟩
    have kN := rnew_any M w (by omega) (by omega)
    by_cases h1 : 1 ≤ nx
    · have hnx0 : ¬ nx = 0 := by omega
      have hnx : decide ((nx : Int) < 1) = false := by simp; omega
      have hnx1 : ¬ (nx : Int) < 1 := by omega
      have hsum : IntKind.i64.wrap ((r.length : Int) + (o.length : Int)) = (r.length : Int) + (o.length : Int) := by rw [IntKind.wrap_i64]; omega
      by_cases h2 : (r.length : Int) + (o.length : Int) ≤ M
      · have h2' : ¬ (M : Int) < (r.length : Int) + (o.length : Int) := by omega
        have kR : Hid (∀ V, Below w.heap.size w V → Calls Try.prog 41 #[.slice ra r.length rc, .int .u64 (nx : Int)] V fun e w' => e = .returned (.bool (riseB r 0 nx)) ∧ Below V.heap.size V w') := fun V hb => rrise_any _ r nx V (HR.out.below hb (Nat.le_refl _)) (by omega)
        have kO : Hid (∀ V, Below w.heap.size w V → Calls Try.prog 41 #[.slice oa o.length oc, .int .u64 (nx : Int)] V fun e w' => e = .returned (.bool (riseB o 0 nx)) ∧ Below V.heap.size V w') := fun V hb => rrise_any _ o nx V (HO.out.below hb (Nat.le_refl _)) (by omega)
        cases hrr : riseB r 0 nx
        · have HN : Hid (¬ LoadOk M nx r o) := fun h => by have := h.rr; rw [hrr] at this; cases this
          rw [hrr] at kR
          go_enter Try.func20, Try.ntmps20
          go_wp2_with (first
            | (go_at_call 10; refine kN.mono ?_; rintro e w1 ⟨p, rfl, F1, q1, hF, b1⟩)
            | (go_at_call 41; refine (kR.out _ b1).mono ?_; rintro e w2 ⟨rfl, b2⟩))
          go_ret2
          exact rloadPost_no HN.out (b1.trans (b2.mono b1.size))
        · cases hro : riseB o 0 nx
          · have HN : Hid (¬ LoadOk M nx r o) := fun h => by have := h.ro; rw [hro] at this; cases this
            rw [hrr] at kR
            rw [hro] at kO
            go_enter Try.func20, Try.ntmps20
            go_wp2_with (first
              | (go_at_call 10; refine kN.mono ?_; rintro e w1 ⟨p, rfl, F1, q1, hF, b1⟩)
              | (go_at_call 41; refine (kO.out _ b12).mono ?_; rintro e w3 ⟨rfl, b3⟩)
              | (go_at_call 41; refine (kR.out _ b1).mono ?_; rintro e w2 ⟨rfl, b2⟩; have b12 : Below w.heap.size w w2 := b1.trans (b2.mono b1.size)))
            go_ret2
            exact rloadPost_no HN.out (b12.trans (b3.mono b12.size))
          · rw [hrr] at kR
            rw [hro] at kO
            have hRo := riseB_all hro
            have HP : Hid ((∀ x ∈ r, findT o x.tag = none) → LoadOk M nx r o) := fun h => ⟨hm, h1, h2, hrr, hro, apart_of h⟩
            go_enter Try.func20, Try.ntmps20
            go_wp2_with (first
              | (go_at_call 10; refine kN.mono ?_; rintro e w1 ⟨p, rfl, F1, q1, hF, b1⟩)
              | (go_at_call 41; refine (kO.out _ b12).mono ?_; rintro e w3 ⟨rfl, b3⟩; obtain ⟨v1, v2, hq1⟩ := RL.of q1 hF b1; have HL0 : Hid (RL w w3 p v1 v2 (newS M)) := hq1.next (b2.trans (b3.mono b2.size)))
              | (go_at_call 41; refine (kR.out _ b1).mono ?_; rintro e w2 ⟨rfl, b2⟩; have b12 : Below w.heap.size w w2 := b1.trans (b2.mono b1.size)))
            clear hq1 q1 hF b1 b2 b3 b12 kN
            go_loopg [12, 13, 14, 15, 47] r.length (fun g u12 u13 u14 u15 u47 wr => ∃ k : Nat, u47 = .int .i64 k ∧ k ≤ r.length ∧ g = r.length - k ∧ Hid (RL w wr p v1 v2 (newS M)) ∧ Hid (∀ x ∈ r.take k, findT o x.tag = none))
            case atStart => exact ⟨0, rfl, Nat.zero_le _, rfl, HL0, by simp [Hid]⟩
            case round =>
              obtain ⟨k, rfl, hk, rfl, hL, hap⟩ := hrel
              clear HL0
              by_cases hlt : k < r.length
              · have hlt' : (k : Int) < (r.length : Int) := by omega
                obtain ⟨_, _, hA⟩ := (HR.out.below hL.out.bel (Nat.le_refl _)).items
                obtain ⟨ob, oo, rfl, hi⟩ := hA k hlt
                obtain ⟨i0, i1, i2, i3, i4, i5, i6, i7⟩ := hi
                have htk : Hid (r.take (k + 1) = r.take k ++ [r[k]]) := List.take_succ_eq_append_getElem hlt
                have hmem : Hid (r[k] ∈ r) := List.getElem_mem hlt
                have kH : Hid (∀ V, Below w.heap.size w V → Calls Try.prog 42 #[.slice oa o.length oc, .int .u64 (r[k].tag : Int)] V fun e w' => ∃ v', e = .returned (.tuple #[v', iv ((findT o r[k].tag).getD zeroIt), .bool (findT o r[k].tag).isSome]) ∧ Own8 w' V.heap.size v' (dropT o r[k].tag) ∧ Below V.heap.size V w') := fun V hb => rtake_any _ o r[k].tag V (HO.out.below hb (Nat.le_refl _)) hRo.1 (by omega)
                clear hA
                generalize r[k] = x at *
                obtain ⟨X, foldX⟩ : ∃ X, wr.alloc (.cells #[.int .u64 (x.tag : Int), .int .i64 x.m.o, .int .u64 x.m.s, .int .i64 x.m.hop, .string x.m.ex, .string x.m.key, .string x.m.body, .bool x.again] 38) = X := ⟨_, rfl⟩
                have bX : Below wr.heap.size wr X := by rw [← foldX]; exact (Below.refl _ _).alloc (Nat.le_refl _) _
                have iX : ItAt X wr.heap.size 0 x := by rw [← foldX]; exact itAt_new wr x _ rfl
                have HX : Hid (RL w X p v1 v2 (newS M)) := hL.out.next bX
                obtain ⟨y0, y1, y2, y3, y4, y5, y6, y7⟩ := iX
                simp only [Nat.zero_add] at y0 y1 y2 y3 y4 y5 y6 y7
                cases hh : findT o x.tag with
                | none =>
                  rw [hh] at kH
                  have hap2 : Hid (∀ y ∈ r.take (k + 1), findT o y.tag = none) := fun y hy => by
                    rw [htk.out] at hy
                    rcases List.mem_append.1 hy with hy | hy
                    · exact hap.out y hy
                    · rw [List.mem_singleton.1 hy]; exact hh
                  clear hh hap htk hmem hL bX
                  go_wp2_with (go_at_call 42; refine (kH.out _ HX.out.bel).mono ?_; rintro e w6 ⟨v6, rfl, own6, b6⟩; obtain ⟨va, vc, hv⟩ := own6.rng.slice; subst hv; simp only [Option.getD_none, Option.isSome_none]; have HL6 : Hid (RL w w6 p v1 v2 (newS M)) := HX.out.next b6; clear own6 b6)
                  go_roundg (r.length - (k + 1))
                  all_goals first | omega | skip
                  exact ⟨k + 1, by go_num, by omega, rfl, HL6.out.next (below_alloc _ _), hap2⟩
                | some z =>
                  rw [hh] at kH
                  have HN : Hid (¬ LoadOk M nx r o) := fun h => apart_not hmem.out hh h.ap
                  clear hh
                  go_wp2_with (go_at_call 42; refine (kH.out _ HX.out.bel).mono ?_; rintro e w6 ⟨v6, rfl, own6, b6⟩; obtain ⟨va, vc, hv⟩ := own6.rng.slice; subst hv; simp only [Option.getD_some, Option.isSome_some]; have HL6 : Hid (RL w w6 p v1 v2 (newS M)) := HX.out.next b6; clear own6 b6)
                  go_ret2
                  exact rloadPost_no HN.out (HL6.out.next (below_alloc _ _)).bel
              · obtain rfl : k = r.length := by omega
                have HLo : Hid (LoadOk M nx r o) := HP.out (by have := hap.out; rwa [List.take_length] at this)
                obtain ⟨i0, hi0, hz0, hzs, hzb⟩ := itemInfo
                obtain ⟨⟨c0, c1, c2, c3⟩, f0, f1, f2, f3⟩ := cells4 hL.out.q.blk
                obtain ⟨V1, foldV⟩ : ∃ V1, wr.setCell ⟨p, 1, none⟩ (.int .u64 (nx : Int)) = V1 := ⟨_, rfl⟩
                have HV1 : Hid (RL w V1 p v1 v2 ⟨M, nx, [], []⟩) := by rw [← foldV]; exact hL.out.set1 nx
                have eV : Own8 (V1.alloc (.cells #[] 38)) V1.heap.size (.slice (some ⟨V1.heap.size, 0, none⟩) 0 0) [] := ownOf_empty V1 V1.heap.size (Nat.le_refl _)
                have rV : Rows (V1.alloc (.cells #[] 38)) (.slice ra r.length rc) r := HR.out.below (HV1.out.next (below_alloc _ _)).bel (Nat.le_refl _)
                have HE : Hid _ := And.intro eV rV
                clear hL hap HP eV rV kR kO hRo hm h1 h2 hrr hro
                go_upto_region 13 with (at_builtin; refine wpList_append_rows (enc := icells) rfl (.tmp 66) (.tmp 67) 47 rfl Try.underlying47 i0 _ 88 hi0 hz0 hzs hzb rfl V1.heap.size (.slice (some ⟨V1.heap.size, 0, none⟩) 0 0) _ [] r rfl rfl HE.out.1 HE.out.2 (by unfold maxLen; simp; omega) (by simp; omega) (by simp) ?_; intro v4 w4 own4 gr4 _; have b4 := below_append gr4; have HL4 : Hid (RL w (w4.setCell ⟨p, 2, none⟩ v4) p v4 v2 ⟨M, nx, r, []⟩) := HV1.out.set2 b4 own4; have h4 := HV1.out.next b4; clear c0 c1 c2 c3 f0 f1 f2 f3; obtain ⟨⟨c0, c1, c2, c3⟩, f0, f1, f2, f3⟩ := cells4 h4.q.blk; clear b4 h4 gr4; obtain ⟨va, vc, hv⟩ := own4.rng.slice; subst hv; clear own4)
                rw [List.nil_append] at HL4
                obtain ⟨V5, fold5⟩ : ∃ V5, w4.setCell ⟨p, 2, none⟩ (.slice va r.length vc) = V5 := ⟨_, rfl⟩
                rw [fold5] at HL4
                have HE5 : Hid (Own8 (V5.alloc (.cells #[] 38)) V5.heap.size (.slice (some ⟨V5.heap.size, 0, none⟩) 0 0) [] ∧ Rows (V5.alloc (.cells #[] 38)) (.slice oa o.length oc) o) := ⟨ownOf_empty V5 V5.heap.size (Nat.le_refl _), HO.out.below (HL4.out.next (below_alloc _ _)).bel (Nat.le_refl _)⟩
                rw [fold5]
                clear c0 c1 c2 c3 f0 f1 f2 f3 HE foldV HV1
                go_wp2_with (at_builtin; refine wpList_append_rows (enc := icells) rfl (.tmp 72) (.tmp 73) 47 rfl Try.underlying47 i0 _ 88 hi0 hz0 hzs hzb rfl V5.heap.size (.slice (some ⟨V5.heap.size, 0, none⟩) 0 0) _ [] o rfl rfl HE5.out.1 HE5.out.2 (by unfold maxLen; simp; omega) (by simp; omega) (by simp) ?_; intro v6 w6 own6 gr6 _; have b6 := below_append gr6; have HL6 : Hid (RL w (w6.setCell ⟨p, 3, none⟩ v6) p _ v6 ⟨M, nx, r, o⟩) := HL4.out.set3 b6 own6; have h6 := HL4.out.next b6; obtain ⟨⟨c0, c1, c2, c3⟩, f0, f1, f2, f3⟩ := cells4 h6.q.blk; clear b6 h6 gr6; obtain ⟨vb, vd, hv⟩ := own6.rng.slice; subst hv; clear own6)
                go_ret2
                exact rloadPost_yes HLo.out HL6.out
      · have h2' : (M : Int) < (r.length : Int) + (o.length : Int) := by omega
        have HN : Hid (¬ LoadOk M nx r o) := fun h => h2 h.len
        go_enter Try.func20, Try.ntmps20
        go_wp2_with (go_at_call 10; refine kN.mono ?_; rintro e w1 ⟨p, rfl, F1, q1, hF, b1⟩)
        go_ret2
        exact rloadPost_no HN.out b1
    · have hnx : nx = 0 := by omega
      subst hnx
      have HN : Hid (¬ LoadOk M 0 r o) := fun h => h1 h.n
      go_enter Try.func20, Try.ntmps20
      go_wp2_with (go_at_call 10; refine kN.mono ?_; rintro e w1 ⟨p, rfl, F1, q1, hF, b1⟩)
      go_ret2
      exact rloadPost_no HN.out b1
  · have kN := rnew_none m w hm
    have HN : Hid (¬ LoadOk m nx r o) := fun h => hm h.m
    go_enter Try.func20, Try.ntmps20
    go_wp2_with (go_at_call 10; refine kN.mono ?_; rintro e w1 ⟨rfl, rfl⟩)
    go_ret2
    exact rloadPost_no HN.out (Below.refl _ _)
end Go.Proofs.Ytocdfcaakflgpaa
