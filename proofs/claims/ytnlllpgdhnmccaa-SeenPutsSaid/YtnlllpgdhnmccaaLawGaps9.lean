/-
  THE LAW SeenGaps.
-/
import Derived.Test.YtnlllpgdhnmccaaFacts9
import Derived.Test.YtnlllpgdhnmccaaCopyB
namespace Go.Proofs.Ytnlllpgdhnmccaa
open Go.RowKit Go.Sort

/-- Of one origin alone there is something. -/
def Lone (f : Nat → List (Nat × Nat)) (o : Int) : Prop := ∀ y, y ≠ o → ofF f y = []
theorem Lone.at {f : Nat → List (Nat × Nat)} {o : Int} (h : Lone f o) {i : Nat} (hi : i < 8) (hne : (i : Int) + 1 ≠ o) : f i = [] := by
  rw [← ofF_in (f := f) hi rfl]
  exact h _ hne
theorem lone_live {f : Nat → List (Nat × Nat)} {o : Int} (hf : FineF f) (h : Lone f o) : (liveL f).length = if 0 < sizeL (ofF f o) then 1 else 0 := by
  have hone : ∀ i0, i0 < 8 → ((List.range 8).filter (fun i => decide (i = i0))).length = 1 := by decide
  by_cases hp : 0 < sizeL (ofF f o)
  · rw [if_pos hp]
    have hne : ofF f o ≠ [] := fun e => by rw [e] at hp; exact absurd hp (Nat.lt_irrefl 0)
    have ho : 1 ≤ o ∧ o ≤ 8 := Classical.byContradiction fun hn => hne (ofF_out hn)
    obtain ⟨i0, hi0, he⟩ := known_at ho
    rw [← hone i0 hi0]
    congr 1
    unfold liveL liveK
    refine List.filter_congr fun i hi => ?_
    have hi8 := List.mem_range.1 hi
    by_cases e : i = i0
    · subst e
      rw [ofF_in hi8 he] at hne
      rw [decide_eq_true rfl, decide_eq_true (topL_some (hf i hi8).1 hne)]
    · rw [decide_eq_false e, h.at hi8 (by omega)]
      rfl
  · rw [if_neg hp]
    have hnil : ofF f o = [] := by
      cases h2 : ofF f o with
      | nil => rfl
      | cons a l => rw [h2] at hp; exact absurd (Nat.lt_of_lt_of_le (by simp) (length_le_sizeL (a :: l))) hp
    have : liveL f = [] := by
      unfold liveL liveK
      refine List.filter_eq_nil_iff.2 fun i hi => ?_
      have hi8 := List.mem_range.1 hi
      have : f i = [] := by
        by_cases e : (i : Int) + 1 = o
        · rw [← hnil, ofF_in hi8 e.symm]
        · exact h.at hi8 e
      rw [this]
      decide
    rw [this]
    rfl
theorem Lone.add {f : Nat → List (Nat × Nat)} {o : Int} (h : Lone f o) (s : Nat) : Lone (addF f o s) o := fun y hy => by rw [ofF_add_ne (fun e => hy e.symm)]; exact h y hy
theorem size_add {f : Nat → List (Nat × Nat)} {o : Int} {s : Nat} (hf : FineF f) : sizeL (ofF (addF f o s) o) = sizeL (ofF f o) + if freshF f o s = true then 1 else 0 := by
  by_cases ho : 1 ≤ o ∧ o ≤ 8
  · rw [ofF_add_eq ho, addS_size (hf.of o).1]
    unfold freshF
    rw [decide_eq_true ho, Bool.true_and]
  · rw [addF_out ho, freshF_out ho]
    rfl
theorem same_add {f : Nat → List (Nat × Nat)} {o x : Int} {s : Nat} (hf : FineF f) : decide (ofF (addF f x s) o = ofF f o) = (!freshF f x s || decide (x ≠ o)) := by
  by_cases e : x = o
  · subst e
    have hsz := size_add (o := x) (s := s) hf
    cases hz : freshF f x s with
    | true =>
      rw [hz, if_pos rfl] at hsz
      rw [decide_eq_false (fun e => by rw [e] at hsz; omega)]
      simp
    | false =>
      have : addF f x s = f ∨ ofF (addF f x s) x = ofF f x := by
        by_cases ho : 1 ≤ x ∧ x ≤ 8
        · right
          rw [ofF_add_eq ho]
          unfold freshF at hz
          rw [decide_eq_true ho, Bool.true_and] at hz
          unfold addS
          rw [hz]
          rfl
        · exact .inl (addF_out ho)
      rw [decide_eq_true (this.elim (fun e => by rw [e]) id)]
      rfl
  · rw [decide_eq_true (ofF_add_ne e), decide_eq_true e, Bool.or_true]
theorem fresh_is {f : Nat → List (Nat × Nat)} {o : Int} {s : Nat} : freshF f o s = (!memB (ofF f o) s && decide (0 < s) && decide (1 ≤ o) && decide (o ≤ 8)) := by
  unfold freshF newB
  by_cases h1 : 1 ≤ o <;> by_cases h2 : o ≤ 8 <;> by_cases h3 : s = 0
  all_goals simp [h1, h2, h3]
  all_goals try (cases memB (ofF f o) s <;> simp <;> omega)
/-- Two books of the program's, apart. -/
structure Pair9 (w wr : World) (p : Nat) (F : Nat → Prop) (f : Nat → List (Nat × Nat)) (q : Nat) (G : Nat → Prop) (g : Nat → List (Nat × Nat)) : Prop where
  a : Own9 w wr p F f
  b : Own9 w wr q G g
  ap : ∀ k, F k → ¬ G k
theorem Pair9.goB {w wr wr' : World} {p q : Nat} {F G G' : Nat → Prop} {f g g' : Nat → List (Nat × Nat)} (h : Pair9 w wr p F f q G g) (b : Bk wr' q G' g') (m : Moved wr wr' G G') (fg : FineF g') : Pair9 w wr' p F f q G' g' := by
  have hb := h.b.to b m fg
  exact ⟨⟨h.a.b.beside m (fun k hk ht => h.ap k ht hk), h.a.fine, h.a.frm, hb.bel⟩, hb, fun k hf hg => m.apart h.a.b.lts (fun k hk ht => h.ap k ht hk) k hg hf⟩
theorem Pair9.go {w wr wr' : World} {p q : Nat} {F G : Nat → Prop} {f g : Nat → List (Nat × Nat)} (h : Pair9 w wr p F f q G g) (b : Below wr.heap.size wr wr') : Pair9 w wr' p F f q G g := ⟨h.a.go b, h.b.go b, h.ap⟩

set_option maxRecDepth 20000 in
set_option maxHeartbeats 8000000 in
theorem seenGaps_law (v : Value) (ns : List Nat) (o : Int) (ao : Int) (an : Nat) (w : World) (hr : Nums w v ns) (hn : ∀ x ∈ ns, x < 18446744073709551616) (han : an < 18446744073709551616) :
    Calls Try.prog 7 #[v, .int .i64 o, .agg #[.int .i64 ao, .int .u64 (an : Int)]] w fun e w' => e = .returned (.bool true) ∧ Below w.heap.size w w' := by
  obtain ⟨va, vc, rfl, l63⟩ := hr.slice
  obtain ⟨W, fold⟩ : ∃ W, w.alloc (.cells #[.int .i64 ao, .int .u64 (an : Int)] 25) = W := ⟨_, rfl⟩
  have bW : Below w.heap.size w W := by rw [← fold]; exact (Below.refl _ _).alloc (Nat.le_refl _) _
  have hWs : w.heap.size < W.heap.size := by rw [← fold]; simp
  obtain ⟨a0, a1⟩ : W.cell? ⟨w.heap.size, 0, none⟩ = some (.int .i64 ao) ∧ W.cell? ⟨w.heap.size, 1, none⟩ = some (.int .u64 (an : Int)) := by rw [← fold]; exact id_cells w ao an
  have HAsk : Hid (∀ V, Below W.heap.size W V → V.cell? ⟨w.heap.size, 0, none⟩ = some (.int .i64 ao) ∧ V.cell? ⟨w.heap.size, 1, none⟩ = some (.int .u64 (an : Int))) := fun V hV => ⟨cell_on hV a0, cell_on hV a1⟩
  have HAt : Hid (∀ i (hi : i < ns.length), ∃ b off, va = some ⟨b, off, none⟩ ∧ w.cell? ⟨b, off + i, none⟩ = some (.int .u64 (ns[i] : Int))) := fun i hi => hr.at i hi
  have HL : Hid (∀ V, Calls Try.prog 8 #[] V fun e w' => e = .returned (.bool true) ∧ Below V.heap.size V w') := livesB_any
  have HN : Hid (∀ x ∈ ns, x < 18446744073709551616) := hn
  clear hr hn
  by_cases hlong : 100 < ns.length
  · have hlong' : (100 : Int) < (ns.length : Int) := by omega
    go_enter Try.func7, Try.ntmps7
    go_wp2_with (go_at_call 8; refine (HL.out _).mono ?_; rintro e w4 ⟨rfl, b4⟩)
    go_ret
    exact ⟨rfl, keptW bW b4⟩
  · have hlong' : ¬ ((100 : Int) < (ns.length : Int)) := by omega
    have hB := bnew_any W
    unfold ptrS at hB
    have kAdd : Hid (∀ (V : World) (p : Nat) (F : Nat → Prop) (f : Nat → List (Nat × Nat)) (o : Int) (s : Nat), Bk V p F f → FineF f → LenF 1000 f → s < 18446744073709551616 → Calls Try.prog 10 #[.pointer (some ⟨p, 0, none⟩), .agg #[.int .i64 o, .int .u64 (s : Int)]] V fun e w' => e = .returned (.bool (freshF f o s)) ∧ ∃ F', Bk w' p F' (addF f o s) ∧ Moved V w' F F') := fun V p F f o s hb hf hl hs => badd_any _ F f o s V hb hf (hl.mono (by omega)) hs
    have kRng : Hid (∀ (V : World) (p : Nat) (F : Nat → Prop) (f : Nat → List (Nat × Nat)), Bk V p F f → LenF 1000 f → Calls Try.prog 19 #[.pointer (some ⟨p, 0, none⟩), .int .i64 o] V fun e w' => ∃ v', e = .returned v' ∧ Own2 w' V.heap.size v' (ofF f o) ∧ Below V.heap.size V w') := fun V p F f hb hl => branges_any _ f o V hb.told (Nat.le_trans (hl.of o) (by omega))
    go_enter Try.func7, Try.ntmps7
    go_wp2_with (go_at_call 9; refine hB.mono ?_; rintro e w1 ⟨rfl, F1, b1, frm, bel⟩)
    have H1 : Own9 W w1 W.heap.size F1 (fun _ => []) := ⟨b1, fineF_nil, frm, bel⟩
    clear frm bel hB b1 fold
    go_loopw [8, 23] (fun u8 u23 wr => ∃ (k c : Nat) (F : Nat → Prop) (f : Nat → List (Nat × Nat)), u8 = .int .i64 c ∧ u23 = .int .i64 k ∧ k ≤ ns.length ∧ c ≤ k ∧ Hid (LenF k f ∧ sizeL (ofF f o) = c ∧ Lone f o ∧ Own9 W wr W.heap.size F f)) (fun u8 u23 _ => ns.length - (intOf u23).toNat)
    case atStart => exact ⟨0, 0, _, _, rfl, rfl, Nat.zero_le _, Nat.le_refl _, (⟨lenF_nil, by unfold ofF; split <;> rfl, fun y _ => by unfold ofF; split <;> rfl, H1⟩ : _ ∧ _ ∧ _ ∧ _)⟩
    case round =>
      obtain ⟨k, c, F, f, rfl, rfl, hk, hck, HH⟩ := hrel
      clear H1
      by_cases hlt2 : k < ns.length
      · have hlt : (k : Int) < (ns.length : Int) := by omega
        obtain ⟨b, off, rfl, i0⟩ := HAt.out k hlt2
        have hs := HN.out _ (List.getElem_mem hlt2)
        have i1 := cell_on (keptW bW (HH.out.2.2.2.bel.mono (Nat.le_refl _))) i0
        generalize ns[k] = s at *
        have kA := kAdd.out wr _ F f o s HH.out.2.2.2.b HH.out.2.2.2.fine (HH.out.1.mono (by omega)) hs
        have HZ : Hid (∀ w4 F4, Bk w4 W.heap.size F4 (addF f o s) → Moved wr w4 F F4 → LenF (k + 1) (addF f o s) ∧ sizeL (ofF (addF f o s) o) = c + (if freshF f o s = true then 1 else 0) ∧ Lone (addF f o s) o ∧ Own9 W w4 W.heap.size F4 (addF f o s)) := fun w4 F4 b4 m4 =>
          ⟨HH.out.1.add HH.out.2.2.2.fine o s, by rw [size_add HH.out.2.2.2.fine, HH.out.2.1], HH.out.2.2.1.add s, HH.out.2.2.2.to b4 m4 (HH.out.2.2.2.fine.add o hs)⟩
        generalize freshF f o s = z at kA HZ
        clear HH i0
        cases z
        · go_wp2_with (go_at_call 10; refine kA.mono ?_; clear kA; rintro e w4 ⟨rfl, F4, b4, m4⟩; have HY : Hid _ := HZ.out w4 F4 b4 m4; clear b4 m4)
          exact ⟨⟨k + 1, c, F4, _, rfl, by go_num, by omega, by omega, HY⟩, by simp [intOf]; omega⟩
        · go_wp2_with (go_at_call 10; refine kA.mono ?_; clear kA; rintro e w4 ⟨rfl, F4, b4, m4⟩; have HY : Hid _ := HZ.out w4 F4 b4 m4; clear b4 m4)
          exact ⟨⟨k + 1, c + 1, F4, _, by go_num, by go_num, by omega, by omega, HY⟩, by simp [intOf]; omega⟩
      · obtain rfl : k = ns.length := by omega
        obtain ⟨hlf, hsz, hlo, H⟩ := HH.out
        have hlf' : LenF 1000 f := hlf.mono (by omega)
        have kG := bgaps_any _ f o wr H.b.told (H.fine.of o).1
        have hgc : gapsL (ofF f o) ≤ c := by rw [← hsz]; exact Nat.le_trans (gapsL_le _) (length_le_sizeL _)
        have hlive := lone_live H.fine hlo
        rw [hsz] at hlive
        obtain ⟨n, hn⟩ : ∃ n, n = (liveL f).length := ⟨_, rfl⟩
        rw [← hn] at hlive
        have kO : Calls Try.prog 23 #[.pointer (some ⟨W.heap.size, 0, none⟩)] wr fun e w' => ∃ a cap, e = .returned (.slice a n cap) ∧ Below wr.heap.size wr w' := by
          refine (origins_any _ f wr H.b.told).mono ?_
          rintro e w' ⟨v', rfl, hrow, hb⟩
          obtain ⟨a, cap, e⟩ := hrow.sliceInts
          rw [places_len, ← hn] at e
          exact ⟨a, cap, by rw [e], hb⟩
        generalize gapsL (ofF f o) = g at kG hgc
        have hg1 : ¬ ((c : Int) < (g : Int)) := by omega
        have kC : Hid (∀ V, Own9 W V W.heap.size F f → Calls Try.prog 17 #[.pointer (some ⟨W.heap.size, 0, none⟩)] V fun e W' => ∃ p', e = .returned (.pointer (some ⟨p', 0, none⟩)) ∧ ∃ F', Bk W' p' F' f ∧ (∀ k, F' k → V.heap.size ≤ k) ∧ Below V.heap.size V W') := fun V hV => copyB_any _ F f V hV.b hV.fine (hlf'.mono (by omega))
        have kH : Hid (∀ V, Own9 W V W.heap.size F f → Calls Try.prog 13 #[.pointer (some ⟨W.heap.size, 0, none⟩), .agg #[.int .i64 ao, .int .u64 (an : Int)]] V fun e w' => e = .returned (.bool (memB (ofF f ao) an)) ∧ Below V.heap.size V w') := fun V hV => bhas_any _ f ao an V hV.b.told (hV.fine.of ao).1 (Nat.le_trans (hlf'.of ao) (by omega))
        have hfr := fresh_is (f := f) (o := ao) (s := an)
        have hsm := same_add (f := f) (o := o) (x := ao) (s := an) H.fine
        have ff' : FineF (addF f ao an) := H.fine.add ao han
        have fl' : LenF 1000 (addF f ao an) := (hlf.add H.fine ao an).mono (by omega)
        have kA : Hid (∀ V q G, Bk V q G f → Calls Try.prog 10 #[.pointer (some ⟨q, 0, none⟩), .agg #[.int .i64 ao, .int .u64 (an : Int)]] V fun e w' => e = .returned (.bool (freshF f ao an)) ∧ ∃ F', Bk w' q F' (addF f ao an) ∧ Moved V w' G F') := fun V q G hb => kAdd.out V q G f ao an hb H.fine hlf' han
        have kR1 : Hid (∀ V q G, Bk V q G (addF f ao an) → Calls Try.prog 19 #[.pointer (some ⟨q, 0, none⟩), .int .i64 o] V fun e w' => ∃ v', e = .returned v' ∧ Own2 w' V.heap.size v' (ofF (addF f ao an) o) ∧ Below V.heap.size V w') := fun V q G hb => kRng.out V q G _ hb fl'
        have kR2 : Hid (∀ V, Own9 W V W.heap.size F f → Calls Try.prog 19 #[.pointer (some ⟨W.heap.size, 0, none⟩), .int .i64 o] V fun e w' => ∃ v', e = .returned v' ∧ Own2 w' V.heap.size v' (ofF f o) ∧ Below V.heap.size V w') := fun V hV => kRng.out V _ F f hV.b hlf'
        have FF : Hid (FineF (addF f ao an)) := ff'
        generalize freshF f ao an = z at *
        generalize memB (ofF f ao) an = m at *
        generalize ofF (addF f ao an) o = L1 at *
        generalize hL2 : ofF f o = L2 at *
        have HSM : Hid (decide (L1 = L2) = (!z || decide (ao ≠ o))) := hsm
        have HFR : Hid (z = (!m && decide (0 < an) && decide (1 ≤ ao) && decide (ao ≤ 8))) := hfr
        unfold ptrS at kG
        clear hlf hlf' hsz hlo hn hgc hfr hsm ff' fl' HH HAt HN hL2
        have hcn : (0 < c ∧ n = 1) ∨ (c = 0 ∧ n = 0) := by
          by_cases h : 0 < c
          · rw [if_pos h] at hlive; exact .inl ⟨h, hlive⟩
          · rw [if_neg h] at hlive; exact .inr ⟨by omega, hlive⟩
        clear hlive
        have hcut : Hid (Below w.heap.size w W) := bW
        rcases hcn with ⟨hc, rfl⟩ | ⟨rfl, rfl⟩
        · have hc' : (0 : Int) < (c : Int) := by omega
          go_wp2_with (first
            | (go_at_call 22; refine kG.mono ?_; clear kG; rintro e w4 ⟨rfl, hw4⟩; subst hw4)
            | (go_at_call 23; refine kO.mono ?_; clear kO; rintro e w5 ⟨xa, xc, rfl, b5⟩; have H5 := H.go b5))
          refine (kC.out w5 H5).mono ?_
          rintro e w6 ⟨q, rfl, G, b6, frm6, bl6⟩
          have P6 : Pair9 W w6 W.heap.size F f q G f := ⟨H5.go bl6, ⟨b6, H5.fine, fun k hk => Nat.le_trans H5.bel.size (frm6 k hk), keptW H5.bel bl6⟩, fun k hf hg => by have := H5.b.lts k hf; have := frm6 k hg; omega⟩
          obtain ⟨q0, q1⟩ := HAsk.out w6 P6.a.bel
          clear H H5 b5 b6 frm6 bl6 kC
          go_wp2_with fail
          refine (kH.out w6 P6.a).mono ?_
          rintro e w7 ⟨rfl, b7⟩
          have P7 := P6.go b7
          obtain ⟨q2, q3⟩ := HAsk.out w7 P7.a.bel
          clear P6 b7 q0 q1
          go_wp2_with fail
          refine (kA.out w7 q G P7.b.b).mono ?_
          rintro e w8 ⟨rfl, G8, b8, m8⟩
          have P8 := P7.goB b8 m8 FF.out
          obtain ⟨q4, q5⟩ := HAsk.out w8 P8.a.bel
          clear P7 b8 m8 q2 q3 kA
          go_wp2_with fail
          refine (kH.out w8 P8.a).mono ?_
          rintro e w9 ⟨rfl, b9⟩
          have P9 := P8.go b9
          obtain ⟨q6, q7⟩ := HAsk.out w9 P9.a.bel
          clear P8 b9 q4 q5 kH
          have hz := HFR.out
          have hs := HSM.out
          clear HFR HSM
          cases m
          · by_cases x0 : 0 < an
            · by_cases x1 : 1 ≤ ao
              · by_cases x2 : ao ≤ 8
                · rw [decide_eq_true x0, decide_eq_true x1, decide_eq_true x2] at hz
                  subst hz
                  by_cases e : ao = o
                  · rw [show decide (ao ≠ o) = false from decide_eq_false (fun h => h e)] at hs
                    subst e
                    go_wp2_with (first
                      | (go_at_call 19; refine (kR1.out _ _ _ P9.b.b).mono ?_; clear kR1; rintro e wA ⟨vA, rfl, oA, bA⟩; have PA := P9.go bA; obtain ⟨xa1, xc1, rfl⟩ := oA.rng.slice; obtain ⟨q8, q9⟩ := HAsk.out wA PA.a.bel)
                      | (go_at_call 19; refine (kR2.out _ PA.a).mono ?_; clear kR2; rintro e wB ⟨vB, rfl, oB, bB⟩; have PB := PA.go bB; have rA := oA.rng.below bB (Nat.le_refl _); obtain ⟨xa2, xc2, rfl⟩ := oB.rng.slice; obtain ⟨q10, q11⟩ := HAsk.out wB PB.a.bel)
                      | (go_at_call 20; refine (same_any _ _ L1 L2 _ rA oB.rng).mono ?_; rw [hs]; rintro e wC ⟨rfl, bC⟩; have PC := PB.go bC; obtain ⟨q12, q13⟩ := HAsk.out wC PC.a.bel)
                      | (go_at_call 8; refine (HL.out _).mono ?_; rintro e wD ⟨rfl, bD⟩; have PD := PC.go bD))
                    go_ret
                    exact ⟨ret_bool (by first | rfl | (simp; omega)), hcut.out.trans (PD.a.bel.mono hcut.out.size)⟩
                  · rw [show decide (ao ≠ o) = true from decide_eq_true e] at hs
                    go_wp2_with (first
                      | (go_at_call 19; refine (kR1.out _ _ _ P9.b.b).mono ?_; clear kR1; rintro e wA ⟨vA, rfl, oA, bA⟩; have PA := P9.go bA; obtain ⟨xa1, xc1, rfl⟩ := oA.rng.slice; obtain ⟨q8, q9⟩ := HAsk.out wA PA.a.bel)
                      | (go_at_call 19; refine (kR2.out _ PA.a).mono ?_; clear kR2; rintro e wB ⟨vB, rfl, oB, bB⟩; have PB := PA.go bB; have rA := oA.rng.below bB (Nat.le_refl _); obtain ⟨xa2, xc2, rfl⟩ := oB.rng.slice; obtain ⟨q10, q11⟩ := HAsk.out wB PB.a.bel)
                      | (go_at_call 20; refine (same_any _ _ L1 L2 _ rA oB.rng).mono ?_; rw [hs]; rintro e wC ⟨rfl, bC⟩; have PC := PB.go bC; obtain ⟨q12, q13⟩ := HAsk.out wC PC.a.bel)
                      | (go_at_call 8; refine (HL.out _).mono ?_; rintro e wD ⟨rfl, bD⟩; have PD := PC.go bD))
                    go_ret
                    exact ⟨ret_bool (by first | rfl | (simp; omega)), hcut.out.trans (PD.a.bel.mono hcut.out.size)⟩
                · rw [decide_eq_true x0, decide_eq_true x1, decide_eq_false x2] at hz
                  subst hz
                  go_wp2_with (first
                    | (go_at_call 19; refine (kR1.out _ _ _ P9.b.b).mono ?_; clear kR1; rintro e wA ⟨vA, rfl, oA, bA⟩; have PA := P9.go bA; obtain ⟨xa1, xc1, rfl⟩ := oA.rng.slice; obtain ⟨q8, q9⟩ := HAsk.out wA PA.a.bel)
                    | (go_at_call 19; refine (kR2.out _ PA.a).mono ?_; clear kR2; rintro e wB ⟨vB, rfl, oB, bB⟩; have PB := PA.go bB; have rA := oA.rng.below bB (Nat.le_refl _); obtain ⟨xa2, xc2, rfl⟩ := oB.rng.slice; obtain ⟨q10, q11⟩ := HAsk.out wB PB.a.bel)
                    | (go_at_call 20; refine (same_any _ _ L1 L2 _ rA oB.rng).mono ?_; rw [hs]; rintro e wC ⟨rfl, bC⟩; have PC := PB.go bC; obtain ⟨q12, q13⟩ := HAsk.out wC PC.a.bel)
                    | (go_at_call 8; refine (HL.out _).mono ?_; rintro e wD ⟨rfl, bD⟩; have PD := PC.go bD))
                  go_ret
                  exact ⟨ret_bool (by first | rfl | (simp; omega)), hcut.out.trans (PD.a.bel.mono hcut.out.size)⟩
              · rw [decide_eq_true x0, decide_eq_false x1] at hz
                subst hz
                go_wp2_with (first
                  | (go_at_call 19; refine (kR1.out _ _ _ P9.b.b).mono ?_; clear kR1; rintro e wA ⟨vA, rfl, oA, bA⟩; have PA := P9.go bA; obtain ⟨xa1, xc1, rfl⟩ := oA.rng.slice; obtain ⟨q8, q9⟩ := HAsk.out wA PA.a.bel)
                  | (go_at_call 19; refine (kR2.out _ PA.a).mono ?_; clear kR2; rintro e wB ⟨vB, rfl, oB, bB⟩; have PB := PA.go bB; have rA := oA.rng.below bB (Nat.le_refl _); obtain ⟨xa2, xc2, rfl⟩ := oB.rng.slice; obtain ⟨q10, q11⟩ := HAsk.out wB PB.a.bel)
                  | (go_at_call 20; refine (same_any _ _ L1 L2 _ rA oB.rng).mono ?_; rw [hs]; rintro e wC ⟨rfl, bC⟩; have PC := PB.go bC; obtain ⟨q12, q13⟩ := HAsk.out wC PC.a.bel)
                  | (go_at_call 8; refine (HL.out _).mono ?_; rintro e wD ⟨rfl, bD⟩; have PD := PC.go bD))
                go_ret
                exact ⟨ret_bool (by first | rfl | (simp; omega)), hcut.out.trans (PD.a.bel.mono hcut.out.size)⟩
            · rw [decide_eq_false x0] at hz
              subst hz
              obtain rfl : an = 0 := by omega
              rw [show ((0 : Nat) : Int) = 0 from rfl] at q7
              go_wp2_with (first
                | (go_at_call 19; refine (kR1.out _ _ _ P9.b.b).mono ?_; clear kR1; rintro e wA ⟨vA, rfl, oA, bA⟩; have PA := P9.go bA; obtain ⟨xa1, xc1, rfl⟩ := oA.rng.slice; obtain ⟨q8, q9⟩ := HAsk.out wA PA.a.bel)
                | (go_at_call 19; refine (kR2.out _ PA.a).mono ?_; clear kR2; rintro e wB ⟨vB, rfl, oB, bB⟩; have PB := PA.go bB; have rA := oA.rng.below bB (Nat.le_refl _); obtain ⟨xa2, xc2, rfl⟩ := oB.rng.slice; obtain ⟨q10, q11⟩ := HAsk.out wB PB.a.bel)
                | (go_at_call 20; refine (same_any _ _ L1 L2 _ rA oB.rng).mono ?_; rw [hs]; rintro e wC ⟨rfl, bC⟩; have PC := PB.go bC; obtain ⟨q12, q13⟩ := HAsk.out wC PC.a.bel)
                | (go_at_call 8; refine (HL.out _).mono ?_; rintro e wD ⟨rfl, bD⟩; have PD := PC.go bD))
              go_ret
              exact ⟨ret_bool (by first | rfl | (simp; omega)), hcut.out.trans (PD.a.bel.mono hcut.out.size)⟩
          · rw [Bool.not_true, Bool.false_and, Bool.false_and, Bool.false_and] at hz
            subst hz
            go_wp2_with (first
              | (go_at_call 19; refine (kR1.out _ _ _ P9.b.b).mono ?_; clear kR1; rintro e wA ⟨vA, rfl, oA, bA⟩; have PA := P9.go bA; obtain ⟨xa1, xc1, rfl⟩ := oA.rng.slice; obtain ⟨q8, q9⟩ := HAsk.out wA PA.a.bel)
              | (go_at_call 19; refine (kR2.out _ PA.a).mono ?_; clear kR2; rintro e wB ⟨vB, rfl, oB, bB⟩; have PB := PA.go bB; have rA := oA.rng.below bB (Nat.le_refl _); obtain ⟨xa2, xc2, rfl⟩ := oB.rng.slice; obtain ⟨q10, q11⟩ := HAsk.out wB PB.a.bel)
              | (go_at_call 20; refine (same_any _ _ L1 L2 _ rA oB.rng).mono ?_; rw [hs]; rintro e wC ⟨rfl, bC⟩; have PC := PB.go bC; obtain ⟨q12, q13⟩ := HAsk.out wC PC.a.bel)
              | (go_at_call 8; refine (HL.out _).mono ?_; rintro e wD ⟨rfl, bD⟩; have PD := PC.go bD))
            go_ret
            exact ⟨ret_bool (by first | rfl | (simp; omega)), hcut.out.trans (PD.a.bel.mono hcut.out.size)⟩
        · obtain rfl : g = 0 := by omega
          go_wp2_with (first
            | (go_at_call 22; refine kG.mono ?_; clear kG; rintro e w4 ⟨rfl, hw4⟩; subst hw4)
            | (go_at_call 23; refine kO.mono ?_; clear kO; rintro e w5 ⟨xa, xc, rfl, b5⟩; have H5 := H.go b5))
          refine (kC.out w5 H5).mono ?_
          rintro e w6 ⟨q, rfl, G, b6, frm6, bl6⟩
          have P6 : Pair9 W w6 W.heap.size F f q G f := ⟨H5.go bl6, ⟨b6, H5.fine, fun k hk => Nat.le_trans H5.bel.size (frm6 k hk), keptW H5.bel bl6⟩, fun k hf hg => by have := H5.b.lts k hf; have := frm6 k hg; omega⟩
          obtain ⟨q0, q1⟩ := HAsk.out w6 P6.a.bel
          clear H H5 b5 b6 frm6 bl6 kC
          go_wp2_with fail
          refine (kH.out w6 P6.a).mono ?_
          rintro e w7 ⟨rfl, b7⟩
          have P7 := P6.go b7
          obtain ⟨q2, q3⟩ := HAsk.out w7 P7.a.bel
          clear P6 b7 q0 q1
          go_wp2_with fail
          refine (kA.out w7 q G P7.b.b).mono ?_
          rintro e w8 ⟨rfl, G8, b8, m8⟩
          have P8 := P7.goB b8 m8 FF.out
          obtain ⟨q4, q5⟩ := HAsk.out w8 P8.a.bel
          clear P7 b8 m8 q2 q3 kA
          go_wp2_with fail
          refine (kH.out w8 P8.a).mono ?_
          rintro e w9 ⟨rfl, b9⟩
          have P9 := P8.go b9
          obtain ⟨q6, q7⟩ := HAsk.out w9 P9.a.bel
          clear P8 b9 q4 q5 kH
          have hz := HFR.out
          have hs := HSM.out
          clear HFR HSM
          cases m
          · by_cases x0 : 0 < an
            · by_cases x1 : 1 ≤ ao
              · by_cases x2 : ao ≤ 8
                · rw [decide_eq_true x0, decide_eq_true x1, decide_eq_true x2] at hz
                  subst hz
                  by_cases e : ao = o
                  · rw [show decide (ao ≠ o) = false from decide_eq_false (fun h => h e)] at hs
                    subst e
                    go_wp2_with (first
                      | (go_at_call 19; refine (kR1.out _ _ _ P9.b.b).mono ?_; clear kR1; rintro e wA ⟨vA, rfl, oA, bA⟩; have PA := P9.go bA; obtain ⟨xa1, xc1, rfl⟩ := oA.rng.slice; obtain ⟨q8, q9⟩ := HAsk.out wA PA.a.bel)
                      | (go_at_call 19; refine (kR2.out _ PA.a).mono ?_; clear kR2; rintro e wB ⟨vB, rfl, oB, bB⟩; have PB := PA.go bB; have rA := oA.rng.below bB (Nat.le_refl _); obtain ⟨xa2, xc2, rfl⟩ := oB.rng.slice; obtain ⟨q10, q11⟩ := HAsk.out wB PB.a.bel)
                      | (go_at_call 20; refine (same_any _ _ L1 L2 _ rA oB.rng).mono ?_; rw [hs]; rintro e wC ⟨rfl, bC⟩; have PC := PB.go bC; obtain ⟨q12, q13⟩ := HAsk.out wC PC.a.bel)
                      | (go_at_call 8; refine (HL.out _).mono ?_; rintro e wD ⟨rfl, bD⟩; have PD := PC.go bD))
                    go_ret
                    exact ⟨ret_bool (by first | rfl | (simp; omega)), hcut.out.trans (PD.a.bel.mono hcut.out.size)⟩
                  · rw [show decide (ao ≠ o) = true from decide_eq_true e] at hs
                    go_wp2_with (first
                      | (go_at_call 19; refine (kR1.out _ _ _ P9.b.b).mono ?_; clear kR1; rintro e wA ⟨vA, rfl, oA, bA⟩; have PA := P9.go bA; obtain ⟨xa1, xc1, rfl⟩ := oA.rng.slice; obtain ⟨q8, q9⟩ := HAsk.out wA PA.a.bel)
                      | (go_at_call 19; refine (kR2.out _ PA.a).mono ?_; clear kR2; rintro e wB ⟨vB, rfl, oB, bB⟩; have PB := PA.go bB; have rA := oA.rng.below bB (Nat.le_refl _); obtain ⟨xa2, xc2, rfl⟩ := oB.rng.slice; obtain ⟨q10, q11⟩ := HAsk.out wB PB.a.bel)
                      | (go_at_call 20; refine (same_any _ _ L1 L2 _ rA oB.rng).mono ?_; rw [hs]; rintro e wC ⟨rfl, bC⟩; have PC := PB.go bC; obtain ⟨q12, q13⟩ := HAsk.out wC PC.a.bel)
                      | (go_at_call 8; refine (HL.out _).mono ?_; rintro e wD ⟨rfl, bD⟩; have PD := PC.go bD))
                    go_ret
                    exact ⟨ret_bool (by first | rfl | (simp; omega)), hcut.out.trans (PD.a.bel.mono hcut.out.size)⟩
                · rw [decide_eq_true x0, decide_eq_true x1, decide_eq_false x2] at hz
                  subst hz
                  go_wp2_with (first
                    | (go_at_call 19; refine (kR1.out _ _ _ P9.b.b).mono ?_; clear kR1; rintro e wA ⟨vA, rfl, oA, bA⟩; have PA := P9.go bA; obtain ⟨xa1, xc1, rfl⟩ := oA.rng.slice; obtain ⟨q8, q9⟩ := HAsk.out wA PA.a.bel)
                    | (go_at_call 19; refine (kR2.out _ PA.a).mono ?_; clear kR2; rintro e wB ⟨vB, rfl, oB, bB⟩; have PB := PA.go bB; have rA := oA.rng.below bB (Nat.le_refl _); obtain ⟨xa2, xc2, rfl⟩ := oB.rng.slice; obtain ⟨q10, q11⟩ := HAsk.out wB PB.a.bel)
                    | (go_at_call 20; refine (same_any _ _ L1 L2 _ rA oB.rng).mono ?_; rw [hs]; rintro e wC ⟨rfl, bC⟩; have PC := PB.go bC; obtain ⟨q12, q13⟩ := HAsk.out wC PC.a.bel)
                    | (go_at_call 8; refine (HL.out _).mono ?_; rintro e wD ⟨rfl, bD⟩; have PD := PC.go bD))
                  go_ret
                  exact ⟨ret_bool (by first | rfl | (simp; omega)), hcut.out.trans (PD.a.bel.mono hcut.out.size)⟩
              · rw [decide_eq_true x0, decide_eq_false x1] at hz
                subst hz
                go_wp2_with (first
                  | (go_at_call 19; refine (kR1.out _ _ _ P9.b.b).mono ?_; clear kR1; rintro e wA ⟨vA, rfl, oA, bA⟩; have PA := P9.go bA; obtain ⟨xa1, xc1, rfl⟩ := oA.rng.slice; obtain ⟨q8, q9⟩ := HAsk.out wA PA.a.bel)
                  | (go_at_call 19; refine (kR2.out _ PA.a).mono ?_; clear kR2; rintro e wB ⟨vB, rfl, oB, bB⟩; have PB := PA.go bB; have rA := oA.rng.below bB (Nat.le_refl _); obtain ⟨xa2, xc2, rfl⟩ := oB.rng.slice; obtain ⟨q10, q11⟩ := HAsk.out wB PB.a.bel)
                  | (go_at_call 20; refine (same_any _ _ L1 L2 _ rA oB.rng).mono ?_; rw [hs]; rintro e wC ⟨rfl, bC⟩; have PC := PB.go bC; obtain ⟨q12, q13⟩ := HAsk.out wC PC.a.bel)
                  | (go_at_call 8; refine (HL.out _).mono ?_; rintro e wD ⟨rfl, bD⟩; have PD := PC.go bD))
                go_ret
                exact ⟨ret_bool (by first | rfl | (simp; omega)), hcut.out.trans (PD.a.bel.mono hcut.out.size)⟩
            · rw [decide_eq_false x0] at hz
              subst hz
              obtain rfl : an = 0 := by omega
              rw [show ((0 : Nat) : Int) = 0 from rfl] at q7
              go_wp2_with (first
                | (go_at_call 19; refine (kR1.out _ _ _ P9.b.b).mono ?_; clear kR1; rintro e wA ⟨vA, rfl, oA, bA⟩; have PA := P9.go bA; obtain ⟨xa1, xc1, rfl⟩ := oA.rng.slice; obtain ⟨q8, q9⟩ := HAsk.out wA PA.a.bel)
                | (go_at_call 19; refine (kR2.out _ PA.a).mono ?_; clear kR2; rintro e wB ⟨vB, rfl, oB, bB⟩; have PB := PA.go bB; have rA := oA.rng.below bB (Nat.le_refl _); obtain ⟨xa2, xc2, rfl⟩ := oB.rng.slice; obtain ⟨q10, q11⟩ := HAsk.out wB PB.a.bel)
                | (go_at_call 20; refine (same_any _ _ L1 L2 _ rA oB.rng).mono ?_; rw [hs]; rintro e wC ⟨rfl, bC⟩; have PC := PB.go bC; obtain ⟨q12, q13⟩ := HAsk.out wC PC.a.bel)
                | (go_at_call 8; refine (HL.out _).mono ?_; rintro e wD ⟨rfl, bD⟩; have PD := PC.go bD))
              go_ret
              exact ⟨ret_bool (by first | rfl | (simp; omega)), hcut.out.trans (PD.a.bel.mono hcut.out.size)⟩
          · rw [Bool.not_true, Bool.false_and, Bool.false_and, Bool.false_and] at hz
            subst hz
            go_wp2_with (first
              | (go_at_call 19; refine (kR1.out _ _ _ P9.b.b).mono ?_; clear kR1; rintro e wA ⟨vA, rfl, oA, bA⟩; have PA := P9.go bA; obtain ⟨xa1, xc1, rfl⟩ := oA.rng.slice; obtain ⟨q8, q9⟩ := HAsk.out wA PA.a.bel)
              | (go_at_call 19; refine (kR2.out _ PA.a).mono ?_; clear kR2; rintro e wB ⟨vB, rfl, oB, bB⟩; have PB := PA.go bB; have rA := oA.rng.below bB (Nat.le_refl _); obtain ⟨xa2, xc2, rfl⟩ := oB.rng.slice; obtain ⟨q10, q11⟩ := HAsk.out wB PB.a.bel)
              | (go_at_call 20; refine (same_any _ _ L1 L2 _ rA oB.rng).mono ?_; rw [hs]; rintro e wC ⟨rfl, bC⟩; have PC := PB.go bC; obtain ⟨q12, q13⟩ := HAsk.out wC PC.a.bel)
              | (go_at_call 8; refine (HL.out _).mono ?_; rintro e wD ⟨rfl, bD⟩; have PD := PC.go bD))
            go_ret
            exact ⟨ret_bool (by first | rfl | (simp; omega)), hcut.out.trans (PD.a.bel.mono hcut.out.size)⟩
end Go.Proofs.Ytnlllpgdhnmccaa
