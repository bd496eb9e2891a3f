/-
  THE DOCUMENT's Write, Cut, Move, Make, by their contracts.
-/
import Derived.Test.YtndinjekocgjhaaRDoA
namespace Go.Proofs.Ytndinjekocgjhaa
open Go.RowKit

set_option maxRecDepth 20000 in
set_option maxHeartbeats 4000000 in
theorem rwrite_any (p : Nat) (F : Nat → Prop) (m : M) (n : ByteArray) (bv : Value) (bl : List UInt8) (w : World) (h : R w p F m) (ok : m.Ok) (hc : m.count ≤ 900000) (hs : n.size ≤ maxLen) (hb : Holds w bv bl) (hap : ∀ V F', Moved w V F F' → Holds V bv bl) :
    Calls Try.prog 27 #[.pointer (some ⟨p, 0, none⟩), .string n, bv] w fun e w' => e = .returned (.int .i64 (m.write n bl).1) ∧ ∃ F', R w' p F' (m.write n bl).2 ∧ Moved w w' F F' := by
  obtain ⟨A, D, S, L, kp, h, rfl⟩ := h
  have hF := rfirst_at h n true hs
  obtain ⟨ba, bc, rfl⟩ : ∃ a c, bv = .slice a bl.length c := by
    rcases hb with ⟨rfl, rfl⟩ | ⟨a, cap, rfl, _⟩
    · exact ⟨_, _, rfl⟩
    · exact ⟨_, _, rfl⟩
  by_cases hf : m.first n true = 0
  · rw [hf] at hF
    have hroom0 := ok.room0
    have hroom1 := ok.room1
    have hneed := ok.need (by omega)
    have hblm : bl.length ≤ maxLen := by
      rcases hb with ⟨hv, rfl⟩ | ⟨a, cap, hv, h1, h2, _⟩
      · simp
      · omega
    have HNe : Hid (∀ V, Below w.heap.size w V → Calls Try.prog 45 #[.pointer (some ⟨p, 0, none⟩)] V fun e w' => e = .returned (.int .i64 (m.need : Int)) ∧ Below V.heap.size V w') := fun V b => rneed_at (h.kept b) ok (by omega)
    have HK0 : Hid (∀ V, Below w.heap.size w V → V.cell? ⟨p, 0, none⟩ = some (.int .i64 m.room)) := fun V b => (h.kept b).cells.1
    have hbl63 : (bl.length : Int) ≤ 9223372036854775807 := by unfold maxLen at hblm; omega
    obtain ⟨rm, hrm⟩ : ∃ rm : Int, rm = m.room - (m.need : Int) := ⟨_, rfl⟩
    have hsw : IntKind.i64.wrap (m.room - (m.need : Int)) = rm := by rw [IntKind.wrap_i64]; omega
    by_cases hr : m.room - m.need < bl.length
    · have hm : m.write n bl = (6, m) := by unfold M.write; rw [if_neg (by simp [hf]), if_pos hr]
      rw [hm]
      rw [← hrm] at hr
      have H : Hid (R w p (rfoot p A D S L) m) := h.toR
      clear h hm hf hap hb hrm
      go_enter Try.func27, Try.ntmps27
      go_wp2_with fail
      refine hF.mono ?_
      rintro e w1 ⟨rfl, b1⟩
      have k0 := HK0.out _ b1
      go_wp2
      have bD : Below w.heap.size w w1.drew := b1.drew
      first | (go_region_held3 (fun w' => w'.cell? ⟨p, 0, none⟩ = some (.int .i64 m.room) ∧ Below w.heap.size w w') (go_keep) (first | (go_at_call 45; refine (HNe.out _ bD).mono ?_; rintro e w2 ⟨rfl, b2⟩; have q0 := cell_on b2 k0; have q1 := keptW bD b2))) | fail
      all_goals go_wp2
      all_goals go_ret
      all_goals exact ⟨rfl, _, H.out.kept (by assumption), .of_below (by assumption)⟩
    · rw [← hrm] at hr
      have hX := fun V (r : RAt V p A D S L kp m.tick) => rfile_meets r ok.tick n hf
      by_cases hl : m.left = 1
      · have hm : m.write n bl = (9, m.tick.fail m.keep) := by unfold M.write M.step; rw [if_neg (by simp [hf]), if_neg (by rw [← hrm]; exact hr), if_pos hl]
        rw [hm]
        have hC : Hid (∀ V, Below w.heap.size w V → Calls Try.prog 61 #[.pointer (some ⟨p, 0, none⟩)] V fun e w' => e = .returned (.bool true) ∧ ∃ F', R w' p F' (m.tick.fail m.keep) ∧ Moved V w' (rfoot p A D S L) F') := fun V b => rcount_hit (h.kept b) ok hc hl
        clear h hl hf hm hX hap hb hrm
        go_enter Try.func27, Try.ntmps27
        go_wp2_with fail
        refine hF.mono ?_
        rintro e w1 ⟨rfl, b1⟩
        have k0 := HK0.out _ b1
        go_wp2
        have bD : Below w.heap.size w w1.drew := b1.drew
        first | (go_region_held3 (fun w' => w'.cell? ⟨p, 0, none⟩ = some (.int .i64 m.room) ∧ Below w.heap.size w w') (go_keep) (first | (go_at_call 45; refine (HNe.out _ bD).mono ?_; rintro e w2 ⟨rfl, b2⟩; have q0 := cell_on b2 k0; have q1 := keptW bD b2))) | fail
        all_goals have HBB : Hid (Below w.heap.size w _) := q1
        all_goals go_wp2_with (go_at_call 61; refine (hC.out _ HBB.out).mono ?_; rintro e w4 ⟨rfl, F', r', mv'⟩)
        all_goals go_ret
        all_goals exact ⟨rfl, F', r', (Moved.of_below HBB.out).trans mv'⟩
      · have hm : m.write n bl = (0, M.setF (m.place n) { m.fl (m.place n) with now := (m.fl (m.place n)).now ++ bl } m.tick) := by unfold M.write M.step; rw [if_neg (by simp [hf]), if_neg (by rw [← hrm]; exact hr), if_neg hl]
        rw [hm]
        have hC : Hid (∀ V, Below w.heap.size w V → Calls Try.prog 61 #[.pointer (some ⟨p, 0, none⟩)] V fun e w' => e = .returned (.bool false) ∧ RAt w' p A D S L kp m.tick ∧ Moved V w' (rfoot p A D S L) (rfoot p A D S L)) := fun V b => rcount_miss (h.kept b) ok hc hl
        have hfl := (ok.fl (m.place n)).1
        have HAP : Hid (∀ V F', Moved w V (rfoot p A D S L) F' → Holds V (.slice ba bl.length bc) bl) := hap
        clear h hl hf hm hap hb
        go_enter Try.func27, Try.ntmps27
        go_wp2_with fail
        refine hF.mono ?_
        rintro e w1 ⟨rfl, b1⟩
        have k0 := HK0.out _ b1
        clear hF
        go_wp2
        have bD : Below w.heap.size w w1.drew := b1.drew
        first | (go_region_held3 (fun w' => w'.cell? ⟨p, 0, none⟩ = some (.int .i64 m.room) ∧ Below w.heap.size w w') (go_keep) (first | (go_at_call 45; refine (HNe.out _ bD).mono ?_; rintro e w2 ⟨rfl, b2⟩; have q0 := cell_on b2 k0; have q1 := keptW bD b2))) | fail
        have HBB : Hid (Below w.heap.size w _) := q1
        clear b1 bD q0 q1 b2 k0 HNe
        go_wp2_with fail
        refine (hC.out _ HBB.out).mono ?_
        rintro e w4 ⟨rfl, r4, mv4⟩
        have hX4 := hX w4 r4
        have HM4 : Hid (Moved w w4 (rfoot p A D S L) (rfoot p A D S L)) := (Moved.of_below HBB.out).trans mv4
        clear hX hC r4 mv4 HBB
        have hq : m.tick.place n = m.place n := rfl
        have hy : m.tick.fl (m.place n) = m.fl (m.place n) := rfl
        rw [hq, hy] at hX4
        clear hq hy
        go_wp2_with fail
        refine hX4.mono ?_
        rintro e w5 ⟨g, na, nc, sa, sc, rfl, b5, g0, g1, hnc, HB5, _, HN0, _⟩
        have hb5 := (HAP.out w4 _ HM4.out).below b5 (Nat.le_refl _)
        obtain ⟨V5, fold5⟩ : ∃ V5, w5.alloc (.cells #[] 5) = V5 := ⟨_, rfl⟩
        have bV5 : Below w5.heap.size w5 V5 := by rw [← fold5]; exact (Below.refl _ _).alloc (Nat.le_refl _) _
        have e0 : Buf V5 (.slice (some ⟨w5.heap.size, 0, none⟩) 0 0) [] := by
          refine .inr ⟨w5.heap.size, 0, #[], rfl, ?_, Nat.le_refl _, Nat.zero_le _, Nat.le_refl _, rfl⟩
          rw [← fold5]
          exact heap_alloc_new w5 _
        obtain ⟨x1, u1, hap1, bf1, gr1, lc1, _⟩ := run_append_buf 29 e0 (HB5.out.holds.below bV5 (Nat.le_refl _)) (by simp; omega)
        have bu1 : Below w5.heap.size w5 u1 := bV5.grown gr1 bV5.size (fun k hk => by simp [Value.ownBlock] at hk; omega)
        obtain ⟨x2, u2, hap2, bf2, gr2, lc2, _⟩ := run_append_buf 29 bf1 (hb5.below bu1 (Nat.le_refl _)) (by unfold maxLen at hblm; simp; omega)
        have hx1 : ∀ i, x1.ownBlock = some i → w5.heap.size ≤ i := fun i hi => by
          have := bV5.size
          rcases lc1 with h | ⟨g, h, h2⟩
          · rw [h] at hi; simp [Value.ownBlock] at hi; omega
          · rw [h] at hi; injection hi with hi; omega
        have hx2 : ∀ i, x2.ownBlock = some i → w5.heap.size ≤ i := fun i hi => by
          have := bu1.size
          rcases lc2 with h | ⟨g, h, h2⟩
          · rw [h] at hi; exact hx1 i hi
          · rw [h] at hi; injection hi with hi; omega
        have bu2 : Below w5.heap.size w5 u2 := bu1.grown gr2 bu1.size (fun k hk => hx1 k hk)
        obtain ⟨a1, c1, hv1⟩ := bf1.slice
        obtain ⟨a2, c2, hv2⟩ := bf2.slice
        rw [hv1] at hap1 hap2
        rw [hv2] at hap2 bf2 hx2
        obtain ⟨⟨uu, y0⟩, fz, HN⟩ := HN0.out u2 _ _ _ _ bu2 bf2 hx2
        have HNN : Hid _ := HN
        have g0V := cell_on bV5 g0
        clear HN HN0 hX4 HB5 hb5 e0 bf1 bf2 gr1 gr2 lc1 lc2 hx1 hx2 bu1 bu2 bV5 hv1 hv2 hfl hnc
        obtain ⟨q, hq⟩ : ∃ q, q = m.place n := ⟨_, rfl⟩
        rw [← hq] at HNN fz g0 g1 g0V y0 hap1 hap2 ⊢
        have HQ : Hid (q = m.place n) := hq
        clear hq b5
        simp only [List.nil_append] at hap1 hap2 HNN
        generalize (m.fl q).now.length = ln at *
        generalize ((m.fl q).now ++ bl).length = l2 at *
        generalize (m.fl q).sure.length = ls at *
        go_wp2_with (at_builtin; first
          | (refine wpList_append_run rfl (.tmp 31) (.tmp 35) #[29, 29] rfl (.slice (some ⟨w5.heap.size, 0, none⟩) 0 0) (.slice na ln nc) rfl rfl (.slice a1 ln c1) u1 hap1 ?_)
          | (refine wpList_append_run rfl (.tmp 36) (.tmp 37) #[29, 29] rfl (.slice a1 ln c1) (.slice ba bl.length bc) rfl rfl (.slice a2 l2 c2) u2 hap2 ?_))
        go_ret
        obtain ⟨F', r', mv'⟩ := HNN.out _ rfl rfl rfl rfl
        rw [← HQ.out]
        exact ⟨rfl, F', r', HM4.out.trans mv'⟩
  · have hm : m.write n bl = (m.first n true, m) := by unfold M.write; rw [if_pos hf]
    rw [hm]
    have H : Hid (R w p (rfoot p A D S L) m) := h.toR
    clear h hm
    generalize m.first n true = z at *
    go_enter Try.func27, Try.ntmps27
    go_wp2_with (go_at_call 59; refine hF.mono ?_; rintro e w1 ⟨rfl, b1⟩)
    go_ret
    exact ⟨rfl, _, H.out.kept b1, .of_below b1⟩

set_option maxRecDepth 20000 in
set_option maxHeartbeats 4000000 in
theorem rcut_any (p : Nat) (F : Nat → Prop) (m : M) (n : ByteArray) (k : Int) (w : World) (h : R w p F m) (ok : m.Ok) (hc : m.count ≤ 900000) (hs : n.size ≤ maxLen) :
    Calls Try.prog 30 #[.pointer (some ⟨p, 0, none⟩), .string n, .int .i64 k] w fun e w' => e = .returned (.int .i64 (m.cut n k).1) ∧ ∃ F', R w' p F' (m.cut n k).2 ∧ Moved w w' F F' := by
  obtain ⟨A, D, S, L, kp, h, rfl⟩ := h
  have hF := rfirst_at h n true hs
  by_cases hf : m.first n true = 0
  · rw [hf] at hF
    by_cases hk : k < 0
    · have hm : m.cut n k = (2, m) := by unfold M.cut; rw [if_neg (by simp [hf]), if_pos (.inl hk)]
      rw [hm]
      have H : Hid (R w p (rfoot p A D S L) m) := h.toR
      clear h hm hf
      go_enter Try.func30, Try.ntmps30
      go_wp2_with (go_at_call 59; refine hF.mono ?_; rintro e w1 ⟨rfl, b1⟩)
      go_ret
      exact ⟨rfl, _, H.out.kept b1, .of_below b1⟩
    have HX := fun V (r : RAt V p A D S L kp m) => rfile_meets r ok n hf
    by_cases hb : k > (m.fl (m.place n)).now.length
    · have hm : m.cut n k = (2, m) := by unfold M.cut; rw [if_neg (by simp [hf]), if_pos (.inr hb)]
      rw [hm]
      have H : Hid (RAt w p A D S L kp m) := h
      have hb' : ((m.fl (m.place n)).now.length : Int) < k := hb
      clear h hm hf hb
      go_enter Try.func30, Try.ntmps30
      go_wp2_with fail
      refine hF.mono ?_
      rintro e w1 ⟨rfl, b1⟩
      have hX := HX w1 (H.out.kept b1)
      clear HX hF
      go_wp2_with fail
      refine hX.mono ?_
      rintro e w5 ⟨g, na, nc, sa, sc, rfl, b5, g0, g1, _, _, _, _, _⟩
      clear hX
      generalize m.place n = q at *
      generalize (m.fl q).now.length = ln at *
      go_wp2
      go_ret
      exact ⟨rfl, _, H.out.toR.kept (keptW b1 b5), .of_below (keptW b1 b5)⟩
    obtain ⟨kk, rfl⟩ : ∃ kk : Nat, k = (kk : Int) := ⟨k.toNat, by omega⟩
    have hle : kk ≤ (m.fl (m.place n)).now.length := by omega
    have hb' : ¬ ((m.fl (m.place n)).now.length : Int) < (kk : Int) := by omega
    by_cases hl : m.left = 1
    · have hm : m.cut n kk = (9, m.tick.fail m.keep) := by unfold M.cut M.step; rw [if_neg (by simp [hf]), if_neg (by omega), if_pos hl]
      rw [hm]
      have hC : Hid (∀ V, Below w.heap.size w V → Calls Try.prog 61 #[.pointer (some ⟨p, 0, none⟩)] V fun e w' => e = .returned (.bool true) ∧ ∃ F', R w' p F' (m.tick.fail m.keep) ∧ Moved V w' (rfoot p A D S L) F') := fun V b => rcount_hit (h.kept b) ok hc hl
      have H : Hid (RAt w p A D S L kp m) := h
      clear h hm hf hb hl hle
      go_enter Try.func30, Try.ntmps30
      go_wp2_with fail
      refine hF.mono ?_
      rintro e w1 ⟨rfl, b1⟩
      have hX := HX w1 (H.out.kept b1)
      clear HX hF
      go_wp2_with fail
      refine hX.mono ?_
      rintro e w5 ⟨g, na, nc, sa, sc, rfl, b5, g0, g1, _, _, _, _, _⟩
      clear hX
      generalize m.place n = q at *
      generalize (m.fl q).now.length = ln at *
      go_wp2_with (go_at_call 61; refine (hC.out _ (keptW b1 b5)).mono ?_; rintro e w4 ⟨rfl, F', r', mv'⟩)
      go_ret
      exact ⟨rfl, F', r', (Moved.of_below (keptW b1 b5)).trans mv'⟩
    · have hm : m.cut n kk = (0, M.setF (m.place n) { m.fl (m.place n) with now := (m.fl (m.place n)).now.take kk } m.tick) := by unfold M.cut M.step; rw [if_neg (by simp [hf]), if_neg (by omega), if_neg hl]; rfl
      rw [hm]
      have hC : Hid (∀ V, Below w.heap.size w V → Calls Try.prog 61 #[.pointer (some ⟨p, 0, none⟩)] V fun e w' => e = .returned (.bool false) ∧ RAt w' p A D S L kp m.tick ∧ Moved V w' (rfoot p A D S L) (rfoot p A D S L)) := fun V b => rcount_miss (h.kept b) ok hc hl
      have H : Hid (RAt w p A D S L kp m) := h
      have HX2 := fun V (r : RAt V p A D S L kp m.tick) => rfile_meets r ok.tick n hf
      have hfl := (ok.fl (m.place n)).1
      clear h hm hf hb hl
      go_enter Try.func30, Try.ntmps30
      go_wp2_with fail
      refine hF.mono ?_
      rintro e w1 ⟨rfl, b1⟩
      have hX := HX w1 (H.out.kept b1)
      clear HX hF
      go_wp2_with fail
      refine hX.mono ?_
      rintro e w3 ⟨g3, na3, nc3, sa3, sc3, rfl, b3, y0, y1, _, _, _, _, _⟩
      clear hX
      have b13 := keptW b1 b3
      have HBB : Hid (Below w.heap.size w w3) := b13
      clear b1 b3 b13
      go_wp2_with fail
      refine (hC.out _ HBB.out).mono ?_
      rintro e w4 ⟨rfl, r4, mv4⟩
      have hX4 := HX2 w4 r4
      have HM4 : Hid (Moved w w4 (rfoot p A D S L) (rfoot p A D S L)) := (Moved.of_below HBB.out).trans mv4
      clear HX2 hC r4 mv4 HBB y0 y1
      have hq : m.tick.place n = m.place n := rfl
      have hy : m.tick.fl (m.place n) = m.fl (m.place n) := rfl
      rw [hq, hy] at hX4
      clear hq hy
      go_wp2_with fail
      refine hX4.mono ?_
      rintro e w5 ⟨g, na, nc, sa, sc, rfl, b5, g0, g1, hnc, HB5, _, HN0, _⟩
      obtain ⟨V5, fold5⟩ : ∃ V5, w5.alloc (.cells #[] 5) = V5 := ⟨_, rfl⟩
      have bV5 : Below w5.heap.size w5 V5 := by rw [← fold5]; exact (Below.refl _ _).alloc (Nat.le_refl _) _
      have e0 : Buf V5 (.slice (some ⟨w5.heap.size, 0, none⟩) 0 0) [] := by
        refine .inr ⟨w5.heap.size, 0, #[], rfl, ?_, Nat.le_refl _, Nat.zero_le _, Nat.le_refl _, rfl⟩
        rw [← fold5]
        exact heap_alloc_new w5 _
      have hlt : ((m.fl (m.place n)).now.take kk).length = kk := by rw [List.length_take]; omega
      obtain ⟨x1, u1, hap1, bf1, gr1, lc1, _⟩ := run_append_buf 29 e0 ((HB5.out.take hle).holds.below bV5 (Nat.le_refl _)) (by rw [hlt]; simp; omega)
      have bu1 : Below w5.heap.size w5 u1 := bV5.grown gr1 bV5.size (fun k hk => by simp [Value.ownBlock] at hk; omega)
      have hx1 : ∀ i, x1.ownBlock = some i → w5.heap.size ≤ i := fun i hi => by
        have := bV5.size
        rcases lc1 with h | ⟨g, h, h2⟩
        · rw [h] at hi; simp [Value.ownBlock] at hi; omega
        · rw [h] at hi; injection hi with hi; omega
      obtain ⟨a1, c1, hv1⟩ := bf1.slice
      rw [hv1] at hap1 bf1 hx1
      obtain ⟨⟨uu, y0⟩, fz, HN⟩ := HN0.out u1 _ _ _ _ bu1 bf1 hx1
      have HNN : Hid _ := HN
      have g0V := cell_on bV5 g0
      have hkc : (kk : Int) ≤ (nc : Int) := by omega
      clear HN HN0 hX4 HB5 e0 bf1 gr1 lc1 hx1 bu1 bV5 hv1 hfl hnc
      obtain ⟨q, hq⟩ : ∃ q, q = m.place n := ⟨_, rfl⟩
      rw [← hq] at HNN fz g0 g1 g0V y0 hap1 hb' hle hlt ⊢
      have HQ : Hid (q = m.place n) := hq
      clear hq b5
      simp only [List.nil_append] at hap1 HNN
      rw [hlt] at hap1 HNN
      clear hlt hle hb'
      generalize (m.fl q).now.length = ln at *
      generalize (m.fl q).sure.length = ls at *
      go_wp2_with (at_builtin; refine wpList_append_run rfl (.tmp 34) (.tmp 40) #[29, 29] rfl (.slice (some ⟨w5.heap.size, 0, none⟩) 0 0) (.slice na kk nc) rfl rfl (.slice a1 kk c1) u1 hap1 ?_)
      go_ret
      obtain ⟨F', r', mv'⟩ := HNN.out _ rfl rfl rfl rfl
      rw [← HQ.out]
      exact ⟨rfl, F', r', HM4.out.trans mv'⟩
  · have hm : m.cut n k = (m.first n true, m) := by unfold M.cut; rw [if_pos hf]
    rw [hm]
    have H : Hid (R w p (rfoot p A D S L) m) := h.toR
    clear h hm
    generalize m.first n true = z at *
    go_enter Try.func30, Try.ntmps30
    go_wp2_with (go_at_call 59; refine hF.mono ?_; rintro e w1 ⟨rfl, b1⟩)
    go_ret
    exact ⟨rfl, _, H.out.kept b1, .of_below b1⟩

section
variable {w V : World} {p : Nat} {A D S : Value} {L : List Rf} {kp : Int} {m : M}
/-- A file more. -/
theorem RAt.newAll {w1 V : World} {v : Value} (h : RAt w p A D S L kp m) (gr : w.grownBy w1 A.ownBlock) (own : K.OwnOf rfc 2 92 w1 0 v (L ++ [⟨none, 0, 0, none, 0, 0⟩])) (hn : K.NewOr w A v) (hV : V.heap = (w1.setCell ⟨p, 1, none⟩ v).heap) (h1 : V.os = w1.os) (h2 : V.tape = w1.tape) (h3 : V.output = w1.output) :
    RAt V p v D S (L ++ [⟨none, 0, 0, none, 0, 0⟩]) kp { m with all := m.all ++ [zeroFl] } ∧ Moved w V (rfoot p A D S L) (rfoot p v D S (L ++ [⟨none, 0, 0, none, 0, 0⟩])) := by
  have hp : p < w.heap.size := h.lts p (.inl rfl)
  have hvp : ∀ g, v.ownBlock = some g → g ≠ p := fun g hg => by
    rcases hn with e | ⟨g', e, e2⟩
    · rw [e] at hg; exact h.ne (.inl hg)
    · rw [e] at hg; injection hg with hg; omega
  have ho : ∀ k, k < w.heap.size → k ≠ p → A.ownBlock ≠ some k → V.heap[k]? = w.heap[k]? := fun k hk hkp hka => by
    rw [hV, Below.heap_setCell _ _ _ _ hkp]
    exact gr.block k hk fun e => hka e.symm
  have hap : ∀ k, (D.ownBlock = some k ∨ S.ownBlock = some k ∨ ∃ x ∈ L, x.now.ownBlock = some k ∨ x.sure.ownBlock = some k) → V.heap[k]? = w.heap[k]? := fun k hk => by
    have hlt : k < w.heap.size := h.lts k (by
      rcases hk with hk | hk | hk
      · exact .inr (.inr (.inl hk))
      · exact .inr (.inr (.inr (.inl hk)))
      · exact .inr (.inr (.inr (.inr hk))))
    refine ho k hlt (h.ne (.inr hk)) fun hA => ?_
    obtain ⟨cg, hg⟩ := own_ty h.all hA
    have : ∃ c t, w.heap[k]? = some (.cells c t (0, 0)) ∧ t ≠ 92 := by
      rcases hk with hk | hk | ⟨x, hx, hk⟩
      · obtain ⟨c, hc⟩ := own_ty h.dir hk; exact ⟨c, _, hc, by decide⟩
      · obtain ⟨c, hc⟩ := own_ty h.sur hk; exact ⟨c, _, hc, by decide⟩
      · obtain ⟨i, hi, rfl⟩ := List.mem_iff_getElem.1 hx
        rcases hk with hk | hk
        · obtain ⟨c, hc⟩ := (h.now i hi).blk hk; exact ⟨c, _, hc, by decide⟩
        · obtain ⟨c, hc⟩ := (h.sure i hi).blk hk; exact ⟨c, _, hc, by decide⟩
    obtain ⟨c, t, hc, ht⟩ := this
    rw [hg] at hc
    simp only [Option.some.injEq, Obj.cells.injEq] at hc
    exact ht hc.2.1.symm
  have hpA : A.ownBlock ≠ some p := fun e => h.ne (.inl e) rfl
  have hfl : ∀ i, ({ m with all := m.all ++ [zeroFl] } : M).fl i = m.fl i := fun i => by
    have := M.at_add (m := m) (n := ⟨#[]⟩) (j := i)
    exact this
  have hz : ∀ i, i = L.length → m.fl i = zeroFl := fun i e => by
    unfold M.fl
    rw [List.getD_eq_getElem?_getD, List.getElem?_eq_none (by rw [← h.len]; omega)]
    rfl
  refine ⟨⟨?_, h.keep, own_same own fun g hg => by rw [hV, Below.heap_setCell _ _ _ _ (hvp g hg)], own_same h.dir fun g hg => hap g (.inl hg), own_same h.sur fun g hg => hap g (.inr (.inl hg)), by simp [h.len], fun i hi => ?_, fun i hi => ?_⟩, h1.trans gr.os, h2.trans gr.tape, h3.trans gr.output, by rw [hV]; simpa using gr.size, fun k hk hnf => ?_, ?_⟩
  · rw [hV]
    exact heap_set_list (i := 1) ((gr.block p hp fun e => hpA e.symm).trans h.blk) v
  · rw [hfl]
    by_cases e : i < L.length
    · rw [List.getElem_append_left e]
      exact (h.now i e).same fun g hg => hap g (.inr (.inr ⟨_, List.getElem_mem e, .inl hg⟩))
    · have e2 : i = L.length := by simp at hi; omega
      rw [hz i e2]
      subst e2
      simp only [List.getElem_concat_length]
      exact .inl ⟨rfl, rfl⟩
  · rw [hfl]
    by_cases e : i < L.length
    · rw [List.getElem_append_left e]
      exact (h.sure i e).same fun g hg => hap g (.inr (.inr ⟨_, List.getElem_mem e, .inr hg⟩))
    · have e2 : i = L.length := by simp at hi; omega
      rw [hz i e2]
      subst e2
      simp only [List.getElem_concat_length]
      exact .inl ⟨rfl, rfl⟩
  · exact ho k hk (fun e => hnf (.inl e)) fun e => hnf (.inr (.inl e))
  · rintro i (hi | hi | hi | hi | ⟨x, hx, hi⟩)
    · exact .inl (.inl hi)
    · rcases hn with e | ⟨g', e, e2⟩
      · rw [e] at hi; exact .inl (.inr (.inl hi))
      · rw [e] at hi; injection hi with hi; exact .inr (by omega)
    · exact .inl (.inr (.inr (.inl hi)))
    · exact .inl (.inr (.inr (.inr (.inl hi))))
    · rcases List.mem_append.1 hx with hx | hx
      · exact .inl (.inr (.inr (.inr (.inr ⟨x, hx, hi⟩))))
      · rw [List.mem_singleton.1 hx] at hi
        simp [Rf.now, Rf.sure, Value.ownBlock] at hi
theorem fileInfo : ∃ i, Try.prog.info? 92 = some i ∧ i.zero = some (.agg #[.slice none 0 0, .slice none 0 0]) ∧ i.size = 2 ∧ i.bytes = 48 := by
  have hinfo : (Try.prog.info? 92).map (fun i => (i.zero, i.size, i.bytes)) = some (some (.agg #[.slice none 0 0, .slice none 0 0]), 2, 48) := by kernel_rfl
  exact info_parts hinfo
end
set_option maxRecDepth 20000 in
set_option maxHeartbeats 4000000 in
theorem rmove_any (p : Nat) (F : Nat → Prop) (m : M) (n t : ByteArray) (w : World) (h : R w p F m) (ok : m.Ok) (hc : m.count ≤ 900000) (hs : n.size ≤ maxLen) (ht : t.size ≤ maxLen) :
    Calls Try.prog 33 #[.pointer (some ⟨p, 0, none⟩), .string n, .string t] w fun e w' => e = .returned (.int .i64 (m.move n t).1) ∧ ∃ F', R w' p F' (m.move n t).2 ∧ Moved w w' F F' := by
  obtain ⟨A, D, S, L, kp, h, rfl⟩ := h
  obtain ⟨_, _, _, _, c4, _, _, _⟩ := h.cells
  have hG1 := fun V => rgood_any n V hs
  have hG2 := fun V => rgood_any t V ht
  have H : Hid (R w p (rfoot p A D S L) m) := h.toR
  cases hd : m.dark with
  | true =>
    have hm : m.move n t = (9, m) := by unfold M.move; rw [hd]; rfl
    rw [hm]
    rw [hd] at c4
    clear h
    go_enter Try.func33, Try.ntmps33
    go_wp2
    go_ret
    exact ⟨rfl, _, H.out, .refl _ _⟩
  | false =>
    rw [hd] at c4
    cases hg1 : goodN n with
    | false =>
      have hm : m.move n t = (2, m) := by unfold M.move; rw [hd, hg1]; rfl
      rw [hm]
      rw [hg1] at hG1
      clear h hG2
      go_enter Try.func33, Try.ntmps33
      go_wp2_with (go_at_call 67; refine (hG1 _).mono ?_; rintro e w ⟨rfl, rfl⟩)
      go_ret
      exact ⟨rfl, _, H.out, .refl _ _⟩
    | true =>
      rw [hg1] at hG1
      cases hg2 : goodN t with
      | false =>
        have hm : m.move n t = (2, m) := by unfold M.move; rw [hd, hg1, hg2]; rfl
        rw [hm]
        rw [hg2] at hG2
        clear h
        go_enter Try.func33, Try.ntmps33
        go_wp2_with (go_at_call 67; first | (with_reducible refine (hG1 _).mono ?_; rintro e w ⟨rfl, rfl⟩) | (with_reducible refine (hG2 _).mono ?_; rintro e w ⟨rfl, rfl⟩))
        go_ret
        exact ⟨rfl, _, H.out, .refl _ _⟩
      | true =>
        rw [hg2] at hG2
        have hFd := rfind_at h n
        rcases posE_find m.dir n with ⟨h1, h2⟩ | ⟨i, hi, h1, h2⟩
        · have hm : m.move n t = (3, m) := by unfold M.move; rw [hd, hg1, hg2, h2]; rfl
          rw [hm]
          clear h
          generalize posE m.dir n = z at *
          go_enter Try.func33, Try.ntmps33
          go_wp2_with (first
            | (go_at_call 67; first | (with_reducible refine (hG1 _).mono ?_; rintro e w ⟨rfl, rfl⟩) | (with_reducible refine (hG2 _).mono ?_; rintro e w ⟨rfl, rfl⟩))
            | (go_at_call 60; refine hFd.mono ?_; rintro e w1 ⟨rfl, b1⟩))
          go_ret
          exact ⟨rfl, _, H.out.kept b1, .of_below b1⟩
        · rw [h1] at hFd
          have h3 : ¬ (i : Int) < 0 := by omega
          have hpl := M.place_of h2
          by_cases hl : m.left = 1
          · have hm : m.move n t = (9, m.tick.fail m.keep) := by unfold M.move M.step; rw [hd, hg1, hg2, h2, if_pos hl]; rfl
            rw [hm]
            have hC : Hid (∀ V, Below w.heap.size w V → Calls Try.prog 61 #[.pointer (some ⟨p, 0, none⟩)] V fun e w' => e = .returned (.bool true) ∧ ∃ F', R w' p F' (m.tick.fail m.keep) ∧ Moved V w' (rfoot p A D S L) F') := fun V b => rcount_hit (h.kept b) ok hc hl
            clear h hl h1 h2 hpl hm
            go_enter Try.func33, Try.ntmps33
            go_wp2_with (first
              | (go_at_call 67; first | (with_reducible refine (hG1 _).mono ?_; rintro e w ⟨rfl, rfl⟩) | (with_reducible refine (hG2 _).mono ?_; rintro e w ⟨rfl, rfl⟩))
              | (go_at_call 60; refine hFd.mono ?_; rintro e w1 ⟨rfl, b1⟩)
              | (go_at_call 61; refine (hC.out _ b1).mono ?_; rintro e w4 ⟨rfl, F', r', mv'⟩))
            go_ret
            exact ⟨rfl, F', r', (Moved.of_below b1).trans mv'⟩
          · have hm : m.move n t = (0, M.shift n t m.dir[i].f m.tick) := by unfold M.move M.step; rw [hd, hg1, hg2, h2, if_neg hl, hpl]; rfl
            rw [hm]
            have hC : Hid (∀ V, Below w.heap.size w V → Calls Try.prog 61 #[.pointer (some ⟨p, 0, none⟩)] V fun e w' => e = .returned (.bool false) ∧ RAt w' p A D S L kp m.tick ∧ Moved V w' (rfoot p A D S L) (rfoot p A D S L)) := fun V b => rcount_miss (h.kept b) ok hc hl
            have HFd : Hid (∀ V, RAt V p A D S L kp m.tick → ∃ b off vc, D = .slice (some ⟨b, off, none⟩) m.dir.length vc ∧ V.cell? ⟨p, 2, none⟩ = some (.slice (some ⟨b, off, none⟩) m.dir.length vc) ∧ V.cell? ⟨b, off + i * 2 + 1, none⟩ = some (.int .i64 (m.dir[i].f : Int)) ∧ ∀ V2, Below V.heap.size V V2 → Calls Try.prog 60 #[.pointer (some ⟨p, 0, none⟩), .string n] V2 fun e w' => e = .returned (.int .i64 (i : Int)) ∧ Below V2.heap.size V2 w') := fun V r => by
              obtain ⟨va, vc, hv⟩ := r.dir.rng.slice
              have hr := r.dir.rng
              rw [hv] at hr
              obtain ⟨_, _, hat⟩ := ens_at hr
              obtain ⟨b, off, rfl, _, g1⟩ := hat i hi
              refine ⟨b, off, vc, hv, ?_, g1, fun V2 b2 => ?_⟩
              · rw [r.cells.2.2.1, hv]; rfl
              · have := rfind_at (r.kept b2) n
                rw [show m.tick.dir = m.dir from rfl, h1] at this
                exact this
            have hf63 : (m.dir[i].f : Int) ≤ 1000000 := by have := ok.fd _ (List.getElem_mem hi); have := ok.cnt; omega
            have HS : Hid (∀ V, RAt V p A D S L kp m.tick → Calls Try.prog 62 #[.pointer (some ⟨p, 0, none⟩), .string n, .int .i64 (-1)] V fun e w' => e = .returned (.tuple #[]) ∧ Moved V w' (rfoot p A D S L) (rfoot p A D S L) ∧ Calls Try.prog 62 #[.pointer (some ⟨p, 0, none⟩), .string t, .int .i64 (m.dir[i].f : Int)] w' fun e w2 => e = .returned (.tuple #[]) ∧ ∃ F', R w2 p F' (M.shift n t m.dir[i].f m.tick) ∧ Moved V w2 (rfoot p A D S L) F') := fun V r => by
              refine (rset_at r n (-1) 0 true (fun h => by cases h) (by decide) (by have := ok.ld; show m.dir.length ≤ _; omega)).mono ?_
              rintro e w' ⟨rfl, D', r', hg, mv'⟩
              rw [set_cut] at r'
              have mva : Moved V w' (rfoot p A D S L) (rfoot p A D' S L) := ⟨mv'.os, mv'.tape, mv'.output, mv'.size, fun i hi hn => mv'.block i hi fun e => hn (.inl e), foot_newDir hg⟩
              refine ⟨rfl, ⟨mva.os, mva.tape, mva.output, mva.size, mva.block, fun _ h => .inl h⟩, ?_⟩
              refine (rset_at r' t m.dir[i].f m.dir[i].f false (fun _ => rfl) (by simp) (by have := ok.ld; have := cutE_length m.dir n; show (cutE m.dir n).length ≤ _; omega)).mono ?_
              rintro e w2 ⟨rfl, D2, r2, hg2, mv2⟩
              rw [set_put] at r2
              exact ⟨rfl, _, r2.toR, mva.trans ⟨mv2.os, mv2.tape, mv2.output, mv2.size, fun i hi hn => mv2.block i hi fun e => hn (.inl e), foot_newDir hg2⟩⟩
            clear h hl h1 h2 hpl hm
            generalize m.dir[i].f = fi at *
            go_enter Try.func33, Try.ntmps33
            go_wp2_with (first
              | (go_at_call 67; first | (with_reducible refine (hG1 _).mono ?_; rintro e w ⟨rfl, rfl⟩) | (with_reducible refine (hG2 _).mono ?_; rintro e w ⟨rfl, rfl⟩))
              | (go_at_call 60; refine hFd.mono ?_; rintro e w1 ⟨rfl, b1⟩)
              | (go_at_call 61; refine (hC.out _ b1).mono ?_; rintro e w4 ⟨rfl, r4, mv4⟩))
            have HM4 : Hid (Moved w w4 (rfoot p A D S L) (rfoot p A D S L)) := (Moved.of_below b1).trans mv4
            obtain ⟨b, off, vc, rfl, z2, z3, hF4⟩ := HFd.out w4 r4
            have R4 : Hid (RAt w4 p A (.slice (some ⟨b, off, none⟩) m.dir.length vc) S L kp m.tick) := r4
            have hi' : (i : Int) < (m.dir.length : Int) := by omega
            clear r4 mv4 b1 hC hFd HFd c4 hG1 hG2
            have bD : Below w4.heap.size w4 w4.drew := (Below.refl _ w4).drew
            first | (go_region_held3 (fun w' => w'.cell? ⟨p, 2, none⟩ = some (.slice (some ⟨b, off, none⟩) m.dir.length vc) ∧ w'.cell? ⟨b, off + i * 2 + 1, none⟩ = some (.int .i64 (fi : Int))) (go_keep) (first | (go_at_call 60; refine (hF4 _ bD).mono ?_; rintro e w5 ⟨rfl, b5⟩; have q1 := cell_on b5 z2; have q2 := cell_on b5 z3))) | fail
            have HB5 : Hid (Below w4.heap.size w4 w5) := keptW bD b5
            have hS := HS.out w5 (R4.out.kept HB5.out)
            clear HS bD b5 hF4
            go_wp2_with fail
            refine hS.mono ?_
            rintro e w6 ⟨rfl, mv6, hS2⟩
            clear hS
            go_wp2_with fail
            refine hS2.mono ?_
            rintro e w7 ⟨rfl, F', r', mv'⟩
            clear hS2
            go_wp2
            go_ret
            exact ⟨rfl, F', r', (HM4.out.trans (Moved.of_below HB5.out)).trans mv'⟩

set_option maxRecDepth 20000 in
set_option maxHeartbeats 4000000 in
theorem rmake_any (p : Nat) (F : Nat → Prop) (m : M) (n : ByteArray) (w : World) (h : R w p F m) (ok : m.Ok) (hc : m.count ≤ 900000) (hs : n.size ≤ maxLen) :
    Calls Try.prog 25 #[.pointer (some ⟨p, 0, none⟩), .string n] w fun e w' => e = .returned (.int .i64 (m.make n).1) ∧ ∃ F', R w' p F' (m.make n).2 ∧ Moved w w' F F' := by
  obtain ⟨A, D, S, L, kp, h, rfl⟩ := h
  have hF := rfirst_at h n false hs
  have H : Hid (RAt w p A D S L kp m) := h
  by_cases hf : m.first n false = 0
  · rw [hf] at hF
    have hFd : Hid (∀ V, Below w.heap.size w V → Calls Try.prog 60 #[.pointer (some ⟨p, 0, none⟩), .string n] V fun e w' => e = .returned (.int .i64 (posE m.dir n)) ∧ Below V.heap.size V w') := fun V b => rfind_at (h.kept b) n
    rcases posE_find m.dir n with ⟨h1, h2⟩ | ⟨i, hi, h1, h2⟩
    · have hneed := ok.need (by omega)
      have hroom0 := ok.room0
      have hroom1 := ok.room1
      have HNe : Hid (∀ V, Below w.heap.size w V → Calls Try.prog 45 #[.pointer (some ⟨p, 0, none⟩)] V fun e w' => e = .returned (.int .i64 (m.need : Int)) ∧ Below V.heap.size V w') := fun V b => rneed_at (h.kept b) ok (by omega)
      have HK0 : Hid (∀ V, Below w.heap.size w V → V.cell? ⟨p, 0, none⟩ = some (.int .i64 m.room)) := fun V b => (h.kept b).cells.1
      obtain ⟨rm, hrm⟩ : ∃ rm : Int, rm = m.room - (m.need : Int) := ⟨_, rfl⟩
      have hsw : IntKind.i64.wrap (m.room - (m.need : Int)) = rm := by rw [IntKind.wrap_i64]; omega
      have hpz : ¬ 0 ≤ posE m.dir n := by omega
      generalize posE m.dir n = z at *
      by_cases hr : m.room - m.need < 16
      · have hm : m.make n = (6, m) := by unfold M.make; rw [if_neg (by simp [hf]), h2, if_pos hr]; rfl
        rw [hm]
        rw [← hrm] at hr
        clear h hm hf hrm h1 h2
        go_enter Try.func25, Try.ntmps25
        go_wp2_with fail
        refine hF.mono ?_
        rintro e w1 ⟨rfl, b1⟩
        clear hF
        go_wp2_with fail
        refine (hFd.out _ b1).mono ?_
        rintro e w3 ⟨rfl, b3⟩
        have b13 := keptW b1 b3
        have k0 := HK0.out _ b13
        clear hFd b1 b3
        go_wp2
        have bD : Below w.heap.size w w3.drew := b13.drew
        first | (go_region_held3 (fun w' => w'.cell? ⟨p, 0, none⟩ = some (.int .i64 m.room) ∧ Below w.heap.size w w') (go_keep) (first | (go_at_call 45; refine (HNe.out _ bD).mono ?_; rintro e w2 ⟨rfl, b2⟩; have q0 := cell_on b2 k0; have q1 := keptW bD b2))) | fail
        go_wp2
        go_ret
        exact ⟨rfl, _, H.out.toR.kept q1, .of_below q1⟩
      · have hr' : ¬ rm < 16 := by rw [hrm]; exact hr
        by_cases hl : m.left = 1
        · have hm : m.make n = (9, m.tick.fail m.keep) := by unfold M.make M.step; rw [if_neg (by simp [hf]), h2, if_neg (by simp), if_neg hr, if_pos hl]
          rw [hm]
          have hC : Hid (∀ V, Below w.heap.size w V → Calls Try.prog 61 #[.pointer (some ⟨p, 0, none⟩)] V fun e w' => e = .returned (.bool true) ∧ ∃ F', R w' p F' (m.tick.fail m.keep) ∧ Moved V w' (rfoot p A D S L) F') := fun V b => rcount_hit (h.kept b) ok hc hl
          clear h hm hf hrm h1 h2 hl hr
          go_enter Try.func25, Try.ntmps25
          go_wp2_with fail
          refine hF.mono ?_
          rintro e w1 ⟨rfl, b1⟩
          clear hF
          go_wp2_with fail
          refine (hFd.out _ b1).mono ?_
          rintro e w3 ⟨rfl, b3⟩
          have b13 := keptW b1 b3
          have k0 := HK0.out _ b13
          clear hFd b1 b3
          go_wp2
          have bD : Below w.heap.size w w3.drew := b13.drew
          first | (go_region_held3 (fun w' => w'.cell? ⟨p, 0, none⟩ = some (.int .i64 m.room) ∧ Below w.heap.size w w') (go_keep) (first | (go_at_call 45; refine (HNe.out _ bD).mono ?_; rintro e w2 ⟨rfl, b2⟩; have q0 := cell_on b2 k0; have q1 := keptW bD b2))) | fail
          go_wp2_with fail
          refine (hC.out _ q1).mono ?_
          rintro e w4 ⟨rfl, F', r', mv'⟩
          go_wp2
          go_ret
          exact ⟨rfl, F', r', (Moved.of_below q1).trans mv'⟩
        · have hm : m.make n = (0, M.add n m.tick) := by unfold M.make M.step; rw [if_neg (by simp [hf]), h2, if_neg (by simp), if_neg hr, if_neg hl]
          rw [hm]
          have hC : Hid (∀ V, Below w.heap.size w V → Calls Try.prog 61 #[.pointer (some ⟨p, 0, none⟩)] V fun e w' => e = .returned (.bool false) ∧ RAt w' p A D S L kp m.tick ∧ Moved V w' (rfoot p A D S L) (rfoot p A D S L)) := fun V b => rcount_miss (h.kept b) ok hc hl
          obtain ⟨aa, ac, rfl⟩ := h.all.rng.slice
          have hLm : L.length ≤ 1000000 := by have := h.len; have := ok.cnt; omega
          have HLm : Hid (L.length = m.all.length) := h.len
          have hld : m.dir.length ≤ 1000000 := by have := ok.ld; omega
          obtain ⟨i0, hi0, hz0, hzs, hzb⟩ := fileInfo
          clear h hm hf hrm h1 h2 hl hr ok
          go_enter Try.func25, Try.ntmps25
          go_wp2_with fail
          refine hF.mono ?_
          rintro e w1 ⟨rfl, b1⟩
          clear hF
          go_wp2_with fail
          refine (hFd.out _ b1).mono ?_
          rintro e w3 ⟨rfl, b3⟩
          have b13 := keptW b1 b3
          have k0 := HK0.out _ b13
          clear hFd b1 b3
          go_wp2
          have bD : Below w.heap.size w w3.drew := b13.drew
          first | (go_region_held3 (fun w' => w'.cell? ⟨p, 0, none⟩ = some (.int .i64 m.room) ∧ Below w.heap.size w w') (go_keep) (first | (go_at_call 45; refine (HNe.out _ bD).mono ?_; rintro e w2 ⟨rfl, b2⟩; have q0 := cell_on b2 k0; have q1 := keptW bD b2))) | fail
          go_wp2_with fail
          refine (hC.out _ q1).mono ?_
          rintro e w4 ⟨rfl, r4, mv4⟩
          have HM4 : Hid (Moved w w4 (rfoot p (.slice aa L.length ac) D S L) (rfoot p (.slice aa L.length ac) D S L)) := (Moved.of_below q1).trans mv4
          clear mv4 q1 q0 b2 hC bD HNe HK0 k0 b13
          obtain ⟨V, foldV⟩ : ∃ V, w4.alloc (.cells #[.slice none 0 0, .slice none 0 0] 92) = V := ⟨_, rfl⟩
          have bV : Below w4.heap.size w4 V := by rw [← foldV]; exact (Below.refl _ _).alloc (Nat.le_refl _) _
          have rV := r4.kept bV
          have row1 : K.RowOf rfc V (.slice (some ⟨w4.heap.size, 0, none⟩) 1 1) [⟨none, 0, 0, none, 0, 0⟩] := by rw [← foldV]; exact K.row_one w4 (⟨none, 0, 0, none, 0, 0⟩ : Rf) _ rfl
          have d1 : V.cell? ⟨p, 1, none⟩ = some (.slice aa L.length ac) := rV.cells.2.1
          have x1 : w4.cell? ⟨p, 1, none⟩ = some (.slice aa L.length ac) := r4.cells.2.1
          have oA : K.OwnOf rfc 2 92 V 0 (.slice aa L.length ac) L := rV.all
          have HN : Hid (∀ w5 va' vc', V.grownBy w5 (Value.slice aa L.length ac).ownBlock → K.OwnOf rfc 2 92 w5 0 (.slice va' (L.length + 1) vc') (L ++ [⟨none, 0, 0, none, 0, 0⟩]) → K.NewOr V (.slice aa L.length ac) (.slice va' (L.length + 1) vc') → w5.cell? ⟨p, 1, none⟩ = some (.slice aa L.length ac) ∧ w5.frozen? ⟨p, 1, none⟩ = false ∧ ∃ X, w5.setCell ⟨p, 1, none⟩ (.slice va' (L.length + 1) vc') = X ∧ X.cell? ⟨p, 1, none⟩ = some (.slice va' (L.length + 1) vc') ∧ Calls Try.prog 62 #[.pointer (some ⟨p, 0, none⟩), .string n, .int .i64 (L.length : Int)] X fun e w2 => e = .returned (.tuple #[]) ∧ ∃ F', R w2 p F' (M.add n m.tick) ∧ Moved w4 w2 (rfoot p (.slice aa L.length ac) D S L) F') := fun w5 va' vc' gr own hn => by
            have hp : p < V.heap.size := rV.lts p (.inl rfl)
            have hpb : w5.heap[p]? = V.heap[p]? := gr.block p hp fun e => rV.ne (.inl e.symm) rfl
            obtain ⟨rX, mvX⟩ := rV.newAll (V := w5.setCell ⟨p, 1, none⟩ (.slice va' (L.length + 1) vc')) gr own hn rfl rfl rfl rfl
            refine ⟨?_, ?_, _, rfl, rX.cells.2.1, ?_⟩
            · exact (World.cell?_of_block (a := ⟨p, 1, none⟩) hpb).trans d1
            · exact (World.frozen?_of_block (a := ⟨p, 1, none⟩) hpb).trans (rV.frozen 1)
            · refine (rset_at rX n L.length L.length false (fun _ => rfl) (by simp) hld).mono ?_
              rintro e w2 ⟨rfl, D2, r2, hg2, mv2⟩
              rw [set_put] at r2
              have e0 : ({ ({ m.tick with all := m.tick.all ++ [zeroFl] } : M) with dir := putE ({ m.tick with all := m.tick.all ++ [zeroFl] } : M).dir n L.length } : M) = M.add n m.tick := by rw [HLm.out]; rfl
              have r3 := r2.toR
              rw [e0] at r3
              exact ⟨rfl, _, r3, ((Moved.of_below bV).trans mvX).trans ⟨mv2.os, mv2.tape, mv2.output, mv2.size, fun i hi hn => mv2.block i hi fun e => hn (.inl e), foot_newDir hg2⟩⟩
          have HSZ : Hid (0 ≤ V.heap.size) := Nat.zero_le _
          have hw1 : IntKind.i64.wrap (((L.length + 1 : Nat) : Int) - 1) = (L.length : Int) := by rw [IntKind.wrap_i64]; omega
          clear rV bV r4
          go_wp2_with (at_builtin; refine K.wpList_append_rows (enc := rfc) rfl (.tmp 30) (.tmp 32) 37 rfl Try.underlying37 i0 _ 48 hi0 hz0 hzs hzb rfl 0 (.slice aa L.length ac) _ L [⟨none, 0, 0, none, 0, 0⟩] rfl rfl oA row1 (by unfold maxLen; simp; omega) (by simp; omega) (Nat.zero_le _) ?_; intro v' w5 own' gr' new'; obtain ⟨va', vc', hv'⟩ := own'.rng.slice; rw [List.length_append, List.length_singleton] at hv'; subst hv'; obtain ⟨y1, fz, X, foldX, z1, hS⟩ := HN.out w5 va' vc' gr' own' new'; clear own' gr' new' HN oA row1)
          refine hS.mono ?_
          rintro e w7 ⟨rfl, F', r', mv'⟩
          clear hS
          go_wp2
          go_ret
          exact ⟨rfl, F', r', HM4.out.trans mv'⟩
    · have hm : m.make n = (4, m) := by unfold M.make; rw [if_neg (by simp [hf]), h2]; rfl
      rw [hm]
      rw [h1] at hFd
      have hge : 0 ≤ (i : Int) := by omega
      clear h hm hf h1 h2
      go_enter Try.func25, Try.ntmps25
      go_wp2_with fail
      refine hF.mono ?_
      rintro e w1 ⟨rfl, b1⟩
      clear hF
      go_wp2_with fail
      refine (hFd.out _ b1).mono ?_
      rintro e w3 ⟨rfl, b3⟩
      go_wp2
      go_ret
      exact ⟨rfl, _, H.out.toR.kept (keptW b1 b3), .of_below (keptW b1 b3)⟩
  · have hm : m.make n = (m.first n false, m) := by unfold M.make; rw [if_pos hf]
    rw [hm]
    clear h hm
    generalize m.first n false = z at *
    go_enter Try.func25, Try.ntmps25
    go_wp2_with (go_at_call 59; refine hF.mono ?_; rintro e w1 ⟨rfl, b1⟩)
    go_ret
    exact ⟨rfl, _, H.out.toR.kept b1, .of_below b1⟩
end Go.Proofs.Ytndinjekocgjhaa
