/-
  THE LAW FifoApart.
-/
import Derived.Test.YtocdfcaakflgpaaAct2
import Derived.Test.YtocdfcaakflgpaaPos
import Derived.Test.YtocdfcaakflgpaaCopy
import Derived.Test.YtocdfcaakflgpaaLoad
namespace Go.Proofs.Ytocdfcaakflgpaa
open Go.RowKit Go.Sort Go.Shelf

theorem two_start {w w4 w5 X : World} {pt : Nat} {F1 : Nat → Prop} (b4 : Below w.heap.size w w4) (q1 : Q w5 pt F1 (newS 50)) (hF : ∀ k, F1 k → w4.heap.size ≤ k) (b5 : Below w4.heap.size w4 w5) (hX : w5.alloc (.cells #[.int .i64 50, .int .u64 1, .slice none 0 0, .slice none 0 0] 67) = X) :
    Two w X pt F1 (newS 50) w5.heap.size (rfoot w5.heap.size (.slice none 0 0) (.slice none 0 0)) (newS 50) := by
  have bX : Below w5.heap.size w5 X := by rw [← hX]; exact below_alloc _ _
  have hs : X.heap.size = w5.heap.size + 1 := by rw [← hX]; simp
  have hr : ∀ k, rfoot w5.heap.size (.slice none 0 0) (.slice none 0 0) k → k = w5.heap.size := by
    rintro k (rfl | hk | hk)
    · rfl
    · simp [Value.ownBlock] at hk
    · simp [Value.ownBlock] at hk
  have b05 : Below w.heap.size w w5 := b4.trans (b5.mono b4.size)
  refine ⟨q1.kept bX, ⟨_, _, ⟨by rw [← hX]; exact heap_alloc_new w5 _, rowOf_nil _, rowOf_nil _, by simp [Value.ownBlock], by simp [Value.ownBlock]⟩, fun _ => Iff.rfl, fun k hk => by rw [hr k hk, hs]; omega⟩, newS_ok (by decide) (by decide), newS_ok (by decide) (by decide), fun k hk => Nat.le_trans b4.size (hF k hk), fun k hk => by rw [hr k hk]; exact b05.size, fun k hk he => ?_, b05.trans (bX.mono b05.size)⟩
  have := q1.lts k hk
  have := hr k he
  omega
/-- What must stay as it is: the queue, and the two lists that it told. -/
def stays (Ft : Nat → Prop) (vr vo : Value) (k : Nat) : Prop := Ft k ∨ vr.ownBlock = some k ∨ vo.ownBlock = some k
theorem two_apart {w wr w4 w5 w6 : World} {pt pr pc : Nat} {Ft Fr Fc : Nat → Prop} {s : St} {vr vo : Value} (H : Two w wr pt Ft s pr Fr s) (qc : Q w4 pc Fc s) (hFc : ∀ k, Fc k → wr.heap.size ≤ k) (b4 : Below wr.heap.size wr w4) (own5 : Own8 w5 w4.heap.size vr s.rdy) (b5 : Below w4.heap.size w4 w5) (own6 : Own8 w6 w5.heap.size vo s.out) (b6 : Below w5.heap.size w5 w6) :
    K2.Two ⟨w, stays Ft vr vo, w6⟩ w6 pc Fc s pr Fr s ∧ Q w6 pt Ft s ∧ Rows w6 vr s.rdy ∧ Rows w6 vo s.out := by
  have b46 : Below w4.heap.size w4 w6 := b5.trans (b6.mono b5.size)
  have b06 : Below wr.heap.size wr w6 := b4.trans (b46.mono b4.size)
  have s4 := b4.size
  have s5 := b5.size
  have s6 := b6.size
  refine ⟨⟨qc.kept b46, H.r.kept b06, H.ok1, H.ok1, fun k hk => Nat.le_trans H.bel.size (hFc k hk), H.fr, fun k hk he => ?_, H.bel.trans (b06.mono H.bel.size), ?_, ?_, ?_, fun k _ => rfl⟩, H.t.kept b06, own5.rng.below b6 (Nat.le_refl _), own6.rng⟩
  · have := hFc k hk; have := H.r.lts k he; omega
  · rintro k (hk | hk | hk) he
    · have := H.t.lts k hk; have := hFc k he; omega
    · have := (own5.lt hk).1; have := qc.lts k he; omega
    · have := (own6.lt hk).1; have := qc.lts k he; omega
  · rintro k (hk | hk | hk) he
    · exact H.ap k hk he
    · have := (own5.lt hk).1; have := H.r.lts k he; omega
    · have := (own6.lt hk).1; have := H.r.lts k he; omega
  · rintro k (hk | hk | hk)
    · have := H.t.lts k hk; show k < w6.heap.size; omega
    · have := (own5.lt hk).2; show k < w6.heap.size; omega
    · exact (own6.lt hk).2
/-- The queue, and the two lists that it told, as they were. -/
structure Ap (w W : World) (pt : Nat) (Ft : Nat → Prop) (s : St) (vr vo : Value) : Prop where
  q : Q W pt Ft s
  r : Rows W vr s.rdy
  o : Rows W vo s.out
  bel : Below w.heap.size w W
theorem Ap.next {w W W' : World} {pt : Nat} {Ft : Nat → Prop} {s : St} {vr vo : Value} (h : Ap w W pt Ft s vr vo) (b : Below W.heap.size W W') : Ap w W' pt Ft s vr vo :=
  ⟨h.q.kept b, h.r.below b (Nat.le_refl _), h.o.below b (Nat.le_refl _), h.bel.trans (b.mono h.bel.size)⟩
theorem ap_of {w W V : World} {pt pc pr : Nat} {Ft Fc Fr : Nat → Prop} {s s1 s2 : St} {vr vo : Value} (h : K2.Two ⟨w, stays Ft vr vo, V⟩ W pc Fc s1 pr Fr s2) (q : Q V pt Ft s) (r : Rows V vr s.rdy) (o : Rows V vo s.out) : Ap w W pt Ft s vr vo :=
  ⟨q.same fun k hk => h.kp k (.inl hk), r.same fun k hk => h.kp k (.inr (.inl hk)), o.same fun k hk => h.kp k (.inr (.inr hk)), h.bel⟩
/-- .. beside the one that was loaded. -/
structure Aq (w W : World) (pt : Nat) (Ft : Nat → Prop) (s : St) (vr vo : Value) (pl : Nat) (Fl : Nat → Prop) : Prop where
  a : Ap w W pt Ft s vr vo
  l : Q W pl Fl s
  f : ∀ k, Fl k → w.heap.size ≤ k
theorem Aq.next {w W W' : World} {pt : Nat} {Ft : Nat → Prop} {s : St} {vr vo : Value} {pl : Nat} {Fl : Nat → Prop} (h : Aq w W pt Ft s vr vo pl Fl) (b : Below W.heap.size W W') : Aq w W' pt Ft s vr vo pl Fl := ⟨h.a.next b, h.l.kept b, h.f⟩
theorem load_pos (vr vo : Value) (s : St) (w : World) (hr : Rows w vr s.rdy) (ho : Rows w vo s.out) (ok : s.Ok) (hp : Pos 50 s) :
    Calls Try.prog 19 #[.int .i64 50, .int .u64 (s.next : Int), vr, vo] w fun e w' => ∃ p, e = .returned (.tuple #[.pointer (some ⟨p, 0, none⟩), .int .i64 0]) ∧ ∃ F, Q w' p F s ∧ (∀ k, F k → w.heap.size ≤ k) ∧ Below w.heap.size w w' := by
  have h1 := ok.room
  have h2 := ok.m
  refine (load_any 50 s.next vr vo s.rdy s.out w hr ho (by omega) (by omega) ok.n).mono ?_
  rintro e w' ⟨h, _, b⟩
  obtain ⟨p, he, F, q, hF⟩ := h (hp.load ok)
  have hs : (St.mk (50 : Int).toNat s.next s.rdy s.out) = s := by
    have := hp.m
    obtain ⟨m, n, r, o⟩ := s
    simp only at this
    subst this
    rfl
  rw [hs] at q
  exact ⟨p, he, F, q, hF, b⟩

set_option maxRecDepth 20000 in
set_option maxHeartbeats 8000000 in
theorem apart_law (v v' : Value) (l l' : List Ac) (w : World) (hr : RowOf acells w v l) (hf : ∀ a ∈ l, a.Fits) (hr' : RowOf acells w v' l') (hf' : ∀ a ∈ l', a.Fits) :
    Calls Try.prog 8 #[v, v'] w fun e w' => e = .returned (.bool true) ∧ Below w.heap.size w w' := by
  obtain ⟨va, vc, rfl⟩ := hr.slice
  obtain ⟨va', vc', rfl⟩ := hr'.slice
  have l63 : l.length ≤ 9223372036854775807 := by have hl := hr.acs.2.1; unfold maxLen at hl; omega
  have l63' : l'.length ≤ 9223372036854775807 := by have hl := hr'.acs.2.1; unfold maxLen at hl; omega
  have HR : Hid (RowOf acells w (.slice va l.length vc) l) := hr
  have HFt : Hid (∀ a ∈ l, a.Fits) := hf
  have HR' : Hid (RowOf acells w (.slice va' l'.length vc') l') := hr'
  have HFt' : Hid (∀ a ∈ l', a.Fits) := hf'
  have HL : Hid (∀ V, Calls Try.prog 12 #[] V fun e w' => e = .returned (.bool true) ∧ Below V.heap.size V w') := lives_any
  have kLi : Hid (∀ V, Below w.heap.size w V → Calls Try.prog 11 #[.slice va l.length vc] V fun e w' => ∃ r, e = .returned (.bool r) ∧ (r = true → l.length ≤ 300) ∧ Below V.heap.size V w') := fun V hV => light_any _ l V (hr.below hV (Nat.le_refl _)) hf
  have kLj : Hid (∀ V, Below w.heap.size w V → Calls Try.prog 11 #[.slice va' l'.length vc'] V fun e w' => ∃ r, e = .returned (.bool r) ∧ (r = true → l'.length ≤ 300) ∧ Below V.heap.size V w') := fun V hV => light_any _ l' V (hr'.below hV (Nat.le_refl _)) hf'
  have kN : Hid (∀ V, Calls Try.prog 9 #[.int .i64 50] V fun e w' => ∃ p, e = .returned (.pointer (some ⟨p, 0, none⟩)) ∧ ∃ F, Q w' p F (newS 50) ∧ (∀ k, F k → V.heap.size ≤ k) ∧ Below V.heap.size V w') := fun V => new_any 50 V (by decide) (by decide)
  clear hr hf hr' hf'
  have B0 : Hid (Below w.heap.size w w) := Below.refl _ _
  go_enter Try.func8, Try.ntmps8
  go_wp2_with (first
    | (go_at_call 11; refine (kLj.out _ H3).mono ?_; rintro e w4 ⟨rr, rfl, _, b4⟩; have H4 : Below w.heap.size w w4 := H3.trans (b4.mono H3.size); clear b4; cases rr)
    | (go_at_call 11; refine (kLi.out _ B0.out).mono ?_; rintro e w3 ⟨rr, rfl, _, b3⟩; have H3 : Below w.heap.size w w3 := b3; clear b3; cases rr)
    | (go_at_call 9; refine (kN.out _).mono ?_; rintro e w5 ⟨pt, rfl, F1, q1, hF1, b5⟩; obtain ⟨X, foldX⟩ : ∃ X, w5.alloc (.cells #[.int .i64 50, .int .u64 1, .slice none 0 0, .slice none 0 0] 67) = X := ⟨_, rfl⟩; have HT : Hid (Two w X pt F1 (newS 50) w5.heap.size (rfoot w5.heap.size (.slice none 0 0) (.slice none 0 0)) (newS 50)) := two_start H4 q1 hF1 b5 foldX; clear q1 hF1 b5)
    | (go_at_call 12; refine (HL.out _).mono ?_; rintro e w6 ⟨rfl, b6⟩))
  · go_ret
    exact ⟨rfl, H3.trans (b6.mono H3.size)⟩
  · go_ret
    exact ⟨rfl, H4.trans (b6.mono H4.size)⟩
  · clear H3 H4 kLi kLj kN B0
    generalize w5.heap.size = pr at *
    go_loopw [8, 34] (fun u8 u34 wr => ∃ (k : Nat) (Ft Fr : Nat → Prop) (s : St), u34 = .int .i64 k ∧ k ≤ l.length ∧ Two w wr pt Ft s pr Fr s ∧ Pos 50 s) (fun u8 u34 _ => l.length - (intOf u34).toNat)
    case atStart => exact ⟨0, _, _, _, rfl, Nat.zero_le _, HT.out, Pos.new 50⟩
    case round =>
      obtain ⟨k, Ft, Fr, s, rfl, hk, H, hpos⟩ := hrel
      clear HT foldX
      by_cases hlt2 : k < l.length
      · have hlt : (k : Int) < (l.length : Int) := by omega
        obtain ⟨_, _, hAt⟩ := (HR.out.below H.bel (Nat.le_refl _)).acs
        obtain ⟨b, off, rfl, i0, i1, i2, i3, i4, i5, i6, i7⟩ := hAt k hlt2
        have hfa := HFt.out _ (List.getElem_mem hlt2)
        generalize l[k] = a at *
        clear hAt
        obtain ⟨Y, foldY⟩ : ∃ Y, wr.alloc (.cells (acells a).toArray 35) = Y := ⟨_, rfl⟩
        have HX := H.box a foldY
        obtain ⟨e0, e1, e2, e3, e4, e5, e6, e7⟩ := HX.box
        have kA : Hid (∀ V, St8 w V pt Ft s pr Fr s wr.heap.size a → Calls Try.prog 17 #[.pointer (some ⟨pt, 0, none⟩), .pointer (some ⟨pr, 0, none⟩), av a] V fun e w' => e = .returned (.bool true) ∧ ∃ Ft' Fr', Two w w' pt Ft' (actT s a) pr Fr' (actT s a)) := fun V h => act_any a w V pt pr Ft Fr s h.two hfa.1
        have hpos' : Hid (Pos 50 (actT s a)) := hpos.act a
        generalize actT s a = s' at kA hpos'
        have HS : Hid (St8 w Y pt Ft s pr Fr s wr.heap.size a) := HX
        unfold acells at foldY
        clear H HX hfa hpos
        go_wp2_with (go_at_call 17; refine (kA.out _ HS.out).mono ?_; rintro e w8 ⟨rfl, Ft4, Fr4, H4⟩)
        exact ⟨⟨k + 1, _, _, _, by go_num, by omega, H4, hpos'.out⟩, by simp [intOf]; omega⟩
      · obtain rfl : k = l.length := by omega
        have HH : Hid (Two w wr pt Ft s pr Fr s) := H
        have OK : Hid s.Ok := H.ok1
        have HP : Hid (Pos 50 s) := hpos
        have kC : Hid (∀ V, Q V pt Ft s → Calls Try.prog 13 #[.pointer (some ⟨pt, 0, none⟩)] V fun e w' => ∃ p', e = .returned (.pointer (some ⟨p', 0, none⟩)) ∧ ∃ F', Q w' p' F' s ∧ (∀ k, F' k → V.heap.size ≤ k) ∧ Below V.heap.size V w') := fun V h => copy_any pt Ft s V h OK.out
        have kRd : Hid (∀ V p F, Q V p F s → Calls Try.prog 24 #[.pointer (some ⟨p, 0, none⟩)] V fun e w' => ∃ v', e = .returned v' ∧ Own8 w' V.heap.size v' s.rdy ∧ Below V.heap.size V w') := fun V p F h => ready_any p F s V h OK.out
        have kOu : Hid (∀ V p F, Q V p F s → Calls Try.prog 25 #[.pointer (some ⟨p, 0, none⟩)] V fun e w' => ∃ v', e = .returned v' ∧ Own8 w' V.heap.size v' s.out ∧ Below V.heap.size V w') := fun V p F h => out_any p F s V h OK.out
        have kNx : Hid (∀ V p F, Q V p F s → Calls Try.prog 21 #[.pointer (some ⟨p, 0, none⟩)] V fun e w' => e = .returned (.int .u64 (s.next : Int)) ∧ w' = V) := fun V p F h => next_any p F s V h
        clear H hpos HR HFt
        go_wp2_with (first
          | (go_at_call 13; refine (kC.out _ HH.out.t).mono ?_; rintro e w4 ⟨pc, rfl, Fc, qc, hFc, b4⟩)
          | (go_at_call 24; refine (kRd.out _ _ _ (HH.out.t.kept b4)).mono ?_; rintro e w5 ⟨v5, rfl, own5, b5⟩)
          | (go_at_call 25; refine (kOu.out _ _ _ ((HH.out.t.kept b4).kept b5)).mono ?_; rintro e w6 ⟨v6, rfl, own6, b6⟩; obtain ⟨G1, G2, G3, G4⟩ := two_apart HH.out qc hFc b4 own5 b5 own6 b6; have GG : Hid _ := And.intro G2 (And.intro G3 G4); have GT : Hid _ := G1; clear qc hFc b4 b5 b6 G3 G4; obtain ⟨ra, rc, hv5⟩ := own5.rng.slice; subst hv5; obtain ⟨oa, oc, hv6⟩ := own6.rng.slice; subst hv6; clear own5 own6)
          | (go_at_call 21; refine (kNx.out _ _ _ G2).mono ?_; rintro e w7 ⟨rfl, rfl⟩; clear G1 G2))
        have kLd : Hid (∀ V, Rows V (.slice ra s.rdy.length rc) s.rdy → Rows V (.slice oa s.out.length oc) s.out → Calls Try.prog 19 #[.int .i64 50, .int .u64 (s.next : Int), .slice ra s.rdy.length rc, .slice oa s.out.length oc] V fun e w' => ∃ p, e = .returned (.tuple #[.pointer (some ⟨p, 0, none⟩), .int .i64 0]) ∧ ∃ F, Q w' p F s ∧ (∀ k, F k → V.heap.size ≤ k) ∧ Below V.heap.size V w') := fun V h1 h2 => load_pos _ _ s V h1 h2 OK.out HP.out
        clear kC HH HP hk hlt2
        go_loopw [14, 55] (fun u14 u55 wr => ∃ (k : Nat) (Fc Fr : Nat → Prop) (s2 : St), u55 = .int .i64 k ∧ k ≤ l'.length ∧ K2.Two ⟨w, stays Ft (.slice ra s.rdy.length rc) (.slice oa s.out.length oc), w7⟩ wr pc Fc s2 pr Fr s2) (fun u14 u55 _ => l'.length - (intOf u55).toNat)
        case atStart => exact ⟨0, _, _, _, rfl, Nat.zero_le _, GT.out⟩
        case round =>
          obtain ⟨k, Fc2, Fr2, s2, rfl, hk, H⟩ := hrel
          clear GT
          by_cases hlt2 : k < l'.length
          · have hlt : (k : Int) < (l'.length : Int) := by omega
            obtain ⟨_, _, hAt⟩ := (HR'.out.below H.bel (Nat.le_refl _)).acs
            obtain ⟨b, off, rfl, i0, i1, i2, i3, i4, i5, i6, i7⟩ := hAt k hlt2
            have hfa := HFt'.out _ (List.getElem_mem hlt2)
            generalize l'[k] = a at *
            clear hAt
            obtain ⟨Y, foldY⟩ : ∃ Y, wr.alloc (.cells (acells a).toArray 35) = Y := ⟨_, rfl⟩
            have HX := H.box a foldY
            obtain ⟨e0, e1, e2, e3, e4, e5, e6, e7⟩ := HX.box
            obtain ⟨B, hB⟩ : ∃ B : K2.Base, B = ⟨w, stays Ft (.slice ra s.rdy.length rc) (.slice oa s.out.length oc), w7⟩ := ⟨_, rfl⟩
            rw [← hB] at HX ⊢
            have kA : Hid (∀ V, K2.St8 B V pc Fc2 s2 pr Fr2 s2 wr.heap.size a → Calls Try.prog 17 #[.pointer (some ⟨pc, 0, none⟩), .pointer (some ⟨pr, 0, none⟩), av a] V fun e w' => e = .returned (.bool true) ∧ ∃ Ft' Fr', K2.Two B w' pc Ft' (actT s2 a) pr Fr' (actT s2 a)) := fun V h => K2.act_any a B V pc pr Fc2 Fr2 s2 h.two hfa.1
            generalize actT s2 a = s' at kA
            have HS : Hid (K2.St8 B Y pc Fc2 s2 pr Fr2 s2 wr.heap.size a) := HX
            unfold acells at foldY
            clear H HX hfa hB
            go_wp2_with (go_at_call 17; refine (kA.out _ HS.out).mono ?_; rintro e w8 ⟨rfl, Ft4, Fr4, H4⟩)
            exact ⟨⟨k + 1, _, _, _, by go_num, by omega, H4⟩, by simp [intOf]; omega⟩
          · obtain rfl : k = l'.length := by omega
            have A7 : Hid (Ap w _ pt Ft s (.slice ra s.rdy.length rc) (.slice oa s.out.length oc)) := ap_of H GG.out.1 GG.out.2.1 GG.out.2.2
            have kSm : Hid (∀ V va vb l, Rows V va l → Rows V vb l → Calls Try.prog 28 #[va, vb] V fun e w' => e = .returned (.bool true) ∧ Below V.heap.size V w') := fun V va vb l h1 h2 => same_any va vb l V h1 h2
            have hR3 := reset_len OK.out
            have OK3 : s.reset.2.Ok := OK.out.reset
            have kRs : Hid (∀ V F p, Q V p F s → Calls Try.prog 16 #[.pointer (some ⟨p, 0, none⟩)] V fun e w' => e = .returned (.int .i64 (s.out.length : Int)) ∧ ∃ F', Q w' p F' s.reset.2 ∧ Moved V w' F F') := fun V F p h => reset_any p F s V h OK.out
            have hsum : IntKind.i64.wrap ((s.rdy.length : Int) + (s.out.length : Int)) = (s.rdy.length : Int) + (s.out.length : Int) := by have h1 := OK.out.room; have h2 := OK.out.m; rw [IntKind.wrap_i64]; omega
            generalize s.reset.2 = s3 at hR3 OK3 kRs
            have kRd3 : Hid (∀ V p F, Q V p F s3 → Calls Try.prog 24 #[.pointer (some ⟨p, 0, none⟩)] V fun e w' => ∃ v', e = .returned v' ∧ Own8 w' V.heap.size v' s3.rdy ∧ Below V.heap.size V w') := fun V p F h => ready_any p F s3 V h OK3
            have kOu3 : Hid (∀ V p F, Q V p F s3 → Calls Try.prog 25 #[.pointer (some ⟨p, 0, none⟩)] V fun e w' => ∃ v', e = .returned v' ∧ Own8 w' V.heap.size v' s3.out ∧ Below V.heap.size V w') := fun V p F h => out_any p F s3 V h OK3
            have H3 : Hid _ := hR3
            clear H GG hk hlt2 hR3 OK3 HR' HFt'
            go_wp2_with (first
              | (go_at_call 19; refine (kLd.out _ A7.out.r A7.out.o).mono ?_; rintro e w8 ⟨pl, rfl, Fl, ql, hFl, b8⟩; have A8 : Hid (Aq w w8 pt Ft s (.slice ra s.rdy.length rc) (.slice oa s.out.length oc) pl Fl) := ⟨A7.out.next b8, ql, fun k hk => Nat.le_trans A7.out.bel.size (hFl k hk)⟩; clear ql hFl b8)
              | (go_at_call 24; refine (kRd3.out _ _ _ q18).mono ?_; rintro e w19 ⟨v19, rfl, own19, b19⟩; obtain ⟨xa, xc, hv⟩ := own19.rng.slice; rw [H3.out.2] at hv; subst hv; have b19w : Below w.heap.size w w19 := b18w.trans (b19.mono b18w.size); clear own19 b19)
              | (go_at_call 24; refine (kRd.out _ _ _ n12.out.l).mono ?_; rintro e w13 ⟨v13, rfl, own13, b13⟩; have A13 : Hid (Aq w w13 pt Ft s (.slice ra s.rdy.length rc) (.slice oa s.out.length oc) pl Fl) := n12.out.next b13; obtain ⟨xa, xc, hv⟩ := own13.rng.slice; subst hv; have R13 : Hid _ := own13.rng; clear own13 b13)
              | (go_at_call 24; refine (kRd.out _ _ _ A8.out.a.q).mono ?_; rintro e w9 ⟨v9, rfl, own9, b9⟩; have A9 : Hid (Aq w w9 pt Ft s (.slice ra s.rdy.length rc) (.slice oa s.out.length oc) pl Fl) := A8.out.next b9; obtain ⟨xa, xc, hv⟩ := own9.rng.slice; subst hv; have R9 : Hid _ := own9.rng; clear own9 b9)
              | (go_at_call 25; refine (kOu3.out _ _ _ q17).mono ?_; rintro e w18 ⟨v18, rfl, own18, b18⟩; have q18 := q17.kept b18; obtain ⟨xa, xc, hv⟩ := own18.rng.slice; rw [H3.out.1] at hv; subst hv; have b18w : Below w.heap.size w w18 := b17w.trans (b18.mono b17w.size); clear own18 b18)
              | (go_at_call 25; refine (kOu.out _ _ _ A14.out.l).mono ?_; rintro e w15 ⟨v15, rfl, own15, b15⟩; have A15 : Hid (Aq w w15 pt Ft s (.slice ra s.rdy.length rc) (.slice oa s.out.length oc) pl Fl) := A14.out.next b15; obtain ⟨xa, xc, hv⟩ := own15.rng.slice; subst hv; have R15 : Hid _ := own15.rng; clear own15 b15)
              | (go_at_call 25; refine (kOu.out _ _ _ A10.out.a.q).mono ?_; rintro e w11 ⟨v11, rfl, own11, b11⟩; have A11 : Hid (Aq w w11 pt Ft s (.slice ra s.rdy.length rc) (.slice oa s.out.length oc) pl Fl) := A10.out.next b11; obtain ⟨xa, xc, hv⟩ := own11.rng.slice; subst hv; have R11 : Hid _ := own11.rng; clear own11 b11)
              | (go_at_call 21; refine (kNx.out _ _ _ A12.out.a.q).mono ?_; rintro e wn ⟨rfl, rfl⟩; have n12 : Hid (Aq w _ pt Ft s (.slice ra s.rdy.length rc) (.slice oa s.out.length oc) pl Fl) := A12)
              | (go_at_call 28; refine (kSm.out _ _ _ _ R15.out A15.out.a.o).mono ?_; rintro e w16 ⟨rfl, b16⟩; have A16 : Hid (Aq w w16 pt Ft s (.slice ra s.rdy.length rc) (.slice oa s.out.length oc) pl Fl) := A15.out.next b16; clear b16)
              | (go_at_call 28; refine (kSm.out _ _ _ _ R13.out A13.out.a.r).mono ?_; rintro e w14 ⟨rfl, b14⟩; have A14 : Hid (Aq w w14 pt Ft s (.slice ra s.rdy.length rc) (.slice oa s.out.length oc) pl Fl) := A13.out.next b14; clear b14)
              | (go_at_call 28; refine (kSm.out _ _ _ _ R11.out A11.out.a.o).mono ?_; rintro e w12 ⟨rfl, b12⟩; have A12 : Hid (Aq w w12 pt Ft s (.slice ra s.rdy.length rc) (.slice oa s.out.length oc) pl Fl) := A11.out.next b12; clear b12)
              | (go_at_call 28; refine (kSm.out _ _ _ _ R9.out A9.out.a.r).mono ?_; rintro e w10 ⟨rfl, b10⟩; have A10 : Hid (Aq w w10 pt Ft s (.slice ra s.rdy.length rc) (.slice oa s.out.length oc) pl Fl) := A9.out.next b10; clear b10)
              | (go_at_call 16; refine (kRs.out _ _ _ A16.out.l).mono ?_; rintro e w17 ⟨rfl, F17, q17, m17⟩; have b17w : Below w.heap.size w w17 := m17.below A16.out.f A16.out.a.bel A16.out.a.bel.size; clear m17)
              | (go_at_call 12; refine (HL.out _).mono ?_; rintro e w20 ⟨rfl, b20⟩))
            go_ret
            exact ⟨rfl, b19w.trans (b20.mono b19w.size)⟩
end Go.Proofs.Ytocdfcaakflgpaa
