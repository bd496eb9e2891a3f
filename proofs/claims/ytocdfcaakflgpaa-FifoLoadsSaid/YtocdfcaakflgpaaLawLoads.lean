/-
  THE LAW FifoLoads.
-/
import Derived.Test.YtocdfcaakflgpaaAlike
import Derived.Test.YtocdfcaakflgpaaRLoad
namespace Go.Proofs.Ytocdfcaakflgpaa
open Go.RowKit Go.Sort Go.Shelf

theorem two_load6 {w w0 w1 w2 : World} {pt pr : Nat} {s : St} {F1 F2 : Nat → Prop} (ok : s.Ok) (b0 : Below w.heap.size w w0) (q1 : Q w1 pt F1 s) (hF : ∀ k, F1 k → w0.heap.size ≤ k) (b1 : Below w0.heap.size w0 w1) (q2 : R w2 pr F2 s) (hF2 : ∀ k, F2 k → w1.heap.size ≤ k) (b2 : Below w1.heap.size w1 w2) : Two w w2 pt F1 s pr F2 s :=
  ⟨q1.kept b2, q2, ok, ok, fun k hk => Nat.le_trans b0.size (hF k hk), fun k hk => Nat.le_trans b0.size (Nat.le_trans b1.size (hF2 k hk)), fun k hk he => by have := q1.lts k hk; have := hF2 k he; omega, (b0.trans (b1.mono b0.size)).trans (b2.mono (Nat.le_trans b0.size b1.size))⟩
/-- A queue as it was, in a box. -/
structure Box4 (w : World) (b : Nat) (m : Int) (nx : Nat) (vr vo : Value) : Prop where
  c0 : w.cell? ⟨b, 0, none⟩ = some (.int .i64 m)
  c1 : w.cell? ⟨b, 1, none⟩ = some (.int .u64 (nx : Int))
  c2 : w.cell? ⟨b, 2, none⟩ = some vr
  c3 : w.cell? ⟨b, 3, none⟩ = some vo
theorem Box4.of {w : World} {b : Nat} {m : Int} {nx : Nat} {vr vo : Value} {t : TypeId} (h : w.heap[b]? = some (.cells #[.int .i64 m, .int .u64 (nx : Int), vr, vo] t (0, 0))) : Box4 w b m nx vr vo := by
  obtain ⟨⟨c0, c1, c2, c3⟩, _⟩ := cells4 h
  exact ⟨c0, c1, c2, c3⟩
theorem Box4.next {w w' : World} {b : Nat} {m : Int} {nx : Nat} {vr vo : Value} (h : Box4 w b m nx vr vo) (hb : Below w.heap.size w w') : Box4 w' b m nx vr vo := by
  have hl := World.block_lt_of_cell? _ _ h.c0
  exact ⟨(hb.cell (p := ⟨b, 0, none⟩) hl).trans h.c0, (hb.cell (p := ⟨b, 1, none⟩) hl).trans h.c1, (hb.cell (p := ⟨b, 2, none⟩) hl).trans h.c2, (hb.cell (p := ⟨b, 3, none⟩) hl).trans h.c3⟩

set_option maxRecDepth 20000 in
set_option maxHeartbeats 8000000 in
theorem loads_law (m : Int) (nx : Nat) (vr vo v : Value) (r o : List It) (l : List Ac) (w : World) (hr : Rows w vr r) (ho : Rows w vo o) (lr : r.length ≤ 140737488355328) (lo : o.length ≤ 140737488355328) (hn : nx < 18446744073709551616) (ha : RowOf acells w v l) (hf : ∀ a ∈ l, a.Fits) :
    Calls Try.prog 4 #[.agg #[.int .i64 m, .int .u64 (nx : Int), vr, vo], v] w fun e w' => e = .returned (.bool true) ∧ Below w.heap.size w w' := by
  obtain ⟨va, vc, rfl⟩ := ha.slice
  obtain ⟨ra, rc, rfl⟩ := hr.slice
  obtain ⟨oa, oc, rfl⟩ := ho.slice
  have hl : l.length ≤ maxLen := ha.acs.2.1
  have l63 : l.length ≤ 9223372036854775807 := by unfold maxLen at hl; omega
  have HR : Hid (RowOf acells w (.slice va l.length vc) l) := ha
  have HRr : Hid (Rows w (.slice ra r.length rc) r) := hr
  have HRo : Hid (Rows w (.slice oa o.length oc) o) := ho
  have HFt : Hid (∀ a ∈ l, a.Fits) := hf
  have HL : Hid (∀ V, Calls Try.prog 12 #[] V fun e w' => e = .returned (.bool true) ∧ Below V.heap.size V w') := lives_any
  have kLi : Hid (∀ V, Below w.heap.size w V → Calls Try.prog 11 #[.slice va l.length vc] V fun e w' => ∃ r, e = .returned (.bool r) ∧ (r = true → l.length ≤ 300) ∧ Below V.heap.size V w') := fun V hV => light_any _ l V (ha.below hV (Nat.le_refl _)) hf
  clear ha hr ho hf hl
  obtain ⟨X0, fold0⟩ : ∃ X0, w.alloc (.cells #[.int .i64 m, .int .u64 (nx : Int), .slice ra r.length rc, .slice oa o.length oc] 49) = X0 := ⟨_, rfl⟩
  have b0 : Below w.heap.size w X0 := by rw [← fold0]; exact below_alloc _ _
  have HB0 : Hid (Below w.heap.size w X0) := b0
  have BX : Box4 X0 w.heap.size m nx (.slice ra r.length rc) (.slice oa o.length oc) := by rw [← fold0]; exact Box4.of (heap_alloc_new w _)
  have HBX : Hid (Box4 X0 w.heap.size m nx (.slice ra r.length rc) (.slice oa o.length oc)) := BX
  obtain ⟨c0, c1, c2, c3⟩ := BX
  have hsum : IntKind.i64.wrap ((r.length : Int) + (o.length : Int)) = (r.length : Int) + (o.length : Int) := by rw [IntKind.wrap_i64]; omega
  clear b0
  by_cases h2 : (r.length : Int) + (o.length : Int) ≤ 200
  · have h2' : ¬ (200 : Int) < (r.length : Int) + (o.length : Int) := by omega
    have kT : Hid (∀ V, Below w.heap.size w V → Calls Try.prog 19 #[.int .i64 m, .int .u64 (nx : Int), .slice ra r.length rc, .slice oa o.length oc] V fun e w' => LoadPost m nx r o V e w') := fun V hV => load_any m nx _ _ r o V (HRr.out.below hV (Nat.le_refl _)) (HRo.out.below hV (Nat.le_refl _)) (by omega) (by omega) hn
    have kR : Hid (∀ V, Below w.heap.size w V → Calls Try.prog 20 #[.int .i64 m, .int .u64 (nx : Int), .slice ra r.length rc, .slice oa o.length oc] V fun e w' => RLoadPost m nx r o V e w') := fun V hV => rload_any m nx _ _ r o V (HRr.out.below hV (Nat.le_refl _)) (HRo.out.below hV (Nat.le_refl _)) (by omega) (by omega)
    by_cases hok : LoadOk m nx r o
    · have HOK : Hid (LoadOk m nx r o) := hok
      have OK : Hid (St.mk m.toNat nx r o).Ok := by
        have hm := hok.m
        obtain ⟨M, rfl⟩ : ∃ M : Nat, m = M := ⟨m.toNat, by omega⟩
        exact hok.ok hn
      clear hok
      obtain ⟨s0, hs0⟩ : ∃ s0, St.mk m.toNat nx r o = s0 := ⟨_, rfl⟩
      have HS0 : Hid (St.mk m.toNat nx r o = s0) := hs0
      rw [hs0] at OK
      clear hs0
      go_enter Try.func4, Try.ntmps4
      go_wp2_with (first
        | (go_at_call 11; refine (kLi.out _ HB0.out).mono ?_; rintro e w3 ⟨rr, rfl, _, b3⟩; have H3 : Below w.heap.size w w3 := HB0.out.trans (b3.mono HB0.out.size); have BX3 := HBX.out.next b3; have HBX3 : Hid (Box4 w3 w.heap.size m nx (.slice ra r.length rc) (.slice oa o.length oc)) := BX3; clear c0 c1 c2 c3 b3; obtain ⟨c0, c1, c2, c3⟩ := BX3; cases rr)
        | (go_at_call 19; refine (kT.out _ H3).mono ?_; rintro e w4 ⟨hy, _, b4⟩; obtain ⟨pt, rfl, F1, q1, hF1⟩ := hy HOK.out; rw [HS0.out] at q1; have BX4 := HBX3.out.next b4; clear c0 c1 c2 c3 hy; obtain ⟨c0, c1, c2, c3⟩ := BX4)
        | (go_at_call 20; refine (kR.out _ (H3.trans (b4.mono H3.size))).mono ?_; rintro e w5 ⟨hy, _, b5⟩; obtain ⟨pr, rfl, F2, q2, hF2⟩ := hy HOK.out; rw [HS0.out] at q2; have H5 := two_load6 OK.out H3 q1 hF1 b4 q2 hF2 b5; clear c0 c1 c2 c3 hy q1 hF1 b4 q2 hF2 b5 HBX3)
        | (go_at_call 12; refine (HL.out _).mono ?_; rintro e w6 ⟨rfl, b6⟩))
      · go_ret
        exact ⟨rfl, H3.trans (b6.mono H3.size)⟩
      · clear H3 HBX HB0 kT kR kLi HOK OK HS0 HRr HRo fold0 hsum h2 h2'
        go_loopw [10, 64] (fun u10 u64 wr => ∃ (k : Nat) (Ft Fr : Nat → Prop) (s : St), u64 = .int .i64 k ∧ k ≤ l.length ∧ Two w wr pt Ft s pr Fr s) (fun u10 u64 _ => l.length - (intOf u64).toNat)
        case atStart => exact ⟨0, _, _, _, rfl, Nat.zero_le _, H5⟩
        case round =>
          obtain ⟨k, Ft, Fr, s, rfl, hk, H⟩ := hrel
          clear H5
          have kL : Hid (∀ V, Two w V pt Ft s pr Fr s → Calls Try.prog 18 #[.pointer (some ⟨pt, 0, none⟩), .pointer (some ⟨pr, 0, none⟩)] V fun e w' => e = .returned (.bool true) ∧ Below V.heap.size V w') := fun V h => alike_any w V pt pr Ft Fr _ h
          by_cases hlt2 : k < l.length
          · have hlt : (k : Int) < (l.length : Int) := by omega
            obtain ⟨_, _, hAt⟩ := (HR.out.below H.bel (Nat.le_refl _)).acs
            obtain ⟨b, off, rfl, i0, i1, i2, i3, i4, i5, i6, i7⟩ := hAt k hlt2
            have hfa := HFt.out _ (List.getElem_mem hlt2)
            generalize l[k] = a at *
            clear hAt
            obtain ⟨X, foldX⟩ : ∃ X, wr.alloc (.cells (acells a).toArray 35) = X := ⟨_, rfl⟩
            have HX := H.box a foldX
            have kA : Hid (∀ V, St8 w V pt Ft s pr Fr s wr.heap.size a → Calls Try.prog 17 #[.pointer (some ⟨pt, 0, none⟩), .pointer (some ⟨pr, 0, none⟩), av a] V fun e w' => e = .returned (.bool true) ∧ ∃ Ft' Fr', Two w w' pt Ft' (actT s a) pr Fr' (actT s a)) := fun V h => act_any a w V pt pr Ft Fr s h.two hfa.1
            generalize actT s a = s' at kA
            have HS : Hid (St8 w X pt Ft s pr Fr s wr.heap.size a) := HX
            unfold acells at foldX
            clear H HX hfa
            go_wp2_with (first
              | (go_at_call 18; refine (kL.out _ HS.out.two).mono ?_; rintro e w7 ⟨rfl, b7⟩; have HS7 : Hid (St8 w w7 pt Ft s pr Fr s wr.heap.size a) := HS.out.below b7; obtain ⟨f0, f1, f2, f3, f4, f5, f6, f7⟩ := HS7.out.box; clear b7)
              | (go_at_call 17; refine (kA.out _ HS7.out).mono ?_; rintro e w8 ⟨rfl, Ft4, Fr4, H4⟩))
            exact ⟨⟨k + 1, _, _, _, by go_num, by omega, H4⟩, by simp [intOf]; omega⟩
          · obtain rfl : k = l.length := by omega
            have HH : Hid (Two w wr pt Ft s pr Fr s) := H
            clear H
            go_wp2_with (first
              | (go_at_call 18; refine (kL.out _ HH.out).mono ?_; rintro e w7 ⟨rfl, b7⟩; have hbw : Below w.heap.size w w7 := HH.out.bel.trans (b7.mono HH.out.bel.size))
              | (go_at_call 12; refine (HL.out _).mono ?_; rintro e w8 ⟨rfl, b8⟩))
            go_ret
            exact ⟨rfl, hbw.trans (b8.mono hbw.size)⟩
    · have HN : Hid (¬ LoadOk m nx r o) := hok
      clear hok
      go_enter Try.func4, Try.ntmps4
      go_wp2_with (first
        | (go_at_call 11; refine (kLi.out _ HB0.out).mono ?_; rintro e w3 ⟨rr, rfl, _, b3⟩; have H3 : Below w.heap.size w w3 := HB0.out.trans (b3.mono HB0.out.size); have BX3 := HBX.out.next b3; have HBX3 : Hid (Box4 w3 w.heap.size m nx (.slice ra r.length rc) (.slice oa o.length oc)) := BX3; clear c0 c1 c2 c3 b3; obtain ⟨c0, c1, c2, c3⟩ := BX3; cases rr)
        | (go_at_call 19; refine (kT.out _ H3).mono ?_; rintro e w4 ⟨_, hy, b4⟩; obtain rfl := hy HN.out; have BX4 := HBX3.out.next b4; clear c0 c1 c2 c3 hy; obtain ⟨c0, c1, c2, c3⟩ := BX4)
        | (go_at_call 20; refine (kR.out _ (H3.trans (b4.mono H3.size))).mono ?_; rintro e w5 ⟨_, hy, b5⟩; obtain rfl := hy HN.out; have H5 : Below w.heap.size w w5 := (H3.trans (b4.mono H3.size)).trans (b5.mono (Nat.le_trans H3.size b4.size)); clear c0 c1 c2 c3 hy)
        | (go_at_call 12; refine (HL.out _).mono ?_; rintro e w6 ⟨rfl, b6⟩))
      · go_ret
        exact ⟨rfl, H3.trans (b6.mono H3.size)⟩
      · go_ret
        exact ⟨rfl, H5.trans (b6.mono H5.size)⟩
  · have h2' : (200 : Int) < (r.length : Int) + (o.length : Int) := by omega
    clear h2
    go_enter Try.func4, Try.ntmps4
    go_wp2_with (go_at_call 12; refine (HL.out _).mono ?_; rintro e w6 ⟨rfl, b6⟩)
    go_ret
    exact ⟨rfl, HB0.out.trans (b6.mono HB0.out.size)⟩
end Go.Proofs.Ytocdfcaakflgpaa
