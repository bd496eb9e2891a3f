/-
  THE DOCUMENT's Reset, by its contract.
-/
import Derived.Test.YtocdfcaakflgpaaRBack
import Derived.Deep.LoopGhost
namespace Go.Proofs.Ytocdfcaakflgpaa
open Go.RowKit Go.Sort

set_option maxRecDepth 20000 in
set_option maxHeartbeats 4000000 in
theorem rreset_any (p : Nat) (F : Nat → Prop) (s : St) (w : World) (h : R w p F s) (ok : s.Ok) :
    Calls Try.prog 37 #[.pointer (some ⟨p, 0, none⟩)] w fun e w' => e = .returned (.int .i64 s.reset.1) ∧ ∃ F', R w' p F' s.reset.2 ∧ Moved w w' F F' := by
  have H0 : Hid (R w p F s) := h
  have HOK : Hid s.Ok := ok
  obtain ⟨vr, vo, hq, hF, hl⟩ := h
  obtain ⟨⟨c0, c1, c2, c3⟩, f0, f1, f2, f3⟩ := cells4 hq.blk
  obtain ⟨ao, co, rfl⟩ := hq.out.slice
  have HLN : Hid (s.out.length ≤ 1000) := by have h1 := ok.room; have h2 := ok.m; exact (by omega : s.out.length ≤ 1000)
  clear hq hF hl ok
  go_enter Try.func37, Try.ntmps37
  go_wp2
  clear c0 c1 c2 c3 f0 f1 f2 f3
  go_loopg [] s.out.length (fun gk wr => ∃ k : Nat, k ≤ s.out.length ∧ gk = s.out.length - k ∧ ∃ F', R wr p F' (backs k s) ∧ Moved w wr F F')
  case atStart => exact ⟨0, Nat.zero_le _, rfl, F, H0.out, .refl _ _⟩
  case round =>
    obtain ⟨k, hk, hgk, F', hR, hM⟩ := hrel
    have ho := (backs_out (n := k) HOK.out).1
    have hokk : (backs k s).Ok := HOK.out.backs
    have hRR := hR
    obtain ⟨vr1, vo1, hq1, _, _⟩ := hR
    obtain ⟨⟨_, _, _, d3⟩, _⟩ := cells4 hq1.blk
    obtain ⟨a1, cp1, rfl⟩ := hq1.out.slice
    have hlen : (backs k s).out.length = s.out.length - k := by rw [ho, List.length_drop]
    by_cases hlt : k < s.out.length
    · have hB := rback_any p F' (backs k s) (s.out[k]).tag wr hRR hokk
      have hA := hq1.out.items.2.2
      obtain ⟨g, off, rfl, hi⟩ := hA 0 (by rw [hlen]; omega)
      have hx0 : (backs k s).out[0]'(by rw [hlen]; omega) = s.out[k] := by simp [ho]
      rw [hx0, Nat.zero_mul, Nat.add_zero] at hi
      have y0 := hi.c0
      have hstep := backs_step HOK.out k (List.getElem?_eq_getElem hlt)
      have HB : Hid (backs (k + 1) s = ((backs k s).back (s.out[k]).tag).2) := hstep
      have HM : Hid (Moved w wr F F') := hM
      obtain ⟨L, hL⟩ : ∃ L, L = (backs k s).out.length := ⟨_, rfl⟩
      have hpos : (0 : Int) < (L : Int) := by omega
      have hpos' : 0 < L := by omega
      have HK : Hid (gk = s.out.length - k ∧ k < s.out.length) := ⟨hgk, hlt⟩
      rw [← hL] at d3
      clear hq1 hRR hA hi hx0 hstep hM ho
      obtain ⟨tg, htg⟩ : ∃ tg, tg = (s.out[k]).tag := ⟨_, rfl⟩
      rw [← htg] at hB y0 HB
      clear htg hlen hL hgk hlt hk hokk
      go_wp2_with fail
      refine hB.mono ?_
      rintro e w5 ⟨rfl, F5, r5, m5⟩
      go_wp2
      go_roundg (s.out.length - (k + 1))
      case measure => have := HK.out; omega
      case rel => exact ⟨k + 1, by have := HK.out; omega, rfl, F5, by rw [HB.out]; exact r5, HM.out.trans m5⟩
    · obtain rfl : k = s.out.length := by omega
      rw [hlen, Nat.sub_self] at d3
      have HE : Hid (∃ F', R wr p F' s.reset.2 ∧ Moved w wr F F') := ⟨F', hRR, hM⟩
      clear hq1 hRR hM ho hlen hokk
      go_wp2
      go_ret
      exact ⟨rfl, HE.out⟩
end Go.Proofs.Ytocdfcaakflgpaa
