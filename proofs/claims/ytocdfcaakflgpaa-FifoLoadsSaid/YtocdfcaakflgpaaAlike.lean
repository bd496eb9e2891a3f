/-
  alike: the same queues, by its contract.
-/
import Derived.Test.YtocdfcaakflgpaaAct
namespace Go.Proofs.Ytocdfcaakflgpaa
open Go.RowKit Go.Sort

theorem below_drewN {w V : World} {n : Nat} {B : Nat} (h : Below B w V) : Below B w (V.drewN n) := h.trans ⟨rfl, rfl, rfl, Nat.le_refl _, fun _ _ => rfl⟩
set_option maxRecDepth 20000 in
set_option maxHeartbeats 8000000 in
theorem alike_any (w0 w : World) (pt pr : Nat) (Ft Fr : Nat → Prop) (s : St) (H : Two w0 w pt Ft s pr Fr s) :
    Calls Try.prog 18 #[.pointer (some ⟨pt, 0, none⟩), .pointer (some ⟨pr, 0, none⟩)] w fun e w' => e = .returned (.bool true) ∧ Below w.heap.size w w' := by
  have hR := H.r
  obtain ⟨vr, vo, hq, hF, hl⟩ := hR
  have hp : pr < w.heap.size := H.r.at
  obtain ⟨a1, p1, rfl⟩ := hq.rdy.slice
  obtain ⟨a2, p2, rfl⟩ := hq.out.slice
  have HC : Hid (∀ V, Below w.heap.size w V → V.cell? ⟨pr, 0, none⟩ = some (.int .i64 (s.most : Int)) ∧ V.cell? ⟨pr, 1, none⟩ = some (.int .u64 (s.next : Int)) ∧ V.cell? ⟨pr, 2, none⟩ = some (.slice a1 s.rdy.length p1) ∧ V.cell? ⟨pr, 3, none⟩ = some (.slice a2 s.out.length p2)) := fun V b => (cells4 ((b.block pr hp).trans hq.blk)).1
  have HT : Hid (∀ V, Below w.heap.size w V → Q V pt Ft s) := fun V b => H.t.kept b
  have HR : Hid (∀ V, Below w.heap.size w V → R V pr Fr s) := fun V b => H.r.kept b
  have kM : Hid (∀ V, Below w.heap.size w V → Calls Try.prog 27 #[.pointer (some ⟨pt, 0, none⟩)] V fun e w' => e = .returned (.int .i64 (s.most : Int)) ∧ Below w.heap.size w w') := fun V b => (most_any pt Ft s V (HT.out V b)).mono (fun e w' h => ⟨h.1, by rw [h.2]; exact b⟩)
  have kN : Hid (∀ V, Below w.heap.size w V → Calls Try.prog 21 #[.pointer (some ⟨pt, 0, none⟩)] V fun e w' => e = .returned (.int .u64 (s.next : Int)) ∧ Below w.heap.size w w') := fun V b => (next_any pt Ft s V (HT.out V b)).mono (fun e w' h => ⟨h.1, by rw [h.2]; exact b⟩)
  obtain ⟨z, hz⟩ : ∃ z, z = (s.most : Int) - s.rdy.length - s.out.length := ⟨_, rfl⟩
  have kO : Hid (∀ V, Below w.heap.size w V → Calls Try.prog 26 #[.pointer (some ⟨pt, 0, none⟩)] V fun e w' => e = .returned (.int .i64 z) ∧ Below w.heap.size w w') := fun V b => (room_any pt Ft s V (HT.out V b) H.ok1).mono (fun e w' h => ⟨by rw [hz]; exact h.1, by obtain ⟨q, hq⟩ := h.2; rw [hq]; exact below_drewN b⟩)
  have kP : Hid (∀ V, Below w.heap.size w V → Calls Try.prog 38 #[.pointer (some ⟨pr, 0, none⟩)] V fun e w' => e = .returned (.int .i64 z) ∧ Below w.heap.size w w') := fun V b => (rroom_any pr Fr s V (HR.out V b) H.ok2).mono (fun e w' h => ⟨by rw [hz]; exact h.1, by obtain ⟨q, hq⟩ := h.2; rw [hq]; exact below_drewN b⟩)
  have kY : Hid (∀ V, Below w.heap.size w V → Calls Try.prog 24 #[.pointer (some ⟨pt, 0, none⟩)] V fun e w' => ∃ v', e = .returned v' ∧ Rows w' v' s.rdy ∧ Below w.heap.size w w') := fun V b => (ready_any pt Ft s V (HT.out V b) H.ok1).mono (fun e w' h => by obtain ⟨v', h1, h2, h3⟩ := h; exact ⟨v', h1, h2.rng, b.trans (h3.mono b.size)⟩)
  have kU : Hid (∀ V, Below w.heap.size w V → Calls Try.prog 25 #[.pointer (some ⟨pt, 0, none⟩)] V fun e w' => ∃ v', e = .returned v' ∧ Rows w' v' s.out ∧ Below w.heap.size w w') := fun V b => (out_any pt Ft s V (HT.out V b) H.ok1).mono (fun e w' h => by obtain ⟨v', h1, h2, h3⟩ := h; exact ⟨v', h1, h2.rng, b.trans (h3.mono b.size)⟩)
  have kS : Hid (∀ V v, Below w.heap.size w V → Rows V v s.rdy → Calls Try.prog 28 #[v, .slice a1 s.rdy.length p1] V fun e w' => e = .returned (.bool true) ∧ Below w.heap.size w w') := fun V v b hv => (same_any v _ s.rdy V hv (hq.rdy.below b (Nat.le_refl _))).mono (fun e w' h => ⟨h.1, b.trans (h.2.mono b.size)⟩)
  have kS2 : Hid (∀ V v, Below w.heap.size w V → Rows V v s.out → Calls Try.prog 28 #[v, .slice a2 s.out.length p2] V fun e w' => e = .returned (.bool true) ∧ Below w.heap.size w w') := fun V v b hv => (same_any v _ s.out V hv (hq.out.below b (Nat.le_refl _))).mono (fun e w' h => ⟨h.1, b.trans (h.2.mono b.size)⟩)
  have bD : Hid (Below w.heap.size w w.drew) := (Below.refl _ _).drew
  obtain ⟨c0, c1, c2, c3⟩ := HC.out w (Below.refl _ _)
  clear H hq hF hl hp hz HT HR
  go_enter Try.func18, Try.ntmps18
  go_wp2
  first | (go_region_held3 (fun w' => w'.cell? ⟨pr, 0, none⟩ = some (.int .i64 (s.most : Int)) ∧ w'.cell? ⟨pr, 1, none⟩ = some (.int .u64 (s.next : Int)) ∧ w'.cell? ⟨pr, 2, none⟩ = some (.slice a1 s.rdy.length p1) ∧ w'.cell? ⟨pr, 3, none⟩ = some (.slice a2 s.out.length p2)) (go_keep) (first
    | (go_at_call 27; refine (kM.out _ bD.out).mono ?_; rintro e wa ⟨rfl, ba⟩; have Ba : Hid _ := ba; obtain ⟨d0, d1, d2, d3⟩ := HC.out wa ba; clear ba kM)
    | (go_at_call 21; refine (kN.out _ Ba.out).mono ?_; rintro e wb ⟨rfl, bb⟩; have Bb : Hid _ := bb; obtain ⟨e0, e1, e2, e3⟩ := HC.out wb bb; clear bb kN)
    | (go_at_call 26; refine (kO.out _ Bb.out).mono ?_; rintro e wc ⟨rfl, bc⟩; have Bc : Hid _ := bc; obtain ⟨f0, f1, f2, f3⟩ := HC.out wc bc; clear bc kO)
    | (go_at_call 38; refine (kP.out _ Bc.out).mono ?_; rintro e wd ⟨rfl, bd⟩; have Bd : Hid _ := bd; obtain ⟨g0, g1, g2, g3⟩ := HC.out wd bd; clear bd kP)
    | (go_at_call 24; refine (kY.out _ Bd.out).mono ?_; rintro e we ⟨vy, rfl, ry, be⟩; have Be : Hid _ := be; obtain ⟨h0, h1, h2, h3⟩ := HC.out we be; have Ry : Hid _ := ry; clear be kY ry)
    | (go_at_call 28; refine (kS.out _ _ Be.out Ry.out).mono ?_; rintro e wf ⟨rfl, bf⟩; have Bf : Hid _ := bf; obtain ⟨i0, i1, i2, i3⟩ := HC.out wf bf; clear bf kS)
    | (go_at_call 25; refine (kU.out _ Bf.out).mono ?_; rintro e wg ⟨vu, rfl, ru, bg⟩; have Bg : Hid _ := bg; obtain ⟨j0, j1, j2, j3⟩ := HC.out wg bg; have Ru : Hid _ := ru; clear bg kU ru)
    | (go_at_call 28; refine (kS2.out _ _ Bg.out Ru.out).mono ?_; rintro e wh ⟨rfl, bh⟩; have Bh : Hid _ := bh; obtain ⟨k0, k1, k2, k3⟩ := HC.out wh bh; clear bh kS2))) | fail
  all_goals go_wp2
  all_goals go_ret
  all_goals exact ⟨rfl, Bh.out⟩
end Go.Proofs.Ytocdfcaakflgpaa
