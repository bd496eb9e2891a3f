/-
  The document's Message, by its contract.
-/
import Derived.Test.YtopacoghnofliaaDoorMsgs
import Derived.Deep.RegionWith
import Derived.Deep.RegionLaw
namespace Go.Proofs.YtopacoghnofliaaDoor
open Go.RowKit


theorem drewN_below (w : World) (n : Nat) : Below w.heap.size w (w.drewN n) := ⟨rfl, rfl, rfl, Nat.le_refl _, fun _ _ => rfl⟩

theorem drew_below (w : World) : Below w.heap.size w w.drew := (Below.refl _ _).drew


/-- A text behind bytes, told by lengths that have letters. -/
theorem rtext_at (B : List UInt8) (s : ByteArray) (L n : Nat) (_hn : B.length = n) (hL : (B ++ textL s).length = L) (hB : B.length ≤ 10000000) (hs : s.size ≤ 65535) (a : Option Addr) (c : Nat) (V : World) (hv : Holds V (.slice a n c) B) :
    Calls Tryd.prog 45 #[.slice a n c, .string s] V fun e w' => ∃ a' c', e = .returned (.slice a' L c') ∧ Owns w' V.heap.size 5 (.slice a' L c') (B ++ textL s) ∧ Below V.heap.size V w' := by
  refine (rtext_any _ B s V hv hB hs).mono ?_
  rintro e w' ⟨v', rfl, o, b⟩
  obtain ⟨a', c', h⟩ := o.holds.slice
  rw [hL] at h
  subst h
  exact ⟨a', c', rfl, o, b⟩

set_option maxRecDepth 20000 in
set_option maxHeartbeats 4000000 in
theorem rmsg_any (v : Value) (bs : List UInt8) (m : Ms) (w : World) (hv : Holds w v bs) (hbs : bs.length ≤ 1000000) (hm : m.Fits) (hs : m.Short) :
    Calls Tryd.prog 29 #[v, mv m] w fun e w' => ∃ v', e = .returned v' ∧ Owns w' w.heap.size 5 v' (bs ++ bytesM m) ∧ Below w.heap.size w w' := by
  obtain ⟨va, vc, rfl⟩ := hv.slice
  obtain ⟨vn, hvn⟩ : ∃ z, bs.length = z := ⟨_, rfl⟩
  obtain ⟨W, fold⟩ : ∃ W, w.alloc (.cells #[.int .i64 m.origin, .int .u64 m.seq, .int .i64 m.hop, .string m.ex, .string m.key, .string m.body] 27) = W := ⟨_, rfl⟩
  have b0 : Below w.heap.size w W := by rw [← fold]; exact box_below w _
  have y0 : W.cell? ⟨w.heap.size, 0, none⟩ = some (.int .i64 m.origin) := by rw [← fold]; exact box_cell w _ _ _ _ rfl
  have y1 : W.cell? ⟨w.heap.size, 1, none⟩ = some (.int .u64 m.seq) := by rw [← fold]; exact box_cell w _ _ _ _ rfl
  have y2 : W.cell? ⟨w.heap.size, 2, none⟩ = some (.int .i64 m.hop) := by rw [← fold]; exact box_cell w _ _ _ _ rfl
  have y3 : W.cell? ⟨w.heap.size, 3, none⟩ = some (.string m.ex) := by rw [← fold]; exact box_cell w _ _ _ _ rfl
  have y4 : W.cell? ⟨w.heap.size, 4, none⟩ = some (.string m.key) := by rw [← fold]; exact box_cell w _ _ _ _ rfl
  have y5 : W.cell? ⟨w.heap.size, 5, none⟩ = some (.string m.body) := by rw [← fold]; exact box_cell w _ _ _ _ rfl
  have c0 := wrap_u64 m.origin
  have c2 := wrap_u64 m.hop
  have c1 := seq_cast hm.s.1
  have hM : bs ++ bytesM m = bs ++ putL 1 (u64 m.origin) ++ putL 8 m.seq.toNat ++ putL 1 (u64 m.hop) ++ textL m.ex ++ textL m.key ++ textL m.body := by simp [bytesM]
  rw [hM]
  obtain ⟨sq, hsq⟩ : ∃ z, m.seq.toNat = z := ⟨_, rfl⟩
  obtain ⟨og, hog⟩ : ∃ z, u64 m.origin = z := ⟨_, rfl⟩
  obtain ⟨hp, hhp⟩ : ∃ z, u64 m.hop = z := ⟨_, rfl⟩
  rw [hsq] at c1 ⊢
  rw [hog] at c0 ⊢
  rw [hhp] at c2 ⊢
  rw [← c1] at y1
  rw [hvn] at hv ⊢
  have HS : Hid (m.Short ∧ bs.length ≤ 1000000) := ⟨hs, hbs⟩
  have HB0 : Hid (Below w.heap.size w W) := b0
  have hP := rput_good (.slice va vn vc) bs 1 og W (hv.below b0 (Nat.le_refl _)) (by omega) (by decide)
  clear hs hm b0 hsq hog hhp c1 hM hvn hbs hv
  go_enter Tryd.func29, Tryd.ntmps29
  go_wp2_with fail
  try rw [fold]
  refine hP.mono ?_
  rintro e w1 ⟨v1, rfl, o1, b1⟩
  obtain ⟨a1, k1, hv1⟩ := o1.holds.slice
  obtain ⟨n1, hn1⟩ : ∃ z, (bs ++ putL 1 og).length = z := ⟨_, rfl⟩
  rw [hn1] at hv1
  subst hv1
  have z0 := cell_on b1 y0; have z1 := cell_on b1 y1; have z2 := cell_on b1 y2; have z3 := cell_on b1 y3; have z4 := cell_on b1 y4; have z5 := cell_on b1 y5
  have hP2 := rput_good (.slice a1 n1 k1) (bs ++ putL 1 og) 8 sq w1 o1.holds (by have := HS.out.2; simp [putL_length]; omega) (by decide)
  have HB1 : Hid (Below w.heap.size w w1) := keptW HB0.out b1
  clear hP o1 b1 hn1 y0 y1 y2 y3 y4 y5
  go_wp2_with fail
  refine hP2.mono ?_
  rintro e w2 ⟨v2, rfl, o2, b2⟩
  obtain ⟨a2, k2, hv2⟩ := o2.holds.slice
  obtain ⟨n2, hn2⟩ : ∃ z, (bs ++ putL 1 og ++ putL 8 sq).length = z := ⟨_, rfl⟩
  rw [hn2] at hv2
  subst hv2
  have y0 := cell_on b2 z0; have y1 := cell_on b2 z1; have y2 := cell_on b2 z2; have y3 := cell_on b2 z3; have y4 := cell_on b2 z4; have y5 := cell_on b2 z5
  have hP3 := rput_good (.slice a2 n2 k2) (bs ++ putL 1 og ++ putL 8 sq) 1 hp w2 o2.holds (by have := HS.out.2; simp [putL_length]; omega) (by decide)
  have HB2 : Hid (Below w.heap.size w w2) := keptW HB1.out b2
  clear hP2 o2 b2 hn2 z0 z1 z2 z3 z4 z5 HB1
  go_wp2_with fail
  refine hP3.mono ?_
  rintro e w3 ⟨v3, rfl, o3, b3⟩
  obtain ⟨B, hB⟩ : ∃ z, bs ++ putL 1 og ++ putL 8 sq ++ putL 1 hp = z := ⟨_, rfl⟩
  rw [hB] at o3
  have HBq : Hid (bs ++ putL 1 og ++ putL 8 sq ++ putL 1 hp = B) := hB
  obtain ⟨a3, k3, hv3⟩ := o3.holds.slice
  obtain ⟨n3, hn3⟩ : ∃ z, B.length = z := ⟨_, rfl⟩
  rw [hn3] at hv3
  subst hv3
  have hBl : B.length ≤ 1000100 := by rw [← hB]; have := HS.out.2; simp [putL_length]; omega
  obtain ⟨n4, hn4⟩ : ∃ z, (B ++ textL m.ex).length = z := ⟨_, rfl⟩
  obtain ⟨n5, hn5⟩ : ∃ z, (B ++ textL m.ex ++ textL m.key).length = z := ⟨_, rfl⟩
  obtain ⟨n6, hn6⟩ : ∃ z, (B ++ textL m.ex ++ textL m.key ++ textL m.body).length = z := ⟨_, rfl⟩
  have t1 := textL_length HS.out.1.1
  have t2 := textL_length HS.out.1.2.1
  have hs1 := HS.out.1.1
  have hs2 := HS.out.1.2.1
  have HT1 : Hid (∀ V, Below w3.heap.size w3 V → Calls Tryd.prog 45 #[.slice a3 n3 k3, .string m.ex] V fun e w' => ∃ a' c', e = .returned (.slice a' n4 c') ∧ Owns w' V.heap.size 5 (.slice a' n4 c') (B ++ textL m.ex) ∧ Below V.heap.size V w') := fun V b => rtext_at B m.ex n4 n3 hn3 hn4 (by omega) HS.out.1.1 a3 k3 V (o3.holds.below b (Nat.le_refl _))
  have HT2 : Hid (∀ V a c, Holds V (.slice a n4 c) (B ++ textL m.ex) → Calls Tryd.prog 45 #[.slice a n4 c, .string m.key] V fun e w' => ∃ a' c', e = .returned (.slice a' n5 c') ∧ Owns w' V.heap.size 5 (.slice a' n5 c') (B ++ textL m.ex ++ textL m.key) ∧ Below V.heap.size V w') := fun V a c h => rtext_at _ m.key n5 n4 hn4 hn5 (by rw [List.length_append]; omega) HS.out.1.2.1 a c V h
  have HT3 : Hid (∀ V a c, Holds V (.slice a n5 c) (B ++ textL m.ex ++ textL m.key) → Calls Tryd.prog 45 #[.slice a n5 c, .string m.body] V fun e w' => ∃ a' c', e = .returned (.slice a' n6 c') ∧ Owns w' V.heap.size 5 (.slice a' n6 c') (B ++ textL m.ex ++ textL m.key ++ textL m.body) ∧ Below V.heap.size V w') := fun V a c h => rtext_at _ m.body n6 n5 hn5 hn6 (by rw [List.length_append, List.length_append]; omega) HS.out.1.2.2 a c V h
  have z3 := cell_on b3 y3; have z4 := cell_on b3 y4; have z5 := cell_on b3 y5
  have HZ : Hid (∀ V, Below w3.heap.size w3 V → V.cell? ⟨w.heap.size, 3, none⟩ = some (.string m.ex) ∧ V.cell? ⟨w.heap.size, 4, none⟩ = some (.string m.key) ∧ V.cell? ⟨w.heap.size, 5, none⟩ = some (.string m.body)) := fun V b => ⟨cell_on b z3, cell_on b z4, cell_on b z5⟩
  have HB3 : Hid (Below w.heap.size w w3) := keptW HB2.out b3
  clear hP3 o3 b3 hB hn3 hBl hn4 hn5 hn6 t1 t2 hs1 hs2 y0 y1 y2 y3 y4 y5 HB2 HS
  go_wp2
  first
  | (go_region_law (first
      | (rw [if_pos (by simp [Region.wanted])]; go_simp; refine Calls.mono (HT3.out u2 p2 q2 o2.holds) ?_; rintro e u3 ⟨p3, q3, rfl, o3, b3⟩; have d3 : Below w3.heap.size w3 u3 := keptW d2 b3; dsimp only)
      | (rw [if_pos (by simp [Region.wanted])]; go_simp; refine Calls.mono (HT2.out u1 p1 q1 o1.holds) ?_; rintro e u2 ⟨p2, q2, rfl, o2, b2⟩; have d2 : Below w3.heap.size w3 u2 := keptW d1 b2; obtain ⟨r6, r7, r8⟩ := HZ.out u2 d2; dsimp only)
      | (rw [if_pos (by simp [Region.wanted])]; go_simp; refine Calls.mono (HT1.out _ (by first | exact Below.refl _ _ | exact drew_below _ | exact drewN_below _ _)) ?_; rintro e u1 ⟨p1, q1, rfl, o1, b1⟩; have d1 : Below w3.heap.size w3 u1 := Below.trans (by first | exact Below.refl _ _ | exact drew_below _ | exact drewN_below _ _) b1; obtain ⟨r3, r4, r5⟩ := HZ.out u1 d1; dsimp only)))
  | fail
  all_goals go_wp2
  all_goals go_ret
  all_goals exact ⟨_, rfl, by rw [HBq.out]; exact o3.mono (by have := HB3.out.size; have := d2.size; omega), keptW HB3.out d3⟩

end Go.Proofs.YtopacoghnofliaaDoor
