/-
  The document's Bytes, by its contract.
-/
import Derived.Test.YteimdolckhpndaaDoorRPutEx
import Derived.Test.YteimdolckhpndaaDoorRGoodA
import Derived.Test.YteimdolckhpndaaDoorBytesA
import Derived.Deep.RegionHeld3
namespace Go.Proofs.YteimdolckhpndaaDoor
open Go.RowKit

theorem fits_in {a : Ax} {l : List UInt8} {c : UInt8} (h : l.all (fitsA a) = true) (hc : c ∈ l) : fitsA a c = true := List.all_eq_true.1 h c hc
set_option maxRecDepth 20000 in
set_option maxHeartbeats 8000000 in
theorem rbytesA_any (a : Ax) (w : World) (ha : a.Fits) :
    Calls Tryd.prog 16 #[av a] w (PutPost w.heap.size (.slice none 0 0) w (bytesA a)) := by
  obtain ⟨W, fold⟩ : ∃ W, w.alloc (.cells #[.int .i64 a.kind, .string a.name, .int .i64 a.n, .int .u64 a.tag, .int .i64 a.to, .string a.xn, .int .i64 a.xk, .bool a.xf, .string a.be, .string a.bq, .string a.bp, .int .i64 a.m.origin, .int .u64 a.m.seq, .int .i64 a.m.hop, .string a.m.ex, .string a.m.key, .string a.m.body] 32) = W := ⟨_, rfl⟩
  have b0 : Below w.heap.size w W := by rw [← fold]; exact box_below w _
  have x0 : W.heap[w.heap.size]? = some (.cells (xcells a).toArray 32 (0, 0)) := by rw [← fold]; exact heap_alloc_new w _
  obtain ⟨FL, hFL⟩ : ∃ z, bytesA a = z := ⟨_, rfl⟩
  rw [hFL]
  have HFL : Hid (bytesA a = FL) := hFL
  clear hFL
  have hG := rgoodA_any a W ha
  have HH : Hid (W.heap[w.heap.size]? = some (.cells (xcells a).toArray 32 (0, 0)) ∧ a.Fits ∧ Below w.heap.size w W) := ⟨x0, ha, b0⟩
  clear ha b0 x0
  go_enter Tryd.func16, Tryd.ntmps16
  go_wp2_with (refine wpList_load_row rfl 32 _ rfl w.heap.size rfl 32 (xcells a).toArray (0, 0) _ HH.out.1 Tryd.underlying32 rfl info17 ?_)
  try rw [fold]
  refine hG.mono ?_
  rintro e V1 ⟨rfl, b1⟩
  clear hG
  have H1 : Hid (V1.heap[w.heap.size]? = some (.cells (xcells a).toArray 32 (0, 0)) ∧ Below w.heap.size w V1) := ⟨(b1.block _ (Array.getElem?_eq_some_iff.1 HH.out.1).1).trans HH.out.1, keptW HH.out.2.2 b1⟩
  have y0 : V1.cell? ⟨w.heap.size, 0, none⟩ = some (.int .i64 a.kind) := box_at H1.out.1 rfl
  clear b1
  cases hg : goodA a
  · have HB : Hid (FL = []) := HFL.out.symm.trans (bytesA_none hg)
    clear hg
    go_wp2
    go_ret
    rw [HB.out]
    exact ⟨_, rfl, World.ownsRow_nil _ _ _ _, grown_of H1.out.2 _, H1.out.2.size⟩
  · obtain ⟨l, hl, hf, ho, hb⟩ := goodA_tells hg
    rw [HFL.out] at hb
    have hk := (lettersL_kind hl).1
    have cw := wrap_u64 a.kind
    have hP := rput_good (.slice none 0 0) [] 1 (u64 a.kind) V1 (.inl ⟨rfl, rfl⟩) (by simp) (by decide)
    obtain ⟨kk, hkk⟩ : ∃ z, u64 a.kind = z := ⟨_, rfl⟩
    rw [hkk] at cw hP hb
    have HL : Hid (lettersL a.kind = some l ∧ l.all (fitsA a) = true ∧ FL = putL 1 kk ++ l.flatMap (putS a)) := ⟨hl, hf, hb⟩
    have HK : Hid (1 ≤ a.kind ∧ a.kind ≤ 12) := hk
    clear hg hl hf hb ho hk hkk
    go_wp2_with fail
    refine hP.mono ?_
    rintro e V ⟨v2, rfl, o2, b2⟩
    clear hP y0
    obtain ⟨va, vc, hv2⟩ := o2.holds.slice
    rw [List.nil_append] at o2 hv2
    rw [putL_length] at hv2
    subst hv2
    have x2 := (b2.block _ (Array.getElem?_eq_some_iff.1 H1.out.1).1).trans H1.out.1
    have HV : Hid (Owns V V1.heap.size 5 (.slice va 1 vc) (putL 1 kk) ∧ V.heap[w.heap.size]? = some (.cells (xcells a).toArray 32 (0, 0)) ∧ Below w.heap.size w V ∧ w.heap.size ≤ V1.heap.size ∧ (putL 1 kk).length = 1) := ⟨o2, x2, keptW H1.out.2 b2, H1.out.2.size, putL_length _ _⟩
    clear o2 b2 x2
    obtain ⟨B, hB⟩ : ∃ z, putL 1 kk = z := ⟨_, rfl⟩
    rw [hB] at HV HL
    clear hB
    have HW : Hid (Holds V (.slice va 1 vc) B ∧ B.length ≤ 100000) := ⟨HV.out.1.holds, by have := HV.out.2.2.2.2; omega⟩
    have HV2 : Hid (∀ U, Below V.heap.size V U → U.heap[w.heap.size]? = some (.cells (xcells a).toArray 32 (0, 0))) := fun U b => (b.block _ (Array.getElem?_eq_some_iff.1 HV.out.2.1).1).trans HV.out.2.1
    have yk : V.cell? ⟨w.heap.size, 0, none⟩ = some (.int .i64 a.kind) := box_at HV.out.2.1 rfl
    by_cases h1 : a.kind = 1
    · have hl : l = [110, 100] := by have := HL.out.1; rw [h1] at this; exact (Option.some.inj this).symm
      have HF : Hid ([110, 100].all (fitsA a) = true ∧ FL = B ++ [110, 100].flatMap (putS a)) := ⟨by have := HL.out.2.1; rw [hl] at this; exact this, by have := HL.out.2.2; rw [hl] at this; exact this⟩
      have e1 : (a.kind == 1) = true := by rw [h1]; rfl
      clear hl h1
      have hn := name_short (show nameB (txt a.name) = true from fits_in (c := 110) HF.out.1 (by decide))
      have SZ : Hid (a.name.size ≤ 65535 ∧ True) := ⟨by omega, trivial⟩
      clear hn
      have cn := wrap_u64 a.n
      obtain ⟨nn, hnn⟩ : ∃ z, u64 a.n = z := ⟨_, rfl⟩
      have HN : Hid (u64 a.n = nn) := hnn
      rw [hnn] at cn
      clear hnn
      have HZ : Hid (∀ U, Below V.heap.size V U → U.cell? ⟨w.heap.size, 1, none⟩ = some (.string a.name) ∧ U.cell? ⟨w.heap.size, 2, none⟩ = some (.int .i64 a.n)) := fun U b => ⟨box_at (HV2.out U b) rfl, box_at (HV2.out U b) rfl⟩
      obtain ⟨y1, y2⟩ := HZ.out V (Below.refl _ _)
      obtain ⟨B1, hB1⟩ : ∃ z, B ++ textL a.name = z := ⟨_, rfl⟩
      obtain ⟨m1, hm1⟩ : ∃ z, B1.length = z := ⟨_, rfl⟩
      have E1 : Hid (B ++ textL a.name = B1 ∧ B1.length = m1 ∧ B1.length ≤ 170000) := ⟨hB1, hm1, by rw [← hB1, List.length_append]; have h1 := textL_len (s := a.name); have h2 := HW.out.2; have h3 := SZ.out.1; omega⟩
      clear hB1 hm1
      have T1 : Hid (∀ V ad cd, Holds V (.slice ad 1 cd) B → Calls Tryd.prog 39 #[.slice ad 1 cd, .string a.name] V (ChPost m1 B1 V)) := fun V ad cd h => by have h := rtext_ch B a.name m1 1 HV.out.2.2.2.2 (by rw [E1.out.1]; exact E1.out.2.1) (by have := HW.out.2; omega) (by have := SZ.out.1; omega) ad cd V h; rw [E1.out.1] at h; exact h
      obtain ⟨B2, hB2⟩ : ∃ z, B1 ++ putL 2 nn = z := ⟨_, rfl⟩
      obtain ⟨m2, hm2⟩ : ∃ z, B2.length = z := ⟨_, rfl⟩
      have E2 : Hid (B1 ++ putL 2 nn = B2 ∧ B2.length = m2 ∧ B2.length ≤ 240000) := ⟨hB2, hm2, by rw [← hB2, List.length_append, putL_length]; have h2 := E1.out.2.2; omega⟩
      clear hB2 hm2
      have T2 : Hid (∀ V ad cd, Holds V (.slice ad m1 cd) B1 → Calls Tryd.prog 38 #[.slice ad m1 cd, .int .i64 2, .int .u64 (nn : Int)] V (ChPost m2 B2 V)) := fun V ad cd h => by have h := rput_ch B1 2 nn m2 m1 E1.out.2.1 (by rw [E2.out.1]; exact E2.out.2.1) (by have := E1.out.2.2; omega) (by decide) ad cd V h; rw [E2.out.1] at h; exact h
      go_wp2
      refine wp_region_noPanic ?_
      refine wp_region_held_drew (S := fun U => Below V.heap.size V U) (by kernel_rfl) (drew_below V) (fun hHeld => ?_)
      refine wpAnyH_take (i := 0) (v := .slice va 1 vc) (by simp only [List.getElem?_toArray, List.getElem?_cons_zero]; rfl) (by kernel_rfl) (by kernel_rfl) (by kernel_rfl) (fun _ _ _ h => h) (Or.inl ⟨by rfl, (by intro wq hSq; clear hSq hHeld; go_simp)⟩) (by assumption) ?_
      try simp only [Act.put, List.setIfInBounds_toArray, List.set_cons_zero, List.set_cons_succ]
      refine wpAnyH_take (i := 1) (v := ?_) (by simp only [List.getElem?_toArray, List.getElem?_cons_succ, List.getElem?_cons_zero]; rfl) (by kernel_rfl) (by kernel_rfl) (by kernel_rfl) (fun _ _ _ h => h) (Or.inl ⟨by rfl, ?_⟩) (by assumption) ?_
      rotate_left
      · (intro wq hSq; clear hSq; go_simp; try with_reducible rfl)
      try simp only [Act.put, List.setIfInBounds_toArray, List.set_cons_zero, List.set_cons_succ]
      refine wpAnyH_take (i := 2) (v := .string a.name) (by simp only [List.getElem?_toArray, List.getElem?_cons_succ, List.getElem?_cons_zero]; rfl) (by kernel_rfl) (by kernel_rfl) (by kernel_rfl) (fun _ _ _ h => h) (Or.inl ⟨by rfl, (by intro wq hSq; have hcq := HZ.out wq hSq; obtain ⟨q1, q2⟩ := hcq; clear hSq hHeld; go_simp)⟩) (by assumption) ?_
      try simp only [Act.put, List.setIfInBounds_toArray, List.set_cons_zero, List.set_cons_succ]
      refine wpAnyH_take (i := 4) (v := ?_) (by simp only [List.getElem?_toArray, List.getElem?_cons_succ, List.getElem?_cons_zero]; rfl) (by kernel_rfl) (by kernel_rfl) (by kernel_rfl) (fun _ _ _ h => h) (Or.inl ⟨by rfl, ?_⟩) (by assumption) ?_
      rotate_left
      · (intro wq hSq; clear hSq; go_simp; try with_reducible rfl)
      try simp only [Act.put, List.setIfInBounds_toArray, List.set_cons_zero, List.set_cons_succ]
      refine wpAnyH_take (i := 5) (v := .int .i64 a.n) (by simp only [List.getElem?_toArray, List.getElem?_cons_succ, List.getElem?_cons_zero]; rfl) (by kernel_rfl) (by kernel_rfl) (by kernel_rfl) (fun _ _ _ h => h) (Or.inl ⟨by rfl, (by intro wq hSq; have hcq := HZ.out wq hSq; obtain ⟨q1, q2⟩ := hcq; clear hSq hHeld; go_simp)⟩) (by assumption) ?_
      try simp only [Act.put, List.setIfInBounds_toArray, List.set_cons_zero, List.set_cons_succ]
      refine wpAnyH_take (i := 6) (v := .int .u64 (nn : Int)) (by simp only [List.getElem?_toArray, List.getElem?_cons_succ, List.getElem?_cons_zero]; rfl) (by kernel_rfl) (by kernel_rfl) (by kernel_rfl) (fun _ _ _ h => h) (Or.inl ⟨by rfl, (by intro wq hSq; clear hSq hHeld; go_simp)⟩) (by assumption) ?_
      try simp only [Act.put, List.setIfInBounds_toArray, List.set_cons_zero, List.set_cons_succ]
      refine wpAnyH_ready (rs := [3]) (by kernel_rfl) (by simp) ?_
      refine AllReadyH.cons rfl (fun K hK => ?_) AllReadyH.nil
      have HS3 : Hid _ := hHeld
      clear hHeld
      go_simp
      refine (T1.out _ va vc (HW.out.1.below HS3.out (Nat.le_refl _))).mono ?_
      rintro e u1 ⟨p1, q1, rfl, o1, b1⟩
      have d1 : Below V.heap.size V u1 := keptW HS3.out b1
      dsimp only
      refine hK.out _ _ (d1) (fun hHeld => ?_)
      clear hK K
      try simp only [Act.put, List.setIfInBounds_toArray, List.set_cons_zero, List.set_cons_succ]
      refine wpAnyH_ready (rs := [7]) (by kernel_rfl) (by simp) ?_
      refine AllReadyH.cons rfl (fun K hK => ?_) AllReadyH.nil
      have HS7 : Hid _ := hHeld
      clear hHeld
      go_simp
      refine (T2.out u1 p1 q1 o1.holds).mono ?_
      rintro e u2 ⟨p2, q2, rfl, o2, b2⟩
      have d2 : Below V.heap.size V u2 := keptW d1 b2
      dsimp only
      refine hK.out _ _ (d2) (fun hHeld => ?_)
      clear hK K
      try simp only [Act.put, List.setIfInBounds_toArray, List.set_cons_zero, List.set_cons_succ]
      refine wpAnyH_take (i := 8) (v := ?_) (by simp only [List.getElem?_toArray, List.getElem?_cons_succ, List.getElem?_cons_zero]; rfl) (by kernel_rfl) (by kernel_rfl) (by kernel_rfl) (fun _ _ _ h => h) (Or.inl ⟨by rfl, ?_⟩) (by assumption) ?_
      rotate_left
      · (intro wq hSq; clear hSq; go_simp; try with_reducible rfl)
      try simp only [Act.put, List.setIfInBounds_toArray, List.set_cons_zero, List.set_cons_succ]
      refine wpAnyH_done (by kernel_rfl) ?_ _
      refine NoPanic.normal ?_
      go_wp2
      go_ret
      refine ⟨_, rfl, ?_, grown_of (keptW HV.out.2.2.1 d2) _, (keptW HV.out.2.2.1 d2).size⟩
      rw [HF.out.2]
      have hfin : B ++ [110, 100].flatMap (putS a) = B2 := by
        rw [← E2.out.1, ← E1.out.1, ← HN.out]
        simp [putS]
      rw [hfin]
      exact o2.mono (Nat.le_trans HV.out.2.2.1.size d1.size)
    have e1 : (a.kind == 1) = false := by simpa using h1
    by_cases h2 : a.kind = 2
    · have hl : l = [110] := by have := HL.out.1; rw [h2] at this; exact (Option.some.inj this).symm
      have HF : Hid ([110].all (fitsA a) = true ∧ FL = B ++ [110].flatMap (putS a)) := ⟨by have := HL.out.2.1; rw [hl] at this; exact this, by have := HL.out.2.2; rw [hl] at this; exact this⟩
      have e2 : (a.kind == 2) = true := by rw [h2]; rfl
      clear hl h2
      obtain ⟨y0, y1, y2, y3, y4, y5, y6, y7, y8, y9, y10, y11, y12, y13, y14, y15, y16⟩ := cells17 HV.out.2.1
      clear y0 y2 y3 y4 y5 y6 y7 y8 y9 y10 y11 y12 y13 y14 y15 y16
      have hn := name_short (show nameB (txt a.name) = true from fits_in (c := 110) HF.out.1 (by decide))
      have hC := rtext_ch B a.name _ 1 HV.out.2.2.2.2 rfl (Nat.le_trans HW.out.2 (by decide)) (by omega) va vc V HW.out.1
      clear hn
      obtain ⟨LL, hLL⟩ : ∃ z, (B ++ textL a.name).length = z := ⟨_, rfl⟩
      rw [hLL] at hC
      clear hLL
      go_wp2_with fail
      refine hC.mono ?_
      rintro e V3 ⟨p3, q3, rfl, o3, b3⟩
      clear hC
      have HO : Hid (Below w.heap.size w V3 ∧ Owns V3 V.heap.size 5 (.slice p3 LL q3) (B ++ textL a.name)) := ⟨keptW HV.out.2.2.1 b3, o3⟩
      clear o3 b3
      go_wp2
      go_ret
      refine ⟨_, rfl, ?_, grown_of HO.out.1 _, HO.out.1.size⟩
      rw [HF.out.2]
      have hfin : B ++ [110].flatMap (putS a) = B ++ textL a.name := by simp [putS]
      rw [hfin]
      exact HO.out.2.mono HV.out.2.2.1.size
    have e2 : (a.kind == 2) = false := by simpa using h2
    by_cases h4 : a.kind = 4
    · have hl : l = [110] := by have := HL.out.1; rw [h4] at this; exact (Option.some.inj this).symm
      have HF : Hid ([110].all (fitsA a) = true ∧ FL = B ++ [110].flatMap (putS a)) := ⟨by have := HL.out.2.1; rw [hl] at this; exact this, by have := HL.out.2.2; rw [hl] at this; exact this⟩
      have e4 : (a.kind == 4) = true := by rw [h4]; rfl
      clear hl h4
      obtain ⟨y0, y1, y2, y3, y4, y5, y6, y7, y8, y9, y10, y11, y12, y13, y14, y15, y16⟩ := cells17 HV.out.2.1
      clear y0 y2 y3 y4 y5 y6 y7 y8 y9 y10 y11 y12 y13 y14 y15 y16
      have hn := name_short (show nameB (txt a.name) = true from fits_in (c := 110) HF.out.1 (by decide))
      have hC := rtext_ch B a.name _ 1 HV.out.2.2.2.2 rfl (Nat.le_trans HW.out.2 (by decide)) (by omega) va vc V HW.out.1
      clear hn
      obtain ⟨LL, hLL⟩ : ∃ z, (B ++ textL a.name).length = z := ⟨_, rfl⟩
      rw [hLL] at hC
      clear hLL
      go_wp2_with fail
      refine hC.mono ?_
      rintro e V3 ⟨p3, q3, rfl, o3, b3⟩
      clear hC
      have HO : Hid (Below w.heap.size w V3 ∧ Owns V3 V.heap.size 5 (.slice p3 LL q3) (B ++ textL a.name)) := ⟨keptW HV.out.2.2.1 b3, o3⟩
      clear o3 b3
      go_wp2
      go_ret
      refine ⟨_, rfl, ?_, grown_of HO.out.1 _, HO.out.1.size⟩
      rw [HF.out.2]
      have hfin : B ++ [110].flatMap (putS a) = B ++ textL a.name := by simp [putS]
      rw [hfin]
      exact HO.out.2.mono HV.out.2.2.1.size
    have e4 : (a.kind == 4) = false := by simpa using h4
    by_cases h8 : a.kind = 8
    · have hl : l = [110] := by have := HL.out.1; rw [h8] at this; exact (Option.some.inj this).symm
      have HF : Hid ([110].all (fitsA a) = true ∧ FL = B ++ [110].flatMap (putS a)) := ⟨by have := HL.out.2.1; rw [hl] at this; exact this, by have := HL.out.2.2; rw [hl] at this; exact this⟩
      have e8 : (a.kind == 8) = true := by rw [h8]; rfl
      clear hl h8
      obtain ⟨y0, y1, y2, y3, y4, y5, y6, y7, y8, y9, y10, y11, y12, y13, y14, y15, y16⟩ := cells17 HV.out.2.1
      clear y0 y2 y3 y4 y5 y6 y7 y8 y9 y10 y11 y12 y13 y14 y15 y16
      have hn := name_short (show nameB (txt a.name) = true from fits_in (c := 110) HF.out.1 (by decide))
      have hC := rtext_ch B a.name _ 1 HV.out.2.2.2.2 rfl (Nat.le_trans HW.out.2 (by decide)) (by omega) va vc V HW.out.1
      clear hn
      obtain ⟨LL, hLL⟩ : ∃ z, (B ++ textL a.name).length = z := ⟨_, rfl⟩
      rw [hLL] at hC
      clear hLL
      go_wp2_with fail
      refine hC.mono ?_
      rintro e V3 ⟨p3, q3, rfl, o3, b3⟩
      clear hC
      have HO : Hid (Below w.heap.size w V3 ∧ Owns V3 V.heap.size 5 (.slice p3 LL q3) (B ++ textL a.name)) := ⟨keptW HV.out.2.2.1 b3, o3⟩
      clear o3 b3
      go_wp2
      go_ret
      refine ⟨_, rfl, ?_, grown_of HO.out.1 _, HO.out.1.size⟩
      rw [HF.out.2]
      have hfin : B ++ [110].flatMap (putS a) = B ++ textL a.name := by simp [putS]
      rw [hfin]
      exact HO.out.2.mono HV.out.2.2.1.size
    have e8 : (a.kind == 8) = false := by simpa using h8
    by_cases h3 : a.kind = 3
    · have hl : l = [120] := by have := HL.out.1; rw [h3] at this; exact (Option.some.inj this).symm
      have HF : Hid ([120].all (fitsA a) = true ∧ FL = B ++ [120].flatMap (putS a)) := ⟨by have := HL.out.2.1; rw [hl] at this; exact this, by have := HL.out.2.2; rw [hl] at this; exact this⟩
      have e3 : (a.kind == 3) = true := by rw [h3]; rfl
      clear hl h3
      obtain ⟨y0, y1, y2, y3, y4, y5, y6, y7, y8, y9, y10, y11, y12, y13, y14, y15, y16⟩ := cells17 HV.out.2.1
      clear y0 y1 y2 y3 y4 y8 y9 y10 y11 y12 y13 y14 y15 y16
      have h0 : goodX a.xn a.xk = true := fits_in (c := 120) HF.out.1 (by decide)
      have hn := name_short (by unfold goodX at h0; simp only [Bool.and_eq_true] at h0; exact h0.2)
      have hC := rputEx_any (.slice va 1 vc) B a.xn a.xk a.xf V HW.out.1 HW.out.2 (by omega)
      clear hn h0
      go_wp2_with fail
      refine hC.mono ?_
      rintro e V3 ⟨v3, rfl, o3, b3, z3⟩
      clear hC
      have HO : Hid (Below w.heap.size w V3 ∧ Owns V3 V.heap.size 5 v3 (B ++ exL a.xn a.xk a.xf)) := ⟨keptW HV.out.2.2.1 (below_of_grown b3), o3⟩
      clear o3 b3 z3
      go_wp2
      go_ret
      refine ⟨_, rfl, ?_, grown_of HO.out.1 _, HO.out.1.size⟩
      rw [HF.out.2]
      have hfin : B ++ [120].flatMap (putS a) = B ++ exL a.xn a.xk a.xf := by simp [putS]
      rw [hfin]
      exact HO.out.2.mono HV.out.2.2.1.size
    have e3 : (a.kind == 3) = false := by simpa using h3
    by_cases h5 : a.kind = 5
    · have hl : l = [98] := by have := HL.out.1; rw [h5] at this; exact (Option.some.inj this).symm
      have HF : Hid ([98].all (fitsA a) = true ∧ FL = B ++ [98].flatMap (putS a)) := ⟨by have := HL.out.2.1; rw [hl] at this; exact this, by have := HL.out.2.2; rw [hl] at this; exact this⟩
      have e5 : (a.kind == 5) = true := by rw [h5]; rfl
      clear hl h5
      obtain ⟨y0, y1, y2, y3, y4, y5, y6, y7, y8, y9, y10, y11, y12, y13, y14, y15, y16⟩ := cells17 HV.out.2.1
      clear y0 y1 y2 y3 y4 y5 y6 y7 y11 y12 y13 y14 y15 y16
      have h0 : goodBd a.be a.bq a.bp = true := fits_in (c := 98) HF.out.1 (by decide)
      have h0' : (nameB (txt a.be) = true ∧ nameB (txt a.bq) = true) ∧ (a.bp.size : Int) ≤ 60 := by unfold goodBd at h0; simpa only [Bool.and_eq_true, decide_eq_true_eq] using h0
      have g1 := name_short h0'.1.1
      have g2 := name_short h0'.1.2
      have g3 := h0'.2
      have hC := rputBd_any (.slice va 1 vc) B a.be a.bq a.bp V HW.out.1 HW.out.2 (by omega) (by omega) (by omega)
      clear h0 h0' g1 g2 g3
      go_wp2_with fail
      refine hC.mono ?_
      rintro e V3 ⟨v3, rfl, o3, b3, z3⟩
      clear hC
      have HO : Hid (Below w.heap.size w V3 ∧ Owns V3 V.heap.size 5 v3 (B ++ bdL a.be a.bq a.bp)) := ⟨keptW HV.out.2.2.1 (below_of_grown b3), o3⟩
      clear o3 b3 z3
      go_wp2
      go_ret
      refine ⟨_, rfl, ?_, grown_of HO.out.1 _, HO.out.1.size⟩
      rw [HF.out.2]
      have hfin : B ++ [98].flatMap (putS a) = B ++ bdL a.be a.bq a.bp := by simp [putS]
      rw [hfin]
      exact HO.out.2.mono HV.out.2.2.1.size
    have e5 : (a.kind == 5) = false := by simpa using h5
    by_cases h6 : a.kind = 6
    · have hl : l = [98] := by have := HL.out.1; rw [h6] at this; exact (Option.some.inj this).symm
      have HF : Hid ([98].all (fitsA a) = true ∧ FL = B ++ [98].flatMap (putS a)) := ⟨by have := HL.out.2.1; rw [hl] at this; exact this, by have := HL.out.2.2; rw [hl] at this; exact this⟩
      have e6 : (a.kind == 6) = true := by rw [h6]; rfl
      clear hl h6
      obtain ⟨y0, y1, y2, y3, y4, y5, y6, y7, y8, y9, y10, y11, y12, y13, y14, y15, y16⟩ := cells17 HV.out.2.1
      clear y0 y1 y2 y3 y4 y5 y6 y7 y11 y12 y13 y14 y15 y16
      have h0 : goodBd a.be a.bq a.bp = true := fits_in (c := 98) HF.out.1 (by decide)
      have h0' : (nameB (txt a.be) = true ∧ nameB (txt a.bq) = true) ∧ (a.bp.size : Int) ≤ 60 := by unfold goodBd at h0; simpa only [Bool.and_eq_true, decide_eq_true_eq] using h0
      have g1 := name_short h0'.1.1
      have g2 := name_short h0'.1.2
      have g3 := h0'.2
      have hC := rputBd_any (.slice va 1 vc) B a.be a.bq a.bp V HW.out.1 HW.out.2 (by omega) (by omega) (by omega)
      clear h0 h0' g1 g2 g3
      go_wp2_with fail
      refine hC.mono ?_
      rintro e V3 ⟨v3, rfl, o3, b3, z3⟩
      clear hC
      have HO : Hid (Below w.heap.size w V3 ∧ Owns V3 V.heap.size 5 v3 (B ++ bdL a.be a.bq a.bp)) := ⟨keptW HV.out.2.2.1 (below_of_grown b3), o3⟩
      clear o3 b3 z3
      go_wp2
      go_ret
      refine ⟨_, rfl, ?_, grown_of HO.out.1 _, HO.out.1.size⟩
      rw [HF.out.2]
      have hfin : B ++ [98].flatMap (putS a) = B ++ bdL a.be a.bq a.bp := by simp [putS]
      rw [hfin]
      exact HO.out.2.mono HV.out.2.2.1.size
    have e6 : (a.kind == 6) = false := by simpa using h6
    by_cases h7 : a.kind = 7
    · have hl : l = [109] := by have := HL.out.1; rw [h7] at this; exact (Option.some.inj this).symm
      have HF : Hid ([109].all (fitsA a) = true ∧ FL = B ++ [109].flatMap (putS a)) := ⟨by have := HL.out.2.1; rw [hl] at this; exact this, by have := HL.out.2.2; rw [hl] at this; exact this⟩
      have e7 : (a.kind == 7) = true := by rw [h7]; rfl
      clear hl h7
      obtain ⟨y0, y1, y2, y3, y4, y5, y6, y7, y8, y9, y10, y11, y12, y13, y14, y15, y16⟩ := cells17 HV.out.2.1
      clear y0 y1 y2 y3 y4 y5 y6 y7 y8 y9 y10
      have h0 : goodM a.m = true := fits_in (c := 109) HF.out.1 (by decide)
      obtain ⟨g4, g5, g6, g1, g2, g3⟩ := goodM_tells h0
      have hC := rmsg_any (.slice va 1 vc) B a.m V HW.out.1 (Nat.le_trans HW.out.2 (by decide)) HH.out.2.1.m ⟨by omega, by omega, by omega⟩
      clear h0 g1 g2 g3 g4 g5 g6
      go_wp2_with fail
      refine hC.mono ?_
      rintro e V3 ⟨v3, rfl, o3, b3⟩
      clear hC
      have HO : Hid (Below w.heap.size w V3 ∧ Owns V3 V.heap.size 5 v3 (B ++ bytesM a.m)) := ⟨keptW HV.out.2.2.1 b3, o3⟩
      clear o3 b3
      go_wp2
      go_ret
      refine ⟨_, rfl, ?_, grown_of HO.out.1 _, HO.out.1.size⟩
      rw [HF.out.2]
      have hfin : B ++ [109].flatMap (putS a) = B ++ bytesM a.m := by simp [putS]
      rw [hfin]
      exact HO.out.2.mono HV.out.2.2.1.size
    have e7 : (a.kind == 7) = false := by simpa using h7
    by_cases h9 : a.kind = 9
    · have hl : l = [110, 116] := by have := HL.out.1; rw [h9] at this; exact (Option.some.inj this).symm
      have HF : Hid ([110, 116].all (fitsA a) = true ∧ FL = B ++ [110, 116].flatMap (putS a)) := ⟨by have := HL.out.2.1; rw [hl] at this; exact this, by have := HL.out.2.2; rw [hl] at this; exact this⟩
      have e9 : (a.kind == 9) = true := by rw [h9]; rfl
      clear hl h9
      have hn := name_short (show nameB (txt a.name) = true from fits_in (c := 110) HF.out.1 (by decide))
      have SZ : Hid (a.name.size ≤ 65535 ∧ True) := ⟨by omega, trivial⟩
      clear hn
      have ct := seq_cast HH.out.2.1.t.1
      obtain ⟨nn, hnn⟩ : ∃ z, a.tag.toNat = z := ⟨_, rfl⟩
      have HN : Hid (a.tag.toNat = nn) := hnn
      rw [hnn] at ct
      clear hnn
      have HZ : Hid (∀ U, Below V.heap.size V U → U.cell? ⟨w.heap.size, 1, none⟩ = some (.string a.name) ∧ U.cell? ⟨w.heap.size, 3, none⟩ = some (.int .u64 (nn : Int))) := fun U b => ⟨box_at (HV2.out U b) rfl, by rw [ct]; exact box_at (HV2.out U b) rfl⟩
      obtain ⟨y1, y3⟩ := HZ.out V (Below.refl _ _)
      clear ct
      obtain ⟨B1, hB1⟩ : ∃ z, B ++ textL a.name = z := ⟨_, rfl⟩
      obtain ⟨m1, hm1⟩ : ∃ z, B1.length = z := ⟨_, rfl⟩
      have E1 : Hid (B ++ textL a.name = B1 ∧ B1.length = m1 ∧ B1.length ≤ 170000) := ⟨hB1, hm1, by rw [← hB1, List.length_append]; have h1 := textL_len (s := a.name); have h2 := HW.out.2; have h3 := SZ.out.1; omega⟩
      clear hB1 hm1
      have T1 : Hid (∀ V ad cd, Holds V (.slice ad 1 cd) B → Calls Tryd.prog 39 #[.slice ad 1 cd, .string a.name] V (ChPost m1 B1 V)) := fun V ad cd h => by have h := rtext_ch B a.name m1 1 HV.out.2.2.2.2 (by rw [E1.out.1]; exact E1.out.2.1) (by have := HW.out.2; omega) (by have := SZ.out.1; omega) ad cd V h; rw [E1.out.1] at h; exact h
      obtain ⟨B2, hB2⟩ : ∃ z, B1 ++ putL 8 nn = z := ⟨_, rfl⟩
      obtain ⟨m2, hm2⟩ : ∃ z, B2.length = z := ⟨_, rfl⟩
      have E2 : Hid (B1 ++ putL 8 nn = B2 ∧ B2.length = m2 ∧ B2.length ≤ 240000) := ⟨hB2, hm2, by rw [← hB2, List.length_append, putL_length]; have h2 := E1.out.2.2; omega⟩
      clear hB2 hm2
      have T2 : Hid (∀ V ad cd, Holds V (.slice ad m1 cd) B1 → Calls Tryd.prog 38 #[.slice ad m1 cd, .int .i64 8, .int .u64 (nn : Int)] V (ChPost m2 B2 V)) := fun V ad cd h => by have h := rput_ch B1 8 nn m2 m1 E1.out.2.1 (by rw [E2.out.1]; exact E2.out.2.1) (by have := E1.out.2.2; omega) (by decide) ad cd V h; rw [E2.out.1] at h; exact h
      go_wp2
      refine wp_region_noPanic ?_
      refine wp_region_held_drew (S := fun U => Below V.heap.size V U) (by kernel_rfl) (drew_below V) (fun hHeld => ?_)
      refine wpAnyH_take (i := 0) (v := .slice va 1 vc) (by simp only [List.getElem?_toArray, List.getElem?_cons_zero]; rfl) (by kernel_rfl) (by kernel_rfl) (by kernel_rfl) (fun _ _ _ h => h) (Or.inl ⟨by rfl, (by intro wq hSq; clear hSq hHeld; go_simp)⟩) (by assumption) ?_
      try simp only [Act.put, List.setIfInBounds_toArray, List.set_cons_zero, List.set_cons_succ]
      refine wpAnyH_take (i := 1) (v := ?_) (by simp only [List.getElem?_toArray, List.getElem?_cons_succ, List.getElem?_cons_zero]; rfl) (by kernel_rfl) (by kernel_rfl) (by kernel_rfl) (fun _ _ _ h => h) (Or.inl ⟨by rfl, ?_⟩) (by assumption) ?_
      rotate_left
      · (intro wq hSq; clear hSq; go_simp; try with_reducible rfl)
      try simp only [Act.put, List.setIfInBounds_toArray, List.set_cons_zero, List.set_cons_succ]
      refine wpAnyH_take (i := 2) (v := .string a.name) (by simp only [List.getElem?_toArray, List.getElem?_cons_succ, List.getElem?_cons_zero]; rfl) (by kernel_rfl) (by kernel_rfl) (by kernel_rfl) (fun _ _ _ h => h) (Or.inl ⟨by rfl, (by intro wq hSq; have hcq := HZ.out wq hSq; obtain ⟨q1, q2⟩ := hcq; clear hSq hHeld; go_simp)⟩) (by assumption) ?_
      try simp only [Act.put, List.setIfInBounds_toArray, List.set_cons_zero, List.set_cons_succ]
      refine wpAnyH_take (i := 4) (v := ?_) (by simp only [List.getElem?_toArray, List.getElem?_cons_succ, List.getElem?_cons_zero]; rfl) (by kernel_rfl) (by kernel_rfl) (by kernel_rfl) (fun _ _ _ h => h) (Or.inl ⟨by rfl, ?_⟩) (by assumption) ?_
      rotate_left
      · (intro wq hSq; clear hSq; go_simp; try with_reducible rfl)
      try simp only [Act.put, List.setIfInBounds_toArray, List.set_cons_zero, List.set_cons_succ]
      refine wpAnyH_take (i := 5) (v := .int .u64 (nn : Int)) (by simp only [List.getElem?_toArray, List.getElem?_cons_succ, List.getElem?_cons_zero]; rfl) (by kernel_rfl) (by kernel_rfl) (by kernel_rfl) (fun _ _ _ h => h) (Or.inl ⟨by rfl, (by intro wq hSq; have hcq := HZ.out wq hSq; obtain ⟨q1, q2⟩ := hcq; clear hSq hHeld; go_simp)⟩) (by assumption) ?_
      try simp only [Act.put, List.setIfInBounds_toArray, List.set_cons_zero, List.set_cons_succ]
      refine wpAnyH_ready (rs := [3]) (by kernel_rfl) (by simp) ?_
      refine AllReadyH.cons rfl (fun K hK => ?_) AllReadyH.nil
      have HS3 : Hid _ := hHeld
      clear hHeld
      go_simp
      refine (T1.out _ va vc (HW.out.1.below HS3.out (Nat.le_refl _))).mono ?_
      rintro e u1 ⟨p1, q1, rfl, o1, b1⟩
      have d1 : Below V.heap.size V u1 := keptW HS3.out b1
      dsimp only
      refine hK.out _ _ (d1) (fun hHeld => ?_)
      clear hK K
      try simp only [Act.put, List.setIfInBounds_toArray, List.set_cons_zero, List.set_cons_succ]
      refine wpAnyH_ready (rs := [6]) (by kernel_rfl) (by simp) ?_
      refine AllReadyH.cons rfl (fun K hK => ?_) AllReadyH.nil
      have HS6 : Hid _ := hHeld
      clear hHeld
      go_simp
      refine (T2.out u1 p1 q1 o1.holds).mono ?_
      rintro e u2 ⟨p2, q2, rfl, o2, b2⟩
      have d2 : Below V.heap.size V u2 := keptW d1 b2
      dsimp only
      refine hK.out _ _ (d2) (fun hHeld => ?_)
      clear hK K
      try simp only [Act.put, List.setIfInBounds_toArray, List.set_cons_zero, List.set_cons_succ]
      refine wpAnyH_take (i := 7) (v := ?_) (by simp only [List.getElem?_toArray, List.getElem?_cons_succ, List.getElem?_cons_zero]; rfl) (by kernel_rfl) (by kernel_rfl) (by kernel_rfl) (fun _ _ _ h => h) (Or.inl ⟨by rfl, ?_⟩) (by assumption) ?_
      rotate_left
      · (intro wq hSq; clear hSq; go_simp; try with_reducible rfl)
      try simp only [Act.put, List.setIfInBounds_toArray, List.set_cons_zero, List.set_cons_succ]
      refine wpAnyH_done (by kernel_rfl) ?_ _
      refine NoPanic.normal ?_
      go_wp2
      go_ret
      refine ⟨_, rfl, ?_, grown_of (keptW HV.out.2.2.1 d2) _, (keptW HV.out.2.2.1 d2).size⟩
      rw [HF.out.2]
      have hfin : B ++ [110, 116].flatMap (putS a) = B2 := by
        rw [← E2.out.1, ← E1.out.1, ← HN.out]
        simp [putS]
      rw [hfin]
      exact o2.mono (Nat.le_trans HV.out.2.2.1.size d1.size)
    have e9 : (a.kind == 9) = false := by simpa using h9
    by_cases h10 : a.kind = 10
    · have hl : l = [110, 116] := by have := HL.out.1; rw [h10] at this; exact (Option.some.inj this).symm
      have HF : Hid ([110, 116].all (fitsA a) = true ∧ FL = B ++ [110, 116].flatMap (putS a)) := ⟨by have := HL.out.2.1; rw [hl] at this; exact this, by have := HL.out.2.2; rw [hl] at this; exact this⟩
      have e10 : (a.kind == 10) = true := by rw [h10]; rfl
      clear hl h10
      have hn := name_short (show nameB (txt a.name) = true from fits_in (c := 110) HF.out.1 (by decide))
      have SZ : Hid (a.name.size ≤ 65535 ∧ True) := ⟨by omega, trivial⟩
      clear hn
      have ct := seq_cast HH.out.2.1.t.1
      obtain ⟨nn, hnn⟩ : ∃ z, a.tag.toNat = z := ⟨_, rfl⟩
      have HN : Hid (a.tag.toNat = nn) := hnn
      rw [hnn] at ct
      clear hnn
      have HZ : Hid (∀ U, Below V.heap.size V U → U.cell? ⟨w.heap.size, 1, none⟩ = some (.string a.name) ∧ U.cell? ⟨w.heap.size, 3, none⟩ = some (.int .u64 (nn : Int))) := fun U b => ⟨box_at (HV2.out U b) rfl, by rw [ct]; exact box_at (HV2.out U b) rfl⟩
      obtain ⟨y1, y3⟩ := HZ.out V (Below.refl _ _)
      clear ct
      obtain ⟨B1, hB1⟩ : ∃ z, B ++ textL a.name = z := ⟨_, rfl⟩
      obtain ⟨m1, hm1⟩ : ∃ z, B1.length = z := ⟨_, rfl⟩
      have E1 : Hid (B ++ textL a.name = B1 ∧ B1.length = m1 ∧ B1.length ≤ 170000) := ⟨hB1, hm1, by rw [← hB1, List.length_append]; have h1 := textL_len (s := a.name); have h2 := HW.out.2; have h3 := SZ.out.1; omega⟩
      clear hB1 hm1
      have T1 : Hid (∀ V ad cd, Holds V (.slice ad 1 cd) B → Calls Tryd.prog 39 #[.slice ad 1 cd, .string a.name] V (ChPost m1 B1 V)) := fun V ad cd h => by have h := rtext_ch B a.name m1 1 HV.out.2.2.2.2 (by rw [E1.out.1]; exact E1.out.2.1) (by have := HW.out.2; omega) (by have := SZ.out.1; omega) ad cd V h; rw [E1.out.1] at h; exact h
      obtain ⟨B2, hB2⟩ : ∃ z, B1 ++ putL 8 nn = z := ⟨_, rfl⟩
      obtain ⟨m2, hm2⟩ : ∃ z, B2.length = z := ⟨_, rfl⟩
      have E2 : Hid (B1 ++ putL 8 nn = B2 ∧ B2.length = m2 ∧ B2.length ≤ 240000) := ⟨hB2, hm2, by rw [← hB2, List.length_append, putL_length]; have h2 := E1.out.2.2; omega⟩
      clear hB2 hm2
      have T2 : Hid (∀ V ad cd, Holds V (.slice ad m1 cd) B1 → Calls Tryd.prog 38 #[.slice ad m1 cd, .int .i64 8, .int .u64 (nn : Int)] V (ChPost m2 B2 V)) := fun V ad cd h => by have h := rput_ch B1 8 nn m2 m1 E1.out.2.1 (by rw [E2.out.1]; exact E2.out.2.1) (by have := E1.out.2.2; omega) (by decide) ad cd V h; rw [E2.out.1] at h; exact h
      go_wp2
      refine wp_region_noPanic ?_
      refine wp_region_held_drew (S := fun U => Below V.heap.size V U) (by kernel_rfl) (drew_below V) (fun hHeld => ?_)
      refine wpAnyH_take (i := 0) (v := .slice va 1 vc) (by simp only [List.getElem?_toArray, List.getElem?_cons_zero]; rfl) (by kernel_rfl) (by kernel_rfl) (by kernel_rfl) (fun _ _ _ h => h) (Or.inl ⟨by rfl, (by intro wq hSq; clear hSq hHeld; go_simp)⟩) (by assumption) ?_
      try simp only [Act.put, List.setIfInBounds_toArray, List.set_cons_zero, List.set_cons_succ]
      refine wpAnyH_take (i := 1) (v := ?_) (by simp only [List.getElem?_toArray, List.getElem?_cons_succ, List.getElem?_cons_zero]; rfl) (by kernel_rfl) (by kernel_rfl) (by kernel_rfl) (fun _ _ _ h => h) (Or.inl ⟨by rfl, ?_⟩) (by assumption) ?_
      rotate_left
      · (intro wq hSq; clear hSq; go_simp; try with_reducible rfl)
      try simp only [Act.put, List.setIfInBounds_toArray, List.set_cons_zero, List.set_cons_succ]
      refine wpAnyH_take (i := 2) (v := .string a.name) (by simp only [List.getElem?_toArray, List.getElem?_cons_succ, List.getElem?_cons_zero]; rfl) (by kernel_rfl) (by kernel_rfl) (by kernel_rfl) (fun _ _ _ h => h) (Or.inl ⟨by rfl, (by intro wq hSq; have hcq := HZ.out wq hSq; obtain ⟨q1, q2⟩ := hcq; clear hSq hHeld; go_simp)⟩) (by assumption) ?_
      try simp only [Act.put, List.setIfInBounds_toArray, List.set_cons_zero, List.set_cons_succ]
      refine wpAnyH_take (i := 4) (v := ?_) (by simp only [List.getElem?_toArray, List.getElem?_cons_succ, List.getElem?_cons_zero]; rfl) (by kernel_rfl) (by kernel_rfl) (by kernel_rfl) (fun _ _ _ h => h) (Or.inl ⟨by rfl, ?_⟩) (by assumption) ?_
      rotate_left
      · (intro wq hSq; clear hSq; go_simp; try with_reducible rfl)
      try simp only [Act.put, List.setIfInBounds_toArray, List.set_cons_zero, List.set_cons_succ]
      refine wpAnyH_take (i := 5) (v := .int .u64 (nn : Int)) (by simp only [List.getElem?_toArray, List.getElem?_cons_succ, List.getElem?_cons_zero]; rfl) (by kernel_rfl) (by kernel_rfl) (by kernel_rfl) (fun _ _ _ h => h) (Or.inl ⟨by rfl, (by intro wq hSq; have hcq := HZ.out wq hSq; obtain ⟨q1, q2⟩ := hcq; clear hSq hHeld; go_simp)⟩) (by assumption) ?_
      try simp only [Act.put, List.setIfInBounds_toArray, List.set_cons_zero, List.set_cons_succ]
      refine wpAnyH_ready (rs := [3]) (by kernel_rfl) (by simp) ?_
      refine AllReadyH.cons rfl (fun K hK => ?_) AllReadyH.nil
      have HS3 : Hid _ := hHeld
      clear hHeld
      go_simp
      refine (T1.out _ va vc (HW.out.1.below HS3.out (Nat.le_refl _))).mono ?_
      rintro e u1 ⟨p1, q1, rfl, o1, b1⟩
      have d1 : Below V.heap.size V u1 := keptW HS3.out b1
      dsimp only
      refine hK.out _ _ (d1) (fun hHeld => ?_)
      clear hK K
      try simp only [Act.put, List.setIfInBounds_toArray, List.set_cons_zero, List.set_cons_succ]
      refine wpAnyH_ready (rs := [6]) (by kernel_rfl) (by simp) ?_
      refine AllReadyH.cons rfl (fun K hK => ?_) AllReadyH.nil
      have HS6 : Hid _ := hHeld
      clear hHeld
      go_simp
      refine (T2.out u1 p1 q1 o1.holds).mono ?_
      rintro e u2 ⟨p2, q2, rfl, o2, b2⟩
      have d2 : Below V.heap.size V u2 := keptW d1 b2
      dsimp only
      refine hK.out _ _ (d2) (fun hHeld => ?_)
      clear hK K
      try simp only [Act.put, List.setIfInBounds_toArray, List.set_cons_zero, List.set_cons_succ]
      refine wpAnyH_take (i := 7) (v := ?_) (by simp only [List.getElem?_toArray, List.getElem?_cons_succ, List.getElem?_cons_zero]; rfl) (by kernel_rfl) (by kernel_rfl) (by kernel_rfl) (fun _ _ _ h => h) (Or.inl ⟨by rfl, ?_⟩) (by assumption) ?_
      rotate_left
      · (intro wq hSq; clear hSq; go_simp; try with_reducible rfl)
      try simp only [Act.put, List.setIfInBounds_toArray, List.set_cons_zero, List.set_cons_succ]
      refine wpAnyH_done (by kernel_rfl) ?_ _
      refine NoPanic.normal ?_
      go_wp2
      go_ret
      refine ⟨_, rfl, ?_, grown_of (keptW HV.out.2.2.1 d2) _, (keptW HV.out.2.2.1 d2).size⟩
      rw [HF.out.2]
      have hfin : B ++ [110, 116].flatMap (putS a) = B2 := by
        rw [← E2.out.1, ← E1.out.1, ← HN.out]
        simp [putS]
      rw [hfin]
      exact o2.mono (Nat.le_trans HV.out.2.2.1.size d1.size)
    have e10 : (a.kind == 10) = false := by simpa using h10
    by_cases h11 : a.kind = 11
    · have hl : l = [115, 99] := by have := HL.out.1; rw [h11] at this; exact (Option.some.inj this).symm
      have HF : Hid ([115, 99].all (fitsA a) = true ∧ FL = B ++ [115, 99].flatMap (putS a)) := ⟨by have := HL.out.2.1; rw [hl] at this; exact this, by have := HL.out.2.2; rw [hl] at this; exact this⟩
      have e11 : (a.kind == 11) = true := by rw [h11]; rfl
      clear hl h11
      have cn := wrap_u64 a.n
      obtain ⟨nn, hnn⟩ : ∃ z, u64 a.n = z := ⟨_, rfl⟩
      have HN : Hid (u64 a.n = nn) := hnn
      rw [hnn] at cn
      clear hnn
      have ct := wrap_u64 a.to
      obtain ⟨tt, htt⟩ : ∃ z, u64 a.to = z := ⟨_, rfl⟩
      have HT : Hid (u64 a.to = tt) := htt
      rw [htt] at ct
      clear htt
      have HZ : Hid (∀ U, Below V.heap.size V U → U.cell? ⟨w.heap.size, 4, none⟩ = some (.int .i64 a.to) ∧ U.cell? ⟨w.heap.size, 2, none⟩ = some (.int .i64 a.n)) := fun U b => ⟨box_at (HV2.out U b) rfl, box_at (HV2.out U b) rfl⟩
      obtain ⟨y4, y2⟩ := HZ.out V (Below.refl _ _)
      obtain ⟨B1, hB1⟩ : ∃ z, B ++ putL 1 tt = z := ⟨_, rfl⟩
      obtain ⟨m1, hm1⟩ : ∃ z, B1.length = z := ⟨_, rfl⟩
      have E1 : Hid (B ++ putL 1 tt = B1 ∧ B1.length = m1 ∧ B1.length ≤ 170000) := ⟨hB1, hm1, by rw [← hB1, List.length_append, putL_length]; have h2 := HW.out.2; omega⟩
      clear hB1 hm1
      have T1 : Hid (∀ V ad cd, Holds V (.slice ad 1 cd) B → Calls Tryd.prog 38 #[.slice ad 1 cd, .int .i64 1, .int .u64 (tt : Int)] V (ChPost m1 B1 V)) := fun V ad cd h => by have h := rput_ch B 1 tt m1 1 HV.out.2.2.2.2 (by rw [E1.out.1]; exact E1.out.2.1) (by have := HW.out.2; omega) (by decide) ad cd V h; rw [E1.out.1] at h; exact h
      obtain ⟨B2, hB2⟩ : ∃ z, B1 ++ putL 2 nn = z := ⟨_, rfl⟩
      obtain ⟨m2, hm2⟩ : ∃ z, B2.length = z := ⟨_, rfl⟩
      have E2 : Hid (B1 ++ putL 2 nn = B2 ∧ B2.length = m2 ∧ B2.length ≤ 240000) := ⟨hB2, hm2, by rw [← hB2, List.length_append, putL_length]; have h2 := E1.out.2.2; omega⟩
      clear hB2 hm2
      have T2 : Hid (∀ V ad cd, Holds V (.slice ad m1 cd) B1 → Calls Tryd.prog 38 #[.slice ad m1 cd, .int .i64 2, .int .u64 (nn : Int)] V (ChPost m2 B2 V)) := fun V ad cd h => by have h := rput_ch B1 2 nn m2 m1 E1.out.2.1 (by rw [E2.out.1]; exact E2.out.2.1) (by have := E1.out.2.2; omega) (by decide) ad cd V h; rw [E2.out.1] at h; exact h
      go_wp2
      refine wp_region_noPanic ?_
      refine wp_region_held_drew (S := fun U => Below V.heap.size V U) (by kernel_rfl) (drew_below V) (fun hHeld => ?_)
      refine wpAnyH_take (i := 0) (v := .slice va 1 vc) (by simp only [List.getElem?_toArray, List.getElem?_cons_zero]; rfl) (by kernel_rfl) (by kernel_rfl) (by kernel_rfl) (fun _ _ _ h => h) (Or.inl ⟨by rfl, (by intro wq hSq; clear hSq hHeld; go_simp)⟩) (by assumption) ?_
      try simp only [Act.put, List.setIfInBounds_toArray, List.set_cons_zero, List.set_cons_succ]
      refine wpAnyH_take (i := 1) (v := ?_) (by simp only [List.getElem?_toArray, List.getElem?_cons_succ, List.getElem?_cons_zero]; rfl) (by kernel_rfl) (by kernel_rfl) (by kernel_rfl) (fun _ _ _ h => h) (Or.inl ⟨by rfl, ?_⟩) (by assumption) ?_
      rotate_left
      · (intro wq hSq; clear hSq; go_simp; try with_reducible rfl)
      try simp only [Act.put, List.setIfInBounds_toArray, List.set_cons_zero, List.set_cons_succ]
      refine wpAnyH_take (i := 2) (v := .int .i64 a.to) (by simp only [List.getElem?_toArray, List.getElem?_cons_succ, List.getElem?_cons_zero]; rfl) (by kernel_rfl) (by kernel_rfl) (by kernel_rfl) (fun _ _ _ h => h) (Or.inl ⟨by rfl, (by intro wq hSq; have hcq := HZ.out wq hSq; obtain ⟨q1, q2⟩ := hcq; clear hSq hHeld; go_simp)⟩) (by assumption) ?_
      try simp only [Act.put, List.setIfInBounds_toArray, List.set_cons_zero, List.set_cons_succ]
      refine wpAnyH_take (i := 3) (v := .int .u64 (tt : Int)) (by simp only [List.getElem?_toArray, List.getElem?_cons_succ, List.getElem?_cons_zero]; rfl) (by kernel_rfl) (by kernel_rfl) (by kernel_rfl) (fun _ _ _ h => h) (Or.inl ⟨by rfl, (by intro wq hSq; clear hSq hHeld; go_simp)⟩) (by assumption) ?_
      try simp only [Act.put, List.setIfInBounds_toArray, List.set_cons_zero, List.set_cons_succ]
      refine wpAnyH_take (i := 5) (v := ?_) (by simp only [List.getElem?_toArray, List.getElem?_cons_succ, List.getElem?_cons_zero]; rfl) (by kernel_rfl) (by kernel_rfl) (by kernel_rfl) (fun _ _ _ h => h) (Or.inl ⟨by rfl, ?_⟩) (by assumption) ?_
      rotate_left
      · (intro wq hSq; clear hSq; go_simp; try with_reducible rfl)
      try simp only [Act.put, List.setIfInBounds_toArray, List.set_cons_zero, List.set_cons_succ]
      refine wpAnyH_take (i := 6) (v := .int .i64 a.n) (by simp only [List.getElem?_toArray, List.getElem?_cons_succ, List.getElem?_cons_zero]; rfl) (by kernel_rfl) (by kernel_rfl) (by kernel_rfl) (fun _ _ _ h => h) (Or.inl ⟨by rfl, (by intro wq hSq; have hcq := HZ.out wq hSq; obtain ⟨q1, q2⟩ := hcq; clear hSq hHeld; go_simp)⟩) (by assumption) ?_
      try simp only [Act.put, List.setIfInBounds_toArray, List.set_cons_zero, List.set_cons_succ]
      refine wpAnyH_take (i := 7) (v := .int .u64 (nn : Int)) (by simp only [List.getElem?_toArray, List.getElem?_cons_succ, List.getElem?_cons_zero]; rfl) (by kernel_rfl) (by kernel_rfl) (by kernel_rfl) (fun _ _ _ h => h) (Or.inl ⟨by rfl, (by intro wq hSq; clear hSq hHeld; go_simp)⟩) (by assumption) ?_
      try simp only [Act.put, List.setIfInBounds_toArray, List.set_cons_zero, List.set_cons_succ]
      refine wpAnyH_ready (rs := [4]) (by kernel_rfl) (by simp) ?_
      refine AllReadyH.cons rfl (fun K hK => ?_) AllReadyH.nil
      have HS4 : Hid _ := hHeld
      clear hHeld
      go_simp
      refine (T1.out _ va vc (HW.out.1.below HS4.out (Nat.le_refl _))).mono ?_
      rintro e u1 ⟨p1, q1, rfl, o1, b1⟩
      have d1 : Below V.heap.size V u1 := keptW HS4.out b1
      dsimp only
      refine hK.out _ _ (d1) (fun hHeld => ?_)
      clear hK K
      try simp only [Act.put, List.setIfInBounds_toArray, List.set_cons_zero, List.set_cons_succ]
      refine wpAnyH_ready (rs := [8]) (by kernel_rfl) (by simp) ?_
      refine AllReadyH.cons rfl (fun K hK => ?_) AllReadyH.nil
      have HS8 : Hid _ := hHeld
      clear hHeld
      go_simp
      refine (T2.out u1 p1 q1 o1.holds).mono ?_
      rintro e u2 ⟨p2, q2, rfl, o2, b2⟩
      have d2 : Below V.heap.size V u2 := keptW d1 b2
      dsimp only
      refine hK.out _ _ (d2) (fun hHeld => ?_)
      clear hK K
      try simp only [Act.put, List.setIfInBounds_toArray, List.set_cons_zero, List.set_cons_succ]
      refine wpAnyH_take (i := 9) (v := ?_) (by simp only [List.getElem?_toArray, List.getElem?_cons_succ, List.getElem?_cons_zero]; rfl) (by kernel_rfl) (by kernel_rfl) (by kernel_rfl) (fun _ _ _ h => h) (Or.inl ⟨by rfl, ?_⟩) (by assumption) ?_
      rotate_left
      · (intro wq hSq; clear hSq; go_simp; try with_reducible rfl)
      try simp only [Act.put, List.setIfInBounds_toArray, List.set_cons_zero, List.set_cons_succ]
      refine wpAnyH_done (by kernel_rfl) ?_ _
      refine NoPanic.normal ?_
      go_wp2
      go_ret
      refine ⟨_, rfl, ?_, grown_of (keptW HV.out.2.2.1 d2) _, (keptW HV.out.2.2.1 d2).size⟩
      rw [HF.out.2]
      have hfin : B ++ [115, 99].flatMap (putS a) = B2 := by
        rw [← E2.out.1, ← E1.out.1, ← HN.out, ← HT.out]
        simp [putS]
      rw [hfin]
      exact o2.mono (Nat.le_trans HV.out.2.2.1.size d1.size)
    have e11 : (a.kind == 11) = false := by simpa using h11
    have h12 : a.kind = 12 := by have := HK.out; omega
    have hl : l = [] := by have := HL.out.1; rw [h12] at this; exact (Option.some.inj this).symm
    have HF : Hid (FL = B) := by have := HL.out.2.2; rw [hl] at this; show FL = B; rw [this]; simp
    clear hl h12
    go_wp2
    go_ret
    rw [HF.out]
    exact ⟨_, rfl, HV.out.1.mono HV.out.2.2.2.1, grown_of HV.out.2.2.1 _, HV.out.2.2.1.size⟩
end Go.Proofs.YteimdolckhpndaaDoor
