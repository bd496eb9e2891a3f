/-
  The document's BYTES OF A PACKET, by their contract.
-/
import Derived.Test.YtopacoghnofliaaDoorJRGood19
import Derived.Test.YtopacoghnofliaaDoorJBytes19
import Derived.Test.YtopacoghnofliaaDoorRMsgs
import Derived.Test.YtopacoghnofliaaDoorJLives19
import Derived.Deep.RegionHeld3
namespace Go.Proofs.YtopacoghnofliaaDoor
open Go.RowKit

theorem rput_ch (B : List UInt8) (k v n L : Nat) (_hn : B.length = n) (hL : (B ++ putL k v).length = L) (hB : B.length ≤ 1000000) (hg : goodB k = true) (a : Option Addr) (c : Nat) (V : World) (h : Holds V (.slice a n c) B) :
    Calls Tryd.prog 28 #[.slice a n c, .int .i64 (k : Int), .int .u64 (v : Int)] V fun e w' => ∃ a' c', e = .returned (.slice a' L c') ∧ Owns w' V.heap.size 5 (.slice a' L c') (B ++ putL k v) ∧ Below V.heap.size V w' := by
  refine (rput_good _ B k v V h (by omega) hg).mono ?_
  rintro e w' ⟨v', rfl, o, b⟩
  obtain ⟨a', c', h⟩ := o.holds.slice
  rw [hL] at h
  subst h
  exact ⟨a', c', rfl, o, b⟩
theorem rmsg_ch (B : List UInt8) (m : Ms) (n L : Nat) (_hn : B.length = n) (hL : (B ++ bytesM m).length = L) (hB : B.length ≤ 1000000) (a : Option Addr) (c : Nat) (V : World) (h : Holds V (.slice a n c) B) (hm : m.Fits) (hs : m.Short) :
    Calls Tryd.prog 29 #[.slice a n c, mv m] V fun e w' => ∃ a' c', e = .returned (.slice a' L c') ∧ Owns w' V.heap.size 5 (.slice a' L c') (B ++ bytesM m) ∧ Below V.heap.size V w' := by
  refine (rmsg_any _ B m V h hB hm hs).mono ?_
  rintro e w' ⟨v', rfl, o, b⟩
  obtain ⟨a', c', h⟩ := o.holds.slice
  rw [hL] at h
  subst h
  exact ⟨a', c', rfl, o, b⟩
theorem putL_one (v : Nat) : putL 1 v = [UInt8.ofNat v] := by simp [putL]
theorem wrap_byte {n : Int} (h : 0 ≤ n) (h2 : n < 256) : IntKind.u8.wrap n = (((UInt8.ofNat (u64 n)).toNat : Nat) : Int) := by
  have e := u64_of h (by omega)
  have : (UInt8.ofNat (u64 n)).toNat = u64 n % 256 := by simp
  rw [this]
  unfold IntKind.wrap
  simp only [IntKind.signed, IntKind.bits]
  simp
  omega
set_option maxRecDepth 20000 in
set_option maxHeartbeats 8000000 in
theorem rbytesP_any (p : Pk) (w : World) (hp : p.Fits) : Calls Tryd.prog 15 #[pv p] w fun e w' => ∃ v', e = .returned v' ∧ Owns w' w.heap.size 5 v' (bytesP p) ∧ Below w.heap.size w w' := by
  obtain ⟨W, fold⟩ : ∃ W, w.alloc (.cells #[.int .i64 p.kind, .int .i64 p.fr, .int .i64 p.dest, .int .u64 p.ep, .int .u16 p.num, .int .u64 p.mask, .int .i64 p.m.origin, .int .u64 p.m.seq, .int .i64 p.m.hop, .string p.m.ex, .string p.m.key, .string p.m.body] 29) = W := ⟨_, rfl⟩
  have b0 : Below w.heap.size w W := by rw [← fold]; exact box_below w _
  have x0 : W.heap[w.heap.size]? = some (.cells (pcells p).toArray 29 (0, 0)) := by rw [← fold]; exact heap_alloc_new w _
  have hG := rgoodP_any p W hp.m
  have H0 : Hid (Below w.heap.size w W ∧ W.heap[w.heap.size]? = some (.cells (pcells p).toArray 29 (0, 0))) := ⟨b0, x0⟩
  have HF : Hid p.Fits := hp
  clear b0 x0 hp
  go_enter Tryd.func15, Tryd.ntmps15
  go_wp2_with (refine wpList_load_row rfl 29 _ rfl w.heap.size rfl 29 (pcells p).toArray (0, 0) _ H0.out.2 Tryd.underlying29 rfl info12 ?_)
  try rw [fold]
  refine hG.mono ?_
  rintro e V ⟨rfl, b1⟩
  clear hG
  have HV : Hid (Below w.heap.size w V ∧ V.heap[w.heap.size]? = some (.cells (pcells p).toArray 29 (0, 0))) := ⟨keptW H0.out.1 b1, (b1.block _ (Array.getElem?_eq_some_iff.1 H0.out.2).1).trans H0.out.2⟩
  clear b1
  cases hg : goodP p
  · have HB : Hid (bytesP p = []) := bytesP_none hg
    clear hg
    go_wp2
    go_ret
    exact ⟨_, rfl, by rw [HB.out]; exact owns_nil _ _ _, HV.out.1⟩
  have HB : Hid (bytesP p = sealL (rawP p) ∧ goodP p = true) := ⟨bytesP_eq hg, hg⟩
  have hgt := goodP_tells hg
  have hkt := (kindB_tells hgt.2.2.2).1
  have c0 := wrap_byte (n := p.kind) (by omega) (by omega)
  have c1 := wrap_byte (n := p.fr) (by omega) (by omega)
  have c2 := wrap_byte (n := p.dest) (by omega) (by omega)
  have c3 := seq_cast HF.out.e.1
  have c5 := seq_cast HF.out.x.1
  obtain ⟨kk, hkk⟩ : ∃ z, UInt8.ofNat (u64 p.kind) = z := ⟨_, rfl⟩
  obtain ⟨ff, hff⟩ : ∃ z, UInt8.ofNat (u64 p.fr) = z := ⟨_, rfl⟩
  obtain ⟨dd, hdd⟩ : ∃ z, UInt8.ofNat (u64 p.dest) = z := ⟨_, rfl⟩
  obtain ⟨ee, hee⟩ : ∃ z, p.ep.toNat = z := ⟨_, rfl⟩
  have HE : Hid (headB p = [kk, ff, dd] ++ putL 8 ee) := by show headB p = _; unfold headB; rw [putL_one, putL_one, putL_one, hkk, hff, hdd, hee]; rfl
  rw [hkk] at c0
  rw [hff] at c1
  rw [hdd] at c2
  rw [hee] at c3
  clear hkk hff hdd hee hg hgt hkt
  obtain ⟨V1, fold1⟩ : ∃ X, V.alloc (.cells #[.int .u8 (kk.toNat : Int), .int .u8 (ff.toNat : Int), .int .u8 (dd.toNat : Int)] 5) = X := ⟨_, rfl⟩
  have b1 : Below V.heap.size V V1 := by rw [← fold1]; exact box_below V _
  have o1 : Owns V1 V.heap.size 5 (.slice (some ⟨V.heap.size, 0, none⟩) 3 3) [kk, ff, dd] := by rw [← fold1]; exact owns_new V V.heap.size 5 [kk, ff, dd] (Nat.le_refl _) (by simp [maxLen])
  have HC : Hid (∀ U, Below V1.heap.size V1 U → U.cell? ⟨w.heap.size, 0, none⟩ = some (.int .i64 p.kind) ∧ U.cell? ⟨w.heap.size, 3, none⟩ = some (.int .u64 (ee : Int))) := fun U b => by
    have hx1 := (b1.block _ (Array.getElem?_eq_some_iff.1 HV.out.2).1).trans HV.out.2
    obtain ⟨a0, a1, a2, a3, _⟩ := cells12 ((b.block _ (Array.getElem?_eq_some_iff.1 hx1).1).trans hx1)
    rw [c3]
    exact ⟨a0, a3⟩
  clear c3
  have HV1 : Hid (Below w.heap.size w V1 ∧ V1.heap[w.heap.size]? = some (.cells (pcells p).toArray 29 (0, 0))) := ⟨keptW HV.out.1 b1, (b1.block _ (Array.getElem?_eq_some_iff.1 HV.out.2).1).trans HV.out.2⟩
  obtain ⟨y0, y1, y2, _⟩ := cells12 HV.out.2
  obtain ⟨z0, z3⟩ := HC.out V1 (Below.refl _ _)
  have hP := rput_ch [kk, ff, dd] 8 ee 3 11 rfl (by simp [putL_length]) (by simp) (by decide) (some ⟨V.heap.size, 0, none⟩) 3 V1 o1.holds
  clear b1 o1
  go_wp2_with fail
  try rw [fold1]
  refine hP.mono ?_
  rintro e w4 ⟨a4, k4, rfl, o4, b4⟩
  have HD : Hid (Below V1.heap.size V1 w4) := b4
  clear hP y0 y1 y2 z0 z3 b4
  obtain ⟨y0, y3⟩ := HC.out w4 HD.out
  rw [← HE.out] at o4
  obtain ⟨HBh, hHBh⟩ : ∃ z, headB p = z := ⟨_, rfl⟩
  rw [hHBh] at o4
  have HO : Hid (Holds w4 (.slice a4 11 k4) HBh ∧ headB p = HBh ∧ HBh.length = 11) := ⟨o4.holds, hHBh, by rw [← hHBh]; exact headB_length p⟩
  clear o4 hHBh c0 c1 c2
  have hx4 := (HD.out.block _ (Array.getElem?_eq_some_iff.1 HV1.out.2).1).trans HV1.out.2
  have HX4 : Hid _ := hx4
  clear hx4
  by_cases h3 : p.kind = 3
  · have q3 : (p.kind == 3) = true := by rw [h3]; rfl
    have HR : Hid (rawP p = HBh ++ (putL 2 p.num.toNat ++ bytesM p.m) ∧ p.m.Short ∧ p.kind = 3) := ⟨by unfold rawP tailB; rw [if_pos h3, HO.out.2.1], goodP_short HB.out.2 h3, h3⟩
    have hnn := HF.out.n
    obtain ⟨nn, hn⟩ : ∃ z, p.num.toNat = z := ⟨_, rfl⟩
    have cn : IntKind.u64.wrap p.num = (nn : Int) := by rw [← hn, IntKind.wrap_u64]; omega
    rw [hn] at HR
    have HC3 : Hid (∀ U, Below w4.heap.size w4 U → U.cell? ⟨w.heap.size, 4, none⟩ = some (.int .u16 p.num) ∧ U.cell? ⟨w.heap.size, 6, none⟩ = some (.int .i64 p.m.origin) ∧ U.cell? ⟨w.heap.size, 7, none⟩ = some (.int .u64 p.m.seq) ∧ U.cell? ⟨w.heap.size, 8, none⟩ = some (.int .i64 p.m.hop) ∧ U.cell? ⟨w.heap.size, 9, none⟩ = some (.string p.m.ex) ∧ U.cell? ⟨w.heap.size, 10, none⟩ = some (.string p.m.key) ∧ U.cell? ⟨w.heap.size, 11, none⟩ = some (.string p.m.body)) := fun U b => by
      obtain ⟨a0, a1, a2, a3, a4, a5, a6, a7, a8, a9, a10, a11⟩ := cells12 ((b.block _ (Array.getElem?_eq_some_iff.1 HX4.out).1).trans HX4.out)
      exact ⟨a4, a6, a7, a8, a9, a10, a11⟩
    clear h3 hn hnn y3
    obtain ⟨LM, hLM⟩ : ∃ z, (HBh ++ putL 2 nn ++ bytesM p.m).length = z := ⟨_, rfl⟩
    have HM : Hid ((HBh ++ putL 2 nn ++ bytesM p.m).length = LM) := hLM
    clear hLM
    go_wp2
    refine wp_region_noPanic ?_
    refine wp_region_held_drew (S := fun U => Below w4.heap.size w4 U) (by kernel_rfl) (drew_below w4) (fun hHeld => ?_)
    refine wpAnyH_take (i := 0) (v := .slice a4 11 k4) (by simp only [List.getElem?_toArray, List.getElem?_cons_zero]; rfl) (by kernel_rfl) (by kernel_rfl) (by kernel_rfl) (fun _ _ _ h => h) (Or.inl ⟨by rfl, (by intro wq hSq; clear hSq hHeld; go_simp)⟩) (by assumption) ?_
    try simp only [Act.put, List.setIfInBounds_toArray, List.set_cons_zero, List.set_cons_succ]
    refine wpAnyH_take (i := 1) (v := ?_) (by simp only [List.getElem?_toArray, List.getElem?_cons_succ, List.getElem?_cons_zero]; rfl) (by kernel_rfl) (by kernel_rfl) (by kernel_rfl) (fun _ _ _ h => h) (Or.inl ⟨by rfl, ?_⟩) (by assumption) ?_
    rotate_left
    · (intro wq hSq; clear hSq; go_simp; try with_reducible rfl)
    try simp only [Act.put, List.setIfInBounds_toArray, List.set_cons_zero, List.set_cons_succ]
    refine wpAnyH_take (i := 2) (v := .int .u16 p.num) (by simp only [List.getElem?_toArray, List.getElem?_cons_succ, List.getElem?_cons_zero]; rfl) (by kernel_rfl) (by kernel_rfl) (by kernel_rfl) (fun _ _ _ h => h) (Or.inl ⟨by rfl, (by intro wq hSq; have hcq := HC3.out wq hSq; obtain ⟨q4, q6, q7, q8, q9, q10, q11⟩ := hcq; clear hSq hHeld; go_simp)⟩) (by assumption) ?_
    try simp only [Act.put, List.setIfInBounds_toArray, List.set_cons_zero, List.set_cons_succ]
    refine wpAnyH_take (i := 3) (v := .int .u64 (nn : Int)) (by simp only [List.getElem?_toArray, List.getElem?_cons_succ, List.getElem?_cons_zero]; rfl) (by kernel_rfl) (by kernel_rfl) (by kernel_rfl) (fun _ _ _ h => h) (Or.inl ⟨by rfl, (by intro wq hSq; clear hSq hHeld; go_simp)⟩) (by assumption) ?_
    try simp only [Act.put, List.setIfInBounds_toArray, List.set_cons_zero, List.set_cons_succ]
    refine wpAnyH_take (i := 5) (v := ?_) (by simp only [List.getElem?_toArray, List.getElem?_cons_succ, List.getElem?_cons_zero]; rfl) (by kernel_rfl) (by kernel_rfl) (by kernel_rfl) (fun _ _ _ h => h) (Or.inl ⟨by rfl, ?_⟩) (by assumption) ?_
    rotate_left
    · (intro wq hSq; clear hSq; go_simp; try with_reducible rfl)
    try simp only [Act.put, List.setIfInBounds_toArray, List.set_cons_zero, List.set_cons_succ]
    refine wpAnyH_take (i := 6) (v := mv p.m) (by simp only [List.getElem?_toArray, List.getElem?_cons_succ, List.getElem?_cons_zero]; rfl) (by kernel_rfl) (by kernel_rfl) (by kernel_rfl) (fun _ _ _ h => h) (Or.inl ⟨by rfl, (by intro wq hSq; have hcq := HC3.out wq hSq; obtain ⟨q4, q6, q7, q8, q9, q10, q11⟩ := hcq; clear hSq hHeld; go_simp)⟩) (by assumption) ?_
    try simp only [Act.put, List.setIfInBounds_toArray, List.set_cons_zero, List.set_cons_succ]
    refine wpAnyH_ready (rs := [4]) (by kernel_rfl) (by simp) ?_
    refine AllReadyH.cons rfl (fun K hK => ?_) AllReadyH.nil
    have HS4 : Hid _ := hHeld
    clear hHeld
    go_simp
    refine (rput_ch HBh 2 nn 11 13 HO.out.2.2 (by rw [List.length_append, putL_length, HO.out.2.2]) (by rw [HO.out.2.2]; omega) (by decide) a4 k4 _ (HO.out.1.below HS4.out (Nat.le_refl _))).mono ?_
    rintro e u1 ⟨p1, q1, rfl, o1, b1⟩
    have d1 : Below w4.heap.size w4 u1 := keptW HS4.out b1
    have HO1 : Hid (Holds u1 (.slice p1 13 q1) (HBh ++ putL 2 nn)) := o1.holds
    clear o1 b1
    try dsimp only
    refine hK.out _ _ (d1) (fun hHeld => ?_)
    clear hK K
    try simp only [Act.put, List.setIfInBounds_toArray, List.set_cons_zero, List.set_cons_succ]
    refine wpAnyH_ready (rs := [7]) (by kernel_rfl) (by simp) ?_
    refine AllReadyH.cons rfl (fun K hK => ?_) AllReadyH.nil
    have HS7 : Hid _ := hHeld
    clear hHeld
    go_simp
    refine (rmsg_ch (HBh ++ putL 2 nn) p.m 13 LM (by rw [List.length_append, putL_length, HO.out.2.2]) HM.out (by rw [List.length_append, putL_length, HO.out.2.2]; omega) p1 q1 u1 HO1.out HF.out.m HR.out.2.1).mono ?_
    rintro e w5 ⟨a5, k5, rfl, o3, b3⟩
    have d3 : Below w4.heap.size w4 w5 := keptW HS7.out b3
    try dsimp only
    refine hK.out _ _ (d3) (fun hHeld => ?_)
    clear hK K
    try simp only [Act.put, List.setIfInBounds_toArray, List.set_cons_zero, List.set_cons_succ]
    refine wpAnyH_take (i := 8) (v := ?_) (by simp only [List.getElem?_toArray, List.getElem?_cons_succ, List.getElem?_cons_zero]; rfl) (by kernel_rfl) (by kernel_rfl) (by kernel_rfl) (fun _ _ _ h => h) (Or.inl ⟨by rfl, ?_⟩) (by assumption) ?_
    rotate_left
    · (intro wq hSq; clear hSq; go_simp; try with_reducible rfl)
    try simp only [Act.put, List.setIfInBounds_toArray, List.set_cons_zero, List.set_cons_succ]
    refine wpAnyH_done (by kernel_rfl) ?_ _
    refine NoPanic.normal ?_
    have hS := rseal_any (.slice a5 LM k5) (HBh ++ putL 2 nn ++ bytesM p.m) w5 o3.holds
    have HZ : Hid (Below w4.heap.size w4 w5) := d3
    clear o3 b3 d3
    go_wp2_with fail
    refine hS.mono ?_
    rintro e w6 ⟨v6, rfl, o6, b6⟩
    clear hS
    go_wp2
    go_ret
    exact ⟨_, rfl, by rw [HB.out.1, HR.out.1, ← List.append_assoc]; exact o6.mono (Nat.le_trans HV1.out.1.size (Nat.le_trans HD.out.size HZ.out.size)), keptW (keptW (keptW HV1.out.1 HD.out) HZ.out) b6⟩
  by_cases h4 : p.kind = 4
  · have q3 : (p.kind == 3) = false := by rw [h4]; rfl
    have q4 : (p.kind == 4) = true := by rw [h4]; rfl
    have HR : Hid (rawP p = HBh ++ (putL 2 p.num.toNat ++ putL 8 p.mask.toNat)) := by show rawP p = _; unfold rawP tailB; rw [if_neg h3, if_pos h4, HO.out.2.1]
    have hnn := HF.out.n
    have hxx := HF.out.x
    obtain ⟨nn, hn⟩ : ∃ z, p.num.toNat = z := ⟨_, rfl⟩
    obtain ⟨xx, hx⟩ : ∃ z, p.mask.toNat = z := ⟨_, rfl⟩
    have cn : IntKind.u64.wrap p.num = (nn : Int) := by rw [← hn, IntKind.wrap_u64]; omega
    rw [hn, hx] at HR
    rw [hx] at c5
    have HC3 : Hid (∀ U, Below w4.heap.size w4 U → U.cell? ⟨w.heap.size, 4, none⟩ = some (.int .u16 p.num) ∧ U.cell? ⟨w.heap.size, 5, none⟩ = some (.int .u64 (xx : Int))) := fun U b => by
      obtain ⟨a0, a1, a2, a3, a4, a5, _⟩ := cells12 ((b.block _ (Array.getElem?_eq_some_iff.1 HX4.out).1).trans HX4.out)
      rw [c5]
      exact ⟨a4, a5⟩
    clear h3 h4 hn hnn hx hxx y3 c5
    go_wp2
    refine wp_region_noPanic ?_
    refine wp_region_held_drew (S := fun U => Below w4.heap.size w4 U) (by kernel_rfl) (drew_below w4) (fun hHeld => ?_)
    refine wpAnyH_take (i := 0) (v := .slice a4 11 k4) (by simp only [List.getElem?_toArray, List.getElem?_cons_zero]; rfl) (by kernel_rfl) (by kernel_rfl) (by kernel_rfl) (fun _ _ _ h => h) (Or.inl ⟨by rfl, (by intro wq hSq; clear hSq hHeld; go_simp)⟩) (by assumption) ?_
    try simp only [Act.put, List.setIfInBounds_toArray, List.set_cons_zero, List.set_cons_succ]
    refine wpAnyH_take (i := 1) (v := ?_) (by simp only [List.getElem?_toArray, List.getElem?_cons_succ, List.getElem?_cons_zero]; rfl) (by kernel_rfl) (by kernel_rfl) (by kernel_rfl) (fun _ _ _ h => h) (Or.inl ⟨by rfl, ?_⟩) (by assumption) ?_
    rotate_left
    · (intro wq hSq; clear hSq; go_simp; try with_reducible rfl)
    try simp only [Act.put, List.setIfInBounds_toArray, List.set_cons_zero, List.set_cons_succ]
    refine wpAnyH_take (i := 2) (v := .int .u16 p.num) (by simp only [List.getElem?_toArray, List.getElem?_cons_succ, List.getElem?_cons_zero]; rfl) (by kernel_rfl) (by kernel_rfl) (by kernel_rfl) (fun _ _ _ h => h) (Or.inl ⟨by rfl, (by intro wq hSq; have hcq := HC3.out wq hSq; obtain ⟨q4, q5⟩ := hcq; clear hSq hHeld; go_simp)⟩) (by assumption) ?_
    try simp only [Act.put, List.setIfInBounds_toArray, List.set_cons_zero, List.set_cons_succ]
    refine wpAnyH_take (i := 3) (v := .int .u64 (nn : Int)) (by simp only [List.getElem?_toArray, List.getElem?_cons_succ, List.getElem?_cons_zero]; rfl) (by kernel_rfl) (by kernel_rfl) (by kernel_rfl) (fun _ _ _ h => h) (Or.inl ⟨by rfl, (by intro wq hSq; clear hSq hHeld; go_simp)⟩) (by assumption) ?_
    try simp only [Act.put, List.setIfInBounds_toArray, List.set_cons_zero, List.set_cons_succ]
    refine wpAnyH_take (i := 5) (v := ?_) (by simp only [List.getElem?_toArray, List.getElem?_cons_succ, List.getElem?_cons_zero]; rfl) (by kernel_rfl) (by kernel_rfl) (by kernel_rfl) (fun _ _ _ h => h) (Or.inl ⟨by rfl, ?_⟩) (by assumption) ?_
    rotate_left
    · (intro wq hSq; clear hSq; go_simp; try with_reducible rfl)
    try simp only [Act.put, List.setIfInBounds_toArray, List.set_cons_zero, List.set_cons_succ]
    refine wpAnyH_take (i := 6) (v := .int .u64 (xx : Int)) (by simp only [List.getElem?_toArray, List.getElem?_cons_succ, List.getElem?_cons_zero]; rfl) (by kernel_rfl) (by kernel_rfl) (by kernel_rfl) (fun _ _ _ h => h) (Or.inl ⟨by rfl, (by intro wq hSq; have hcq := HC3.out wq hSq; obtain ⟨q4, q5⟩ := hcq; clear hSq hHeld; go_simp)⟩) (by assumption) ?_
    try simp only [Act.put, List.setIfInBounds_toArray, List.set_cons_zero, List.set_cons_succ]
    refine wpAnyH_ready (rs := [4]) (by kernel_rfl) (by simp) ?_
    refine AllReadyH.cons rfl (fun K hK => ?_) AllReadyH.nil
    have HS4 : Hid _ := hHeld
    clear hHeld
    go_simp
    refine (rput_ch HBh 2 nn 11 13 HO.out.2.2 (by rw [List.length_append, putL_length, HO.out.2.2]) (by rw [HO.out.2.2]; omega) (by decide) a4 k4 _ (HO.out.1.below HS4.out (Nat.le_refl _))).mono ?_
    rintro e u1 ⟨p1, q1, rfl, o1, b1⟩
    have d1 : Below w4.heap.size w4 u1 := keptW HS4.out b1
    have HO1 : Hid (Holds u1 (.slice p1 13 q1) (HBh ++ putL 2 nn)) := o1.holds
    clear o1 b1
    try dsimp only
    refine hK.out _ _ (d1) (fun hHeld => ?_)
    clear hK K
    try simp only [Act.put, List.setIfInBounds_toArray, List.set_cons_zero, List.set_cons_succ]
    refine wpAnyH_ready (rs := [7]) (by kernel_rfl) (by simp) ?_
    refine AllReadyH.cons rfl (fun K hK => ?_) AllReadyH.nil
    have HS7 : Hid _ := hHeld
    clear hHeld
    go_simp
    refine (rput_ch (HBh ++ putL 2 nn) 8 xx 13 21 (by rw [List.length_append, putL_length, HO.out.2.2]) (by rw [List.length_append, List.length_append, putL_length, putL_length, HO.out.2.2]) (by rw [List.length_append, putL_length, HO.out.2.2]; omega) (by decide) p1 q1 u1 HO1.out).mono ?_
    rintro e w5 ⟨a5, k5, rfl, o3, b3⟩
    have d3 : Below w4.heap.size w4 w5 := keptW HS7.out b3
    try dsimp only
    refine hK.out _ _ (d3) (fun hHeld => ?_)
    clear hK K
    try simp only [Act.put, List.setIfInBounds_toArray, List.set_cons_zero, List.set_cons_succ]
    refine wpAnyH_take (i := 8) (v := ?_) (by simp only [List.getElem?_toArray, List.getElem?_cons_succ, List.getElem?_cons_zero]; rfl) (by kernel_rfl) (by kernel_rfl) (by kernel_rfl) (fun _ _ _ h => h) (Or.inl ⟨by rfl, ?_⟩) (by assumption) ?_
    rotate_left
    · (intro wq hSq; clear hSq; go_simp; try with_reducible rfl)
    try simp only [Act.put, List.setIfInBounds_toArray, List.set_cons_zero, List.set_cons_succ]
    refine wpAnyH_done (by kernel_rfl) ?_ _
    refine NoPanic.normal ?_
    have hS := rseal_any (.slice a5 21 k5) (HBh ++ putL 2 nn ++ putL 8 xx) w5 o3.holds
    have HZ : Hid (Below w4.heap.size w4 w5) := d3
    clear o3 b3 d3
    go_wp2_with fail
    refine hS.mono ?_
    rintro e w6 ⟨v6, rfl, o6, b6⟩
    clear hS
    go_wp2
    go_ret
    exact ⟨_, rfl, by rw [HB.out.1, HR.out, ← List.append_assoc]; exact o6.mono (Nat.le_trans HV1.out.1.size (Nat.le_trans HD.out.size HZ.out.size)), keptW (keptW (keptW HV1.out.1 HD.out) HZ.out) b6⟩
  · have q3 : (p.kind == 3) = false := by rw [beq_eq_false_iff_ne]; omega
    have q4 : (p.kind == 4) = false := by rw [beq_eq_false_iff_ne]; omega
    have HR : Hid (rawP p = HBh) := by show rawP p = HBh; unfold rawP tailB; rw [if_neg h3, if_neg h4, List.append_nil]; exact HO.out.2.1
    have hS := rseal_any (.slice a4 11 k4) HBh w4 HO.out.1
    clear h3 h4
    go_wp2_with fail
    refine hS.mono ?_
    rintro e w5 ⟨v5, rfl, o5, b5⟩
    clear hS
    go_wp2
    go_ret
    exact ⟨_, rfl, by rw [HB.out.1, HR.out]; exact o5.mono (Nat.le_trans HV1.out.1.size HD.out.size), keptW (keptW HV1.out.1 HD.out) b5⟩
end Go.Proofs.YtopacoghnofliaaDoor

/-
  PacketTells' law.
-/
namespace Go.Proofs.YtopacoghnofliaaDoor
open Go.RowKit

set_option maxRecDepth 20000 in
set_option maxHeartbeats 8000000 in
theorem tells_law (p : Pk) (w : World) (ht : Tab w) (hK : PKinds w) (hp : p.Fits) (hs : p.m.Sum) :
    Calls Tryd.prog 3 #[pv p] w fun e w' => e = .returned (.bool true) ∧ Below w.heap.size w w' := by
  have mixed : Tryd.prog.follows .mixedOrders = true := by kernel_rfl
  obtain ⟨W, fold⟩ : ∃ W, w.alloc (.cells #[.int .i64 p.kind, .int .i64 p.fr, .int .i64 p.dest, .int .u64 p.ep, .int .u16 p.num, .int .u64 p.mask, .int .i64 p.m.origin, .int .u64 p.m.seq, .int .i64 p.m.hop, .string p.m.ex, .string p.m.key, .string p.m.body] 29) = W := ⟨_, rfl⟩
  have b0 : Below w.heap.size w W := by rw [← fold]; exact box_below w _
  have x0 : W.heap[w.heap.size]? = some (.cells (pcells p).toArray 29 (0, 0)) := by rw [← fold]; exact heap_alloc_new w _
  have H0 : Hid (Lv w W w.heap.size p) := ⟨ht.below b0 ht.pos, hK.below b0, x0, b0⟩
  have hG := greatP_any p W hs
  have HF : Hid p.Fits := hp
  clear ht hK hp hs b0 x0
  go_enter Tryd.func3, Tryd.ntmps3
  go_wp2_with (refine wpList_load_row rfl 29 _ rfl w.heap.size rfl 29 (pcells p).toArray (0, 0) _ H0.out.hg Tryd.underlying29 rfl info12 ?_)
  try rw [fold]
  refine hG.mono ?_
  rintro e V ⟨rfl, bV⟩
  clear hG
  have HV : Hid (Lv w V w.heap.size p) := H0.out.go bV
  clear bV
  cases hg : greatP p
  rotate_left
  · have hL := livesP_any V HV.out.tab HV.out.kinds
    go_wp2_with fail
    refine hL.mono ?_
    rintro e V2 ⟨rfl, b2⟩
    go_wp2
    go_ret
    exact ⟨rfl, keptW HV.out.bel b2⟩
  clear hg
  go_wp2
  refine wp_region_noPanic ?_
  refine wp_region_held_drew (S := fun U => Lv w U w.heap.size p) (by kernel_rfl) (HV.out.go (drew_below V)) (fun hHeld => ?_)
  refine wpAnyH_take (i := 0) (v := pv p) (by simp only [List.getElem?_toArray, List.getElem?_cons_zero]; rfl) (by kernel_rfl) (by kernel_rfl) (by kernel_rfl) (fun _ _ _ h => h) (Or.inl ⟨by rfl, fun wz h => exec_load_row 29 _ rfl (w.heap.size) rfl 29 #[.int .i64 p.kind, .int .i64 p.fr, .int .i64 p.dest, .int .u64 p.ep, .int .u16 p.num, .int .u64 p.mask, .int .i64 p.m.origin, .int .u64 p.m.seq, .int .i64 p.m.hop, .string p.m.ex, .string p.m.key, .string p.m.body] (0, 0) _ h.hg Tryd.underlying29 rfl info12⟩) (by assumption) ?_
  try simp only [Act.put, List.setIfInBounds_toArray, List.set_cons_zero, List.set_cons_succ]
  refine wpAnyH_take (i := 2) (v := pv p) (by simp only [List.getElem?_toArray, List.getElem?_cons_succ, List.getElem?_cons_zero]; rfl) (by kernel_rfl) (by kernel_rfl) (by kernel_rfl) (fun _ _ _ h => h) (Or.inl ⟨by rfl, fun wz h => exec_load_row 29 _ rfl (w.heap.size) rfl 29 #[.int .i64 p.kind, .int .i64 p.fr, .int .i64 p.dest, .int .u64 p.ep, .int .u16 p.num, .int .u64 p.mask, .int .i64 p.m.origin, .int .u64 p.m.seq, .int .i64 p.m.hop, .string p.m.ex, .string p.m.key, .string p.m.body] (0, 0) _ h.hg Tryd.underlying29 rfl info12⟩) (by assumption) ?_
  try simp only [Act.put, List.setIfInBounds_toArray, List.set_cons_zero, List.set_cons_succ]
  refine wpAnyH_ready (rs := [1]) (by kernel_rfl) (by simp) ?_
  refine AllReadyH.cons rfl (fun K hK => ?_) AllReadyH.nil
  have HS1 : Hid _ := hHeld
  clear hHeld
  go_simp
  refine (goodP_any p _ HS1.out.kinds HF.out.m).mono ?_
  rintro e U1 ⟨rfl, b1⟩
  have N1 : Lv w U1 w.heap.size p := HS1.out.go b1
  clear b1
  try dsimp only
  refine hK.out _ _ (N1) (fun hHeld => ?_)
  clear hK K
  try simp only [Act.put, List.setIfInBounds_toArray, List.set_cons_zero, List.set_cons_succ]
  refine wpAnyH_ready (rs := [3]) (by kernel_rfl) (by simp) ?_
  refine AllReadyH.cons rfl (fun K hK => ?_) AllReadyH.nil
  have HS3 : Hid _ := hHeld
  clear hHeld
  go_simp
  refine (rgoodP_any p _ HF.out.m).mono ?_
  rintro e U3 ⟨rfl, b3⟩
  have N3 : Lv w U3 w.heap.size p := HS3.out.go b3
  clear b3
  try dsimp only
  refine hK.out _ _ (N3) (fun hHeld => ?_)
  clear hK K
  try simp only [Act.put, List.setIfInBounds_toArray, List.set_cons_zero, List.set_cons_succ]
  refine wpAnyH_take (i := 4) (v := .bool true) (by simp only [List.getElem?_toArray, List.getElem?_cons_succ, List.getElem?_cons_zero]; rfl) (by kernel_rfl) (by kernel_rfl) (by kernel_rfl) (fun _ _ _ h => h) (Or.inl ⟨by rfl, ?_⟩) (by assumption) ?_
  · (intro wq hSq; clear hSq; go_simp; try with_reducible rfl)
  try simp only [Act.put, List.setIfInBounds_toArray, List.set_cons_zero, List.set_cons_succ]
  refine wpAnyH_take (i := 5) (v := .bool true) (by simp only [List.getElem?_toArray, List.getElem?_cons_succ, List.getElem?_cons_zero]; rfl) (by kernel_rfl) (by kernel_rfl) (by kernel_rfl) (fun _ _ _ h => h) (Or.inl ⟨by rfl, ?_⟩) (by assumption) ?_
  · (intro wq hSq; clear hSq; go_simp; try with_reducible rfl)
  try simp only [Act.put, List.setIfInBounds_toArray, List.set_cons_zero, List.set_cons_succ]
  refine wpAnyH_take (i := 6) (v := pv p) (by simp only [List.getElem?_toArray, List.getElem?_cons_succ, List.getElem?_cons_zero]; rfl) (by kernel_rfl) (by kernel_rfl) (by kernel_rfl) (fun _ _ _ h => h) (Or.inl ⟨by rfl, fun wz h => exec_load_row 29 _ rfl (w.heap.size) rfl 29 #[.int .i64 p.kind, .int .i64 p.fr, .int .i64 p.dest, .int .u64 p.ep, .int .u16 p.num, .int .u64 p.mask, .int .i64 p.m.origin, .int .u64 p.m.seq, .int .i64 p.m.hop, .string p.m.ex, .string p.m.key, .string p.m.body] (0, 0) _ h.hg Tryd.underlying29 rfl info12⟩) (by assumption) ?_
  try simp only [Act.put, List.setIfInBounds_toArray, List.set_cons_zero, List.set_cons_succ]
  refine wpAnyH_take (i := 8) (v := pv p) (by simp only [List.getElem?_toArray, List.getElem?_cons_succ, List.getElem?_cons_zero]; rfl) (by kernel_rfl) (by kernel_rfl) (by kernel_rfl) (fun _ _ _ h => h) (Or.inl ⟨by rfl, fun wz h => exec_load_row 29 _ rfl (w.heap.size) rfl 29 #[.int .i64 p.kind, .int .i64 p.fr, .int .i64 p.dest, .int .u64 p.ep, .int .u16 p.num, .int .u64 p.mask, .int .i64 p.m.origin, .int .u64 p.m.seq, .int .i64 p.m.hop, .string p.m.ex, .string p.m.key, .string p.m.body] (0, 0) _ h.hg Tryd.underlying29 rfl info12⟩) (by assumption) ?_
  try simp only [Act.put, List.setIfInBounds_toArray, List.set_cons_zero, List.set_cons_succ]
  refine wpAnyH_ready (rs := [7]) (by kernel_rfl) (by simp) ?_
  refine AllReadyH.cons rfl (fun K hK => ?_) AllReadyH.nil
  have HS7 : Hid _ := hHeld
  clear hHeld
  go_simp
  refine (kindN_any p _ HS7.out.kinds).mono ?_
  rintro e U7 ⟨rfl, b7⟩
  have N7 : Lv w U7 w.heap.size p := HS7.out.go b7
  clear b7
  try dsimp only
  refine hK.out _ _ (N7) (fun hHeld => ?_)
  clear hK K
  try simp only [Act.put, List.setIfInBounds_toArray, List.set_cons_zero, List.set_cons_succ]
  refine wpAnyH_ready (rs := [9]) (by kernel_rfl) (by simp) ?_
  refine AllReadyH.cons rfl (fun K hK => ?_) AllReadyH.nil
  have HS9 : Hid _ := hHeld
  clear hHeld
  go_simp
  refine (rkindN_any p _).mono ?_
  rintro e U9 ⟨rfl, b9⟩
  have N9 : Lv w U9 w.heap.size p := HS9.out.go b9
  clear b9
  try dsimp only
  refine hK.out _ _ (N9) (fun hHeld => ?_)
  clear hK K
  try simp only [Act.put, List.setIfInBounds_toArray, List.set_cons_zero, List.set_cons_succ]
  refine wpAnyH_take (i := 10) (v := .bool true) (by simp only [List.getElem?_toArray, List.getElem?_cons_succ, List.getElem?_cons_zero]; rfl) (by kernel_rfl) (by kernel_rfl) (by kernel_rfl) (fun _ _ _ h => h) (Or.inl ⟨by rfl, ?_⟩) (by assumption) ?_
  · (intro wq hSq; clear hSq; go_simp; try with_reducible rfl)
  try simp only [Act.put, List.setIfInBounds_toArray, List.set_cons_zero, List.set_cons_succ]
  refine wpAnyH_take (i := 11) (v := .bool true) (by simp only [List.getElem?_toArray, List.getElem?_cons_succ, List.getElem?_cons_zero]; rfl) (by kernel_rfl) (by kernel_rfl) (by kernel_rfl) (fun _ _ _ h => h) (Or.inl ⟨by rfl, ?_⟩) (by assumption) ?_
  · (intro wq hSq; clear hSq; go_simp; try with_reducible rfl)
  try simp only [Act.put, List.setIfInBounds_toArray, List.set_cons_zero, List.set_cons_succ]
  refine wpAnyH_take (i := 12) (v := .bool true) (by simp only [List.getElem?_toArray, List.getElem?_cons_succ, List.getElem?_cons_zero]; rfl) (by kernel_rfl) (by kernel_rfl) (by kernel_rfl) (fun _ _ _ h => h) (Or.inl ⟨by rfl, ?_⟩) (by assumption) ?_
  · (intro wq hSq; clear hSq; go_simp; try with_reducible rfl)
  try simp only [Act.put, List.setIfInBounds_toArray, List.set_cons_zero, List.set_cons_succ]
  refine wpAnyH_take (i := 13) (v := pv p) (by simp only [List.getElem?_toArray, List.getElem?_cons_succ, List.getElem?_cons_zero]; rfl) (by kernel_rfl) (by kernel_rfl) (by kernel_rfl) (fun _ _ _ h => h) (Or.inl ⟨by rfl, fun wz h => exec_load_row 29 _ rfl (w.heap.size) rfl 29 #[.int .i64 p.kind, .int .i64 p.fr, .int .i64 p.dest, .int .u64 p.ep, .int .u16 p.num, .int .u64 p.mask, .int .i64 p.m.origin, .int .u64 p.m.seq, .int .i64 p.m.hop, .string p.m.ex, .string p.m.key, .string p.m.body] (0, 0) _ h.hg Tryd.underlying29 rfl info12⟩) (by assumption) ?_
  try simp only [Act.put, List.setIfInBounds_toArray, List.set_cons_zero, List.set_cons_succ]
  refine wpAnyH_take (i := 15) (v := pv p) (by simp only [List.getElem?_toArray, List.getElem?_cons_succ, List.getElem?_cons_zero]; rfl) (by kernel_rfl) (by kernel_rfl) (by kernel_rfl) (fun _ _ _ h => h) (Or.inl ⟨by rfl, fun wz h => exec_load_row 29 _ rfl (w.heap.size) rfl 29 #[.int .i64 p.kind, .int .i64 p.fr, .int .i64 p.dest, .int .u64 p.ep, .int .u16 p.num, .int .u64 p.mask, .int .i64 p.m.origin, .int .u64 p.m.seq, .int .i64 p.m.hop, .string p.m.ex, .string p.m.key, .string p.m.body] (0, 0) _ h.hg Tryd.underlying29 rfl info12⟩) (by assumption) ?_
  try simp only [Act.put, List.setIfInBounds_toArray, List.set_cons_zero, List.set_cons_succ]
  refine wpAnyH_ready (rs := [14]) (by kernel_rfl) (by simp) ?_
  refine AllReadyH.cons rfl (fun K hK => ?_) AllReadyH.nil
  have HS14 : Hid _ := hHeld
  clear hHeld
  go_simp
  refine (bytesP_any p _ HS14.out.tab HS14.out.kinds HF.out).mono ?_
  rintro e U14 ⟨v14, rfl, o14, b14⟩
  have N14 : Lv w U14 w.heap.size p := HS14.out.go b14
  have O14 : Hid (Holds U14 v14 (bytesP p)) := o14.holds
  clear o14
  clear b14
  try dsimp only
  refine hK.out _ _ (N14) (fun hHeld => ?_)
  clear hK K
  try simp only [Act.put, List.setIfInBounds_toArray, List.set_cons_zero, List.set_cons_succ]
  refine wpAnyH_ready (rs := [16]) (by kernel_rfl) (by simp) ?_
  refine AllReadyH.cons rfl (fun K hK => ?_) AllReadyH.nil
  have HS16 : Hid _ := hHeld
  clear hHeld
  go_simp
  refine (rbytesP_any p _ HF.out).mono ?_
  rintro e U16 ⟨v16, rfl, o16, b16⟩
  have N16 : Lv w U16 w.heap.size p := HS16.out.go b16
  have O16 : Hid (Holds U16 v16 (bytesP p) ∧ Holds U16 v14 (bytesP p)) := ⟨o16.holds, O14.out.below b16 (Nat.le_refl _)⟩
  clear o16
  clear b16
  try dsimp only
  refine hK.out _ _ (N16) (fun hHeld => ?_)
  clear hK K
  try simp only [Act.put, List.setIfInBounds_toArray, List.set_cons_zero, List.set_cons_succ]
  refine wpAnyH_ready (rs := [17]) (by kernel_rfl) (by simp) ?_
  refine AllReadyH.cons rfl (fun K hK => ?_) AllReadyH.nil
  have HS17 : Hid _ := hHeld
  clear hHeld
  go_simp
  have hS17 := same_any v14 v16 _ _ U16 O16.out.2 O16.out.1
  rw [beq_self_eq_true] at hS17
  refine hS17.mono ?_
  rintro e U17 ⟨rfl, hU17⟩
  subst hU17
  clear hS17
  try dsimp only
  refine hK.out _ _ (HS17.out) (fun hHeld => ?_)
  clear hK K
  try simp only [Act.put, List.setIfInBounds_toArray, List.set_cons_zero, List.set_cons_succ]
  refine wpAnyH_take (i := 18) (v := .bool true) (by simp only [List.getElem?_toArray, List.getElem?_cons_succ, List.getElem?_cons_zero]; rfl) (by kernel_rfl) (by kernel_rfl) (by kernel_rfl) (fun _ _ _ h => h) (Or.inl ⟨by rfl, ?_⟩) (by assumption) ?_
  · (intro wq hSq; clear hSq; go_simp; try with_reducible rfl)
  try simp only [Act.put, List.setIfInBounds_toArray, List.set_cons_zero, List.set_cons_succ]
  refine wpAnyH_take (i := 19) (v := .bool true) (by simp only [List.getElem?_toArray, List.getElem?_cons_succ, List.getElem?_cons_zero]; rfl) (by kernel_rfl) (by kernel_rfl) (by kernel_rfl) (fun _ _ _ h => h) (Or.inl ⟨by rfl, ?_⟩) (by assumption) ?_
  · (intro wq hSq; clear hSq; go_simp; try with_reducible rfl)
  try simp only [Act.put, List.setIfInBounds_toArray, List.set_cons_zero, List.set_cons_succ]
  refine wpAnyH_ready (rs := [20]) (by kernel_rfl) (by simp) ?_
  refine AllReadyH.cons rfl (fun K hK => ?_) AllReadyH.nil
  have HS20 : Hid _ := hHeld
  clear hHeld
  go_simp
  refine (livesP_any _ HS20.out.tab HS20.out.kinds).mono ?_
  rintro e U20 ⟨rfl, b20⟩
  have N20 : Lv w U20 w.heap.size p := HS20.out.go b20
  clear b20
  try dsimp only
  refine hK.out _ _ (N20) (fun hHeld => ?_)
  clear hK K
  try simp only [Act.put, List.setIfInBounds_toArray, List.set_cons_zero, List.set_cons_succ]
  refine wpAnyH_take (i := 21) (v := .bool true) (by simp only [List.getElem?_toArray, List.getElem?_cons_succ, List.getElem?_cons_zero]; rfl) (by kernel_rfl) (by kernel_rfl) (by kernel_rfl) (fun _ _ _ h => h) (Or.inl ⟨by rfl, ?_⟩) (by assumption) ?_
  · (intro wq hSq; clear hSq; go_simp; try with_reducible rfl)
  try simp only [Act.put, List.setIfInBounds_toArray, List.set_cons_zero, List.set_cons_succ]
  refine wpAnyH_take (i := 22) (v := ?_) (by simp only [List.getElem?_toArray, List.getElem?_cons_succ, List.getElem?_cons_zero]; rfl) (by kernel_rfl) (by kernel_rfl) (by kernel_rfl) (fun _ _ _ h => h) (Or.inl ⟨by rfl, ?_⟩) (by assumption) ?_
  rotate_left
  · (intro wq hSq; clear hSq; go_simp; try with_reducible rfl)
  try simp only [Act.put, List.setIfInBounds_toArray, List.set_cons_zero, List.set_cons_succ]
  refine wpAnyH_done (by kernel_rfl) ?_ _
  refine NoPanic.normal ?_
  have HE : Hid _ := hHeld
  clear hHeld
  go_wp2
  go_ret
  exact ⟨rfl, HE.out.bel⟩
end Go.Proofs.YtopacoghnofliaaDoor
