/-
  A PACKET's BYTES, by their contract.
-/
import Derived.Test.YtdbgojmjjkidbaaGreatDoorJGoodP19
import Derived.Test.YtdbgojmjjkidbaaGreatDoorJTexts13
import Derived.Test.YtdbgojmjjkidbaaGreatDoorJSeal
import Derived.Deep.RegionHeld3
import Derived.Test.YtdbgojmjjkidbaaGreatDoorJNum19
import Derived.Test.YtdbgojmjjkidbaaGreatDoorJOpen
namespace Go.Proofs.YtdbgojmjjkidbaaGreatDoor
open Go.RowKit


theorem run_append_bytes {P : Program} {w : World} (t e ty : TypeId) (U : U8 P t e) (base : Nat) (v src : Value) (xs ys : List UInt8) (hown : Owns w base e v xs) (hy : Holds w src ys) (hlen : xs.length + ys.length ≤ 140737488355328) (hbase : base ≤ w.heap.size) :
    ∃ v' w', (Builtin.append_ #[t, t] ty #[v, src]).run P w = .ok v' w' ∧ Owns w' base e v' (xs ++ ys) ∧ Below base w w' ∧ base ≤ w'.heap.size := by
  obtain ⟨i, hi, hz, hsz, hby⟩ := U.info
  rcases hy with ⟨rfl, rfl⟩ | ⟨ad, cap, rfl, h1, h2, h3⟩
  · exact ⟨v, w, run_append_owned_none (P := P) (w := w) base t ty e i 1 U.ht hi v xs.length (bcells xs) hown, by simpa [Owns] using hown, Below.refl _ _, hbase⟩
  · obtain ⟨v', w', hr, ho', hg, _, _⟩ := run_append_own_at (P := P) w base t ty e i (.int .u8 0) 1 1 U.ht hi hz hsz hby rfl (by decide) v xs.length (bcells xs) hown ad ys.length cap (bcells ys) (by simp [bcells]) h3 (bcells_one ys) (by unfold maxLen; omega) (by omega) hbase
    refine ⟨v', w', hr, ?_, Owns.below hown hg (Below.refl _ _) hbase, Nat.le_trans hbase hg.size⟩
    unfold Owns
    rw [bcells_append, List.length_append]
    exact ho'

theorem step_append_bytes {P : Program} {w : World} {ops : Array Oper} {o : Oper} {a : Act} {J : Act → World → Prop} {Q : Exit → Act → World → Prop} {F : Prop} (hgd : o.guard = none) (s x : Operand) (t e : TypeId) (U : U8 P t e)
    (ho : o.op = .call { callee := .builtin .append, args := #[s, x], argTypes := #[t, t] }) (base : Nat) (v src : Value) (xs ys : List UInt8) (hs : a.eval s = v) (hx : a.eval x = src)
    (hown : Owns w base e v xs) (hy : Holds w src ys) (hlen : xs.length + ys.length ≤ 140737488355328) (hbase : base ≤ w.heap.size)
    (h : ∀ v' w', Owns w' base e v' (xs ++ ys) → Below base w w' → base ≤ w'.heap.size → J (a.put o.dst v') w') : if Region.wanted o (yielded ops a.tmps) = true then Oper.wp P o a w J Q else F := by
  have hw : Region.wanted o (yielded ops a.tmps) = true := by simp [Region.wanted, hgd]
  rw [if_pos hw]
  obtain ⟨v', w', hr, h2, h3, h4⟩ := run_append_bytes (P := P) (w := w) t e o.type U base v src xs ys hown hy hlen hbase
  unfold Oper.wp execOp
  simp only [ho, resolve, invoke, builtin, Sem.run_bind, Sem.run_pure, Result.andThen_ok, List.map_toArray, List.map_cons, List.map_nil, hs, hx, hr]
  exact h v' w' h2 h3 h4

/-- A number behind bytes, told by lengths that have letters. -/
theorem put_ch (B : List UInt8) (k v n L : Nat) (_hn : B.length = n) (hL : (B ++ putL k v).length = L) (hB : B.length ≤ 1000000) (hg : goodB k = true) (hv : v < 18446744073709551616) (a : Option Addr) (c : Nat) (V : World) (ht : Tab V) (h : Holds V (.slice a n c) B) :
    Calls Tryz.prog 60 #[.slice a n c, .int .i64 (k : Int), .int .u64 (v : Int)] V fun e w' => ∃ a' c', e = .returned (.slice a' L c') ∧ Owns w' V.heap.size 5 (.slice a' L c') (B ++ putL k v) ∧ Below V.heap.size V w' := by
  refine (put_good _ B k v V ht h (by omega) hg hv).mono ?_
  rintro e w' ⟨v', rfl, o, b⟩
  obtain ⟨a', c', h⟩ := o.holds.slice
  rw [hL] at h
  subst h
  exact ⟨a', c', rfl, o, b⟩

theorem msg_ch (m : Ms) (L : Nat) (hL : (bytesM m).length = L) (V : World) (ht : Tab V) (hm : m.Fits) (hs : m.Short) :
    Calls Tryz.prog 61 #[mv m] V fun e w' => ∃ a' c', e = .returned (.slice a' L c') ∧ Owns w' V.heap.size 5 (.slice a' L c') (bytesM m) ∧ Below V.heap.size V w' := by
  refine (msgBytes_any m V ht hm hs).mono ?_
  rintro e w' ⟨v', rfl, o, b⟩
  obtain ⟨a', c', h⟩ := o.holds.slice
  rw [hL] at h
  subst h
  exact ⟨a', c', rfl, o, b⟩

theorem goodP_short {p : Pk} (h : goodP p = true) (hk : p.kind = 3) : p.m.Short := by
  obtain ⟨_, _, _, h4⟩ := goodP_tells h
  obtain ⟨_, _, _, h5, h6, h7⟩ := goodM_tells ((kindB_tells h4).2.2.2.2.2 hk)
  exact ⟨by omega, by omega, by omega⟩

set_option maxRecDepth 20000 in
set_option maxHeartbeats 8000000 in
theorem bytesP_any (p : Pk) (w : World) (ht : Tab w) (hK : PKinds w) (hp : p.Fits) : Calls Tryz.prog 37 #[pv p] w fun e w' => ∃ v', e = .returned v' ∧ Owns w' w.heap.size 5 v' (bytesP p) ∧ Below w.heap.size w w' := by
  obtain ⟨W, fold⟩ : ∃ W, w.alloc (.cells #[.int .i64 p.kind, .int .i64 p.fr, .int .i64 p.dest, .int .u64 p.ep, .int .u16 p.num, .int .u64 p.mask, .int .i64 p.m.origin, .int .u64 p.m.seq, .int .i64 p.m.hop, .string p.m.ex, .string p.m.key, .string p.m.body] 35) = W := ⟨_, rfl⟩
  have b0 : Below w.heap.size w W := by rw [← fold]; exact box_below w _
  have x0 : W.heap[w.heap.size]? = some (.cells (pcells p).toArray 35 (0, 0)) := by rw [← fold]; exact heap_alloc_new w _
  have hG := goodP_any p W (hK.below b0) hp.m
  have H0 : Hid (Below w.heap.size w W ∧ W.heap[w.heap.size]? = some (.cells (pcells p).toArray 35 (0, 0))) := ⟨b0, x0⟩
  have HT : Hid (Tab W) := ht.below b0 ht.pos
  have HF : Hid p.Fits := hp
  clear b0 x0 ht hK hp
  go_enter Tryz.func37, Tryz.ntmps37
  go_wp2_with (refine wpList_load_row rfl 35 _ rfl w.heap.size rfl 35 (pcells p).toArray (0, 0) _ H0.out.2 Tryz.underlying35 rfl info12 ?_)
  try rw [fold]
  refine hG.mono ?_
  rintro e V ⟨rfl, b1⟩
  clear hG
  have HV : Hid (Below w.heap.size w V ∧ V.heap[w.heap.size]? = some (.cells (pcells p).toArray 35 (0, 0)) ∧ Tab V) := ⟨keptW H0.out.1 b1, (b1.block _ (Array.getElem?_eq_some_iff.1 H0.out.2).1).trans H0.out.2, HT.out.below b1 HT.out.pos⟩
  clear b1
  cases hg : goodP p
  · have HB : Hid (bytesP p = []) := bytesP_none hg
    clear hg
    go_wp2
    go_ret
    exact ⟨_, rfl, by rw [HB.out]; exact owns_nil _ _ _, HV.out.1⟩
  have HB : Hid (bytesP p = sealL (rawP p) ∧ goodP p = true) := ⟨bytesP_eq hg, hg⟩
  clear hg
  have c0 := wrap_u64 p.kind
  have c1 := wrap_u64 p.fr
  have c2 := wrap_u64 p.dest
  have c3 := seq_cast HF.out.e.1
  have c5 := seq_cast HF.out.x.1
  obtain ⟨kk, hkk⟩ : ∃ z, u64 p.kind = z := ⟨_, rfl⟩
  obtain ⟨ff, hff⟩ : ∃ z, u64 p.fr = z := ⟨_, rfl⟩
  obtain ⟨dd, hdd⟩ : ∃ z, u64 p.dest = z := ⟨_, rfl⟩
  obtain ⟨ee, hee⟩ : ∃ z, p.ep.toNat = z := ⟨_, rfl⟩
  have HL : Hid (kk < 18446744073709551616 ∧ ff < 18446744073709551616 ∧ dd < 18446744073709551616 ∧ ee < 18446744073709551616) := ⟨by rw [← hkk]; exact u64_lt _, by rw [← hff]; exact u64_lt _, by rw [← hdd]; exact u64_lt _, by rw [← hee]; have := HF.out.e; omega⟩
  have HE : Hid (headB p = [] ++ putL 1 kk ++ putL 1 ff ++ putL 1 dd ++ putL 8 ee) := by show headB p = _; unfold headB; rw [hkk, hff, hdd, hee, List.nil_append]
  rw [hkk] at c0
  rw [hff] at c1
  rw [hdd] at c2
  rw [hee] at c3
  clear hkk hff hdd hee
  have HC : Hid (∀ U, Below V.heap.size V U → U.cell? ⟨w.heap.size, 0, none⟩ = some (.int .i64 p.kind) ∧ U.cell? ⟨w.heap.size, 1, none⟩ = some (.int .i64 p.fr) ∧ U.cell? ⟨w.heap.size, 2, none⟩ = some (.int .i64 p.dest) ∧ U.cell? ⟨w.heap.size, 3, none⟩ = some (.int .u64 (ee : Int))) := fun U b => by
    obtain ⟨a0, a1, a2, a3, _⟩ := cells12 ((b.block _ (Array.getElem?_eq_some_iff.1 HV.out.2.1).1).trans HV.out.2.1)
    rw [c3]
    exact ⟨a0, a1, a2, a3⟩
  clear c3
  obtain ⟨y0, y1, y2, y3⟩ := HC.out V (Below.refl _ _)
  have hP := put_ch [] 1 kk 0 1 rfl (by simp [putL_length]) (by simp) (by decide) HL.out.1 none 0 V HV.out.2.2 (.inl ⟨rfl, rfl⟩)
  go_wp2_with fail
  refine hP.mono ?_
  rintro e w1 ⟨a1, k1, rfl, o1, b1⟩
  have HD : Hid (Below V.heap.size V w1) := b1
  clear hP y0 y1 y2 y3
  obtain ⟨y0, y1, y2, y3⟩ := HC.out w1 b1
  have hP := put_ch ([] ++ putL 1 kk) 1 ff 1 2 (by simp [putL_length]) (by simp [putL_length]) (by simp [putL_length]) (by decide) HL.out.2.1 a1 k1 w1 (HV.out.2.2.below b1 HV.out.2.2.pos) o1.holds
  clear o1 b1
  go_wp2_with fail
  refine hP.mono ?_
  rintro e w2 ⟨a2, k2, rfl, o2, b2⟩
  replace HD : Hid (Below V.heap.size V w2) := keptW HD.out b2
  clear hP y0 y1 y2 y3 b2
  obtain ⟨y0, y1, y2, y3⟩ := HC.out w2 HD.out
  have hP := put_ch ([] ++ putL 1 kk ++ putL 1 ff) 1 dd 2 3 (by simp [putL_length]) (by simp [putL_length]) (by simp [putL_length]) (by decide) HL.out.2.2.1 a2 k2 w2 (HV.out.2.2.below HD.out HV.out.2.2.pos) o2.holds
  clear o2
  go_wp2_with fail
  refine hP.mono ?_
  rintro e w3 ⟨a3, k3, rfl, o3, b3⟩
  replace HD : Hid (Below V.heap.size V w3) := keptW HD.out b3
  clear hP y0 y1 y2 y3 b3
  obtain ⟨y0, y1, y2, y3⟩ := HC.out w3 HD.out
  have hP := put_ch ([] ++ putL 1 kk ++ putL 1 ff ++ putL 1 dd) 8 ee 3 11 (by simp [putL_length]) (by simp [putL_length]) (by simp [putL_length]) (by decide) HL.out.2.2.2 a3 k3 w3 (HV.out.2.2.below HD.out HV.out.2.2.pos) o3.holds
  clear o3
  go_wp2_with fail
  refine hP.mono ?_
  rintro e w4 ⟨a4, k4, rfl, o4, b4⟩
  replace HD : Hid (Below V.heap.size V w4) := keptW HD.out b4
  clear hP y0 y1 y2 y3 b4
  obtain ⟨y0, y1, y2, y3⟩ := HC.out w4 HD.out
  rw [← HE.out] at o4
  obtain ⟨HBh, hHBh⟩ : ∃ z, headB p = z := ⟨_, rfl⟩
  rw [hHBh] at o4
  have HO : Hid (Holds w4 (.slice a4 11 k4) HBh ∧ headB p = HBh ∧ HBh.length = 11) := ⟨o4.holds, hHBh, by rw [← hHBh]; exact headB_length p⟩
  clear o4 hHBh c0 c1 c2
  by_cases h3 : p.kind = 3
  · have q3 : (p.kind == 3) = true := by rw [h3]; rfl
    have HR : Hid (rawP p = HBh ++ (putL 2 p.num.toNat ++ bytesM p.m) ∧ p.m.Short ∧ p.kind = 3) := ⟨by unfold rawP tailB; rw [if_pos h3, HO.out.2.1], goodP_short HB.out.2 h3, h3⟩
    have hnn := HF.out.n
    obtain ⟨nn, hn⟩ : ∃ z, p.num.toNat = z := ⟨_, rfl⟩
    have cn : IntKind.u64.wrap p.num = (nn : Int) := by rw [← hn, IntKind.wrap_u64]; omega
    have HN : Hid (nn < 18446744073709551616) := by show nn < _; omega
    rw [hn] at HR
    have hx4 := (HD.out.block _ (Array.getElem?_eq_some_iff.1 HV.out.2.1).1).trans HV.out.2.1
    have HC3 : Hid (∀ U, Below w4.heap.size w4 U → U.cell? ⟨w.heap.size, 4, none⟩ = some (.int .u16 p.num) ∧ U.cell? ⟨w.heap.size, 6, none⟩ = some (.int .i64 p.m.origin) ∧ U.cell? ⟨w.heap.size, 7, none⟩ = some (.int .u64 p.m.seq) ∧ U.cell? ⟨w.heap.size, 8, none⟩ = some (.int .i64 p.m.hop) ∧ U.cell? ⟨w.heap.size, 9, none⟩ = some (.string p.m.ex) ∧ U.cell? ⟨w.heap.size, 10, none⟩ = some (.string p.m.key) ∧ U.cell? ⟨w.heap.size, 11, none⟩ = some (.string p.m.body)) := fun U b => by
      obtain ⟨a0, a1, a2, a3, a4, a5, a6, a7, a8, a9, a10, a11⟩ := cells12 ((b.block _ (Array.getElem?_eq_some_iff.1 hx4).1).trans hx4)
      exact ⟨a4, a6, a7, a8, a9, a10, a11⟩
    have HT4 : Hid (Tab w4) := HV.out.2.2.below HD.out HV.out.2.2.pos
    clear h3 hn hnn y1 y2 y3 hx4
    obtain ⟨LM, hLM⟩ : ∃ z, (bytesM p.m).length = z := ⟨_, rfl⟩
    have HM : Hid ((bytesM p.m).length = LM ∧ LM ≤ 296) := ⟨hLM, by rw [← hLM]; exact (bytesM_len ((kindB_tells (goodP_tells HB.out.2).2.2.2).2.2.2.2.2 HR.out.2.2)).2⟩
    clear hLM
    go_wp2
    refine wp_region_noPanic ?_
    refine wp_region_held_drew (S := fun U => Below w4.heap.size w4 U) (by kernel_rfl) (drew_below w4) (fun hHeld => ?_)
    refine wpAnyH_take (i := 0) (v := .slice a4 11 k4) (by simp only [List.getElem?_toArray, List.getElem?_cons_zero]; rfl) (by kernel_rfl) (by kernel_rfl) (by kernel_rfl) (fun _ _ _ h => h) (Or.inl ⟨by rfl, (by intro wq hSq; clear hSq hHeld; go_simp)⟩) (by assumption) ?_
    try simp only [Act.put, List.setIfInBounds_toArray, List.set_cons_zero, List.set_cons_succ]
    refine wpAnyH_take (i := 1) (v := ?_) (by simp only [List.getElem?_toArray, List.getElem?_cons_succ, List.getElem?_cons_zero]; rfl) (by kernel_rfl) (by kernel_rfl) (by kernel_rfl) (fun _ _ _ h => h) (Or.inl ⟨by rfl, ?_⟩) (by assumption) ?_
    rotate_left
    · (intro wq hSq; clear hSq; go_simp; try with_reducible rfl)
    try simp only [Act.put, List.setIfInBounds_toArray, List.set_cons_zero, List.set_cons_succ]
    refine wpAnyH_take (i := 2) (v := .int .u16 p.num) (by simp only [List.getElem?_toArray, List.getElem?_cons_succ, List.getElem?_cons_zero]; rfl) (by kernel_rfl) (by kernel_rfl) (by kernel_rfl) (fun _ _ _ h => h) (Or.inl ⟨by rfl, (by intro wq hSq; have hcq := HC3.out wq hSq; obtain ⟨q4, q6, q7, q8, q9, q10, q11⟩ := hcq; clear hSq hHeld; go_simp)⟩) (by assumption) ?_
    try simp only [Act.put, List.setIfInBounds_toArray, List.set_cons_zero, List.set_cons_succ]
    refine wpAnyH_take (i := 3) (v := .int .u64 (nn : Int)) (by simp only [List.getElem?_toArray, List.getElem?_cons_succ, List.getElem?_cons_zero]; rfl) (by kernel_rfl) (by kernel_rfl) (by kernel_rfl) (fun _ _ _ h => h) (Or.inl ⟨by rfl, (by intro wq hSq; clear hSq hHeld; go_simp)⟩) (by assumption) ?_
    try simp only [Act.put, List.setIfInBounds_toArray, List.set_cons_zero, List.set_cons_succ]
    refine wpAnyH_take (i := 5) (v := ?_) (by simp only [List.getElem?_toArray, List.getElem?_cons_succ, List.getElem?_cons_zero]; rfl) (by kernel_rfl) (by kernel_rfl) (by kernel_rfl) (fun _ _ _ h => h) (Or.inl ⟨by rfl, ?_⟩) (by assumption) ?_
    rotate_left
    · (intro wq hSq; clear hSq; go_simp; try with_reducible rfl)
    try simp only [Act.put, List.setIfInBounds_toArray, List.set_cons_zero, List.set_cons_succ]
    refine wpAnyH_take (i := 6) (v := mv p.m) (by simp only [List.getElem?_toArray, List.getElem?_cons_succ, List.getElem?_cons_zero]; rfl) (by kernel_rfl) (by kernel_rfl) (by kernel_rfl) (fun _ _ _ h => h) (Or.inl ⟨by rfl, (by intro wq hSq; have hcq := HC3.out wq hSq; obtain ⟨q4, q6, q7, q8, q9, q10, q11⟩ := hcq; clear hSq hHeld; go_simp)⟩) (by assumption) ?_
    try simp only [Act.put, List.setIfInBounds_toArray, List.set_cons_zero, List.set_cons_succ]
    refine wpAnyH_ready (rs := [4]) (by kernel_rfl) (by simp) ?_
    refine AllReadyH.cons rfl (fun K hK => ?_) AllReadyH.nil
    have HS4 : Hid _ := hHeld
    clear hHeld
    go_simp
    refine (put_ch HBh 2 nn 11 13 HO.out.2.2 (by rw [List.length_append, putL_length, HO.out.2.2]) (by rw [HO.out.2.2]; omega) (by decide) HN.out a4 k4 _ (HT4.out.below HS4.out HT4.out.pos) (HO.out.1.below HS4.out (Nat.le_refl _))).mono ?_
    rintro e u1 ⟨p1, q1, rfl, o1, b1⟩
    have d1 : Below w4.heap.size w4 u1 := keptW HS4.out b1
    have HO1 : Hid (Owns u1 w4.heap.size 5 (.slice p1 13 q1) (HBh ++ putL 2 nn)) := o1.mono HS4.out.size
    clear o1 b1
    try dsimp only
    refine hK.out _ _ (d1) (fun hHeld => ?_)
    clear hK K
    try simp only [Act.put, List.setIfInBounds_toArray, List.set_cons_zero, List.set_cons_succ]
    refine wpAnyH_ready (rs := [7]) (by kernel_rfl) (by simp) ?_
    refine AllReadyH.cons rfl (fun K hK => ?_) AllReadyH.nil
    have HS7 : Hid _ := hHeld
    clear hHeld
    go_simp
    refine (msg_ch p.m LM HM.out.1 _ (HT4.out.below HS7.out HT4.out.pos) HF.out.m HR.out.2.1).mono ?_
    rintro e u2 ⟨p2, q2, rfl, o2, b2⟩
    have d2 : Below w4.heap.size w4 u2 := keptW HS7.out b2
    have HO2 : Hid (Holds u2 (.slice p2 LM q2) (bytesM p.m) ∧ Owns u2 w4.heap.size 5 (.slice p1 13 q1) (HBh ++ putL 2 nn)) := ⟨o2.holds, HO1.out.kept b2 (Nat.le_refl _)⟩
    clear o2 b2
    try dsimp only
    refine hK.out _ _ (d2) (fun hHeld => ?_)
    clear hK K
    try simp only [Act.put, List.setIfInBounds_toArray, List.set_cons_zero, List.set_cons_succ]
    refine wpAnyH_ready (rs := [8]) (by kernel_rfl) (by simp) ?_
    refine AllReadyH.cons rfl (fun K hK => ?_) AllReadyH.nil
    have HS8 : Hid _ := hHeld
    clear hHeld
    refine step_append_bytes rfl (.tmp 33) (.tmp 36) 78 5 isU8W rfl w4.heap.size (.slice p1 13 q1) (.slice p2 LM q2) (HBh ++ putL 2 nn) (bytesM p.m) rfl rfl HO2.out.2 HO2.out.1 (by have := HM.out; have := HO.out.2.2; simp [putL_length]; omega) HS8.out.size ?_
    intro v3 w5 o3 b3 z3
    have d3 : Below w4.heap.size w4 w5 := HS8.out.trans b3
    try dsimp only
    refine hK.out _ _ (d3) (fun hHeld => ?_)
    clear hK K
    try simp only [Act.put, List.setIfInBounds_toArray]
    refine wpAnyH_take (i := 9) (v := ?_) (by simp only [List.getElem?_toArray, List.getElem?_cons_succ, List.getElem?_cons_zero]; rfl) (by kernel_rfl) (by kernel_rfl) (by kernel_rfl) (fun _ _ _ h => h) (Or.inl ⟨by rfl, ?_⟩) (by assumption) ?_
    rotate_left
    · (intro wq hSq; clear hSq; go_simp; try with_reducible rfl)
    try simp only [Act.put]
    refine wpAnyH_done (by kernel_rfl) ?_ _
    refine NoPanic.normal ?_
    obtain ⟨a5, k5, hv5⟩ := o3.holds.slice
    obtain ⟨L5, hL5⟩ : ∃ z, (HBh ++ putL 2 nn ++ bytesM p.m).length = z := ⟨_, rfl⟩
    rw [hL5] at hv5
    subst hv5
    have hS := seal_any (.slice a5 L5 k5) (HBh ++ putL 2 nn ++ bytesM p.m) w5 (HT4.out.below d3 HT4.out.pos) o3.holds
    have HZ : Hid (Below w4.heap.size w4 w5) := d3
    clear hL5 o3 b3 d3
    go_wp2_with fail
    refine hS.mono ?_
    rintro e w6 ⟨v6, rfl, o6, b6⟩
    clear hS
    go_wp2
    go_ret
    exact ⟨_, rfl, by rw [HB.out.1, HR.out.1, ← List.append_assoc]; exact o6.mono (Nat.le_trans HV.out.1.size (Nat.le_trans HD.out.size HZ.out.size)), keptW (keptW (keptW HV.out.1 HD.out) HZ.out) b6⟩
  by_cases h4 : p.kind = 4
  · have q3 : (p.kind == 3) = false := by rw [h4]; rfl
    have q4 : (p.kind == 4) = true := by rw [h4]; rfl
    have HR : Hid (rawP p = HBh ++ (putL 2 p.num.toNat ++ putL 8 p.mask.toNat)) := by show rawP p = _; unfold rawP tailB; rw [if_neg h3, if_pos h4, HO.out.2.1]
    have hnn := HF.out.n
    have hxx := HF.out.x
    obtain ⟨nn, hn⟩ : ∃ z, p.num.toNat = z := ⟨_, rfl⟩
    obtain ⟨xx, hx⟩ : ∃ z, p.mask.toNat = z := ⟨_, rfl⟩
    have cn : IntKind.u64.wrap p.num = (nn : Int) := by rw [← hn, IntKind.wrap_u64]; omega
    have HN : Hid (nn < 18446744073709551616 ∧ xx < 18446744073709551616) := ⟨by omega, by omega⟩
    rw [hn, hx] at HR
    rw [hx] at c5
    have hx4 := (HD.out.block _ (Array.getElem?_eq_some_iff.1 HV.out.2.1).1).trans HV.out.2.1
    have HC3 : Hid (∀ U, Below w4.heap.size w4 U → U.cell? ⟨w.heap.size, 4, none⟩ = some (.int .u16 p.num) ∧ U.cell? ⟨w.heap.size, 5, none⟩ = some (.int .u64 (xx : Int))) := fun U b => by
      obtain ⟨a0, a1, a2, a3, a4, a5, _⟩ := cells12 ((b.block _ (Array.getElem?_eq_some_iff.1 hx4).1).trans hx4)
      rw [c5]
      exact ⟨a4, a5⟩
    have HT4 : Hid (Tab w4) := HV.out.2.2.below HD.out HV.out.2.2.pos
    clear h3 h4 hn hnn hx hxx y1 y2 y3 hx4 c5
    go_wp2
    refine wp_region_noPanic ?_
    refine wp_region_held_drew (S := fun U => Below w4.heap.size w4 U) (by kernel_rfl) (drew_below w4) (fun hHeld => ?_)
    refine wpAnyH_take (i := 0) (v := .slice a4 11 k4) (by simp only [List.getElem?_toArray, List.getElem?_cons_zero]; rfl) (by kernel_rfl) (by kernel_rfl) (by kernel_rfl) (fun _ _ _ h => h) (Or.inl ⟨by rfl, (by intro wq hSq; clear hSq hHeld; go_simp)⟩) (by assumption) ?_
    try simp only [Act.put, List.setIfInBounds_toArray, List.set_cons_zero, List.set_cons_succ]
    refine wpAnyH_take (i := 1) (v := ?_) (by simp only [List.getElem?_toArray, List.getElem?_cons_succ, List.getElem?_cons_zero]; rfl) (by kernel_rfl) (by kernel_rfl) (by kernel_rfl) (fun _ _ _ h => h) (Or.inl ⟨by rfl, ?_⟩) (by assumption) ?_
    rotate_left
    · (intro wq hSq; clear hSq; go_simp; try with_reducible rfl)
    try simp only [Act.put, List.setIfInBounds_toArray, List.set_cons_zero, List.set_cons_succ]
    refine wpAnyH_take (i := 2) (v := .int .u16 p.num) (by simp only [List.getElem?_toArray, List.getElem?_cons_succ, List.getElem?_cons_zero]; rfl) (by kernel_rfl) (by kernel_rfl) (by kernel_rfl) (fun _ _ _ h => h) (Or.inl ⟨by rfl, (by intro wq hSq; have hcq := HC3.out wq hSq; obtain ⟨q4, q5⟩ := hcq; clear hSq hHeld; go_simp)⟩) (by assumption) ?_
    try simp only [Act.put, List.setIfInBounds_toArray, List.set_cons_zero, List.set_cons_succ]
    refine wpAnyH_take (i := 3) (v := .int .u64 (nn : Int)) (by simp only [List.getElem?_toArray, List.getElem?_cons_succ, List.getElem?_cons_zero]; rfl) (by kernel_rfl) (by kernel_rfl) (by kernel_rfl) (fun _ _ _ h => h) (Or.inl ⟨by rfl, (by intro wq hSq; clear hSq hHeld; go_simp)⟩) (by assumption) ?_
    try simp only [Act.put, List.setIfInBounds_toArray, List.set_cons_zero, List.set_cons_succ]
    refine wpAnyH_take (i := 5) (v := ?_) (by simp only [List.getElem?_toArray, List.getElem?_cons_succ, List.getElem?_cons_zero]; rfl) (by kernel_rfl) (by kernel_rfl) (by kernel_rfl) (fun _ _ _ h => h) (Or.inl ⟨by rfl, ?_⟩) (by assumption) ?_
    rotate_left
    · (intro wq hSq; clear hSq; go_simp; try with_reducible rfl)
    try simp only [Act.put, List.setIfInBounds_toArray, List.set_cons_zero, List.set_cons_succ]
    refine wpAnyH_take (i := 6) (v := .int .u64 (xx : Int)) (by simp only [List.getElem?_toArray, List.getElem?_cons_succ, List.getElem?_cons_zero]; rfl) (by kernel_rfl) (by kernel_rfl) (by kernel_rfl) (fun _ _ _ h => h) (Or.inl ⟨by rfl, (by intro wq hSq; have hcq := HC3.out wq hSq; obtain ⟨q4, q5⟩ := hcq; clear hSq hHeld; go_simp)⟩) (by assumption) ?_
    try simp only [Act.put, List.setIfInBounds_toArray, List.set_cons_zero, List.set_cons_succ]
    refine wpAnyH_ready (rs := [4]) (by kernel_rfl) (by simp) ?_
    refine AllReadyH.cons rfl (fun K hK => ?_) AllReadyH.nil
    have HS4 : Hid _ := hHeld
    clear hHeld
    go_simp
    refine (put_ch HBh 2 nn 11 13 HO.out.2.2 (by rw [List.length_append, putL_length, HO.out.2.2]) (by rw [HO.out.2.2]; omega) (by decide) HN.out.1 a4 k4 _ (HT4.out.below HS4.out HT4.out.pos) (HO.out.1.below HS4.out (Nat.le_refl _))).mono ?_
    rintro e u1 ⟨p1, q1, rfl, o1, b1⟩
    have d1 : Below w4.heap.size w4 u1 := keptW HS4.out b1
    have HO1 : Hid (Owns u1 w4.heap.size 5 (.slice p1 13 q1) (HBh ++ putL 2 nn)) := o1.mono HS4.out.size
    clear o1 b1
    try dsimp only
    refine hK.out _ _ (d1) (fun hHeld => ?_)
    clear hK K
    try simp only [Act.put, List.setIfInBounds_toArray, List.set_cons_zero, List.set_cons_succ]
    refine wpAnyH_ready (rs := [7]) (by kernel_rfl) (by simp) ?_
    refine AllReadyH.cons rfl (fun K hK => ?_) AllReadyH.nil
    have HS7 : Hid _ := hHeld
    clear hHeld
    go_simp
    refine (put_ch (HBh ++ putL 2 nn) 8 xx 13 21 (by rw [List.length_append, putL_length, HO.out.2.2]) (by rw [List.length_append, List.length_append, putL_length, putL_length, HO.out.2.2]) (by rw [List.length_append, putL_length, HO.out.2.2]; omega) (by decide) HN.out.2 p1 q1 u1 (HT4.out.below HS7.out HT4.out.pos) HO1.out.holds).mono ?_
    rintro e w5 ⟨a5, k5, rfl, o3, b3⟩
    have d3 : Below w4.heap.size w4 w5 := keptW HS7.out b3
    try dsimp only
    refine hK.out _ _ (d3) (fun hHeld => ?_)
    clear hK K
    try simp only [Act.put, List.setIfInBounds_toArray, List.set_cons_zero, List.set_cons_succ]
    refine wpAnyH_take (i := 8) (v := ?_) (by simp only [List.getElem?_toArray, List.getElem?_cons_succ, List.getElem?_cons_zero]; rfl) (by kernel_rfl) (by kernel_rfl) (by kernel_rfl) (fun _ _ _ h => h) (Or.inl ⟨by rfl, ?_⟩) (by assumption) ?_
    rotate_left
    · (intro wq hSq; clear hSq; go_simp; try with_reducible rfl)
    try simp only [Act.put, List.setIfInBounds_toArray, List.set_cons_zero, List.set_cons_succ]
    refine wpAnyH_done (by kernel_rfl) ?_ _
    refine NoPanic.normal ?_
    have hS := seal_any (.slice a5 21 k5) (HBh ++ putL 2 nn ++ putL 8 xx) w5 (HT4.out.below d3 HT4.out.pos) o3.holds
    have HZ : Hid (Below w4.heap.size w4 w5) := d3
    clear o3 b3 d3
    go_wp2_with fail
    refine hS.mono ?_
    rintro e w6 ⟨v6, rfl, o6, b6⟩
    clear hS
    go_wp2
    go_ret
    exact ⟨_, rfl, by rw [HB.out.1, HR.out, ← List.append_assoc]; exact o6.mono (Nat.le_trans HV.out.1.size (Nat.le_trans HD.out.size HZ.out.size)), keptW (keptW (keptW HV.out.1 HD.out) HZ.out) b6⟩
  · have q3 : (p.kind == 3) = false := by rw [beq_eq_false_iff_ne]; omega
    have q4 : (p.kind == 4) = false := by rw [beq_eq_false_iff_ne]; omega
    have HR : Hid (rawP p = HBh) := by show rawP p = HBh; unfold rawP tailB; rw [if_neg h3, if_neg h4, List.append_nil]; exact HO.out.2.1
    have hS := seal_any (.slice a4 11 k4) HBh w4 (HV.out.2.2.below HD.out HV.out.2.2.pos) HO.out.1
    clear h3 h4
    go_wp2_with fail
    refine hS.mono ?_
    rintro e w5 ⟨v5, rfl, o5, b5⟩
    clear hS
    go_wp2
    go_ret
    exact ⟨_, rfl, by rw [HB.out.1, HR.out]; exact o5.mono (Nat.le_trans HV.out.1.size HD.out.size), keptW (keptW HV.out.1 HD.out) b5⟩

end Go.Proofs.YtdbgojmjjkidbaaGreatDoor

/-
  Read of a packet, by its contract.
-/
namespace Go.Proofs.YtdbgojmjjkidbaaGreatDoor
open Go.RowKit


theorem wpList_load_rowG {P : Program} {ops : Array Oper} {rest : List Oper} {o : Oper} {a : Act} {w : World} {Q : Exit → Act → World → Prop} (hw : Region.wanted o (yielded ops a.tmps) = true) (ty : TypeId) (x : Operand) (ho : o.op = .load ty x)
    (g : Nat) (hx : a.eval x = .pointer (some ⟨g, 0, none⟩)) (t : TypeId) (cs : Array Value) (fr : Nat × Nat) (d : TypeDesc) (hg : w.heap[g]? = some (.cells cs t fr))
    (hu : P.underlying ty = some d) (hd : (match d with | .struct _ | .array _ _ => true | _ => false) = true) (hi : (P.info? ty).map (·.size) = some cs.size)
    (h : wpList P ops Q rest (a.put o.dst (.agg cs)) w) : wpList P ops Q (o :: rest) a w := by
  unfold wpList
  rw [if_pos hw]
  exact .inl (wp_load_row ty x ho g hx t cs fr d hg hu hd hi h)

def pkOf (o : Option Pk) : Pk := o.getD nilP

def RdPost (w : World) (b : List UInt8) (e : Ending) (w' : World) : Prop := e = .returned (.tuple #[pv (pkOf (readP b)), .int .i64 (errOf (readP b))]) ∧ Below w.heap.size w w'

theorem contO_len (b : List UInt8) : (contO b).length ≤ b.length := by
  unfold contO
  split
  · rw [List.length_take, List.length_drop]; omega
  · simp

theorem readP_err {b : List UInt8} (h : ¬ errO b = 0) : readP b = none := by unfold readP; rw [if_neg (fun x => h x.1)]

theorem readP_size {b : List UInt8} (h : ¬ sizeO b = b.length) : readP b = none := by unfold readP; rw [if_neg (fun x => h x.2)]

theorem readP_cont {b : List UInt8} (h : errO b = 0) (h2 : sizeO b = b.length) : readP b = readC (contO b) := by unfold readP; rw [if_pos ⟨h, h2⟩]

set_option maxRecDepth 20000 in
set_option maxHeartbeats 4000000 in
theorem readP_any (v : Value) (bs : List UInt8) (w : World) (ht : Tab w) (hK : PKinds w) (hv : Holds w v bs) (hl : bs.length ≤ 100000) :
    Calls Tryz.prog 41 #[v] w (RdPost w bs) := by
  obtain ⟨a0, c0, rfl⟩ := hv.slice
  obtain ⟨W1, f1⟩ : ∃ X, w.alloc (.cells #[.int .i64 0, .int .i64 0, .int .i64 0, .int .u64 0, .int .u16 0, .int .u64 0, .int .i64 0, .int .u64 0, .int .i64 0, .string ⟨#[]⟩, .string ⟨#[]⟩, .string ⟨#[]⟩] 35) = X := ⟨_, rfl⟩
  have b1 : Below w.heap.size w W1 := by rw [← f1]; exact box_below w _
  have hR : W1.heap[w.heap.size]? = some (.cells (pcells nilP).toArray 35 (0, 0)) := by rw [← f1]; exact heap_alloc_new w _
  have ht1 := ht.below b1 ht.pos
  have hO := open_any (.slice a0 bs.length c0) bs W1 ht1 (hv.below b1 (Nat.le_refl _))
  have H1 : Hid (Below w.heap.size w W1 ∧ W1.heap[w.heap.size]? = some (.cells (pcells nilP).toArray 35 (0, 0)) ∧ Tab W1 ∧ PKinds W1) := ⟨b1, hR, ht1, hK.below b1⟩
  clear ht hK hv b1 hR ht1
  go_enter Tryz.func41, Tryz.ntmps41
  go_wp2_with fail
  try rw [f1]
  refine hO.mono ?_
  rintro e W2 ⟨v2, rfl, o2, b2⟩
  clear hO
  have H2 : Hid (Below w.heap.size w W2 ∧ W2.heap[w.heap.size]? = some (.cells (pcells nilP).toArray 35 (0, 0)) ∧ Tab W2 ∧ PKinds W2 ∧ Holds W2 v2 (contO bs)) := ⟨keptW H1.out.1 b2, (b2.block _ (Array.getElem?_eq_some_iff.1 H1.out.2.1).1).trans H1.out.2.1, H1.out.2.2.1.below b2 H1.out.2.2.1.pos, H1.out.2.2.2.below b2, o2.holds⟩
  obtain ⟨a2, c2, hv2⟩ := o2.holds.slice
  clear o2 b2
  obtain ⟨lc, hlc⟩ : ∃ z, (contO bs).length = z := ⟨_, rfl⟩
  rw [hlc] at hv2
  subst hv2
  have HLc : Hid ((contO bs).length = lc) := hlc
  obtain ⟨er, her⟩ : ∃ z, errO bs = z := ⟨_, rfl⟩
  obtain ⟨sz, hsz⟩ : ∃ z, sizeO bs = z := ⟨_, rfl⟩
  have HE : Hid (errO bs = er ∧ sizeO bs = sz) := ⟨her, hsz⟩
  rw [her, hsz]
  clear hlc her hsz
  by_cases h1 : er = 0
  rotate_left
  · have e1 : ((er : Int) == 0) = false := by rw [beq_eq_false_iff_ne]; omega
    have HN : Hid (readP bs = none) := readP_err (by rw [HE.out.1]; exact h1)
    clear h1
    go_wp2_with (refine wpList_store_row rfl 35 _ _ rfl w.heap.size (pcells nilP).toArray rfl rfl 35 (pcells nilP).toArray H2.out.2.1 info12 rfl (one12 nilP) ?_)
    refine bodyPost_ret (results_pk_tmp rfl _ _ w.heap.size nilP rfl (setRow_heap _ _ _ _ _ _ H2.out.2.1)) rfl ⟨?_, below_setRow H2.out.1 (Nat.le_refl _) _⟩
    rw [HN.out]
    rfl
  subst h1
  by_cases h2 : sz = bs.length
  rotate_left
  · have e2 : ((sz : Int) == (bs.length : Int)) = false := by rw [beq_eq_false_iff_ne]; omega
    have HN : Hid (readP bs = none) := readP_size (by rw [HE.out.2]; exact h2)
    clear h2
    go_wp2_with (refine wpList_store_row rfl 35 _ _ rfl w.heap.size (pcells nilP).toArray rfl rfl 35 (pcells nilP).toArray H2.out.2.1 info12 rfl (one12 nilP) ?_)
    refine bodyPost_ret (results_pk_tmp rfl _ _ w.heap.size nilP rfl (setRow_heap _ _ _ _ _ _ H2.out.2.1)) rfl ⟨?_, below_setRow H2.out.1 (Nat.le_refl _) _⟩
    rw [HN.out]
    rfl
  have e2 : ((sz : Int) == (bs.length : Int)) = true := by rw [h2]; simp
  have HC : Hid (readP bs = readC (contO bs)) := readP_cont HE.out.1 (by rw [HE.out.2]; exact h2)
  have hU := unpacked_any (.slice a2 lc c2) (contO bs) W2 H2.out.2.2.1 H2.out.2.2.2.2 (by have := contO_len bs; omega)
  clear h2
  go_wp2_with fail
  refine hU.mono ?_
  rintro e W3 ⟨p, wh, rfl, fp, hrel, b3⟩
  clear hU
  have H3 : Hid (Below w.heap.size w W3 ∧ W3.heap[w.heap.size]? = some (.cells (pcells nilP).toArray 35 (0, 0)) ∧ PKinds W3 ∧ p.Fits ∧ (if (wh && goodP p) = true then some p else none) = readP bs) := ⟨keptW H2.out.1 b3, (b3.block _ (Array.getElem?_eq_some_iff.1 H2.out.2.1).1).trans H2.out.2.1, H2.out.2.2.2.1.below b3, fp, hrel.trans HC.out.symm⟩
  clear b3 fp hrel
  obtain ⟨W4, f4⟩ : ∃ X, W3.alloc (.cells #[.int .i64 p.kind, .int .i64 p.fr, .int .i64 p.dest, .int .u64 p.ep, .int .u16 p.num, .int .u64 p.mask, .int .i64 p.m.origin, .int .u64 p.m.seq, .int .i64 p.m.hop, .string p.m.ex, .string p.m.key, .string p.m.body] 35) = X := ⟨_, rfl⟩
  have b4 : Below W3.heap.size W3 W4 := by rw [← f4]; exact box_below W3 _
  have hP : W4.heap[W3.heap.size]? = some (.cells (pcells p).toArray 35 (0, 0)) := by rw [← f4]; exact heap_alloc_new W3 _
  have H4 : Hid (Below w.heap.size w W4 ∧ W4.heap[w.heap.size]? = some (.cells (pcells nilP).toArray 35 (0, 0)) ∧ W4.heap[W3.heap.size]? = some (.cells (pcells p).toArray 35 (0, 0))) := ⟨keptW H3.out.1 b4, (b4.block _ (Array.getElem?_eq_some_iff.1 H3.out.2.1).1).trans H3.out.2.1, hP⟩
  have hG := goodP_any p W4 (H3.out.2.2.1.below b4) H3.out.2.2.2.1.m
  clear b4 hP
  cases wh
  · have HN : Hid (readP bs = none) := by
      show readP bs = none
      rw [← H3.out.2.2.2.2]
      rfl
    clear hG
    go_wp2_with (first | refine wpList_store_row rfl 35 _ _ rfl w.heap.size (pcells nilP).toArray rfl rfl 35 (pcells nilP).toArray H4.out.2.1 info12 rfl (one12 nilP) ?_)
    refine bodyPost_ret (results_pk_tmp rfl _ _ w.heap.size nilP rfl (setRow_heap _ _ _ _ _ _ H4.out.2.1)) rfl ⟨?_, below_setRow H4.out.1 (Nat.le_refl _) _⟩
    rw [HN.out]
    rfl
  · go_wp2_with (refine wpList_load_rowG (by first | rfl | (simp [Region.wanted]; done)) 35 _ rfl W3.heap.size rfl 35 (pcells p).toArray (0, 0) _ H4.out.2.2 Tryz.underlying35 rfl info12 ?_)
    refine hG.mono ?_
    rintro e W5 ⟨rfl, b5⟩
    clear hG
    have H5 : Hid (Below w.heap.size w W5 ∧ W5.heap[w.heap.size]? = some (.cells (pcells nilP).toArray 35 (0, 0)) ∧ W5.heap[W3.heap.size]? = some (.cells (pcells p).toArray 35 (0, 0))) := ⟨keptW H4.out.1 b5, (b5.block _ (Array.getElem?_eq_some_iff.1 H4.out.2.1).1).trans H4.out.2.1, (b5.block _ (Array.getElem?_eq_some_iff.1 H4.out.2.2).1).trans H4.out.2.2⟩
    clear b5
    cases hg : goodP p
    · have HN : Hid (readP bs = none) := by
        show readP bs = none
        rw [← H3.out.2.2.2.2, hg]
        rfl
      clear hg
      go_wp2_with (first | refine wpList_store_row rfl 35 _ _ rfl w.heap.size (pcells nilP).toArray rfl rfl 35 (pcells nilP).toArray H5.out.2.1 info12 rfl (one12 nilP) ?_)
      refine bodyPost_ret (results_pk_tmp rfl _ _ w.heap.size nilP rfl (setRow_heap _ _ _ _ _ _ H5.out.2.1)) rfl ⟨?_, below_setRow H5.out.1 (Nat.le_refl _) _⟩
      rw [HN.out]
      rfl
    · have HN : Hid (readP bs = some p) := by
        show readP bs = some p
        rw [← H3.out.2.2.2.2, hg]
        rfl
      clear hg
      go_wp2_with (first | refine wpList_load_row rfl 35 _ rfl W3.heap.size rfl 35 (pcells p).toArray (0, 0) _ H5.out.2.2 Tryz.underlying35 rfl info12 ?_ | refine wpList_store_row rfl 35 _ _ rfl w.heap.size (pcells p).toArray rfl rfl 35 (pcells nilP).toArray H5.out.2.1 info12 rfl (one12 p) ?_)
      refine bodyPost_ret (results_pk_tmp rfl _ _ w.heap.size p rfl (setRow_heap _ _ _ _ _ _ H5.out.2.1)) rfl ⟨?_, below_setRow H5.out.1 (Nat.le_refl _) _⟩
      rw [HN.out]
      rfl

end Go.Proofs.YtdbgojmjjkidbaaGreatDoor
