/-
  put, putExchange, by their contracts.
-/
import Derived.Test.YteimdolckhpndaaDoorGoodA
import Derived.Test.YteimdolckhpndaaDoorRdCall
import Derived.Test.YteimdolckhpndaaDoorRMsgs
import Derived.Deep.RegionLaw
namespace Go.Proofs.YteimdolckhpndaaDoor
open Go.RowKit

/-- How what puts behind bytes of the call's own ends. -/
def PutPost (base : Nat) (v : Value) (w : World) (bs : List UInt8) (e : Ending) (w' : World) : Prop := ∃ v', e = .returned v' ∧ Owns w' base 5 v' bs ∧ w.grownBy w' v.ownBlock ∧ base ≤ w'.heap.size
theorem grown_of {w w' : World} (h : Below w.heap.size w w') (r : Option Nat) : w.grownBy w' r := ⟨h.os, h.tape, h.output, h.size, fun k hk _ => h.block k hk⟩
theorem below_of_grown {w w' : World} (h : w.grownBy w' (Value.slice none 0 0).ownBlock) : Below w.heap.size w w' := ⟨h.os, h.tape, h.output, h.size, fun k hk => h.block k hk (by simp [Value.ownBlock])⟩
theorem put_post {base : Nat} {w W w' : World} {bs : List UInt8} {v v' : Value} (hb : base ≤ w.heap.size) (b0 : Below w.heap.size w W) (o : Owns w' W.heap.size 5 v' bs) (b : Below W.heap.size W w') : PutPost base v w bs (.returned v') w' :=
  ⟨v', rfl, o.mono (Nat.le_trans hb b0.size), grown_of (keptW b0 b) _, Nat.le_trans hb (Nat.le_trans b0.size b.size)⟩
theorem textsL_one (s : ByteArray) : textsL [s] = textL s := by simp [textsL]
set_option maxRecDepth 20000 in
set_option maxHeartbeats 4000000 in
theorem putEx0_any (v : Value) (bs : List UInt8) (n : ByteArray) (k : Int) (w : World) (ht : Tab w) (hv : Holds w v bs) (hl : bs.length ≤ 100000) (hn : n.size ≤ 65535) :
    Calls Tryd.prog 61 #[v, .agg #[.string n, .int .i64 k, .bool false]] w (PutPost w.heap.size (.slice none 0 0) w (bs ++ exL n k false)) := by
  obtain ⟨W, fold⟩ : ∃ W, w.alloc (.cells #[.string n, .int .i64 k, .bool false] 24) = W := ⟨_, rfl⟩
  have b0 : Below w.heap.size w W := by rw [← fold]; exact box_below w _
  have y0 : W.cell? ⟨w.heap.size, 0, none⟩ = some (.string n) := by rw [← fold]; exact box_cell w _ _ _ _ rfl
  have y1 : W.cell? ⟨w.heap.size, 1, none⟩ = some (.int .i64 k) := by rw [← fold]; exact box_cell w _ _ _ _ rfl
  have y2 : W.cell? ⟨w.heap.size, 2, none⟩ = some (.bool false) := by rw [← fold]; exact box_cell w _ _ _ _ rfl
  have c1 := wrap_u64 k
  have hE : bs ++ textsL [n] ++ putL 1 (u64 k) ++ putL 1 (0) = bs ++ exL n k false := by simp [exL, textsL]
  obtain ⟨FL, hFL⟩ : ∃ z, bs ++ exL n k false = z := ⟨_, rfl⟩
  rw [hFL] at hE ⊢
  have HE : Hid _ := hE
  clear hE hFL
  obtain ⟨va, vc, rfl⟩ := hv.slice
  obtain ⟨vn, hvn⟩ : ∃ z, bs.length = z := ⟨_, rfl⟩
  obtain ⟨kk, hkk⟩ : ∃ z, u64 k = z := ⟨_, rfl⟩
  have lk : kk < 18446744073709551616 := by rw [← hkk]; exact u64_lt _
  rw [hkk] at c1 HE
  have htl := textL_length hn
  have HW : Hid (Tab W ∧ Holds W (.slice va vn vc) bs ∧ bs.length ≤ 100000 ∧ n.size ≤ 65535 ∧ kk < 18446744073709551616 ∧ Below w.heap.size w W ∧ (textsL [n]).length ≤ 65537) := ⟨ht.below b0 ht.pos, by rw [hvn] at hv; exact hv.below b0 (Nat.le_refl _), hl, hn, lk, b0, by rw [textsL_one, htl]; omega⟩
  try rw [hvn]
  clear ht hv hl hn lk b0 hkk hvn htl
  have HT1 : Hid (∀ V, Row V (.slice (some ⟨W.heap.size, 0, none⟩) 1 1) (scells [n]) → Below W.heap.size W V → Calls Tryd.prog 42 #[.slice va vn vc, .slice (some ⟨W.heap.size, 0, none⟩) 1 1] V fun e w' => ∃ a' c', e = .returned (.slice a' (bs ++ textsL [n]).length c') ∧ Owns w' W.heap.size 5 (.slice a' (bs ++ textsL [n]).length c') (bs ++ textsL [n]) ∧ Below W.heap.size W w') := by
    intro V hrow b2
    refine (puts_any (.slice va vn vc) _ bs [n] _ (HW.out.1.below b2 HW.out.1.pos) (HW.out.2.1.below b2 (Nat.le_refl _)) hrow (by have := HW.out.2.2.1; omega) (by intro s hs; rw [List.mem_singleton.1 hs]; exact HW.out.2.2.2.1) (by simp) (by simp)).mono ?_
    rintro e w' ⟨v', rfl, o, b⟩
    obtain ⟨a', c', h⟩ := o.holds.slice
    subst h
    exact ⟨a', c', rfl, o.mono b2.size, keptW b2 b⟩
  obtain ⟨tn, htn⟩ : ∃ z, (bs ++ textsL [n]).length = z := ⟨_, rfl⟩
  have HL1 : Hid ((bs ++ textsL [n]).length = tn ∧ tn ≤ 170000) := ⟨htn, by rw [← htn, List.length_append]; have h1 := HW.out.2.2.1; have h2 := HW.out.2.2.2.2.2.2; omega⟩
  rw [htn] at HT1
  clear htn
  obtain ⟨k2, hk2⟩ : ∃ z, (bs ++ textsL [n] ++ putL 1 kk).length = z := ⟨_, rfl⟩
  have HK2 : Hid ((bs ++ textsL [n] ++ putL 1 kk).length = k2) := hk2
  clear hk2
  have HP : Hid (∀ V a c, Below W.heap.size W V → Holds V (.slice a tn c) (bs ++ textsL [n]) → Calls Tryd.prog 36 #[.slice a tn c, .int .i64 1, .int .u64 (kk : Int)] V fun e w' => ∃ a' c', e = .returned (.slice a' k2 c') ∧ Owns w' V.heap.size 5 (.slice a' k2 c') (bs ++ textsL [n] ++ putL 1 kk) ∧ Below V.heap.size V w') := fun V a c bV h => by
    refine (put_good (.slice a tn c) (bs ++ textsL [n]) 1 kk V (HW.out.1.below bV HW.out.1.pos) h (by have := HL1.out; omega) (by decide) HW.out.2.2.2.2.1).mono ?_
    rintro e w' ⟨v', rfl, o, b⟩
    obtain ⟨a', c', h⟩ := o.holds.slice
    rw [HK2.out] at h
    subst h
    exact ⟨a', c', rfl, o, b⟩
  have HZ : Hid (∀ V, Below W.heap.size W V → V.cell? ⟨w.heap.size, 0, none⟩ = some (.string n) ∧ V.cell? ⟨w.heap.size, 1, none⟩ = some (.int .i64 k) ∧ V.cell? ⟨w.heap.size, 2, none⟩ = some (.bool false)) := fun V b => ⟨cell_on b y0, cell_on b y1, cell_on b y2⟩
  have z0 := fun o => cell_on (box_below W o) y0
  have z1 := fun o => cell_on (box_below W o) y1
  go_enter Tryd.func61, Tryd.ntmps61
  go_wp2
  try rw [fold]
  first
  | (go_region_law (first
      | (rw [if_pos (by simp [Region.wanted])]; go_simp; refine Calls.mono (HP.out u1 p1 q1 d1 o1.holds) ?_; rintro e u2 ⟨p2, q2, rfl, o2, b2⟩; have d2 : Below W.heap.size W u2 := keptW d1 b2; obtain ⟨r0, r1, r2⟩ := HZ.out u2 d2; dsimp only)
      | (rw [if_pos (by simp [Region.wanted])]; go_simp; refine Calls.mono (HT1.out _ (by exact row_texts W [n] 1 rfl (by omega) _ rfl) (by first | exact box_below _ _ | exact (box_below _ _).drew | exact keptW (box_below _ _) (drewN_below _ _) | exact keptW (drew_below _) (box_below _ _))) ?_; rintro e u1 ⟨p1, q1, rfl, o1, d1⟩; obtain ⟨r0, r1, r2⟩ := HZ.out u1 d1; dsimp only)))
  | fail
  all_goals have HO : Hid (Owns u2 w.heap.size 5 (.slice p2 k2 q2) (bs ++ textsL [n] ++ putL 1 kk) ∧ Below w.heap.size w u2 ∧ Tab u2 ∧ (bs ++ textsL [n] ++ putL 1 kk).length ≤ 1000000) := ⟨o2.mono (Nat.le_trans HW.out.2.2.2.2.2.1.size d1.size), keptW HW.out.2.2.2.2.2.1 d2, HW.out.1.below d2 HW.out.1.pos, by rw [List.length_append, HL1.out.1, putL_length]; have := HL1.out.2; omega⟩
  all_goals clear o1 o2 b2 d1 d2
  all_goals have hP := put_good (.slice p2 k2 q2) (bs ++ textsL [n] ++ putL 1 kk) 1 0 u2 HO.out.2.2.1 HO.out.1.holds (Nat.le_trans HO.out.2.2.2 (by decide)) (by decide) (by decide)
  all_goals go_wp2_with fail
  all_goals refine hP.mono ?_
  all_goals rintro e u3 ⟨v3, rfl, o3, b3⟩
  all_goals clear hP
  all_goals go_wp2
  all_goals go_ret
  all_goals rw [← HE.out]
  all_goals exact put_post (Nat.le_refl _) HO.out.2.1 o3 b3
set_option maxRecDepth 20000 in
set_option maxHeartbeats 4000000 in
theorem putEx1_any (v : Value) (bs : List UInt8) (n : ByteArray) (k : Int) (w : World) (ht : Tab w) (hv : Holds w v bs) (hl : bs.length ≤ 100000) (hn : n.size ≤ 65535) :
    Calls Tryd.prog 61 #[v, .agg #[.string n, .int .i64 k, .bool true]] w (PutPost w.heap.size (.slice none 0 0) w (bs ++ exL n k true)) := by
  obtain ⟨W, fold⟩ : ∃ W, w.alloc (.cells #[.string n, .int .i64 k, .bool true] 24) = W := ⟨_, rfl⟩
  have b0 : Below w.heap.size w W := by rw [← fold]; exact box_below w _
  have y0 : W.cell? ⟨w.heap.size, 0, none⟩ = some (.string n) := by rw [← fold]; exact box_cell w _ _ _ _ rfl
  have y1 : W.cell? ⟨w.heap.size, 1, none⟩ = some (.int .i64 k) := by rw [← fold]; exact box_cell w _ _ _ _ rfl
  have y2 : W.cell? ⟨w.heap.size, 2, none⟩ = some (.bool true) := by rw [← fold]; exact box_cell w _ _ _ _ rfl
  have c1 := wrap_u64 k
  have hE : bs ++ textsL [n] ++ putL 1 (u64 k) ++ putL 1 (1) = bs ++ exL n k true := by simp [exL, textsL]
  obtain ⟨FL, hFL⟩ : ∃ z, bs ++ exL n k true = z := ⟨_, rfl⟩
  rw [hFL] at hE ⊢
  have HE : Hid _ := hE
  clear hE hFL
  obtain ⟨va, vc, rfl⟩ := hv.slice
  obtain ⟨vn, hvn⟩ : ∃ z, bs.length = z := ⟨_, rfl⟩
  obtain ⟨kk, hkk⟩ : ∃ z, u64 k = z := ⟨_, rfl⟩
  have lk : kk < 18446744073709551616 := by rw [← hkk]; exact u64_lt _
  rw [hkk] at c1 HE
  have htl := textL_length hn
  have HW : Hid (Tab W ∧ Holds W (.slice va vn vc) bs ∧ bs.length ≤ 100000 ∧ n.size ≤ 65535 ∧ kk < 18446744073709551616 ∧ Below w.heap.size w W ∧ (textsL [n]).length ≤ 65537) := ⟨ht.below b0 ht.pos, by rw [hvn] at hv; exact hv.below b0 (Nat.le_refl _), hl, hn, lk, b0, by rw [textsL_one, htl]; omega⟩
  try rw [hvn]
  clear ht hv hl hn lk b0 hkk hvn htl
  have HT1 : Hid (∀ V, Row V (.slice (some ⟨W.heap.size, 0, none⟩) 1 1) (scells [n]) → Below W.heap.size W V → Calls Tryd.prog 42 #[.slice va vn vc, .slice (some ⟨W.heap.size, 0, none⟩) 1 1] V fun e w' => ∃ a' c', e = .returned (.slice a' (bs ++ textsL [n]).length c') ∧ Owns w' W.heap.size 5 (.slice a' (bs ++ textsL [n]).length c') (bs ++ textsL [n]) ∧ Below W.heap.size W w') := by
    intro V hrow b2
    refine (puts_any (.slice va vn vc) _ bs [n] _ (HW.out.1.below b2 HW.out.1.pos) (HW.out.2.1.below b2 (Nat.le_refl _)) hrow (by have := HW.out.2.2.1; omega) (by intro s hs; rw [List.mem_singleton.1 hs]; exact HW.out.2.2.2.1) (by simp) (by simp)).mono ?_
    rintro e w' ⟨v', rfl, o, b⟩
    obtain ⟨a', c', h⟩ := o.holds.slice
    subst h
    exact ⟨a', c', rfl, o.mono b2.size, keptW b2 b⟩
  obtain ⟨tn, htn⟩ : ∃ z, (bs ++ textsL [n]).length = z := ⟨_, rfl⟩
  have HL1 : Hid ((bs ++ textsL [n]).length = tn ∧ tn ≤ 170000) := ⟨htn, by rw [← htn, List.length_append]; have h1 := HW.out.2.2.1; have h2 := HW.out.2.2.2.2.2.2; omega⟩
  rw [htn] at HT1
  clear htn
  obtain ⟨k2, hk2⟩ : ∃ z, (bs ++ textsL [n] ++ putL 1 kk).length = z := ⟨_, rfl⟩
  have HK2 : Hid ((bs ++ textsL [n] ++ putL 1 kk).length = k2) := hk2
  clear hk2
  have HP : Hid (∀ V a c, Below W.heap.size W V → Holds V (.slice a tn c) (bs ++ textsL [n]) → Calls Tryd.prog 36 #[.slice a tn c, .int .i64 1, .int .u64 (kk : Int)] V fun e w' => ∃ a' c', e = .returned (.slice a' k2 c') ∧ Owns w' V.heap.size 5 (.slice a' k2 c') (bs ++ textsL [n] ++ putL 1 kk) ∧ Below V.heap.size V w') := fun V a c bV h => by
    refine (put_good (.slice a tn c) (bs ++ textsL [n]) 1 kk V (HW.out.1.below bV HW.out.1.pos) h (by have := HL1.out; omega) (by decide) HW.out.2.2.2.2.1).mono ?_
    rintro e w' ⟨v', rfl, o, b⟩
    obtain ⟨a', c', h⟩ := o.holds.slice
    rw [HK2.out] at h
    subst h
    exact ⟨a', c', rfl, o, b⟩
  have HZ : Hid (∀ V, Below W.heap.size W V → V.cell? ⟨w.heap.size, 0, none⟩ = some (.string n) ∧ V.cell? ⟨w.heap.size, 1, none⟩ = some (.int .i64 k) ∧ V.cell? ⟨w.heap.size, 2, none⟩ = some (.bool true)) := fun V b => ⟨cell_on b y0, cell_on b y1, cell_on b y2⟩
  have z0 := fun o => cell_on (box_below W o) y0
  have z1 := fun o => cell_on (box_below W o) y1
  go_enter Tryd.func61, Tryd.ntmps61
  go_wp2
  try rw [fold]
  first
  | (go_region_law (first
      | (rw [if_pos (by simp [Region.wanted])]; go_simp; refine Calls.mono (HP.out u1 p1 q1 d1 o1.holds) ?_; rintro e u2 ⟨p2, q2, rfl, o2, b2⟩; have d2 : Below W.heap.size W u2 := keptW d1 b2; obtain ⟨r0, r1, r2⟩ := HZ.out u2 d2; dsimp only)
      | (rw [if_pos (by simp [Region.wanted])]; go_simp; refine Calls.mono (HT1.out _ (by exact row_texts W [n] 1 rfl (by omega) _ rfl) (by first | exact box_below _ _ | exact (box_below _ _).drew | exact keptW (box_below _ _) (drewN_below _ _) | exact keptW (drew_below _) (box_below _ _))) ?_; rintro e u1 ⟨p1, q1, rfl, o1, d1⟩; obtain ⟨r0, r1, r2⟩ := HZ.out u1 d1; dsimp only)))
  | fail
  all_goals have HO : Hid (Owns u2 w.heap.size 5 (.slice p2 k2 q2) (bs ++ textsL [n] ++ putL 1 kk) ∧ Below w.heap.size w u2 ∧ Tab u2 ∧ (bs ++ textsL [n] ++ putL 1 kk).length ≤ 1000000) := ⟨o2.mono (Nat.le_trans HW.out.2.2.2.2.2.1.size d1.size), keptW HW.out.2.2.2.2.2.1 d2, HW.out.1.below d2 HW.out.1.pos, by rw [List.length_append, HL1.out.1, putL_length]; have := HL1.out.2; omega⟩
  all_goals clear o1 o2 b2 d1 d2
  all_goals have hP := put_good (.slice p2 k2 q2) (bs ++ textsL [n] ++ putL 1 kk) 1 1 u2 HO.out.2.2.1 HO.out.1.holds (Nat.le_trans HO.out.2.2.2 (by decide)) (by decide) (by decide)
  all_goals go_wp2_with fail
  all_goals refine hP.mono ?_
  all_goals rintro e u3 ⟨v3, rfl, o3, b3⟩
  all_goals clear hP
  all_goals go_wp2
  all_goals go_ret
  all_goals rw [← HE.out]
  all_goals exact put_post (Nat.le_refl _) HO.out.2.1 o3 b3
theorem putEx_any (v : Value) (bs : List UInt8) (n : ByteArray) (k : Int) (f : Bool) (w : World) (ht : Tab w) (hv : Holds w v bs) (hl : bs.length ≤ 100000) (hn : n.size ≤ 65535) :
    Calls Tryd.prog 61 #[v, .agg #[.string n, .int .i64 k, .bool f]] w (PutPost w.heap.size (.slice none 0 0) w (bs ++ exL n k f)) := by
  cases f
  · exact putEx0_any v bs n k w ht hv hl hn
  · exact putEx1_any v bs n k w ht hv hl hn
end Go.Proofs.YteimdolckhpndaaDoor
