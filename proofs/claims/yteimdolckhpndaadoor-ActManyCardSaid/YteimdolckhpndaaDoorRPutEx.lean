/-
  The document's yes, Exchange, Binding, by their contracts.
-/
import Derived.Test.YteimdolckhpndaaDoorPutEx
import Derived.Test.YteimdolckhpndaaDoorParse13
namespace Go.Proofs.YteimdolckhpndaaDoor
open Go.RowKit

/-- How what puts behind bytes ends: new bytes, their count a letter. -/
def ChPost (L : Nat) (B : List UInt8) (V : World) (e : Ending) (w' : World) : Prop := ∃ a' c', e = .returned (.slice a' L c') ∧ Owns w' V.heap.size 5 (.slice a' L c') B ∧ Below V.heap.size V w'
theorem rtext_ch (B : List UInt8) (s : ByteArray) (L n : Nat) (hn : B.length = n) (hL : (B ++ textL s).length = L) (hB : B.length ≤ 10000000) (hs : s.size ≤ 65535) (a : Option Addr) (c : Nat) (V : World) (hv : Holds V (.slice a n c) B) :
    Calls Tryd.prog 39 #[.slice a n c, .string s] V (ChPost L (B ++ textL s) V) := rtext_at B s L n hn hL hB hs a c V hv
theorem rput_ch (B : List UInt8) (k v : Nat) (L n : Nat) (_hn : B.length = n) (hL : (B ++ putL k v).length = L) (hB : B.length ≤ 10000000) (hg : goodB k = true) (a : Option Addr) (c : Nat) (V : World) (hv : Holds V (.slice a n c) B) :
    Calls Tryd.prog 38 #[.slice a n c, .int .i64 (k : Int), .int .u64 (v : Int)] V (ChPost L (B ++ putL k v) V) := by
  refine (rput_good (.slice a n c) B k v V hv (by omega) hg).mono ?_
  rintro e w' ⟨v', rfl, o, b⟩
  obtain ⟨a', c', h⟩ := o.holds.slice
  rw [hL] at h
  subst h
  exact ⟨a', c', rfl, o, b⟩
theorem ryes_ch (B : List UInt8) (f : Bool) (L n : Nat) (hn : B.length = n) (hL : (B ++ putL 1 (if f then 1 else 0)).length = L) (hB : B.length ≤ 10000000) (a : Option Addr) (c : Nat) (V : World) (hv : Holds V (.slice a n c) B) :
    Calls Tryd.prog 63 #[.slice a n c, .bool f] V (ChPost L (B ++ putL 1 (if f then 1 else 0)) V) := by
  cases f
  · have hP := rput_ch B 1 0 L n hn hL hB rfl a c V hv
    have HV : Hid (ChPost L (B ++ putL 1 (if false = true then 1 else 0)) V = ChPost L (B ++ putL 1 0) V) := rfl
    rw [HV.out]
    go_enter Tryd.func63, Tryd.ntmps63
    go_wp2_with fail
    refine hP.mono ?_
    rintro e w1 ⟨a', c', rfl, o, b⟩
    clear hP
    go_wp2
    go_ret
    exact ⟨a', c', rfl, o, b⟩
  · have hP := rput_ch B 1 1 L n hn hL hB rfl a c V hv
    have HV : Hid (ChPost L (B ++ putL 1 (if true = true then 1 else 0)) V = ChPost L (B ++ putL 1 1) V) := rfl
    rw [HV.out]
    go_enter Tryd.func63, Tryd.ntmps63
    go_wp2_with fail
    refine hP.mono ?_
    rintro e w1 ⟨a', c', rfl, o, b⟩
    clear hP
    go_wp2
    go_ret
    exact ⟨a', c', rfl, o, b⟩
set_option maxRecDepth 20000 in
set_option maxHeartbeats 4000000 in
theorem rputEx_any (v : Value) (bs : List UInt8) (n : ByteArray) (k : Int) (f : Bool) (w : World) (hv : Holds w v bs) (hl : bs.length ≤ 100000) (hs0 : n.size ≤ 65535) :
    Calls Tryd.prog 40 #[v, .agg #[.string n, .int .i64 k, .bool f]] w (PutPost w.heap.size (.slice none 0 0) w (bs ++ exL n k f)) := by
  obtain ⟨W, fold⟩ : ∃ W, w.alloc (.cells #[.string n, .int .i64 k, .bool f] 24) = W := ⟨_, rfl⟩
  have b0 : Below w.heap.size w W := by rw [← fold]; exact box_below w _
  have y0 : W.cell? ⟨w.heap.size, 0, none⟩ = some (.string n) := by rw [← fold]; exact box_cell w _ _ _ _ rfl
  have y1 : W.cell? ⟨w.heap.size, 1, none⟩ = some (.int .i64 k) := by rw [← fold]; exact box_cell w _ _ _ _ rfl
  have y2 : W.cell? ⟨w.heap.size, 2, none⟩ = some (.bool f) := by rw [← fold]; exact box_cell w _ _ _ _ rfl
  obtain ⟨va, vc, rfl⟩ := hv.slice
  obtain ⟨vn, hvn⟩ : ∃ z, bs.length = z := ⟨_, rfl⟩
  obtain ⟨FL, hFL⟩ : ∃ z, bs ++ exL n k f = z := ⟨_, rfl⟩
  rw [hFL]
  rw [hvn] at hv ⊢
  have HW : Hid (Holds W (.slice va vn vc) bs ∧ bs.length ≤ 100000 ∧ bs.length = vn ∧ Below w.heap.size w W ∧ bs ++ exL n k f = FL) := ⟨hv.below b0 (Nat.le_refl _), hl, hvn, b0, hFL⟩
  have SZ : Hid (n.size ≤ 65535 ∧ True) := ⟨hs0, trivial⟩
  have HZ : Hid (∀ V, Below W.heap.size W V → V.cell? ⟨w.heap.size, 0, none⟩ = some (.string n) ∧ V.cell? ⟨w.heap.size, 1, none⟩ = some (.int .i64 k) ∧ V.cell? ⟨w.heap.size, 2, none⟩ = some (.bool f)) := fun V b => ⟨cell_on b y0, cell_on b y1, cell_on b y2⟩
  clear hv hl b0 hFL hvn hs0
  have cw := wrap_u64 k
  obtain ⟨kk, hkk⟩ : ∃ z, u64 k = z := ⟨_, rfl⟩
  have HK : Hid (u64 k = kk) := hkk
  rw [hkk] at cw
  clear hkk
  obtain ⟨B1, hB1⟩ : ∃ z, bs ++ textL n = z := ⟨_, rfl⟩
  obtain ⟨m1, hm1⟩ : ∃ z, B1.length = z := ⟨_, rfl⟩
  have E1 : Hid (bs ++ textL n = B1 ∧ B1.length = m1 ∧ B1.length ≤ 170000) := ⟨hB1, hm1, by rw [← hB1, List.length_append]; have h1 := textL_len (s := n); have h2 := HW.out.2.1; have h3 := SZ.out.1; omega⟩
  clear hB1 hm1
  have T1 : Hid (∀ V ad cd, Holds V (.slice ad vn cd) bs → Calls Tryd.prog 39 #[.slice ad vn cd, .string n] V (ChPost m1 B1 V)) := fun V ad cd h => by have h := rtext_ch bs n m1 vn HW.out.2.2.1 (by rw [E1.out.1]; exact E1.out.2.1) (by have := HW.out.2.1; omega) (by have := SZ.out.1; omega) ad cd V h; rw [E1.out.1] at h; exact h
  obtain ⟨B2, hB2⟩ : ∃ z, B1 ++ putL 1 kk = z := ⟨_, rfl⟩
  obtain ⟨m2, hm2⟩ : ∃ z, B2.length = z := ⟨_, rfl⟩
  have E2 : Hid (B1 ++ putL 1 kk = B2 ∧ B2.length = m2 ∧ B2.length ≤ 240000) := ⟨hB2, hm2, by rw [← hB2, List.length_append, putL_length]; have h2 := E1.out.2.2; omega⟩
  clear hB2 hm2
  have T2 : Hid (∀ V ad cd, Holds V (.slice ad m1 cd) B1 → Calls Tryd.prog 38 #[.slice ad m1 cd, .int .i64 1, .int .u64 (kk : Int)] V (ChPost m2 B2 V)) := fun V ad cd h => by have h := rput_ch B1 1 kk m2 m1 E1.out.2.1 (by rw [E2.out.1]; exact E2.out.2.1) (by have := E1.out.2.2; omega) (by decide) ad cd V h; rw [E2.out.1] at h; exact h
  obtain ⟨B3, hB3⟩ : ∃ z, B2 ++ putL 1 (if f then 1 else 0) = z := ⟨_, rfl⟩
  obtain ⟨m3, hm3⟩ : ∃ z, B3.length = z := ⟨_, rfl⟩
  have E3 : Hid (B2 ++ putL 1 (if f then 1 else 0) = B3 ∧ B3.length = m3 ∧ B3.length ≤ 310000) := ⟨hB3, hm3, by rw [← hB3, List.length_append, putL_length]; have h2 := E2.out.2.2; omega⟩
  clear hB3 hm3
  have T3 : Hid (∀ V ad cd, Holds V (.slice ad m2 cd) B2 → Calls Tryd.prog 63 #[.slice ad m2 cd, .bool f] V (ChPost m3 B3 V)) := fun V ad cd h => by have h := ryes_ch B2 f m3 m2 E2.out.2.1 (by rw [E3.out.1]; exact E3.out.2.1) (by have := E2.out.2.2; omega) ad cd V h; rw [E3.out.1] at h; exact h
  go_enter Tryd.func40, Tryd.ntmps40
  go_wp2
  try rw [fold]
  first
  | (go_region_law (first
      | (rw [if_pos (by simp [Region.wanted])]; go_simp; refine Calls.mono (T3.out u2 p2 q2 o2.holds) ?_; rintro e u3 ⟨p3, q3, rfl, o3, b3⟩; have d3 : Below W.heap.size W u3 := keptW d2 b3; obtain ⟨r3_0, r3_1, r3_2⟩ := HZ.out u3 d3; dsimp only)
      | (rw [if_pos (by simp [Region.wanted])]; go_simp; refine Calls.mono (T2.out u1 p1 q1 o1.holds) ?_; rintro e u2 ⟨p2, q2, rfl, o2, b2⟩; have d2 : Below W.heap.size W u2 := keptW d1 b2; obtain ⟨r2_0, r2_1, r2_2⟩ := HZ.out u2 d2; dsimp only)
      | (rw [if_pos (by simp [Region.wanted])]; go_simp; refine Calls.mono (T1.out _ _ _ (by first | exact HW.out.1 | exact HW.out.1.below (drew_below _) (Nat.le_refl _) | exact HW.out.1.below (drewN_below _ _) (Nat.le_refl _))) ?_; rintro e u1 ⟨p1, q1, rfl, o1, b1⟩; have d1 : Below W.heap.size W u1 := Below.trans (by first | exact Below.refl _ _ | exact drew_below _ | exact drewN_below _ _) b1; have g1 : W.heap.size ≤ W.heap.size := Nat.le_refl _; obtain ⟨r1_0, r1_1, r1_2⟩ := HZ.out u1 d1; dsimp only)))
  | fail
  all_goals go_wp2
  all_goals go_ret
  all_goals refine ⟨_, rfl, ?_, grown_of (keptW HW.out.2.2.2.1 d3) _, (keptW HW.out.2.2.2.1 d3).size⟩
  all_goals rw [← HW.out.2.2.2.2]
  all_goals have hfin : bs ++ exL n k f = B3 := by rw [← E3.out.1, ← E2.out.1, ← E1.out.1]; simp [exL, HK.out]
  all_goals rw [hfin]
  all_goals exact o3.mono (Nat.le_trans HW.out.2.2.2.1.size d2.size)
set_option maxRecDepth 20000 in
set_option maxHeartbeats 4000000 in
theorem rputBd_any (v : Value) (bs : List UInt8) (x q p : ByteArray) (w : World) (hv : Holds w v bs) (hl : bs.length ≤ 100000) (hs0 : x.size ≤ 65535) (hs1 : q.size ≤ 65535) (hs2 : p.size ≤ 65535) :
    Calls Tryd.prog 41 #[v, .agg #[.string x, .string q, .string p]] w (PutPost w.heap.size (.slice none 0 0) w (bs ++ bdL x q p)) := by
  obtain ⟨W, fold⟩ : ∃ W, w.alloc (.cells #[.string x, .string q, .string p] 26) = W := ⟨_, rfl⟩
  have b0 : Below w.heap.size w W := by rw [← fold]; exact box_below w _
  have y0 : W.cell? ⟨w.heap.size, 0, none⟩ = some (.string x) := by rw [← fold]; exact box_cell w _ _ _ _ rfl
  have y1 : W.cell? ⟨w.heap.size, 1, none⟩ = some (.string q) := by rw [← fold]; exact box_cell w _ _ _ _ rfl
  have y2 : W.cell? ⟨w.heap.size, 2, none⟩ = some (.string p) := by rw [← fold]; exact box_cell w _ _ _ _ rfl
  obtain ⟨va, vc, rfl⟩ := hv.slice
  obtain ⟨vn, hvn⟩ : ∃ z, bs.length = z := ⟨_, rfl⟩
  obtain ⟨FL, hFL⟩ : ∃ z, bs ++ bdL x q p = z := ⟨_, rfl⟩
  rw [hFL]
  rw [hvn] at hv ⊢
  have HW : Hid (Holds W (.slice va vn vc) bs ∧ bs.length ≤ 100000 ∧ bs.length = vn ∧ Below w.heap.size w W ∧ bs ++ bdL x q p = FL) := ⟨hv.below b0 (Nat.le_refl _), hl, hvn, b0, hFL⟩
  have SZ : Hid (x.size ≤ 65535 ∧ q.size ≤ 65535 ∧ p.size ≤ 65535 ∧ True) := ⟨hs0, hs1, hs2, trivial⟩
  have HZ : Hid (∀ V, Below W.heap.size W V → V.cell? ⟨w.heap.size, 0, none⟩ = some (.string x) ∧ V.cell? ⟨w.heap.size, 1, none⟩ = some (.string q) ∧ V.cell? ⟨w.heap.size, 2, none⟩ = some (.string p)) := fun V b => ⟨cell_on b y0, cell_on b y1, cell_on b y2⟩
  clear hv hl b0 hFL hvn hs0 hs1 hs2
  obtain ⟨B1, hB1⟩ : ∃ z, bs ++ textL x = z := ⟨_, rfl⟩
  obtain ⟨m1, hm1⟩ : ∃ z, B1.length = z := ⟨_, rfl⟩
  have E1 : Hid (bs ++ textL x = B1 ∧ B1.length = m1 ∧ B1.length ≤ 170000) := ⟨hB1, hm1, by rw [← hB1, List.length_append]; have h1 := textL_len (s := x); have h2 := HW.out.2.1; have h3 := SZ.out.1; omega⟩
  clear hB1 hm1
  have T1 : Hid (∀ V ad cd, Holds V (.slice ad vn cd) bs → Calls Tryd.prog 39 #[.slice ad vn cd, .string x] V (ChPost m1 B1 V)) := fun V ad cd h => by have h := rtext_ch bs x m1 vn HW.out.2.2.1 (by rw [E1.out.1]; exact E1.out.2.1) (by have := HW.out.2.1; omega) (by have := SZ.out.1; omega) ad cd V h; rw [E1.out.1] at h; exact h
  obtain ⟨B2, hB2⟩ : ∃ z, B1 ++ textL q = z := ⟨_, rfl⟩
  obtain ⟨m2, hm2⟩ : ∃ z, B2.length = z := ⟨_, rfl⟩
  have E2 : Hid (B1 ++ textL q = B2 ∧ B2.length = m2 ∧ B2.length ≤ 240000) := ⟨hB2, hm2, by rw [← hB2, List.length_append]; have h1 := textL_len (s := q); have h2 := E1.out.2.2; have h3 := SZ.out.2.1; omega⟩
  clear hB2 hm2
  have T2 : Hid (∀ V ad cd, Holds V (.slice ad m1 cd) B1 → Calls Tryd.prog 39 #[.slice ad m1 cd, .string q] V (ChPost m2 B2 V)) := fun V ad cd h => by have h := rtext_ch B1 q m2 m1 E1.out.2.1 (by rw [E2.out.1]; exact E2.out.2.1) (by have := E1.out.2.2; omega) (by have := SZ.out.2.1; omega) ad cd V h; rw [E2.out.1] at h; exact h
  obtain ⟨B3, hB3⟩ : ∃ z, B2 ++ textL p = z := ⟨_, rfl⟩
  obtain ⟨m3, hm3⟩ : ∃ z, B3.length = z := ⟨_, rfl⟩
  have E3 : Hid (B2 ++ textL p = B3 ∧ B3.length = m3 ∧ B3.length ≤ 310000) := ⟨hB3, hm3, by rw [← hB3, List.length_append]; have h1 := textL_len (s := p); have h2 := E2.out.2.2; have h3 := SZ.out.2.2.1; omega⟩
  clear hB3 hm3
  have T3 : Hid (∀ V ad cd, Holds V (.slice ad m2 cd) B2 → Calls Tryd.prog 39 #[.slice ad m2 cd, .string p] V (ChPost m3 B3 V)) := fun V ad cd h => by have h := rtext_ch B2 p m3 m2 E2.out.2.1 (by rw [E3.out.1]; exact E3.out.2.1) (by have := E2.out.2.2; omega) (by have := SZ.out.2.2.1; omega) ad cd V h; rw [E3.out.1] at h; exact h
  go_enter Tryd.func41, Tryd.ntmps41
  go_wp2
  try rw [fold]
  first
  | (go_region_law (first
      | (rw [if_pos (by simp [Region.wanted])]; go_simp; refine Calls.mono (T3.out u2 p2 q2 o2.holds) ?_; rintro e u3 ⟨p3, q3, rfl, o3, b3⟩; have d3 : Below W.heap.size W u3 := keptW d2 b3; obtain ⟨r3_0, r3_1, r3_2⟩ := HZ.out u3 d3; dsimp only)
      | (rw [if_pos (by simp [Region.wanted])]; go_simp; refine Calls.mono (T2.out u1 p1 q1 o1.holds) ?_; rintro e u2 ⟨p2, q2, rfl, o2, b2⟩; have d2 : Below W.heap.size W u2 := keptW d1 b2; obtain ⟨r2_0, r2_1, r2_2⟩ := HZ.out u2 d2; dsimp only)
      | (rw [if_pos (by simp [Region.wanted])]; go_simp; refine Calls.mono (T1.out _ _ _ (by first | exact HW.out.1 | exact HW.out.1.below (drew_below _) (Nat.le_refl _) | exact HW.out.1.below (drewN_below _ _) (Nat.le_refl _))) ?_; rintro e u1 ⟨p1, q1, rfl, o1, b1⟩; have d1 : Below W.heap.size W u1 := Below.trans (by first | exact Below.refl _ _ | exact drew_below _ | exact drewN_below _ _) b1; have g1 : W.heap.size ≤ W.heap.size := Nat.le_refl _; obtain ⟨r1_0, r1_1, r1_2⟩ := HZ.out u1 d1; dsimp only)))
  | fail
  all_goals go_wp2
  all_goals go_ret
  all_goals refine ⟨_, rfl, ?_, grown_of (keptW HW.out.2.2.2.1 d3) _, (keptW HW.out.2.2.2.1 d3).size⟩
  all_goals rw [← HW.out.2.2.2.2]
  all_goals have hfin : bs ++ bdL x q p = B3 := by rw [← E3.out.1, ← E2.out.1, ← E1.out.1]; simp [bdL]
  all_goals rw [hfin]
  all_goals exact o3.mono (Nat.le_trans HW.out.2.2.2.1.size d2.size)
end Go.Proofs.YteimdolckhpndaaDoor
