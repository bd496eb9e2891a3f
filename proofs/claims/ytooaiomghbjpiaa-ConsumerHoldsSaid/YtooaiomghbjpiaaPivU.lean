/-
  order2Ordered, medianOrdered, medianAdjacentOrdered, choosePivotOrdered at tags: a place between the bounds.
-/
import Derived.Test.YtooaiomghbjpiaaRevU
namespace Go.Proofs.Ytooaiomghbjpiaa
open Go.RowKit Go.Sort
set_option maxRecDepth 20000

/-- A counter in a box of its own; nothing else was changed. -/
structure Sw (w w' : World) (sb s : Nat) : Prop where
  box : w'.heap[sb]? = some (.cells #[.int .i64 (s : Int)] 3 (0, 0))
  os : w'.os = w.os
  tape : w'.tape = w.tape
  output : w'.output = w.output
  size : w'.heap.size = w.heap.size
  oth : ∀ k, k ≠ sb → w'.heap[k]? = w.heap[k]?
theorem Sw.trans {w w1 w2 : World} {sb s t : Nat} (h : Sw w w1 sb s) (k : Sw w1 w2 sb t) : Sw w w2 sb t := ⟨k.box, k.os.trans h.os, k.tape.trans h.tape, k.output.trans h.output, k.size.trans h.size, fun i hi => (k.oth i hi).trans (h.oth i hi)⟩
set_option maxHeartbeats 1000000 in
theorem order2U (w : World) (base g cap n a b sb s : Nat) (d : Array Int) (h : UR w base g cap d) (hn : d.size = n) (ha : a < n) (hb : b < n) (hsb : w.heap[sb]? = some (.cells #[.int .i64 (s : Int)] 3 (0, 0))) (hs : s ≤ 1000) :
    Calls Try.prog 98 #[.slice (some ⟨g, 0, none⟩) n cap, .int .i64 (a : Int), .int .i64 (b : Int), .pointer (some ⟨sb, 0, none⟩)] w fun e w' => ∃ x y s' : Nat, e = .returned (.tuple #[.int .i64 (x : Int), .int .i64 (y : Int)]) ∧ (x = a ∧ y = b ∨ x = b ∧ y = a) ∧ s' ≤ s + 1 ∧ Sw w w' sb s' := by
  have ca := h.cell (t := a) (by omega)
  have cb := h.cell (t := b) (by omega)
  have cs : w.cell? ⟨sb, 0, none⟩ = some (.int .i64 (s : Int)) := by simp [World.cell?, hsb]
  have fs : w.frozen? ⟨sb, 0, none⟩ = false := by simp [World.frozen?, hsb]
  have HE : Hid (∀ q, Sw w (w.drewN q) sb s) := fun q => ⟨hsb, rfl, rfl, rfl, rfl, fun _ _ => rfl⟩
  have HS : Hid (∀ q, Sw w ((w.drewN q).setCell ⟨sb, 0, none⟩ (.int .i64 ((s : Int) + 1))) sb (s + 1)) := fun q => ⟨by simp [World.setCell, Array.getElem?_modify, hsb], rfl, rfl, rfl, by simp, fun k hk => Below.heap_setCell _ _ _ _ hk⟩
  have na : (a : Int) < (n : Int) := by omega
  have nb : (b : Int) < (n : Int) := by omega
  generalize d[a]! = x at *
  generalize d[b]! = y at *
  clear h hn hsb
  go_enter Try.func98, Try.ntmps98
  go_wp2
  go_quiet (first | (go_at_call 90; refine Calls.quiet_of_same (less_u _ _ _)))
  cases hl : ltU y x with
  | true =>
    go_wp2
    go_ret2
    exact ⟨b, a, s + 1, rfl, .inr ⟨rfl, rfl⟩, Nat.le_refl _, HS.out _⟩
  | false =>
    go_wp2
    go_ret2
    exact ⟨a, b, s, rfl, .inl ⟨rfl, rfl⟩, Nat.le_succ _, HE.out _⟩
set_option maxHeartbeats 1000000 in
theorem medianU (w : World) (base g cap n a b c sb s : Nat) (d : Array Int) (h : UR w base g cap d) (hn : d.size = n) (ha : a < n) (hb : b < n) (hc : c < n) (hsb : w.heap[sb]? = some (.cells #[.int .i64 (s : Int)] 3 (0, 0))) (hg : g ≠ sb) (hs : s ≤ 900) :
    Calls Try.prog 96 #[.slice (some ⟨g, 0, none⟩) n cap, .int .i64 (a : Int), .int .i64 (b : Int), .int .i64 (c : Int), .pointer (some ⟨sb, 0, none⟩)] w fun e w' => ∃ m s' : Nat, e = .returned (.int .i64 (m : Int)) ∧ (m = a ∨ m = b ∨ m = c) ∧ s' ≤ s + 3 ∧ Sw w w' sb s' := by
  have HO : Hid (∀ (V : World) (a b t : Nat), a < n → b < n → t ≤ 1000 → Sw w V sb t → Calls Try.prog 98 #[.slice (some ⟨g, 0, none⟩) n cap, .int .i64 (a : Int), .int .i64 (b : Int), .pointer (some ⟨sb, 0, none⟩)] V fun e w' => ∃ x y s' : Nat, e = .returned (.tuple #[.int .i64 (x : Int), .int .i64 (y : Int)]) ∧ (x = a ∧ y = b ∨ x = b ∧ y = a) ∧ s' ≤ t + 1 ∧ Sw w w' sb s') := fun V a b t ha hb ht hV => (order2U V base g cap n a b sb t d (h.same (hV.oth g hg)) hn ha hb hV.box ht).mono fun e w' ⟨x, y, s', h1, h2, h3, h4⟩ => ⟨x, y, s', h1, h2, h3, hV.trans h4⟩
  have H0 : Hid (Sw w w sb s) := ⟨hsb, rfl, rfl, rfl, rfl, fun _ _ => rfl⟩
  clear h hn hsb
  go_enter Try.func96, Try.ntmps96
  go_wp2_with fail
  refine (HO.out w a b s ha hb (by omega) H0.out).mono ?_
  rintro e w1 ⟨x1, y1, s1, rfl, h1, t1, S1⟩
  have lx1 : x1 < n := by omega
  have ly1 : y1 < n := by omega
  have HS1 : Hid (Sw w w1 sb s1 ∧ (x1 = a ∧ y1 = b ∨ x1 = b ∧ y1 = a)) := ⟨S1, h1⟩
  clear S1 h1
  go_wp2_with fail
  refine (HO.out w1 y1 c s1 ly1 hc (by omega) HS1.out.1).mono ?_
  rintro e w2 ⟨x2, y2, s2, rfl, h2, t2, S2⟩
  have lx2 : x2 < n := by omega
  have HS2 : Hid (Sw w w2 sb s2 ∧ (x2 = y1 ∧ y2 = c ∨ x2 = c ∧ y2 = y1)) := ⟨S2, h2⟩
  clear S2 h2
  go_wp2_with fail
  refine (HO.out w2 x1 x2 s2 lx1 lx2 (by omega) HS2.out.1).mono ?_
  rintro e w3 ⟨x3, y3, s3, rfl, h3, t3, S3⟩
  have HS3 : Hid (Sw w w3 sb s3 ∧ (x3 = x1 ∧ y3 = x2 ∨ x3 = x2 ∧ y3 = x1)) := ⟨S3, h3⟩
  clear S3 h3
  go_wp2
  go_ret
  refine ⟨y3, s3, rfl, ?_, by omega, HS3.out.1⟩
  have := HS1.out.2; have := HS2.out.2; have := HS3.out.2
  omega
set_option maxHeartbeats 1000000 in
theorem medianAdjU (w : World) (base g cap n a sb s : Nat) (d : Array Int) (h : UR w base g cap d) (hn : d.size = n) (ha : 1 ≤ a) (hb : a + 1 < n) (hsz : n ≤ 1000000) (hsb : w.heap[sb]? = some (.cells #[.int .i64 (s : Int)] 3 (0, 0))) (hg : g ≠ sb) (hs : s ≤ 900) :
    Calls Try.prog 95 #[.slice (some ⟨g, 0, none⟩) n cap, .int .i64 (a : Int), .pointer (some ⟨sb, 0, none⟩)] w fun e w' => ∃ m s' : Nat, e = .returned (.int .i64 (m : Int)) ∧ a ≤ m + 1 ∧ m ≤ a + 1 ∧ s' ≤ s + 3 ∧ Sw w w' sb s' := by
  obtain ⟨k, rfl⟩ : ∃ k, a = k + 1 := ⟨a - 1, by omega⟩
  have hM := medianU w base g cap n k (k + 1) (k + 2) sb s d h hn (by omega) (by omega) (by omega) hsb hg hs
  rw [show ((k + 1 : Nat) : Int) = (k : Int) + 1 by omega, show ((k + 2 : Nat) : Int) = (k : Int) + 1 + 1 by omega] at hM
  clear h hn hsb
  go_enter Try.func95, Try.ntmps95
  go_wp2_with fail
  refine hM.mono ?_
  rintro e w1 ⟨m, s1, rfl, h1, t1, S1⟩
  go_wp2
  go_ret
  exact ⟨m, s1, rfl, by omega, by omega, t1, S1⟩
set_option maxHeartbeats 2000000 in
theorem pivotU (w : World) (base g cap n a b : Nat) (d : Array Int) (h : UR w base g cap d) (hn : d.size = n) (hab : a + 12 < b) (hb : b ≤ n) (hsz : n ≤ 1000000) :
    Calls Try.prog 87 #[.slice (some ⟨g, 0, none⟩) n cap, .int .i64 (a : Int), .int .i64 (b : Int)] w fun e w' => ∃ m t : Nat, e = .returned (.tuple #[.int .i64 (m : Int), .int .i64 (t : Int)]) ∧ a ≤ m ∧ m < b ∧ t ≤ 2 ∧ Go1 w w' base g cap n d := by
  obtain ⟨L, hL⟩ : ∃ L, b - a = L := ⟨_, rfl⟩
  obtain ⟨q, hq⟩ : ∃ q, L / 4 = q := ⟨_, rfl⟩
  obtain ⟨I, hI⟩ : ∃ I, a + q = I := ⟨_, rfl⟩
  obtain ⟨J, hJ⟩ : ∃ J, a + q * 2 = J := ⟨_, rfl⟩
  obtain ⟨K, hK⟩ : ∃ K, a + q * 3 = K := ⟨_, rfl⟩
  have e1 : (b : Int) - (a : Int) = (L : Int) := by omega
  have e2 : (L : Int) / 4 = (q : Int) := by omega
  have e2' : (L : Int).tdiv 4 = (q : Int) := by rw [Int.tdiv_eq_ediv_of_nonneg (by omega)]; omega
  have eI : (a : Int) + (q : Int) = (I : Int) := by omega
  have eJ : (a : Int) + (q : Int) * 2 = (J : Int) := by omega
  have eK : (a : Int) + (q : Int) * 3 = (K : Int) := by omega
  have l8 : (8 : Int) ≤ (L : Int) := by omega
  have HN : Hid (a ≤ I ∧ I + 2 ≤ J ∧ J + 2 ≤ K ∧ K + 2 < b ∧ 1 ≤ I ∧ (50 ≤ L → a + 1 ≤ I)) := ⟨by omega, by omega, by omega, by omega, by omega, fun _ => by omega⟩
  obtain ⟨W, fold⟩ : ∃ W, w.alloc (.cells #[.int .i64 0] 3) = W := ⟨_, rfl⟩
  have bW : RowKit.Below w.heap.size w W := by rw [← fold]; exact (RowKit.Below.refl _ w).alloc (Nat.le_refl _) _
  have hZ : W.heap[w.heap.size]? = some (.cells #[.int .i64 0] 3 (0, 0)) := by rw [← fold]; exact heap_alloc_new w _
  have H0 : Hid (Sw W W w.heap.size 0) := ⟨hZ, rfl, rfl, rfl, rfl, fun _ _ => rfl⟩
  have hgw := h.lt.1
  have HR : Hid (∀ V s, Sw W V w.heap.size s → UR V base g cap d) := fun V s hV => (h.same (bW.block g hgw)).same (hV.oth g (by omega))
  have HG : Hid (∀ V s, Sw W V w.heap.size s → Go1 w V base g cap n d ∧ V.cell? ⟨w.heap.size, 0, none⟩ = some (.int .i64 (s : Int))) := fun V s hV => ⟨⟨HR.out V s hV, hn, by
    have hb0 : base ≤ w.heap.size := Nat.le_trans h.lt.2 (Nat.le_of_lt hgw)
    refine ⟨hV.os.trans bW.os, hV.tape.trans bW.tape, hV.output.trans bW.output, by have := hV.size; have := bW.size; omega, fun k hk => (hV.oth k (by omega)).trans (bW.block k (by omega))⟩⟩, by simp [World.cell?, hV.box]⟩
  have HA : Hid (∀ V s (x : Nat), Sw W V w.heap.size s → 1 ≤ x → x + 1 < n → s ≤ 900 → Calls Try.prog 95 #[.slice (some ⟨g, 0, none⟩) n cap, .int .i64 (x : Int), .pointer (some ⟨w.heap.size, 0, none⟩)] V fun e w' => ∃ m s' : Nat, e = .returned (.int .i64 (m : Int)) ∧ x ≤ m + 1 ∧ m ≤ x + 1 ∧ s' ≤ s + 3 ∧ Sw W w' w.heap.size s') := fun V s x hV h1 h2 h3 => (medianAdjU V base g cap n x w.heap.size s d (HR.out V s hV) hn h1 h2 hsz hV.box (by omega) h3).mono fun e w' ⟨m, s', k1, k2, k3, k4, k5⟩ => ⟨m, s', k1, k2, k3, k4, hV.trans k5⟩
  have HM : Hid (∀ V s (x y z : Nat), Sw W V w.heap.size s → x < n → y < n → z < n → s ≤ 900 → Calls Try.prog 96 #[.slice (some ⟨g, 0, none⟩) n cap, .int .i64 (x : Int), .int .i64 (y : Int), .int .i64 (z : Int), .pointer (some ⟨w.heap.size, 0, none⟩)] V fun e w' => ∃ m s' : Nat, e = .returned (.int .i64 (m : Int)) ∧ (m = x ∨ m = y ∨ m = z) ∧ s' ≤ s + 3 ∧ Sw W w' w.heap.size s') := fun V s x y z hV h1 h2 h3 h4 => (medianU V base g cap n x y z w.heap.size s d (HR.out V s hV) hn h1 h2 h3 hV.box (by omega) h4).mono fun e w' ⟨m, s', k1, k2, k3, k4⟩ => ⟨m, s', k1, k2, k3, hV.trans k4⟩
  clear h hn bW hZ hL hq hI hJ hK hgw
  by_cases h50 : 50 ≤ L
  · have h50' : (50 : Int) ≤ (L : Int) := by omega
    go_enter Try.func87, Try.ntmps87
    go_wp2_with fail
    try rw [fold]
    clear fold e1 e2 e2' eI eJ eK
    refine (HA.out W 0 I H0.out HN.out.2.2.2.2.1 (by have := HN.out; omega) (by omega)).mono ?_
    rintro e w1 ⟨m1, s1, rfl, p1, p2, t1, S1⟩
    have HS1 : Hid (Sw W w1 w.heap.size s1) := S1
    clear S1
    go_wp2_with fail
    refine (HA.out w1 s1 J HS1.out (by have := HN.out; omega) (by have := HN.out; omega) (by omega)).mono ?_
    rintro e w2 ⟨m2, s2, rfl, p3, p4, t2, S2⟩
    have HS2 : Hid (Sw W w2 w.heap.size s2) := S2
    clear S2
    go_wp2_with fail
    refine (HA.out w2 s2 K HS2.out (by have := HN.out; omega) (by have := HN.out; omega) (by omega)).mono ?_
    rintro e w3 ⟨m3, s3, rfl, p5, p6, t3, S3⟩
    have HS3 : Hid (Sw W w3 w.heap.size s3) := S3
    clear S3
    go_wp2_with fail
    refine (HM.out w3 s3 m1 m2 m3 HS3.out (by have := HN.out; omega) (by have := HN.out; omega) (by have := HN.out; omega) (by omega)).mono ?_
    rintro e w4 ⟨m4, s4, rfl, p7, t4, S4⟩
    obtain ⟨G4, c4⟩ := HG.out w4 s4 S4
    have HG4 : Hid (Go1 w w4 base g cap n d ∧ a ≤ m4 ∧ m4 < b) := ⟨G4, by have := HN.out; have := HN.out.2.2.2.2.2 h50; omega, by have := HN.out; omega⟩
    clear G4 S4 p1 p2 p3 p4 p5 p6 p7
    go_wp2
    all_goals go_ret2
    all_goals first
      | exact ⟨m4, 1, rfl, HG4.out.2.1, HG4.out.2.2, by omega, HG4.out.1⟩
      | exact ⟨m4, 2, rfl, HG4.out.2.1, HG4.out.2.2, by omega, HG4.out.1⟩
      | exact ⟨m4, 0, rfl, HG4.out.2.1, HG4.out.2.2, by omega, HG4.out.1⟩
  · have h50' : ¬ (50 : Int) ≤ (L : Int) := by omega
    go_enter Try.func87, Try.ntmps87
    go_wp2_with fail
    try rw [fold]
    clear fold e1 e2 e2' eI eJ eK
    refine (HM.out W 0 I J K H0.out (by have := HN.out; omega) (by have := HN.out; omega) (by have := HN.out; omega) (by omega)).mono ?_
    rintro e w4 ⟨m4, s4, rfl, p7, t4, S4⟩
    obtain ⟨G4, c4⟩ := HG.out w4 s4 S4
    have HG4 : Hid (Go1 w w4 base g cap n d ∧ a ≤ m4 ∧ m4 < b) := ⟨G4, by have := HN.out; omega, by have := HN.out; omega⟩
    clear G4 S4 p7
    go_wp2
    all_goals go_ret2
    all_goals first
      | exact ⟨m4, 1, rfl, HG4.out.2.1, HG4.out.2.2, by omega, HG4.out.1⟩
      | exact ⟨m4, 2, rfl, HG4.out.2.1, HG4.out.2.2, by omega, HG4.out.1⟩
      | exact ⟨m4, 0, rfl, HG4.out.2.1, HG4.out.2.2, by omega, HG4.out.1⟩
end Go.Proofs.Ytooaiomghbjpiaa
