/-
  An act; THE WALK of WireNone.
-/
import Derived.Test.YtdbgojmjjkidbaaGreatDoorJLives22
namespace Go.Proofs.YtdbgojmjjkidbaaGreatDoor
open Go.RowKit Go.Maps Go.Sort K
set_option maxRecDepth 20000

/-- Something that is done to a wire. -/
structure Ac where
  kind : Int
  p : Pk
  e : Ed
  n : Int
  k : Int
  b : Int
abbrev acv (a : Ac) : Value := .agg #[.int .i64 a.kind, .int .i64 a.p.kind, .int .i64 a.p.fr, .int .i64 a.p.dest, .int .u64 a.p.ep, .int .u16 a.p.num, .int .u64 a.p.mask, .int .i64 a.p.m.origin, .int .u64 a.p.m.seq, .int .i64 a.p.m.hop, .string a.p.m.ex, .string a.p.m.key, .string a.p.m.body, .int .i64 a.e.1, .int .i64 a.e.2, .int .i64 a.n, .int .i64 a.k, .int .i64 a.b]
def accells (a : Ac) : List Value := [.int .i64 a.kind, .int .i64 a.p.kind, .int .i64 a.p.fr, .int .i64 a.p.dest, .int .u64 a.p.ep, .int .u16 a.p.num, .int .u64 a.p.mask, .int .i64 a.p.m.origin, .int .u64 a.p.m.seq, .int .i64 a.p.m.hop, .string a.p.m.ex, .string a.p.m.key, .string a.p.m.body, .int .i64 a.e.1, .int .i64 a.e.2, .int .i64 a.n, .int .i64 a.k, .int .i64 a.b]
/-- What is known of an act that came in. -/
structure Ac.Fits (x : Ac) : Prop where
  p : x.p.Fits
  e : EFit x.e
instance : Enc accells 18 where
  len _ := rfl
  one r u hu := by
    simp only [accells, List.mem_cons, List.not_mem_nil, or_false] at hu
    rcases hu with rfl | rfl | rfl | rfl | rfl | rfl | rfl | rfl | rfl | rfl | rfl | rfl | rfl | rfl | rfl | rfl | rfl | rfl <;> rfl
  pos := by decide

set_option maxHeartbeats 8000000 in
theorem none_law (a : Ac) (w : World) (ht : Tbs w) : Calls Tryz.prog 6 #[acv a] w fun e w' => e = .returned (.bool true) ∧ Below w.heap.size w w' := by
  have HT : Hid (Tbs w) := ht
  obtain ⟨W, hW⟩ : ∃ W, W = (w.alloc (.cells #[.int .i64 a.kind, .int .i64 a.p.kind, .int .i64 a.p.fr, .int .i64 a.p.dest, .int .u64 a.p.ep, .int .u16 a.p.num, .int .u64 a.p.mask, .int .i64 a.p.m.origin, .int .u64 a.p.m.seq, .int .i64 a.p.m.hop, .string a.p.m.ex, .string a.p.m.key, .string a.p.m.body, .int .i64 a.e.1, .int .i64 a.e.2, .int .i64 a.n, .int .i64 a.k, .int .i64 a.b] 39)).alloc (.cells #[.int .i64 0, .slice none 0 0, .map none] 70) := ⟨_, rfl⟩
  have bW : Below w.heap.size w W := by rw [hW]; exact ((Below.refl _ w).alloc (Nat.le_refl _) _).alloc (by simp) _
  have hz : W.heap[w.heap.size + 1]? = some (.cells #[.int .i64 0, .slice none 0 0, .map none] 70 (0, 0)) := by
    have := heap_alloc_new (w.alloc (.cells #[.int .i64 a.kind, .int .i64 a.p.kind, .int .i64 a.p.fr, .int .i64 a.p.dest, .int .u64 a.p.ep, .int .u16 a.p.num, .int .u64 a.p.mask, .int .i64 a.p.m.origin, .int .u64 a.p.m.seq, .int .i64 a.p.m.hop, .string a.p.m.ex, .string a.p.m.key, .string a.p.m.body, .int .i64 a.e.1, .int .i64 a.e.2, .int .i64 a.n, .int .i64 a.k, .int .i64 a.b] 39)) (.cells #[.int .i64 0, .slice none 0 0, .map none] 70)
    rw [World.size_alloc] at this
    rw [hW]; exact this
  have hh : W.heap[w.heap.size]? = some (.cells (accells a).toArray 39 (0, 0)) := by
    rw [hW, Below.heap_alloc _ _ _ (by simp)]; exact heap_alloc_new w _
  have hlt : w.heap.size < W.heap.size := (Array.getElem?_eq_some_iff.1 hh).1
  have HB : Hid (Below w.heap.size w W) := bW
  have HK : Hid (∀ V, Below W.heap.size W V → ∀ j u, (accells a)[j]? = some u → V.cell? ⟨w.heap.size, j, none⟩ = some u) := fun V b j u hj => (cell_of_list ((b.block _ hlt).trans hh) j).trans hj
  have HU1 : Hid (∀ V, Below W.heap.size W V → Un V none) := fun V _ => .inl rfl
  have HU2 : Hid (∀ V, Below W.heap.size W V → Un V (some ⟨w.heap.size + 1, 0, none⟩)) := fun V b => Un.go (.inr ⟨_, rfl, hz⟩) b
  have hfold := hW.symm
  clear hW bW hh hz hlt ht
  go_enter Tryz.func6, Tryz.ntmps6
  go_wp2
  clear hfold
  generalize w.heap.size + 1 = q at *
  have i0 : ∀ X : World, (Instr.index 71 (.agg #[.pointer none, .pointer (some ⟨q, 0, none⟩)]) (.int .i64 0)).run Tryz.prog X = .ok (.pointer none) X := fun X => by kernel_rfl
  have i1 : ∀ X : World, (Instr.index 71 (.agg #[.pointer none, .pointer (some ⟨q, 0, none⟩)]) (.int .i64 1)).run Tryz.prog X = .ok (.pointer (some ⟨q, 0, none⟩)) X := fun X => by kernel_rfl
  go_loopg [11] 2 (fun g u11 wr => ∃ k : Nat, k ≤ 2 ∧ u11 = .int .i64 k ∧ g = 2 - k ∧ Below W.heap.size W wr)
  case atStart => exact ⟨0, by decide, rfl, rfl, Below.refl _ _⟩
  case round =>
    obtain ⟨k, hk2, rfl, rfl, hBR⟩ := hrel
    have HBR : Hid (Below W.heap.size W wr) := hBR
    clear hBR
    obtain rfl | rfl | rfl : k = 0 ∨ k = 1 ∨ k = 2 := by omega
    · clear hk2
      have k15 : wr.cell? ⟨w.heap.size, 15, none⟩ = some (.int .i64 a.n) := HK.out _ HBR.out 15 _ rfl
      go_wp2_with fail
      refine (un_look (HU1.out _ HBR.out) a.n).mono ?_
      rintro e w1 ⟨rfl, b1⟩
      have B1 : Hid (Below W.heap.size W w1) := keptW HBR.out b1
      clear b1 k15
      obtain ⟨X1, g1⟩ : ∃ X, w1.alloc (.cells #[.int .i64 0, .int .i64 0, .int .i64 0, .int .u64 0, .int .u16 0, .int .u64 0, .int .i64 0, .int .u64 0, .int .i64 0, .string ⟨#[]⟩, .string ⟨#[]⟩, .string ⟨#[]⟩] 35) = X := ⟨_, rfl⟩
      have x1 : X1.heap[w1.heap.size]? = some (.cells (pcells nilP).toArray 35 (0, 0)) := by rw [← g1]; exact heap_alloc_new w1 _
      have c1 : Below w1.heap.size w1 X1 := by rw [← g1]; exact box_belowW w1 _
      obtain ⟨V1, f1⟩ : ∃ X, X1.setRow w1.heap.size (pcells nilP).toArray = X := ⟨_, rfl⟩
      have D1 : Hid (Below W.heap.size W V1) := keptW B1.out (by rw [← f1]; exact below_setRow c1 (Nat.le_refl _) _)
      have Y1 : Hid (X1.heap[w1.heap.size]? = some (.cells (pcells nilP).toArray 35 (0, 0))) := x1
      clear x1 c1
      have k15 : V1.cell? ⟨w.heap.size, 15, none⟩ = some (.int .i64 a.n) := HK.out _ D1.out 15 _ rfl
      go_wp2_with (refine wpList_store_row rfl 35 _ _ rfl w1.heap.size (pcells nilP).toArray rfl rfl 35 (pcells nilP).toArray Y1.out info12 rfl (one12 nilP) ?_; rw [f1])
      clear f1 g1
      refine (un_take (HU1.out _ D1.out) a.n).mono ?_
      rintro e w2 ⟨rfl, b2⟩
      have B2 : Hid (Below W.heap.size W w2) := keptW D1.out b2
      clear b2 k15
      obtain ⟨X2, g2⟩ : ∃ X, w2.alloc (.cells #[.int .i64 0, .int .i64 0, .int .i64 0, .int .u64 0, .int .u16 0, .int .u64 0, .int .i64 0, .int .u64 0, .int .i64 0, .string ⟨#[]⟩, .string ⟨#[]⟩, .string ⟨#[]⟩] 35) = X := ⟨_, rfl⟩
      have x2 : X2.heap[w2.heap.size]? = some (.cells (pcells nilP).toArray 35 (0, 0)) := by rw [← g2]; exact heap_alloc_new w2 _
      have c2 : Below w2.heap.size w2 X2 := by rw [← g2]; exact box_belowW w2 _
      obtain ⟨V2, f2⟩ : ∃ X, X2.setRow w2.heap.size (pcells nilP).toArray = X := ⟨_, rfl⟩
      have D2 : Hid (Below W.heap.size W V2) := keptW B2.out (by rw [← f2]; exact below_setRow c2 (Nat.le_refl _) _)
      have Y2 : Hid (X2.heap[w2.heap.size]? = some (.cells (pcells nilP).toArray 35 (0, 0))) := x2
      clear x2 c2
      have k1 : V2.cell? ⟨w.heap.size, 1, none⟩ = some (.int .i64 a.p.kind) := HK.out _ D2.out 1 _ rfl
      have k2 : V2.cell? ⟨w.heap.size, 2, none⟩ = some (.int .i64 a.p.fr) := HK.out _ D2.out 2 _ rfl
      have k3 : V2.cell? ⟨w.heap.size, 3, none⟩ = some (.int .i64 a.p.dest) := HK.out _ D2.out 3 _ rfl
      have k4 : V2.cell? ⟨w.heap.size, 4, none⟩ = some (.int .u64 a.p.ep) := HK.out _ D2.out 4 _ rfl
      have k5 : V2.cell? ⟨w.heap.size, 5, none⟩ = some (.int .u16 a.p.num) := HK.out _ D2.out 5 _ rfl
      have k6 : V2.cell? ⟨w.heap.size, 6, none⟩ = some (.int .u64 a.p.mask) := HK.out _ D2.out 6 _ rfl
      have k7 : V2.cell? ⟨w.heap.size, 7, none⟩ = some (.int .i64 a.p.m.origin) := HK.out _ D2.out 7 _ rfl
      have k8 : V2.cell? ⟨w.heap.size, 8, none⟩ = some (.int .u64 a.p.m.seq) := HK.out _ D2.out 8 _ rfl
      have k9 : V2.cell? ⟨w.heap.size, 9, none⟩ = some (.int .i64 a.p.m.hop) := HK.out _ D2.out 9 _ rfl
      have k10 : V2.cell? ⟨w.heap.size, 10, none⟩ = some (.string a.p.m.ex) := HK.out _ D2.out 10 _ rfl
      have k11 : V2.cell? ⟨w.heap.size, 11, none⟩ = some (.string a.p.m.key) := HK.out _ D2.out 11 _ rfl
      have k12 : V2.cell? ⟨w.heap.size, 12, none⟩ = some (.string a.p.m.body) := HK.out _ D2.out 12 _ rfl
      go_wp2_with (refine wpList_store_row rfl 35 _ _ rfl w2.heap.size (pcells nilP).toArray rfl rfl 35 (pcells nilP).toArray Y2.out info12 rfl (one12 nilP) ?_; rw [f2])
      clear f2 g2
      refine (un_send (HU1.out _ D2.out) a.p).mono ?_
      rintro e w3 ⟨rfl, b3⟩
      have B3 : Hid (Below W.heap.size W w3) := keptW D2.out b3
      clear b3
      clear k1 k2 k3 k4 k5 k6 k7 k8 k9 k10 k11 k12
      have k13 : w3.cell? ⟨w.heap.size, 13, none⟩ = some (.int .i64 a.e.1) := HK.out _ B3.out 13 _ rfl
      have k14 : w3.cell? ⟨w.heap.size, 14, none⟩ = some (.int .i64 a.e.2) := HK.out _ B3.out 14 _ rfl
      have k15 : w3.cell? ⟨w.heap.size, 15, none⟩ = some (.int .i64 a.n) := HK.out _ B3.out 15 _ rfl
      have k16 : w3.cell? ⟨w.heap.size, 16, none⟩ = some (.int .i64 a.k) := HK.out _ B3.out 16 _ rfl
      have k17 : w3.cell? ⟨w.heap.size, 17, none⟩ = some (.int .i64 a.b) := HK.out _ B3.out 17 _ rfl
      go_wp2_with fail
      refine (un_drop (HU1.out _ B3.out) a.n).mono ?_
      rintro e w3 ⟨rfl, rfl⟩
      go_wp2_with fail
      refine (un_twice (HU1.out _ B3.out) a.n).mono ?_
      rintro e w3 ⟨rfl, rfl⟩
      go_wp2_with fail
      refine (un_flip (HU1.out _ B3.out) a.n a.k a.b).mono ?_
      rintro e w3 ⟨rfl, rfl⟩
      go_wp2_with fail
      refine (un_sever (HU1.out _ B3.out) a.e).mono ?_
      rintro e w4 ⟨rfl, b4⟩
      have B4 : Hid (Below W.heap.size W w4) := keptW B3.out b4
      clear b4 k13 k14 k15 k16 k17
      have k13 : w4.cell? ⟨w.heap.size, 13, none⟩ = some (.int .i64 a.e.1) := HK.out _ B4.out 13 _ rfl
      have k14 : w4.cell? ⟨w.heap.size, 14, none⟩ = some (.int .i64 a.e.2) := HK.out _ B4.out 14 _ rfl
      go_wp2_with fail
      refine (un_mend (HU1.out _ B4.out) a.e).mono ?_
      rintro e w5 ⟨rfl, b5⟩
      have B5 : Hid (Below W.heap.size W w5) := keptW B4.out b5
      clear b5 k13 k14
      go_wp2_with fail
      refine (un_len (HU1.out _ B5.out)).mono ?_
      rintro e w5 ⟨rfl, rfl⟩
      go_wp2_with fail
      refine (un_severed (HU1.out _ B5.out)).mono ?_
      rintro e w5 ⟨rfl, rfl⟩
      go_wp2
      go_roundg 1
      case measure => decide
      case rel => exact ⟨1, by decide, rfl, rfl, B5.out⟩
    · clear hk2
      have k15 : wr.cell? ⟨w.heap.size, 15, none⟩ = some (.int .i64 a.n) := HK.out _ HBR.out 15 _ rfl
      go_wp2_with fail
      refine (un_look (HU2.out _ HBR.out) a.n).mono ?_
      rintro e w1 ⟨rfl, b1⟩
      have B1 : Hid (Below W.heap.size W w1) := keptW HBR.out b1
      clear b1 k15
      obtain ⟨X1, g1⟩ : ∃ X, w1.alloc (.cells #[.int .i64 0, .int .i64 0, .int .i64 0, .int .u64 0, .int .u16 0, .int .u64 0, .int .i64 0, .int .u64 0, .int .i64 0, .string ⟨#[]⟩, .string ⟨#[]⟩, .string ⟨#[]⟩] 35) = X := ⟨_, rfl⟩
      have x1 : X1.heap[w1.heap.size]? = some (.cells (pcells nilP).toArray 35 (0, 0)) := by rw [← g1]; exact heap_alloc_new w1 _
      have c1 : Below w1.heap.size w1 X1 := by rw [← g1]; exact box_belowW w1 _
      obtain ⟨V1, f1⟩ : ∃ X, X1.setRow w1.heap.size (pcells nilP).toArray = X := ⟨_, rfl⟩
      have D1 : Hid (Below W.heap.size W V1) := keptW B1.out (by rw [← f1]; exact below_setRow c1 (Nat.le_refl _) _)
      have Y1 : Hid (X1.heap[w1.heap.size]? = some (.cells (pcells nilP).toArray 35 (0, 0))) := x1
      clear x1 c1
      have k15 : V1.cell? ⟨w.heap.size, 15, none⟩ = some (.int .i64 a.n) := HK.out _ D1.out 15 _ rfl
      go_wp2_with (refine wpList_store_row rfl 35 _ _ rfl w1.heap.size (pcells nilP).toArray rfl rfl 35 (pcells nilP).toArray Y1.out info12 rfl (one12 nilP) ?_; rw [f1])
      clear f1 g1
      refine (un_take (HU2.out _ D1.out) a.n).mono ?_
      rintro e w2 ⟨rfl, b2⟩
      have B2 : Hid (Below W.heap.size W w2) := keptW D1.out b2
      clear b2 k15
      obtain ⟨X2, g2⟩ : ∃ X, w2.alloc (.cells #[.int .i64 0, .int .i64 0, .int .i64 0, .int .u64 0, .int .u16 0, .int .u64 0, .int .i64 0, .int .u64 0, .int .i64 0, .string ⟨#[]⟩, .string ⟨#[]⟩, .string ⟨#[]⟩] 35) = X := ⟨_, rfl⟩
      have x2 : X2.heap[w2.heap.size]? = some (.cells (pcells nilP).toArray 35 (0, 0)) := by rw [← g2]; exact heap_alloc_new w2 _
      have c2 : Below w2.heap.size w2 X2 := by rw [← g2]; exact box_belowW w2 _
      obtain ⟨V2, f2⟩ : ∃ X, X2.setRow w2.heap.size (pcells nilP).toArray = X := ⟨_, rfl⟩
      have D2 : Hid (Below W.heap.size W V2) := keptW B2.out (by rw [← f2]; exact below_setRow c2 (Nat.le_refl _) _)
      have Y2 : Hid (X2.heap[w2.heap.size]? = some (.cells (pcells nilP).toArray 35 (0, 0))) := x2
      clear x2 c2
      have k1 : V2.cell? ⟨w.heap.size, 1, none⟩ = some (.int .i64 a.p.kind) := HK.out _ D2.out 1 _ rfl
      have k2 : V2.cell? ⟨w.heap.size, 2, none⟩ = some (.int .i64 a.p.fr) := HK.out _ D2.out 2 _ rfl
      have k3 : V2.cell? ⟨w.heap.size, 3, none⟩ = some (.int .i64 a.p.dest) := HK.out _ D2.out 3 _ rfl
      have k4 : V2.cell? ⟨w.heap.size, 4, none⟩ = some (.int .u64 a.p.ep) := HK.out _ D2.out 4 _ rfl
      have k5 : V2.cell? ⟨w.heap.size, 5, none⟩ = some (.int .u16 a.p.num) := HK.out _ D2.out 5 _ rfl
      have k6 : V2.cell? ⟨w.heap.size, 6, none⟩ = some (.int .u64 a.p.mask) := HK.out _ D2.out 6 _ rfl
      have k7 : V2.cell? ⟨w.heap.size, 7, none⟩ = some (.int .i64 a.p.m.origin) := HK.out _ D2.out 7 _ rfl
      have k8 : V2.cell? ⟨w.heap.size, 8, none⟩ = some (.int .u64 a.p.m.seq) := HK.out _ D2.out 8 _ rfl
      have k9 : V2.cell? ⟨w.heap.size, 9, none⟩ = some (.int .i64 a.p.m.hop) := HK.out _ D2.out 9 _ rfl
      have k10 : V2.cell? ⟨w.heap.size, 10, none⟩ = some (.string a.p.m.ex) := HK.out _ D2.out 10 _ rfl
      have k11 : V2.cell? ⟨w.heap.size, 11, none⟩ = some (.string a.p.m.key) := HK.out _ D2.out 11 _ rfl
      have k12 : V2.cell? ⟨w.heap.size, 12, none⟩ = some (.string a.p.m.body) := HK.out _ D2.out 12 _ rfl
      go_wp2_with (refine wpList_store_row rfl 35 _ _ rfl w2.heap.size (pcells nilP).toArray rfl rfl 35 (pcells nilP).toArray Y2.out info12 rfl (one12 nilP) ?_; rw [f2])
      clear f2 g2
      refine (un_send (HU2.out _ D2.out) a.p).mono ?_
      rintro e w3 ⟨rfl, b3⟩
      have B3 : Hid (Below W.heap.size W w3) := keptW D2.out b3
      clear b3
      clear k1 k2 k3 k4 k5 k6 k7 k8 k9 k10 k11 k12
      have k13 : w3.cell? ⟨w.heap.size, 13, none⟩ = some (.int .i64 a.e.1) := HK.out _ B3.out 13 _ rfl
      have k14 : w3.cell? ⟨w.heap.size, 14, none⟩ = some (.int .i64 a.e.2) := HK.out _ B3.out 14 _ rfl
      have k15 : w3.cell? ⟨w.heap.size, 15, none⟩ = some (.int .i64 a.n) := HK.out _ B3.out 15 _ rfl
      have k16 : w3.cell? ⟨w.heap.size, 16, none⟩ = some (.int .i64 a.k) := HK.out _ B3.out 16 _ rfl
      have k17 : w3.cell? ⟨w.heap.size, 17, none⟩ = some (.int .i64 a.b) := HK.out _ B3.out 17 _ rfl
      go_wp2_with fail
      refine (un_drop (HU2.out _ B3.out) a.n).mono ?_
      rintro e w3 ⟨rfl, rfl⟩
      go_wp2_with fail
      refine (un_twice (HU2.out _ B3.out) a.n).mono ?_
      rintro e w3 ⟨rfl, rfl⟩
      go_wp2_with fail
      refine (un_flip (HU2.out _ B3.out) a.n a.k a.b).mono ?_
      rintro e w3 ⟨rfl, rfl⟩
      go_wp2_with fail
      refine (un_sever (HU2.out _ B3.out) a.e).mono ?_
      rintro e w4 ⟨rfl, b4⟩
      have B4 : Hid (Below W.heap.size W w4) := keptW B3.out b4
      clear b4 k13 k14 k15 k16 k17
      have k13 : w4.cell? ⟨w.heap.size, 13, none⟩ = some (.int .i64 a.e.1) := HK.out _ B4.out 13 _ rfl
      have k14 : w4.cell? ⟨w.heap.size, 14, none⟩ = some (.int .i64 a.e.2) := HK.out _ B4.out 14 _ rfl
      go_wp2_with fail
      refine (un_mend (HU2.out _ B4.out) a.e).mono ?_
      rintro e w5 ⟨rfl, b5⟩
      have B5 : Hid (Below W.heap.size W w5) := keptW B4.out b5
      clear b5 k13 k14
      go_wp2_with fail
      refine (un_len (HU2.out _ B5.out)).mono ?_
      rintro e w5 ⟨rfl, rfl⟩
      go_wp2_with fail
      refine (un_severed (HU2.out _ B5.out)).mono ?_
      rintro e w5 ⟨rfl, rfl⟩
      go_wp2
      go_roundg 0
      case measure => decide
      case rel => exact ⟨2, by decide, rfl, rfl, B5.out⟩
    · clear hk2
      have hL := lives_any wr (HT.out.at (keptW HB.out HBR.out))
      go_wp2_with fail
      refine hL.mono ?_
      rintro e w9 ⟨rfl, b9⟩
      have B9 : Hid (Below w.heap.size w w9) := keptW (keptW HB.out HBR.out) b9
      clear b9
      go_wp2
      go_ret
      exact ⟨rfl, B9.out⟩
end Go.Proofs.YtdbgojmjjkidbaaGreatDoor
