/-
  An inbox that no call made; an act; THE WALK of InboxNone.
-/
import Derived.Test.YtkdjpleedaldcaaLives21
namespace Go.Proofs.Ytkdjpleedaldcaa
open Go.RowKit Go.Maps
set_option maxRecDepth 20000

/-- An inbox that no call made: nil, or one without a size. -/
def UnI (w : World) (v : Value) : Prop := v = .pointer none ∨ ∃ p, v = .pointer (some ⟨p, 0, none⟩) ∧ w.cell? ⟨p, 0, none⟩ = some (.int .i64 0)
theorem UnI.go {w w' : World} {v : Value} (h : UnI w v) (b : Below w.heap.size w w') : UnI w' v := by
  rcases h with h | ⟨p, h, hc⟩
  · exact .inl h
  · exact .inr ⟨p, h, cell_on b hc⟩
theorem uni_made (w : World) (v : Value) (h : UnI w v) : Calls Try.prog 26 #[v] w fun e w' => e = .returned (.bool false) ∧ w' = w := by
  rcases h with rfl | ⟨p, rfl, hc⟩
  · go_enter Try.func26, Try.ntmps26
    go_wp2
    go_ret
    exact ⟨rfl, rfl⟩
  · go_enter Try.func26, Try.ntmps26
    go_wp2
    go_ret
    exact ⟨rfl, rfl⟩
section
variable {w : World} {v : Value}
theorem uni_next (h : UnI w v) : Calls Try.prog 23 #[v] w fun e w' => e = .returned (.int .u16 0) ∧ w' = w := by
  have hM := uni_made w v h
  clear h
  go_enter Try.func23, Try.ntmps23
  go_wp2_with (go_at_call 26; refine hM.mono ?_; rintro e w ⟨rfl, rfl⟩)
  go_ret
  exact ⟨rfl, rfl⟩
theorem uni_held (h : UnI w v) : Calls Try.prog 21 #[v] w fun e w' => e = .returned (.int .i64 0) ∧ w' = w := by
  have hM := uni_made w v h
  clear h
  go_enter Try.func21, Try.ntmps21
  go_wp2_with (go_at_call 26; refine hM.mono ?_; rintro e w ⟨rfl, rfl⟩)
  go_ret
  exact ⟨rfl, rfl⟩
theorem uni_pop (h : UnI w v) : Calls Try.prog 13 #[v] w fun e w' => e = .returned (.bool false) ∧ w' = w := by
  have hM := uni_made w v h
  clear h
  go_enter Try.func13, Try.ntmps13
  go_wp2_with (go_at_call 26; refine hM.mono ?_; rintro e w ⟨rfl, rfl⟩)
  go_ret
  exact ⟨rfl, rfl⟩
theorem uni_reset (h : UnI w v) : Calls Try.prog 15 #[v] w fun e w' => e = .returned (.tuple #[]) ∧ w' = w := by
  have hM := uni_made w v h
  clear h
  go_enter Try.func15, Try.ntmps15
  go_wp2_with (go_at_call 26; refine hM.mono ?_; rintro e w ⟨rfl, rfl⟩)
  go_end0
  exact ⟨rfl, rfl⟩
theorem uni_ack (h : UnI w v) : Calls Try.prog 19 #[v] w fun e w' => e = .returned (.tuple #[.int .u16 0, .int .u64 0]) ∧ w' = w := by
  have hM := uni_made w v h
  clear h
  go_enter Try.func19, Try.ntmps19
  go_wp2_with (go_at_call 26; refine hM.mono ?_; rintro e w ⟨rfl, rfl⟩)
  go_ret2
  exact ⟨rfl, rfl⟩
theorem uni_take (h : UnI w v) (num : Int) (x : Ms) : Calls Try.prog 11 #[v, .int .u16 num, mv x] w fun e w' => e = .returned (.bool false) ∧ Below w.heap.size w w' := by
  obtain ⟨W, fold⟩ : ∃ W, w.alloc (.cells #[.int .i64 x.origin, .int .u64 x.seq, .int .i64 x.hop, .string x.ex, .string x.key, .string x.body] 33) = W := ⟨_, rfl⟩
  have bW : Below w.heap.size w W := by rw [← fold]; exact (Below.refl _ _).alloc (Nat.le_refl _) _
  have hM := uni_made W v (h.go bW)
  clear h
  go_enter Try.func11, Try.ntmps11
  go_wp2_with (go_at_call 26; refine hM.mono ?_; rintro e w ⟨rfl, rfl⟩)
  go_ret
  exact ⟨rfl, bW⟩
theorem uni_head (h : UnI w v) : Calls Try.prog 17 #[v] w fun e w' => e = .returned (.tuple #[mv zM, .bool false]) ∧ Below w.heap.size w w' := by
  obtain ⟨W, fold⟩ : ∃ W, w.alloc (.cells #[.int .i64 0, .int .u64 0, .int .i64 0, .string ⟨#[]⟩, .string ⟨#[]⟩, .string ⟨#[]⟩] 33) = W := ⟨_, rfl⟩
  have bW : Below w.heap.size w W := by rw [← fold]; exact (Below.refl _ _).alloc (Nat.le_refl _) _
  have hM := uni_made W v (h.go bW)
  obtain ⟨hh, HE1, HE2⟩ := box_set zM fold
  have HE : Hid (Below w.heap.size w (W.setRow w.heap.size (mcells zM).toArray) ∧ (W.setRow w.heap.size (mcells zM).toArray).heap[w.heap.size]? = some (.cells (mcells zM).toArray 33 (0, 0))) := ⟨HE1, HE2⟩
  clear HE1 HE2 h
  go_enter Try.func17, Try.ntmps17
  go_wp2_with (first
    | (go_at_call 26; refine hM.mono ?_; rintro e W ⟨rfl, rfl⟩)
    | refine wpList_store_row rfl 33 _ _ rfl w.heap.size (mcells zM).toArray rfl rfl 33 (mcells zM).toArray hh infoMs rfl (oneMs _) ?_)
  refine bodyPost_ret (results_cell_tmp rfl _ _ w.heap.size zM rfl HE.out.2) rfl ?_
  exact ⟨rfl, HE.out.1⟩
end

/-- Something that is done to an inbox. -/
structure Ac where
  kind : Int
  num : Nat
  m : Ms
abbrev acv (a : Ac) : Value := .agg #[.int .i64 a.kind, .int .u16 a.num, .int .i64 a.m.origin, .int .u64 a.m.seq, .int .i64 a.m.hop, .string a.m.ex, .string a.m.key, .string a.m.body]
def acells (a : Ac) : List Value := [.int .i64 a.kind, .int .u16 a.num, .int .i64 a.m.origin, .int .u64 a.m.seq, .int .i64 a.m.hop, .string a.m.ex, .string a.m.key, .string a.m.body]
/-- What is known of an act that came in. -/
structure Ac.Fits (x : Ac) : Prop where
  num : x.num < 65536
  e : x.m.ex.size ≤ 140737488355328
  k : x.m.key.size ≤ 140737488355328
  b : x.m.body.size ≤ 140737488355328

set_option maxHeartbeats 2000000 in
theorem none_law (a : Ac) (w : World) : Calls Try.prog 5 #[acv a] w fun e w' => e = .returned (.bool true) ∧ Below w.heap.size w w' := by
  obtain ⟨W, hW⟩ : ∃ W, W = (w.alloc (.cells #[.int .i64 a.kind, .int .u16 a.num, .int .i64 a.m.origin, .int .u64 a.m.seq, .int .i64 a.m.hop, .string a.m.ex, .string a.m.key, .string a.m.body] 35)).alloc (.cells #[.int .i64 0, .int .u16 0, .map none] 55) := ⟨_, rfl⟩
  have bW : Below w.heap.size w W := by rw [hW]; exact ((Below.refl _ w).alloc (Nat.le_refl _) _).alloc (by simp) _
  have hU2 : UnI W (.pointer (some ⟨w.heap.size + 1, 0, none⟩)) := .inr ⟨_, rfl, by
    have := heap_alloc_new (w.alloc (.cells #[.int .i64 a.kind, .int .u16 a.num, .int .i64 a.m.origin, .int .u64 a.m.seq, .int .i64 a.m.hop, .string a.m.ex, .string a.m.key, .string a.m.body] 35)) (.cells #[.int .i64 0, .int .u16 0, .map none] 55)
    rw [World.size_alloc] at this
    rw [hW]; exact cell_of_list21 (C := [.int .i64 0, .int .u16 0, .map none]) this 0 rfl⟩
  have hh : W.heap[w.heap.size]? = some (.cells (acells a).toArray 35 (0, 0)) := by
    rw [hW, Below.heap_alloc _ _ _ (by simp)]; exact heap_alloc_new w _
  have hlt : w.heap.size < W.heap.size := (Array.getElem?_eq_some_iff.1 hh).1
  have HB : Hid (Below w.heap.size w W) := bW
  have HH : Hid _ := hh
  have hfold := hW.symm
  clear hW bW hh
  go_enter Try.func5, Try.ntmps5
  go_wp2
  clear hfold
  generalize w.heap.size + 1 = q at *
  have HU : Hid (UnI W (.pointer (some ⟨q, 0, none⟩))) := hU2
  have i0 : ∀ X : World, (Instr.index 56 (.agg #[.pointer none, .pointer (some ⟨q, 0, none⟩)]) (.int .i64 0)).run Try.prog X = .ok (.pointer none) X := fun X => by kernel_rfl
  have i1 : ∀ X : World, (Instr.index 56 (.agg #[.pointer none, .pointer (some ⟨q, 0, none⟩)]) (.int .i64 1)).run Try.prog X = .ok (.pointer (some ⟨q, 0, none⟩)) X := fun X => by kernel_rfl
  clear hU2
  go_loopg [11] 2 (fun g u11 wr => ∃ k : Nat, k ≤ 2 ∧ u11 = .int .i64 k ∧ g = 2 - k ∧ Below W.heap.size W wr)
  case atStart => exact ⟨0, by decide, rfl, rfl, Below.refl _ _⟩
  case round =>
    obtain ⟨k, hk, rfl, rfl, bR⟩ := hrel
    have HBR : Hid (Below W.heap.size W wr) := bR
    have HK : Hid (∀ V, Below wr.heap.size wr V → ∀ j u, (acells a)[j]? = some u → V.cell? ⟨w.heap.size, j, none⟩ = some u) := fun V b j u hj => by
      have b2 : Below W.heap.size W V := bR.trans (b.mono bR.size)
      exact cell_of_list21 ((b2.block _ hlt).trans HH.out) j hj
    have hall : ∀ v, UnI W v → Hid (∀ V, Below wr.heap.size wr V → UnI V v) := fun v h V b => h.go (bR.trans (b.mono bR.size))
    have H1 := hall _ (.inl rfl)
    have H2 := hall _ HU.out
    clear hall bR
    obtain rfl | rfl | rfl : k = 0 ∨ k = 1 ∨ k = 2 := by omega
    · go_wp2_with fail
      refine (uni_reset (H1.out _ (Below.refl _ _))).mono ?_
      rintro e wr ⟨rfl, rfl⟩
      go_wp2_with fail
      refine (uni_head (H1.out _ (Below.refl _ _))).mono ?_
      rintro e w1 ⟨rfl, b1⟩
      obtain ⟨W1, fold1⟩ : ∃ W, w1.alloc (.cells #[.int .i64 0, .int .u64 0, .int .i64 0, .string ⟨#[]⟩, .string ⟨#[]⟩, .string ⟨#[]⟩] 33) = W := ⟨_, rfl⟩
      obtain ⟨hh1, HE1, HE2⟩ := box_set zM fold1
      obtain ⟨V1, hV1⟩ : ∃ V, V = W1.setRow w1.heap.size (mcells zM).toArray := ⟨_, rfl⟩
      rw [← hV1] at HE1
      have b2 : Below wr.heap.size wr V1 := b1.trans (HE1.mono b1.size)
      have foldV := hV1.symm
      clear HE1 HE2 hV1
      go_wp2_with (refine wpList_store_row rfl 33 _ _ rfl w1.heap.size (mcells zM).toArray rfl rfl 33 (mcells zM).toArray hh1 infoMs rfl (oneMs _) ?_; rw [foldV])
      clear foldV fold1 hh1
      refine (uni_ack (H1.out _ b2)).mono ?_
      rintro e V1 ⟨rfl, rfl⟩
      have k1 : V1.cell? ⟨w.heap.size, 1, none⟩ = some (.int .u16 a.num) := HK.out _ b2 1 _ rfl
      have k2 : V1.cell? ⟨w.heap.size, 2, none⟩ = some (.int .i64 a.m.origin) := HK.out _ b2 2 _ rfl
      have k3 : V1.cell? ⟨w.heap.size, 3, none⟩ = some (.int .u64 a.m.seq) := HK.out _ b2 3 _ rfl
      have k4 : V1.cell? ⟨w.heap.size, 4, none⟩ = some (.int .i64 a.m.hop) := HK.out _ b2 4 _ rfl
      have k5 : V1.cell? ⟨w.heap.size, 5, none⟩ = some (.string a.m.ex) := HK.out _ b2 5 _ rfl
      have k6 : V1.cell? ⟨w.heap.size, 6, none⟩ = some (.string a.m.key) := HK.out _ b2 6 _ rfl
      have k7 : V1.cell? ⟨w.heap.size, 7, none⟩ = some (.string a.m.body) := HK.out _ b2 7 _ rfl
      go_wp2_with fail
      refine (uni_take (H1.out _ b2) a.num a.m).mono ?_
      rintro e w3 ⟨rfl, b3'⟩
      have b3 : Below wr.heap.size wr w3 := b2.trans (b3'.mono b2.size)
      clear b3' k1 k2 k3 k4 k5 k6 k7
      have P1 := uni_pop (H1.out _ b3)
      have P2 := uni_held (H1.out _ b3)
      have P3 := uni_next (H1.out _ b3)
      go_wp2_with (first
        | (go_at_call 13; refine P1.mono ?_; rintro e w3 ⟨rfl, rfl⟩)
        | (go_at_call 21; refine P2.mono ?_; rintro e w3 ⟨rfl, rfl⟩)
        | (go_at_call 23; refine P3.mono ?_; rintro e w3 ⟨rfl, rfl⟩))
      go_roundg 1
      case measure => decide
      case rel => exact ⟨1, by decide, rfl, rfl, HBR.out.trans (b3.mono HBR.out.size)⟩
    · go_wp2_with fail
      refine (uni_reset (H2.out _ (Below.refl _ _))).mono ?_
      rintro e wr ⟨rfl, rfl⟩
      go_wp2_with fail
      refine (uni_head (H2.out _ (Below.refl _ _))).mono ?_
      rintro e w1 ⟨rfl, b1⟩
      obtain ⟨W1, fold1⟩ : ∃ W, w1.alloc (.cells #[.int .i64 0, .int .u64 0, .int .i64 0, .string ⟨#[]⟩, .string ⟨#[]⟩, .string ⟨#[]⟩] 33) = W := ⟨_, rfl⟩
      obtain ⟨hh1, HE1, HE2⟩ := box_set zM fold1
      obtain ⟨V1, hV1⟩ : ∃ V, V = W1.setRow w1.heap.size (mcells zM).toArray := ⟨_, rfl⟩
      rw [← hV1] at HE1
      have b2 : Below wr.heap.size wr V1 := b1.trans (HE1.mono b1.size)
      have foldV := hV1.symm
      clear HE1 HE2 hV1
      go_wp2_with (refine wpList_store_row rfl 33 _ _ rfl w1.heap.size (mcells zM).toArray rfl rfl 33 (mcells zM).toArray hh1 infoMs rfl (oneMs _) ?_; rw [foldV])
      clear foldV fold1 hh1
      refine (uni_ack (H2.out _ b2)).mono ?_
      rintro e V1 ⟨rfl, rfl⟩
      have k1 : V1.cell? ⟨w.heap.size, 1, none⟩ = some (.int .u16 a.num) := HK.out _ b2 1 _ rfl
      have k2 : V1.cell? ⟨w.heap.size, 2, none⟩ = some (.int .i64 a.m.origin) := HK.out _ b2 2 _ rfl
      have k3 : V1.cell? ⟨w.heap.size, 3, none⟩ = some (.int .u64 a.m.seq) := HK.out _ b2 3 _ rfl
      have k4 : V1.cell? ⟨w.heap.size, 4, none⟩ = some (.int .i64 a.m.hop) := HK.out _ b2 4 _ rfl
      have k5 : V1.cell? ⟨w.heap.size, 5, none⟩ = some (.string a.m.ex) := HK.out _ b2 5 _ rfl
      have k6 : V1.cell? ⟨w.heap.size, 6, none⟩ = some (.string a.m.key) := HK.out _ b2 6 _ rfl
      have k7 : V1.cell? ⟨w.heap.size, 7, none⟩ = some (.string a.m.body) := HK.out _ b2 7 _ rfl
      go_wp2_with fail
      refine (uni_take (H2.out _ b2) a.num a.m).mono ?_
      rintro e w3 ⟨rfl, b3'⟩
      have b3 : Below wr.heap.size wr w3 := b2.trans (b3'.mono b2.size)
      clear b3' k1 k2 k3 k4 k5 k6 k7
      have P1 := uni_pop (H2.out _ b3)
      have P2 := uni_held (H2.out _ b3)
      have P3 := uni_next (H2.out _ b3)
      go_wp2_with (first
        | (go_at_call 13; refine P1.mono ?_; rintro e w3 ⟨rfl, rfl⟩)
        | (go_at_call 21; refine P2.mono ?_; rintro e w3 ⟨rfl, rfl⟩)
        | (go_at_call 23; refine P3.mono ?_; rintro e w3 ⟨rfl, rfl⟩))
      go_roundg 0
      case measure => decide
      case rel => exact ⟨2, by decide, rfl, rfl, HBR.out.trans (b3.mono HBR.out.size)⟩
    · go_wp2_with (go_at_call 9; refine (lives_any _).mono ?_; rintro e w9 ⟨rfl, b9⟩)
      go_ret
      have b4 := HBR.out.trans (b9.mono HBR.out.size)
      exact ⟨rfl, HB.out.trans (b4.mono HB.out.size)⟩
end Go.Proofs.Ytkdjpleedaldcaa
