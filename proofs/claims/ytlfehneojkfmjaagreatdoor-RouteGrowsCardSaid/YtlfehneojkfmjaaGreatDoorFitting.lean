/-
  fitting and what it hands back, Fits, the document's Fits, by their contracts.
-/
import Derived.Test.YtlfehneojkfmjaaGreatDoorRTable
import Derived.Test.YtlfehneojkfmjaaGreatDoorRoutes
import Derived.Test.YtlfehneojkfmjaaGreatDoorMatch
namespace Go.Proofs.YtlfehneojkfmjaaGreatDoor
open Go.RowKit Go.Sort Go.Shelf

/-- Which patterns fit: what fitting hands back. -/
def FitV (w : World) (v : Value) (x : Ex) (key : ByteArray) : Prop :=
  (v = .func (.func 50) #[] #[] ∧ (goodX x && keyB (txt key)) = false) ∨
  (∃ b, v = .func (.func 51) #[] #[.pointer (some ⟨b, 0, none⟩)] ∧ (goodX x && keyB (txt key)) = true ∧ x.kind = 1 ∧ w.cell? ⟨b, 0, none⟩ = some (.string key)) ∨
  (v = .func (.func 52) #[] #[] ∧ (goodX x && keyB (txt key)) = true ∧ x.kind ≠ 1 ∧ x.kind = 2) ∨
  (∃ b, v = .func (.func 53) #[] #[.pointer (some ⟨b, 0, none⟩)] ∧ (goodX x && keyB (txt key)) = true ∧ x.kind ≠ 1 ∧ x.kind ≠ 2 ∧ w.cell? ⟨b, 0, none⟩ = some (.string key))
theorem FitV.below {w w' : World} {B : Nat} {v : Value} {x : Ex} {key : ByteArray} (h : FitV w v x key) (hb : Below B w w') (hB : w.heap.size ≤ B) : FitV w' v x key := by
  rcases h with h | ⟨b, h1, h2, h3, h4⟩ | h | ⟨b, h1, h2, h3, h3', h4⟩
  · exact .inl h
  · exact .inr (.inl ⟨b, h1, h2, h3, (hb.cell (p := ⟨b, 0, none⟩) (Nat.lt_of_lt_of_le (World.block_lt_of_cell? _ _ h4) hB)).trans h4⟩)
  · exact .inr (.inr (.inl h))
  · exact .inr (.inr (.inr ⟨b, h1, h2, h3, h3', (hb.cell (p := ⟨b, 0, none⟩) (Nat.lt_of_lt_of_le (World.block_lt_of_cell? _ _ h4) hB)).trans h4⟩))
theorem fit1_any (s : ByteArray) (w : World) : Calls Tryz.prog 50 #[.string s] w fun e w' => e = .returned (.bool false) ∧ Below w.heap.size w w' := by
  go_enter Tryz.func50, Tryz.ntmps50
  go_wp2
  go_ret
  exact ⟨rfl, Below.refl _ _⟩
theorem fit2_any (s key : ByteArray) (b : Nat) (w : World) (hb : w.cell? ⟨b, 0, none⟩ = some (.string key)) : Calls Tryz.prog 51 #[.string s, .pointer (some ⟨b, 0, none⟩)] w fun e w' => e = .returned (.bool (s.toList == key.toList)) ∧ Below w.heap.size w w' := by
  go_enter Tryz.func51, Tryz.ntmps51
  go_wp2
  go_ret
  exact ⟨rfl, Below.refl _ _⟩
theorem fit3_any (s : ByteArray) (w : World) : Calls Tryz.prog 52 #[.string s] w fun e w' => e = .returned (.bool s.toList.isEmpty) ∧ Below w.heap.size w w' := by
  go_enter Tryz.func52, Tryz.ntmps52
  go_wp2
  go_ret
  exact ⟨rfl, Below.refl _ _⟩
theorem fit4_any (s key : ByteArray) (b : Nat) (w : World) (hb : w.cell? ⟨b, 0, none⟩ = some (.string key)) (hs : s.size ≤ maxLen) (hk : key.size ≤ maxLen) : Calls Tryz.prog 53 #[.string s, .pointer (some ⟨b, 0, none⟩)] w fun e w' => e = .returned (.bool (matchB (txt s) (txt key))) ∧ Below w.heap.size w w' := by
  go_enter Tryz.func53, Tryz.ntmps53
  go_wp2_with (go_at_call 54; refine (match_any s key _ hs hk).mono ?_; rintro e w' ⟨rfl, hb⟩)
  go_ret
  exact ⟨rfl, hb⟩

set_option maxRecDepth 20000 in
set_option maxHeartbeats 1000000 in
theorem fitting_any (x : Ex) (key : ByteArray) (w : World) (hs : x.name.size ≤ maxLen) (hk : key.size ≤ maxLen) :
    Calls Tryz.prog 24 #[xv x, .string key] w fun e w' => ∃ v, e = .returned v ∧ FitV w' v x key ∧ Below w.heap.size w w' := by
  obtain ⟨W, fold⟩ : ∃ W, (w.alloc (.cells #[.string x.name, .int .i64 x.kind, .bool x.fed] 41)).alloc (.cells #[.string key] 9) = W := ⟨_, rfl⟩
  have bW : Below w.heap.size w W := by rw [← fold]; exact ((Below.refl _ _).alloc (Nat.le_refl _) _).alloc (by simp) _
  have x0 : W.cell? ⟨w.heap.size, 0, none⟩ = some (.string x.name) := by rw [← fold]; exact cell_allocK _ (cell_of_list (C := xcells x) (heap_alloc_new w _) 0)
  have x1 : W.cell? ⟨w.heap.size, 1, none⟩ = some (.int .i64 x.kind) := by rw [← fold]; exact cell_allocK _ (cell_of_list (C := xcells x) (heap_alloc_new w _) 1)
  have x2 : W.cell? ⟨w.heap.size, 2, none⟩ = some (.bool x.fed) := by rw [← fold]; exact cell_allocK _ (cell_of_list (C := xcells x) (heap_alloc_new w _) 2)
  have y0 : W.cell? ⟨w.heap.size + 1, 0, none⟩ = some (.string key) := by rw [← fold, ← World.size_alloc w (.cells #[.string x.name, .int .i64 x.kind, .bool x.fed] 41)]; exact cell_of_list (C := [.string key]) (heap_alloc_new _ _) 0
  have hG := good_any x W hs
  have hK := fun w => key_any key w hk
  have hFk : (goodX x && keyB (txt key)) = true → ∀ V, Below W.heap.size W V → (x.kind = 1 → FitV V (.func (.func 51) #[] #[.pointer (some ⟨w.heap.size + 1, 0, none⟩)]) x key) ∧ (x.kind ≠ 1 → x.kind = 2 → FitV V (.func (.func 52) #[] #[]) x key) ∧ (x.kind ≠ 1 → x.kind ≠ 2 → FitV V (.func (.func 53) #[] #[.pointer (some ⟨w.heap.size + 1, 0, none⟩)]) x key) := fun hg V hV => by
    have hc := (hV.cell (p := ⟨w.heap.size + 1, 0, none⟩) (World.block_lt_of_cell? _ _ y0)).trans y0
    exact ⟨fun h => .inr (.inl ⟨_, rfl, hg, h, hc⟩), fun h h' => .inr (.inr (.inl ⟨rfl, hg, h, h'⟩)), fun h h' => .inr (.inr (.inr ⟨_, rfl, hg, h, h', hc⟩))⟩
  have hFk' : (goodX x && keyB (txt key)) = false → ∀ V, FitV V (.func (.func 50) #[] #[]) x key := fun hg V => .inl ⟨rfl, hg⟩
  have HFK : Hid _ := hFk
  have HFK' : Hid _ := hFk'
  clear hFk hFk'
  go_enter Tryz.func24, Tryz.ntmps24
  cases hg : goodX x
  · rw [hg] at hG HFK'
    go_wp2_with (go_at_call 43; refine hG.mono ?_; rintro e w1 ⟨rfl, b1⟩)
    go_ret
    exact ⟨_, rfl, HFK'.out rfl _, bW.trans (b1.mono bW.size)⟩
  · rw [hg] at hG HFK HFK'
    go_wp2_with fail
    refine hG.mono ?_
    rintro e w1 ⟨rfl, b1⟩
    have z0 := (b1.cell (p := ⟨w.heap.size + 1, 0, none⟩) (World.block_lt_of_cell? _ _ y0)).trans y0
    have z1 := (b1.cell (p := ⟨w.heap.size, 1, none⟩) (World.block_lt_of_cell? _ _ x1)).trans x1
    clear x0 x1 x2 y0 fold
    go_wp2_with fail
    refine (hK _).mono ?_
    rintro e w2 ⟨rfl, b2⟩
    have z2 := (b2.cell (p := ⟨w.heap.size, 1, none⟩) (World.block_lt_of_cell? _ _ z1)).trans z1
    have B : Below W.heap.size W w2 := b1.trans (b2.mono b1.size)
    cases hk2 : keyB (txt key)
    · rw [hk2] at HFK'
      go_wp2
      go_ret
      exact ⟨_, rfl, HFK'.out rfl _, bW.trans (B.mono bW.size)⟩
    · rw [hk2] at HFK
      obtain ⟨o1, o2, o3⟩ := HFK.out rfl w2 B
      by_cases h1 : x.kind = 1
      · go_wp2
        go_ret
        exact ⟨_, rfl, o1 h1, bW.trans (B.mono bW.size)⟩
      · by_cases h2 : x.kind = 2
        · go_wp2
          go_ret
          exact ⟨_, rfl, o2 h1 h2, bW.trans (B.mono bW.size)⟩
        · go_wp2
          go_ret
          exact ⟨_, rfl, o3 h1 h2, bW.trans (B.mono bW.size)⟩

set_option maxRecDepth 20000 in
set_option maxHeartbeats 1000000 in
theorem fits_any (x : Ex) (s key : ByteArray) (w : World) (hx : x.name.size ≤ maxLen) (hs : s.size ≤ maxLen) (hk : key.size ≤ maxLen) :
    Calls Tryz.prog 20 #[xv x, .string s, .string key] w fun e w' => e = .returned (.bool (fitsX x s key)) ∧ Below w.heap.size w w' := by
  have b0 : ∀ o, Below w.heap.size w (w.alloc o) := fun o => (Below.refl _ _).alloc (Nat.le_refl _) _
  have hF := fun w => fitting_any x key w hx hk
  go_enter Tryz.func20, Tryz.ntmps20
  go_wp2_with fail
  refine (hF _).mono ?_
  rintro e w1 ⟨v, rfl, hv, b1⟩
  have B1 : Hid (Below w.heap.size w w1) := (b0 _).trans (b1.mono (by simp))
  rcases hv with ⟨rfl, h1⟩ | ⟨b, rfl, h1, h2, h3⟩ | ⟨rfl, h1, h2, h3⟩ | ⟨b, rfl, h1, h2, h2', h3⟩
  · have E : Hid (fitsX x s key = false) := by show _ = _; unfold fitsX; rw [h1, Bool.false_and]
    go_wp2_with (go_at_call 50; refine (fit1_any _ _).mono ?_; rintro e w2 ⟨rfl, b2⟩)
    go_ret
    exact ⟨retK_bool E.out.symm, B1.out.trans (b2.mono B1.out.size)⟩
  · have E : Hid (fitsX x s key = (s.toList == key.toList)) := by show _ = _; unfold fitsX; rw [h1, Bool.true_and, if_pos h2]
    clear h2
    go_wp2_with (go_at_call 51; refine (fit2_any _ _ _ _ h3).mono ?_; rintro e w2 ⟨rfl, b2⟩)
    go_ret
    exact ⟨retK_bool E.out.symm, B1.out.trans (b2.mono B1.out.size)⟩
  · have E : Hid (fitsX x s key = s.toList.isEmpty) := by show _ = _; unfold fitsX; rw [h1, Bool.true_and, if_neg h2, if_pos h3]
    clear h2 h3
    go_wp2_with (go_at_call 52; refine (fit3_any _ _).mono ?_; rintro e w2 ⟨rfl, b2⟩)
    go_ret
    exact ⟨retK_bool E.out.symm, B1.out.trans (b2.mono B1.out.size)⟩
  · have E : Hid (fitsX x s key = matchB (txt s) (txt key)) := by show _ = _; unfold fitsX; rw [h1, Bool.true_and, if_neg h2, if_neg h2']
    clear h2 h2'
    go_wp2_with (go_at_call 53; refine (fit4_any _ _ _ _ h3 hs hk).mono ?_; rintro e w2 ⟨rfl, b2⟩)
    go_ret
    exact ⟨retK_bool E.out.symm, B1.out.trans (b2.mono B1.out.size)⟩

set_option maxRecDepth 20000 in
set_option maxHeartbeats 1000000 in
theorem rfits8_any (x : Ex) (s key : ByteArray) (w : World) (hx : x.name.size ≤ maxLen) (hs : s.size ≤ maxLen) (hk : key.size ≤ maxLen) :
    Calls Tryz.prog 29 #[xv x, .string s, .string key] w fun e w' => e = .returned (.bool (fitsX x s key)) ∧ Below w.heap.size w w' := by
  obtain ⟨W, fold⟩ : ∃ W, w.alloc (.cells #[.string x.name, .int .i64 x.kind, .bool x.fed] 41) = W := ⟨_, rfl⟩
  have bW : Below w.heap.size w W := by rw [← fold]; exact (Below.refl _ _).alloc (Nat.le_refl _) _
  have x0 : W.cell? ⟨w.heap.size, 0, none⟩ = some (.string x.name) := by rw [← fold]; exact cell_of_list (C := xcells x) (heap_alloc_new w _) 0
  have x1 : W.cell? ⟨w.heap.size, 1, none⟩ = some (.int .i64 x.kind) := by rw [← fold]; exact cell_of_list (C := xcells x) (heap_alloc_new w _) 1
  have x2 : W.cell? ⟨w.heap.size, 2, none⟩ = some (.bool x.fed) := by rw [← fold]; exact cell_of_list (C := xcells x) (heap_alloc_new w _) 2
  have hG := rgood_any x W hx
  have hK := fun w => rkey_any key w hk
  have hM := fun w => rmatch_any s key w hs hk
  cases hg : goodX x
  · rw [hg] at hG
    rw [show fitsX x s key = false by unfold fitsX; rw [hg]; rfl]
    go_enter Tryz.func29, Tryz.ntmps29
    go_wp2_with (go_at_call 44; refine hG.mono ?_; rintro e w1 ⟨rfl, b1⟩)
    go_ret
    exact ⟨rfl, bW.trans (b1.mono bW.size)⟩
  · rw [hg] at hG
    have e0 : fitsX x s key = (keyB (txt key) && (if x.kind = 1 then s.toList == key.toList else if x.kind = 2 then s.toList.isEmpty else matchB (txt s) (txt key))) := by unfold fitsX; rw [hg, Bool.true_and]
    have KZ : Hid (∀ w1 w2, Below W.heap.size W w1 → Below w1.heap.size w1 w2 → w2.cell? ⟨w.heap.size, 1, none⟩ = some (.int .i64 x.kind) ∧ Below w.heap.size w w2) := fun w1 w2 b1 b2 => by
      have z1 := (b1.cell (p := ⟨w.heap.size, 1, none⟩) (World.block_lt_of_cell? _ _ x1)).trans x1
      exact ⟨(b2.cell (p := ⟨w.heap.size, 1, none⟩) (World.block_lt_of_cell? _ _ z1)).trans z1, bW.trans ((b1.trans (b2.mono b1.size)).mono bW.size)⟩
    rw [e0]
    clear e0
    cases hk2 : keyB (txt key)
    · rw [hk2] at hK
      rw [Bool.false_and]
      go_enter Tryz.func29, Tryz.ntmps29
      go_wp2_with fail
      refine hG.mono ?_
      rintro e w1 ⟨rfl, b1⟩
      go_wp2_with fail
      refine (hK _).mono ?_
      rintro e w2 ⟨rfl, b2⟩
      go_wp2
      go_ret
      exact ⟨rfl, (KZ.out w1 w2 b1 b2).2⟩
    · rw [hk2] at hK
      rw [Bool.true_and]
      by_cases h1 : x.kind = 1
      · rw [if_pos h1]
        have H1 : Hid (x.kind = 1) := h1
        clear h1
        go_enter Tryz.func29, Tryz.ntmps29
        go_wp2_with fail
        refine hG.mono ?_
        rintro e w1 ⟨rfl, b1⟩
        go_wp2_with fail
        refine (hK _).mono ?_
        rintro e w2 ⟨rfl, b2⟩
        obtain ⟨z2, B⟩ := KZ.out w1 w2 b1 b2
        rw [H1.out] at z2
        go_wp2
        go_ret
        exact ⟨rfl, B⟩
      · rw [if_neg h1]
        by_cases h2 : x.kind = 2
        · rw [if_pos h2]
          have H2 : Hid (x.kind = 2) := h2
          clear h2 h1
          go_enter Tryz.func29, Tryz.ntmps29
          go_wp2_with fail
          refine hG.mono ?_
          rintro e w1 ⟨rfl, b1⟩
          go_wp2_with fail
          refine (hK _).mono ?_
          rintro e w2 ⟨rfl, b2⟩
          obtain ⟨z2, B⟩ := KZ.out w1 w2 b1 b2
          rw [H2.out] at z2
          go_wp2
          go_ret
          exact ⟨rfl, B⟩
        · rw [if_neg h2]
          go_enter Tryz.func29, Tryz.ntmps29
          go_wp2_with fail
          refine hG.mono ?_
          rintro e w1 ⟨rfl, b1⟩
          go_wp2_with fail
          refine (hK _).mono ?_
          rintro e w2 ⟨rfl, b2⟩
          obtain ⟨z2, B⟩ := KZ.out w1 w2 b1 b2
          go_wp2_with fail
          refine (hM _).mono ?_
          rintro e w3 ⟨rfl, b3⟩
          go_wp2
          go_ret
          exact ⟨rfl, B.trans (b3.mono B.size)⟩
end Go.Proofs.YtlfehneojkfmjaaGreatDoor
