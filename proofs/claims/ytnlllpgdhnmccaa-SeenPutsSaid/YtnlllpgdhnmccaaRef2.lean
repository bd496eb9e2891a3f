/-
  THE DOCUMENT's BOOK: Origins, Put, by their contracts; the law's alike.
-/
import Derived.Test.YtnlllpgdhnmccaaRefB
namespace Go.Proofs.Ytnlllpgdhnmccaa
open Go.RowKit Go.Sort

/-- The places of those of which there is something, by the document. -/
def heldK (f : Nat → List (Nat × Nat)) (k : Nat) : List Nat := (List.range k).filter fun i => decide (0 < (f i).length)
theorem heldK_yes {f : Nat → List (Nat × Nat)} {k : Nat} (h : 0 < (f k).length) : heldK f (k + 1) = heldK f k ++ [k] := by simp [heldK, List.range_succ, List.filter_append, h]
theorem heldK_no {f : Nat → List (Nat × Nat)} {k : Nat} (h : ¬ 0 < (f k).length) : heldK f (k + 1) = heldK f k := by
  have : f k = [] := List.eq_nil_of_length_eq_zero (by omega)
  simp [heldK, List.range_succ, List.filter_append, this]
theorem heldK_len (f : Nat → List (Nat × Nat)) (k : Nat) : (heldK f k).length ≤ k := by
  have := List.length_filter_le (fun i => decide (0 < (f i).length)) (List.range k)
  simpa [heldK] using this
theorem topL_none : topL [] = 0 := rfl
theorem topL_some {l : List (Nat × Nat)} (h : Apart 1 l) (hl : l ≠ []) : 0 < topL l := by
  unfold topL
  rw [List.getLast?_eq_some_getLast hl]
  have := h.lowR (List.getLast_mem hl)
  show 0 < (l.getLast hl).2
  omega
theorem live_held {f : Nat → List (Nat × Nat)} (hf : FineF f) : liveL f = heldK f 8 := by
  unfold liveL liveK heldK
  refine List.filter_congr fun i hi => ?_
  by_cases h : f i = []
  · rw [h]; rfl
  · rw [decide_eq_true (topL_some (hf i (List.mem_range.1 hi)).1 h), decide_eq_true (List.length_pos_iff.2 h)]
theorem own1_icells {w : World} {base : Nat} {v : Value} {l : List Int} (h : Own1 w base 3 v (icells l)) : ∃ a c, v = .slice a l.length c := by
  obtain ⟨a, c, e⟩ := h.row.slice
  rw [icells_length] at e
  exact ⟨a, c, e⟩

theorem elemI : Elem Try.prog 54 3 (.int .i64 0) 8 := by
  obtain ⟨i, h1, h2, h3, h4⟩ := info_parts infoInt
  exact ⟨Try.underlying54, ⟨i, h1, h2, h3, h4⟩, rfl⟩
theorem snoc_slice {w : World} {base : Nat} {v u : Value} {l : List Int} (h : Own1 w base 3 v (icells l ++ [u])) : ∃ a c, v = .slice a (l.length + 1) c := by
  obtain ⟨a, c, e⟩ := h.row.slice
  rw [List.length_append, icells_length] at e
  exact ⟨a, c, e⟩

set_option maxRecDepth 20000 in
set_option maxHeartbeats 2000000 in
theorem rborigins_any (p : Nat) (F : Nat → Prop) (f : Nat → List (Nat × Nat)) (w : World) (h : Rb w p F f) :
    Calls Try.prog 29 #[ptrS p] w fun e w' => ∃ v, e = .returned v ∧ Row w' v (icells (places (heldK f 8))) ∧ Below w.heap.size w w' := by
  have HR : Hid (∀ i, i < 8 → ∃ u, w.cell? ⟨p, i + 1, none⟩ = some u ∧ Rng w u (f i)) := fun i hi => h.row hi
  obtain ⟨i0, hi0, hz0, hz1, hz2⟩ := info_parts infoInt
  clear h
  unfold ptrS
  go_enter Try.func29, Try.ntmps29
  go_wp2
  go_loopw [3, 4] (fun u3 u4 wr => ∃ k : Nat, u4 = .int .i64 ((k : Int) + 1) ∧ k ≤ 8 ∧ Own1 wr w.heap.size 3 u3 (icells (places (heldK f k))) ∧ Below w.heap.size w wr) (fun u3 u4 wr => 9 - (intOf u4).toNat)
  case atStart => exact ⟨0, rfl, by omega, own1_nil _ _ _, Below.refl _ _⟩
  case round =>
    obtain ⟨k, rfl, hk, own, hb⟩ := hrel
    by_cases hlt : k < 8
    · obtain ⟨u, hc, hr⟩ := HR.out k hlt
      obtain ⟨ua, uc, rfl⟩ := hr.slice
      have hcr := cell_on hb hc
      obtain ⟨m, hm⟩ : ∃ m, m = k + 1 := ⟨_, rfl⟩
      rw [← hm] at hcr
      have em : (k : Int) + 1 = (m : Int) := by omega
      have hm9 : (m : Int) < 9 := by omega
      have hm8 : (m : Int) ≤ 8 := by omega
      have HM : Hid (m = k + 1) := hm
      have HO : Hid (Own1 wr w.heap.size 3 u3 (icells (places (heldK f k)))) := own
      obtain ⟨xa, xc, rfl⟩ := own1_icells own
      have HY : Hid (0 < (f k).length → heldK f (k + 1) = heldK f k ++ [k]) := heldK_yes
      have HN : Hid (¬ 0 < (f k).length → heldK f (k + 1) = heldK f k) := heldK_no
      have hle : (places (heldK f k)).length ≤ 8 := by rw [places_len]; have := heldK_len f k; omega
      rw [em]
      clear hc hr own hm
      generalize hz : (f k).length = z at *
      by_cases hp : 0 < z
      · have hp' : (0 : Int) < (z : Int) := by omega
        have HS : Hid (heldK f (k + 1) = heldK f k ++ [k]) := HY.out hp
        clear HY HN hz em
        generalize hn : (places (heldK f k)).length = nn at *
        go_wp2_with (at_builtin; refine wpList_append_row rfl (.tmp 17) (.tmp 19) 54 3 (.int .i64 0) 8 elemI rfl w.heap.size _ _ (icells (places (heldK f k))) [.int .i64 (m : Int)] rfl rfl (World.ownsRow.alloc HO.out _) (rowR_one wr _ _) (by simp [Value.oneCell']) (by rw [icells_length, hn]; simp; omega) (by rw [icells_length, hn]; simp; omega) (le_alloc hb.size _) ?_; intro v' w' own' b' sz'; have HO' : Hid _ := own'; obtain ⟨ya, yc, rfl⟩ := snoc_slice own'; clear own')
        have hb' := hb.trans (((Below.refl _ wr).alloc hb.size _).trans b')
        refine ⟨⟨k + 1, by rw [HM.out], by omega, ?_, hb'⟩, by rw [HM.out]; simp [intOf]; omega⟩
        rw [HS.out, places_snoc, icells_append]
        have := HO'.out
        rw [HM.out, show ((k + 1 : Nat) : Int) = (k : Int) + 1 by omega, hn] at this
        exact this
      · have hp' : ¬ ((0 : Int) < (z : Int)) := by omega
        have HS : Hid (heldK f (k + 1) = heldK f k) := HN.out hp
        clear HY HN hz em
        generalize hn : (places (heldK f k)).length = nn at *
        go_wp2
        refine ⟨⟨k + 1, by rw [HM.out], by omega, by rw [HS.out]; exact HO.out, hb⟩, by rw [HM.out]; simp [intOf]; omega⟩
    · obtain rfl : k = 8 := by omega
      have HO : Hid (Own1 wr w.heap.size 3 u3 (icells (places (heldK f 8)))) := own
      obtain ⟨xa, xc, rfl⟩ := own1_icells own
      clear own
      go_wp2
      go_ret
      exact ⟨_, rfl, HO.out.row, hb⟩

set_option maxRecDepth 20000 in
set_option maxHeartbeats 2000000 in
theorem alikeB_any (p r : Nat) (F G : Nat → Prop) (f : Nat → List (Nat × Nat)) (w : World) (hb : Bk w p F f) (hr : Rb w r G f) (hf : FineF f) (hlen : LenF 1000000 f) :
    Calls Try.prog 12 #[ptrS p, ptrS r] w fun e w' => e = .returned (.bool true) ∧ Below w.heap.size w w' := by
  have HB : Hid (∀ V, Below w.heap.size w V → Told V (ptrS p) f) := fun V hV => (hb.kept hV).told
  have HR : Hid (∀ V, Below w.heap.size w V → Rb V r G f) := fun V hV => hr.kept hV
  have HF : Hid (∀ o, Apart 1 (ofF f o) ∧ (ofF f o).length ≤ 1000000) := fun o => ⟨(hf.of o).1, hlen.of o⟩
  have hO := origins_any (ptrS p) f w hb.told
  rw [live_held hf] at hO
  have hOr : ∀ V, Below w.heap.size w V → Calls Try.prog 29 #[ptrS r] V fun e w' => ∃ v, e = .returned v ∧ Row w' v (icells (places (heldK f 8))) ∧ Below V.heap.size V w' := fun V hV => rborigins_any r G f V (hr.kept hV)
  generalize places (heldK f 8) = L at hO hOr
  clear hb hr hf hlen
  unfold ptrS at *
  go_enter Try.func12, Try.ntmps12
  go_wp2_with fail
  refine hO.mono ?_
  rintro e w1 ⟨v1, rfl, r1, b1⟩
  obtain ⟨a1, c1, rfl⟩ := r1.sliceInts
  go_wp2_with fail
  refine (hOr w1 b1).mono ?_
  rintro e w2 ⟨v2, rfl, r2, b2⟩
  obtain ⟨a2, c2, rfl⟩ := r2.sliceInts
  go_wp2_with fail
  refine (ints_any _ _ L L w2 (r1.below b2 (Nat.le_refl _)) r2).mono ?_
  rintro e w3 ⟨rfl, b3⟩
  have b13 : Below w.heap.size w w3 := keptW (keptW b1 b2) b3
  rw [beq_self_eq_true]
  clear r1 r2 b1 b2 b3 hO hOr
  go_wp2
  go_loopw [5] (fun u5 wr => ∃ o : Int, u5 = .int .i64 o ∧ -1 ≤ o ∧ o ≤ 10 ∧ Below w.heap.size w wr) (fun u5 wr => (10 - intOf u5).toNat)
  case atStart => exact ⟨-1, rfl, by omega, by omega, b13⟩
  case round =>
    obtain ⟨o, rfl, h1, h2, hb⟩ := hrel
    by_cases hlt : o ≤ 9
    · obtain ⟨f1, f2⟩ := HF.out o
      have k1 := rbranges_any r G f o wr (HR.out wr hb)
      have k2 := branges_any (.pointer (some ⟨p, 0, none⟩)) f o wr (HB.out wr hb) f2
      have k3 : ∀ V, Below w.heap.size w V → Calls Try.prog 21 #[.pointer (some ⟨p, 0, none⟩), .int .i64 o] V fun e w' => e = .returned (.int .u64 (lowL (ofF f o) : Nat)) ∧ w' = V := fun V hV => blow_any _ f o V (HB.out V hV)
      have k4 : ∀ V, Below w.heap.size w V → Calls Try.prog 22 #[.pointer (some ⟨p, 0, none⟩), .int .i64 o] V fun e w' => e = .returned (.int .i64 (gapsL (ofF f o) : Nat)) ∧ w' = V := fun V hV => bgaps_any _ f o V (HB.out V hV) f1
      unfold ptrS at k1
      generalize ofF f o = l at k1 k2 k3 k4 f1 f2
      go_wp2_with fail
      refine k1.mono ?_
      rintro e w4 ⟨u, rfl, hu, hw4⟩
      subst hw4
      obtain ⟨ua, uc, rfl⟩ := hu.slice
      go_wp2_with fail
      refine k2.mono ?_
      rintro e w5 ⟨v5, rfl, o5, b5⟩
      obtain ⟨va, vc, rfl⟩ := o5.rng.slice
      have hu5 := hu.below b5 (Nat.le_refl _)
      have hb5 := keptW hb b5
      go_wp2_with fail
      refine (same_any _ _ l l w5 o5.rng hu5).mono ?_
      rintro e w6 ⟨rfl, b6⟩
      have hu6 := hu5.below b6 (Nat.le_refl _)
      have hb6 := keptW hb5 b6
      rw [decide_eq_true rfl]
      clear hu hu5 o5 b5 b6 hb5 k1 k2
      go_wp2_with fail
      refine (k3 w6 hb6).mono ?_
      rintro e w7 ⟨rfl, hw7⟩
      subst hw7
      go_wp2_with fail
      refine (rlow_any _ l _ hu6).mono ?_
      rintro e w8 ⟨rfl, hw8⟩
      subst hw8
      go_wp2_with fail
      refine (k4 _ hb6).mono ?_
      rintro e w9 ⟨rfl, hw9⟩
      subst hw9
      go_wp2_with fail
      refine (rgaps_any _ l _ hu6).mono ?_
      rintro e w10 ⟨rfl, b10⟩
      have hb10 := keptW hb6 b10
      clear k3 k4 hu6 b10
      go_wp2
      exact ⟨⟨o + 1, by go_num, by omega, by omega, hb10⟩, by simp [intOf]; omega⟩
    · obtain rfl : o = 10 := by omega
      go_wp2
      go_ret
      exact ⟨rfl, hb⟩
end Go.Proofs.Ytnlllpgdhnmccaa
