/-
  THE WALK of the law SealRows.
-/
import Derived.Test.YtpdmcodnnhbchaaDoorOpens
import Derived.Test.YtpdmcodnnhbchaaDoorCat
import Derived.Test.YtpdmcodnnhbchaaDoorFrame
namespace Go.Proofs.YtpdmcodnnhbchaaDoor
open Go.RowKit

theorem isInts : Elem Tryd.prog 42 3 (.int .i64 0) 8 := by
  have hinfo : (Tryd.prog.info? 3).map (fun i => (i.zero, i.size, i.bytes)) = some (some (.int .i64 0), 1, 8) := by kernel_rfl
  obtain ⟨i0, hi, hz0, hz1, hz2⟩ := info_parts hinfo
  exact ⟨Tryd.underlying42, ⟨i0, hi, hz0, hz1, hz2⟩, rfl⟩

/-- A list of lists of bytes that came in: its k-th. -/
theorem Row.came {w : World} {v : Value} {cs : List Value} {ls : List (List UInt8)} (h : Row w v cs) (ha : HoldsAll w cs ls) (hp : 0 < ls.length) :
    ∃ b off cap, v = .slice (some ⟨b, off, none⟩) ls.length cap ∧ ls.length ≤ cap ∧ cap ≤ maxLen ∧ ∀ k (hk : k < ls.length), ∃ a c, w.cell? ⟨b, off + k, none⟩ = some (.slice a ls[k].length c) ∧ Holds w (.slice a ls[k].length c) ls[k] ∧ ls[k].length ≤ 140737488351232 := by
  obtain ⟨b, off, cap, hv, h1, h2, h3⟩ := h.at (by rw [ha.1]; exact hp)
  rw [ha.1] at hv h1
  refine ⟨b, off, cap, hv, h1, h2, fun k hk => ?_⟩
  have hk' : k < cs.length := by rw [ha.1]; exact hk
  have h4 := ha.2 k cs[k] ls[k] (List.getElem?_eq_getElem hk') (List.getElem?_eq_getElem hk)
  obtain ⟨a, c, hac⟩ := h4.1.slice
  have h5 := h3 k hk'
  rw [hac] at h5
  refine ⟨a, c, h5, ?_, h4.2⟩
  rw [← hac]
  exact h4.1

/-- A row of bytes lies elsewhere than a row of ints. -/
theorem Owns.keptInts {w w' : World} {b b' : Nat} {c v : Value} {l : List UInt8} {cs : List Value} (h : Owns w b 5 c l) (hv : Own1 w b' 3 v cs) (hg : w.grownBy w' v.ownBlock) : Owns w' b 5 c l := by
  refine World.ownsRow.kept h hg ?_
  rcases h.2 with ⟨rfl, _⟩ | ⟨g, cap, cur, rfl, _, hgg, _⟩
  · exact .inl rfl
  · right
    rcases hv.2 with ⟨rfl, _⟩ | ⟨g2, cap2, cur2, rfl, _, hgg2, _⟩
    · simp [Value.ownBlock]
    · intro he
      simp only [Value.ownBlock, Option.some.injEq] at he
      subst he
      rw [hgg] at hgg2
      simp at hgg2
theorem own1_int (w : World) (u : Value) : ∀ j x, [u][j]? = some x → (w.alloc (.cells #[u] 3)).cell? ((⟨w.heap.size, 0, none⟩ : Addr).add j) = some x := by
  intro j x hj
  have hr := row_one w 3 u
  rcases hr with ⟨h, _⟩ | ⟨a, c, h, _, _, hh⟩
  · cases h
  · injection h with h _ _
    injection h with h
    subst h
    exact hh j x hj

/-- So far: the first k sealed one behind the other, and where each ends. -/
structure Laid (w wr : World) (l : List (List UInt8)) (k : Nat) (vb ve : Value) : Prop where
  b : Owns wr w.heap.size 5 vb (catL (l.take k))
  e : Own1 wr w.heap.size 3 ve (icells (endsL l k))
  bel : Below w.heap.size w wr
  len : (catL (l.take k)).length ≤ 5008
  small : Small (l.take k)
  few : 0 < k → l.length ≤ 200

theorem Laid.step {w wr w3 w5 : World} {l : List (List UInt8)} {k : Nat} {vb ve vb' ve' : Value} (h : Laid w wr l k vb ve) (hk : k < l.length) (hx : (catL (l.take k)).length + l[k].length ≤ 5000) (hl : l.length ≤ 200)
    {D : List UInt8} (hD : D = catL (l.take k) ++ sealL l[k]) (hb : Owns w3 w.heap.size 5 vb' D) (bel : Below wr.heap.size wr w3)
    (hg : (w3.alloc (.cells #[.int .i64 (D.length : Int)] 3)).grownBy w5 ve.ownBlock)
    (he : w5.ownsRow w.heap.size 3 1 ve' (k + 1 + 1) (icells (endsL l k) ++ [.int .i64 (D.length : Int)])) : Laid w w5 l (k + 1) vb' ve' := by
  have hsl := sealL_length l[k] (by omega)
  have hel : (icells (endsL l k)).length = k + 1 := by rw [icells_length, endsL_length]
  have hcat := catL_take l k hk
  have he3 : Own1 w3 w.heap.size 3 ve (icells (endsL l k)) := h.e.kept bel (Nat.le_refl _)
  have he4 : Own1 (w3.alloc (.cells #[.int .i64 (D.length : Int)] 3)) w.heap.size 3 ve (icells (endsL l k)) := World.ownsRow.alloc he3 _
  have b3 : Below w.heap.size w w3 := h.bel.trans (bel.mono h.bel.size)
  refine ⟨?_, ?_, ?_, ?_, ?_, fun _ => hl⟩
  · rw [hcat, ← hD]
    exact (hb.kept ((Below.refl w3.heap.size w3).alloc (Nat.le_refl _) _) (Nat.le_refl _)).keptInts he4 hg
  · rw [endsL_succ, icells_append, hcat, ← hD]
    unfold Own1
    rw [List.length_append, hel]
    exact he
  · exact (b3.alloc b3.size _).grown hg (by simp; exact Nat.le_succ_of_le b3.size) (fun k hk => (he4.lt k hk).1)
  · rw [hcat, List.length_append, hsl]; omega
  · intro x hxm
    rw [List.take_succ_eq_append_getElem hk, List.mem_append] at hxm
    rcases hxm with hxm | hxm
    · exact h.small x hxm
    · simp at hxm
      rw [hxm]
      omega

set_option maxHeartbeats 2000000 in
theorem rows_some (s : Value) (cs : List Value) (l : List (List UInt8)) (cut : Nat) (w : World) (ht : Tab w) (hr : Row w s cs) (ha : HoldsAll w cs l) (hcut : cut < 18446744073709551616) (hp : 0 < l.length) :
    Calls Tryd.prog 7 #[s, .int .u64 cut] w fun e w' => e = .returned (.bool true) ∧ Below w.heap.size w w' := by
  obtain ⟨b, off, cap, rfl, hc1, hc2, hcell⟩ := hr.came ha hp
  unfold maxLen at hc2
  obtain ⟨i, hi, hz, hsz0, hby⟩ := isInts.info
  have h0 : Laid w (w.alloc (.cells #[.int .i64 0] 3)) l 0 (.slice none 0 0) (.slice (some ⟨w.heap.size, 0, none⟩) 1 1) :=
    ⟨owns_nil _ _ _, by rw [endsL_zero]; exact own1_new w _ _ [.int .i64 0] (Nat.le_refl _) (by simp [maxLen]), (Below.refl _ _).alloc (Nat.le_refl _) _, by simp [catL], fun x hx => by simp at hx, fun h => by omega⟩
  go_enter Tryd.func7, Tryd.ntmps7
  go_wp2_with fail
  go_loopw [5, 6, 18] (fun vb ve i wr => ∃ k : Nat, k ≤ l.length ∧ i = .int .i64 k ∧ Laid w wr l k vb ve) (fun _ _ i _ => l.length - (intOf i).toNat)
  case atStart => exact ⟨0, Nat.zero_le _, rfl, h0⟩
  case round =>
    obtain ⟨k, hk, rfl, G⟩ := hrel
    have sr : Since w wr := ⟨ht, G.bel⟩
    have hsz := G.bel.size
    by_cases hlt : k < l.length
    · obtain ⟨xa, xc, hxc, hxh, hxl⟩ := hcell k hlt
      rw [← G.bel.cell (World.block_lt_of_cell? w _ hxc)] at hxc
      replace hxh := hxh.below G.bel (Nat.le_refl _)
      have hlen := G.len
      obtain ⟨ba, bc, hvb⟩ := G.b.holds.slice
      obtain ⟨ea, ec, hve⟩ := G.e.row.sliceInts
      rw [endsL_length] at hve
      subst hvb hve
      by_cases hbig : 5000 < (catL (l.take k)).length + l[k].length ∨ 200 < l.length
      · rcases hbig with hbig | hbig
        · go_wp2_with (go_at_call 9; refine (lives_any _ sr.tab).mono ?_; rintro e w3 ⟨rfl, b3⟩)
          go_ret
          exact ⟨rfl, (sr.go b3).bel⟩
        · by_cases hbig2 : 5000 < (catL (l.take k)).length + l[k].length
          · go_wp2_with (go_at_call 9; refine (lives_any _ sr.tab).mono ?_; rintro e w3 ⟨rfl, b3⟩)
            go_ret
            exact ⟨rfl, (sr.go b3).bel⟩
          · go_wp2_with (go_at_call 9; refine (lives_any _ sr.tab).mono ?_; rintro e w3 ⟨rfl, b3⟩)
            go_ret
            exact ⟨rfl, (sr.go b3).bel⟩
      · have hb1 : (catL (l.take k)).length + l[k].length ≤ 5000 := by omega
        have hb2 : l.length ≤ 200 := by omega
        clear hbig
        have hsl := sealL_length l[k] (by omega)
        obtain ⟨D, hD⟩ : ∃ D, D = catL (l.take k) ++ sealL l[k] := ⟨_, rfl⟩
        have hDl : D.length ≤ 5008 := by rw [hD, List.length_append, hsl]; omega
        have HSL : Hid ((sealL l[k]).length = l[k].length + 8 ∧ D = catL (l.take k) ++ sealL l[k]) := ⟨hsl, hD⟩
        have hel : (icells (endsL l k)).length = k + 1 := by rw [icells_length, endsL_length]
        have HE : Hid _ := hel
        clear hsl hD hel
        have bA : Below wr.heap.size wr (wr.alloc (.cells #[] 5)) := (Below.refl _ _).alloc (Nat.le_refl _) _
        go_wp2_with (at_builtin; refine wpList_append_bytes rfl (.tmp 34) (.tmp 35) 22 5 isU8 rfl wr.heap.size _ _ [] (catL (l.take k)) rfl rfl (owns_new _ _ _ [] (Nat.le_refl _) (by simp)) (G.b.holds.below bA (Nat.le_refl _)) (by simp; omega) (by simp) ?_; intro v2 w2 own2 b2 z2)
        have n2 : Below wr.heap.size wr w2 := bA.trans b2
        have s2 := sr.go n2
        refine (seal_any _ l[k] _ s2.tab (hxh.below n2 (Nat.le_refl _))).mono ?_
        rintro e w3 ⟨v3, rfl, own3, b3⟩
        have n3 : Below wr.heap.size wr w3 := n2.trans (b3.mono z2)
        have z3 : wr.heap.size ≤ w3.heap.size := n3.size
        have own2' := Owns.kept own2 b3 (Nat.le_refl _)
        go_wp2_with (first
          | (at_builtin; refine wpList_append_bytes rfl (.tmp 36) (.tmp 38) 22 5 isU8 rfl wr.heap.size _ _ ([] ++ catL (l.take k)) (sealL l[k]) rfl rfl own2' own3.holds (by simp [HSL.out.1]; omega) z3 ?_; intro v4 w4 own4 b4 z4; rw [List.nil_append, ← HSL.out.2] at own4; obtain ⟨a4, c4, rfl⟩ := own4.holds.slice; have n4 : Below wr.heap.size wr w4 := n3.trans b4)
          | (at_builtin; refine wpList_append_own _ rfl (.tmp 40) (.tmp 43) 42 rfl w.heap.size 3 i _ 1 8 isInts.ht hi hz hsz0 hby rfl (by decide) _ (k + 1) (icells (endsL l k)) rfl (by have h := World.ownsRow.alloc (G.e.kept n4 (Nat.le_refl _)) (.cells #[.int .i64 (D.length : Int)] 3); rw [HE.out] at h; exact h) ⟨w4.heap.size, 0, none⟩ 1 1 [.int .i64 (D.length : Int)] rfl rfl (own1_int _ _) (by intro u hu; simp at hu; subst hu; rfl) (by unfold maxLen; omega) (by omega) (by simp; omega) ?_; intro v5 w5 own5 grown5 _; obtain ⟨a5, c5, rfl⟩ := own_slice own5))
        exact ⟨⟨k + 1, by omega, by go_num, G.step hlt hb1 hb2 HSL.out.2 (own4.mono hsz) n4 grown5 own5⟩, by simp [intOf]; omega⟩
    · obtain rfl : k = l.length := by omega
      obtain ⟨gB, gE, _, gL, gS, gF⟩ := G
      replace gF := gF hp
      rw [List.take_length] at gB gL gS
      obtain ⟨Z, hZ⟩ : ∃ Z, Z = catL l := ⟨_, rfl⟩
      rw [← hZ] at gB gL
      obtain ⟨K, hK⟩ : ∃ K, K = cut % (Z.length + 1) := ⟨_, rfl⟩
      have hKi : ((cut : Int) % ((Z.length : Int) + 1)) = (K : Int) := by rw [hK, Int.natCast_emod, Int.natCast_add]; rfl
      have hKlt : K ≤ Z.length := by have := Nat.mod_lt cut (show 0 < Z.length + 1 by omega); omega
      clear hK
      obtain ⟨hwc, hws⟩ := whole_cat l gS
      obtain ⟨p, hp1, hp2, hp3, hp4, hp5⟩ := whole_cut l K gS (by rw [← hZ]; exact hKlt)
      rw [← hZ] at hwc hws hp2 hp3
      obtain ⟨M, hM⟩ : ∃ M, M = (catL (l.take p)).length := ⟨_, rfl⟩
      rw [← hM] at hp3 hp4
      have hZpos : 0 < Z.length := by
        rw [hZ]
        match l, hp with
        | x :: l, _ =>
          have hx := sealL_length x (gS x (by simp))
          show 0 < (sealL x ++ catL l).length
          rw [List.length_append, hx]; omega
      obtain ⟨gb, ob, cb, hvb, hcb1, hcb2, hcb3⟩ := gB.holds.at hZpos
      have hcutH := holds_part hcb3 0 (n := K) (cap := cb) (by omega) (by omega) hcb2
      rw [List.drop_zero, Nat.add_zero] at hcutH
      have hcb4 : cb ≤ 9223372036854775807 := hcb2
      clear hcb3
      obtain ⟨ge, oe, ce, hve, hce1, hce2, hce3⟩ := gE.row.atInts (by rw [endsL_length]; omega)
      rw [endsL_length] at hve hce1
      have hce4 : ce ≤ 9223372036854775807 := hce2
      have hend : ∀ j, j ≤ l.length → wr.cell? ⟨ge, oe + j, none⟩ = some (.int .i64 ((catL (l.take j)).length : Int)) := fun j hj => by
        have h1 := hce3 j (by rw [endsL_length]; omega)
        have h2 := endsL_get l l.length j hj
        rw [List.getElem?_eq_getElem (by rw [endsL_length]; omega)] at h2
        rw [h1, Option.some.inj h2]
      clear hce3
      subst hvb hve
      have HW : Hid (wholeC Z = l ∧ wholeS Z = Z.length ∧ wholeC (Z.take K) = l.take p ∧ wholeS (Z.take K) = M) := ⟨hwc, hws, hp2, hp3⟩
      clear hwc hws hp2 hp3
      have HM : Hid _ := hM
      have HP : Hid _ := hp5
      have HE : Hid _ := hend
      have hZ6 : Z.length ≤ 1000000 := Nat.le_trans gL (by decide)
      have hZ7 : (Z.take K).length ≤ 1000000 := by rw [List.length_take]; omega
      have HZ7 : Hid _ := hZ7
      clear hZ hM hp5 hend hZ7
      go_wp2_with fail
      refine (whole_any _ Z _ sr.tab gB.holds hZ6).mono ?_
      rintro e w6 ⟨v6, cs6, he6, row6, all6, b6⟩
      rw [HW.out.2.1] at he6
      rw [HW.out.1] at all6
      subst he6
      have s6 := sr.go b6
      obtain ⟨g6, o6, c6, hv6, hc6, hm6, hk6⟩ := row6.rows all6 hp
      have hm6' : c6 ≤ 9223372036854775807 := hm6
      subst hv6
      go_wp2_with fail
      refine (whole_any _ (Z.take K) _ s6.tab (hcutH.below b6 (Nat.le_refl _)) HZ7.out).mono ?_
      rintro e w7 ⟨v7, cs7, he7, row7, all7, b7⟩
      rw [HW.out.2.2.2] at he7
      rw [HW.out.2.2.1] at all7
      subst he7
      have s7 := s6.go b7
      have b67 : Below wr.heap.size wr w7 := b6.trans (b7.mono b6.size)
      obtain ⟨a7, c7, hv7⟩ := row7.rowsNil all7
      rw [List.length_take, Nat.min_eq_left hp1] at hv7
      subst hv7
      have he1 := HE.out p hp1
      rw [← HM.out, ← b67.cell (World.block_lt_of_cell? wr _ he1)] at he1
      by_cases hpl : p < l.length
      · have he2 := HE.out (p + 1) (by omega)
        rw [← b67.cell (World.block_lt_of_cell? wr _ he2)] at he2
        obtain ⟨M1, hM1⟩ : ∃ M1, M1 = (catL (l.take (p + 1))).length := ⟨_, rfl⟩
        have h5 := HP.out hpl
        rw [← hM1] at he2 h5
        clear hM1 hKi
        go_wp2_with fail
        go_loopw [116] (fun i wx => ∃ k : Nat, k ≤ l.length ∧ i = .int .i64 k ∧ Below w7.heap.size w7 wx) (fun i _ => l.length - (intOf i).toNat)
        case atStart => exact ⟨0, Nat.zero_le _, rfl, Below.refl _ _⟩
        case round =>
          obtain ⟨k, hk, rfl, br⟩ := hrel
          have sx := s7.go br
          by_cases hlt : k < l.length
          · obtain ⟨x3, y3, e3, f3⟩ := hk6 k hlt
            obtain ⟨x4, y4, e4, f4, _⟩ := hcell k hlt
            have b7x := b7.trans (br.mono b7.size)
            rw [← b7x.cell (World.block_lt_of_cell? w6 _ e3)] at e3
            rw [← sx.bel.cell (World.block_lt_of_cell? w _ e4)] at e4
            replace f3 := f3.below b7x (Nat.le_refl _)
            replace f4 := f4.below sx.bel (Nat.le_refl _)
            have hself : (l[k] == l[k]) = true := by simp
            have hki : (k : Int) < (l.length : Int) := by omega
            go_wp2_with fail
            go_quiet (first | (go_at_call 13; refine Calls.quiet_of_same (same_any _ _ _ _ _ (f3.below (belowDraws _ _ _) (Nat.le_refl _)) (f4.below (belowDraws _ _ _) (Nat.le_refl _)))))
            go_wp2
            exact ⟨⟨k + 1, by omega, by go_num, br.trans (belowDraws _ _ _)⟩, by simp [intOf]; omega⟩
          · go_wp2_with (go_at_call 9; refine (lives_any _ sx.tab).mono ?_; rintro e w9 ⟨rfl, b9⟩)
            go_ret
            exact ⟨rfl, (sx.go b9).bel⟩
      · clear hKi
        go_wp2_with fail
        go_loopw [116] (fun i wx => ∃ k : Nat, k ≤ l.length ∧ i = .int .i64 k ∧ Below w7.heap.size w7 wx) (fun i _ => l.length - (intOf i).toNat)
        case atStart => exact ⟨0, Nat.zero_le _, rfl, Below.refl _ _⟩
        case round =>
          obtain ⟨k, hk, rfl, br⟩ := hrel
          have sx := s7.go br
          by_cases hlt : k < l.length
          · obtain ⟨x3, y3, e3, f3⟩ := hk6 k hlt
            obtain ⟨x4, y4, e4, f4, _⟩ := hcell k hlt
            have b7x := b7.trans (br.mono b7.size)
            rw [← b7x.cell (World.block_lt_of_cell? w6 _ e3)] at e3
            rw [← sx.bel.cell (World.block_lt_of_cell? w _ e4)] at e4
            replace f3 := f3.below b7x (Nat.le_refl _)
            replace f4 := f4.below sx.bel (Nat.le_refl _)
            have hself : (l[k] == l[k]) = true := by simp
            have hki : (k : Int) < (l.length : Int) := by omega
            go_wp2_with fail
            go_quiet (first | (go_at_call 13; refine Calls.quiet_of_same (same_any _ _ _ _ _ (f3.below (belowDraws _ _ _) (Nat.le_refl _)) (f4.below (belowDraws _ _ _) (Nat.le_refl _)))))
            go_wp2
            exact ⟨⟨k + 1, by omega, by go_num, br.trans (belowDraws _ _ _)⟩, by simp [intOf]; omega⟩
          · go_wp2_with (go_at_call 9; refine (lives_any _ sx.tab).mono ?_; rintro e w9 ⟨rfl, b9⟩)
            go_ret
            exact ⟨rfl, (sx.go b9).bel⟩

theorem wholeC_nil : wholeC [] = [] := wholeC_end _ (by rw [errO_nil]; decide)
theorem wholeS_nil : wholeS [] = 0 := wholeS_end _ (by rw [errO_nil]; decide)

set_option maxHeartbeats 1000000 in
theorem rows_none (s : Value) (cs : List Value) (cut : Nat) (w : World) (ht : Tab w) (hr : Row w s cs) (ha : HoldsAll w cs []) :
    Calls Tryd.prog 7 #[s, .int .u64 cut] w fun e w' => e = .returned (.bool true) ∧ Below w.heap.size w w' := by
  have hcs : cs = [] := List.eq_nil_of_length_eq_zero ha.1
  subst hcs
  obtain ⟨a, cap, hv⟩ := hr.slice
  rw [List.length_nil] at hv
  subst hv
  obtain ⟨W0, hW0⟩ : ∃ W0, W0 = w.alloc (.cells #[.int .i64 0] 3) := ⟨_, rfl⟩
  have b0 : Below w.heap.size w W0 := by rw [hW0]; exact (Below.refl _ _).alloc (Nat.le_refl _) _
  have s0 : Since w W0 := ⟨ht, b0⟩
  have hc0 : W0.cell? ⟨w.heap.size, 0, none⟩ = some (.int .i64 0) := by rw [hW0]; exact cell1 (heap_alloc_new w _)
  have hmod : (cut : Int) % 1 = 0 := by omega
  go_enter Tryd.func7, Tryd.ntmps7
  go_wp2_with fail
  go_loopw [5, 6, 18] (fun vb ve i wr => vb = .slice none 0 0 ∧ ve = .slice (some ⟨w.heap.size, 0, none⟩) 1 1 ∧ i = .int .i64 0 ∧ wr = W0) (fun _ _ _ _ => 0)
  case atStart => exact ⟨rfl, rfl, rfl, hW0.symm⟩
  case round =>
    obtain ⟨rfl, rfl, rfl, rfl⟩ := hrel
    clear hW0
    go_wp2_with fail
    refine (whole_any _ [] _ s0.tab (.inl ⟨rfl, rfl⟩) (by simp)).mono ?_
    rintro e w6 ⟨v6, cs6, he6, row6, all6, b6⟩
    rw [wholeS_nil] at he6
    rw [wholeC_nil] at all6
    subst he6
    have s6 := s0.go b6
    obtain ⟨a6, c6, hv6⟩ := row6.rowsNil all6
    rw [List.length_nil] at hv6
    subst hv6
    go_wp2_with fail
    refine (whole_any _ [] _ s6.tab (.inl ⟨rfl, rfl⟩) (by simp)).mono ?_
    rintro e w7 ⟨v7, cs7, he7, row7, all7, b7⟩
    rw [wholeS_nil] at he7
    rw [wholeC_nil] at all7
    subst he7
    have s7 := s6.go b7
    obtain ⟨a7, c7, hv7⟩ := row7.rowsNil all7
    rw [List.length_nil] at hv7
    subst hv7
    have hc7 : w7.cell? ⟨w.heap.size, 0, none⟩ = some (.int .i64 0) := by
      have h1 := World.block_lt_of_cell? _ _ hc0
      rw [b7.cell (Nat.lt_of_lt_of_le h1 b6.size), b6.cell h1]
      exact hc0
    go_wp2_with fail
    go_loopw [116] (fun i wx => i = .int .i64 0 ∧ wx = w7) (fun _ _ => 0)
    case atStart => exact ⟨rfl, rfl⟩
    case round =>
      obtain ⟨rfl, rfl⟩ := hrel
      go_wp2_with (go_at_call 9; refine (lives_any _ s7.tab).mono ?_; rintro e w9 ⟨rfl, b9⟩)
      go_ret
      exact ⟨rfl, (s7.go b9).bel⟩

theorem rows_law (s : Value) (cs : List Value) (l : List (List UInt8)) (cut : Nat) (w : World) (ht : Tab w) (hr : Row w s cs) (ha : HoldsAll w cs l) (hcut : cut < 18446744073709551616) :
    Calls Tryd.prog 7 #[s, .int .u64 cut] w fun e w' => e = .returned (.bool true) ∧ Below w.heap.size w w' := by
  by_cases hp : 0 < l.length
  · exact rows_some s cs l cut w ht hr ha hcut hp
  · obtain rfl : l = [] := List.eq_nil_of_length_eq_zero (by omega)
    exact rows_none s cs cut w ht hr ha
end Go.Proofs.YtpdmcodnnhbchaaDoor
