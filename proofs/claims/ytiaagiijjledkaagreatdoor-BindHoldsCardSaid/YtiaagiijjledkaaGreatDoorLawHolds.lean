/-
  THE LAW BindHolds.
-/
import Derived.Test.YtiaagiijjledkaaGreatDoorLawActs
import Derived.Lib.QuietBelow
import Derived.BigQuiet
namespace Go.Proofs.YtiaagiijjledkaaGreatDoor
open Go.RowKit Go.Sort Go.Shelf

theorem pair_or {α : Type} {R : α → α → Prop} : ∀ {l : List α}, l.Pairwise R → ∀ {x y : α}, x ∈ l → y ∈ l → x ≠ y → R x y ∨ R y x
  | [], _, _, _, hx, _, _ => by cases hx
  | a :: l, h, x, y, hx, hy, ne => by
    obtain ⟨h1, h2⟩ := List.pairwise_cons.1 h
    rcases List.mem_cons.1 hx with ex | hx'
    · rcases List.mem_cons.1 hy with ey | hy'
      · exact absurd (ex.trans ey.symm) ne
      · exact .inl (ex ▸ h1 y hy')
    · rcases List.mem_cons.1 hy with ey | hy'
      · exact .inr (ey ▸ h1 x hx')
      · exact pair_or h2 hx' hy' ne
theorem find_self {s : Tb} (ok : s.Ok) {x : Ex} (hx : x ∈ s.xs) : findX s.xs x.name = some x := by
  cases h : findX s.xs x.name with
  | none => exact absurd rfl (findX_none h x hx)
  | some y =>
    obtain ⟨h1, h2⟩ := findX_some h
    by_cases e : y = x
    · rw [e]
    · have h0 : ∀ a b : Ex, a.name = b.name → ¬ cmpX a b < 0 := fun a b e h => by
        unfold cmpX at h
        rw [e, cmpS3.self] at h
        omega
      rcases pair_or ok.ox h1 hx e with h | h
      · exact absurd h (h0 _ _ h2)
      · exact absurd h (h0 _ _ h2.symm)
theorem find_leads {s : Tb} (ok : s.Ok) {b : Bd} (hb : b ∈ s.bs) : (findX s.xs b.ex).isSome = true := by
  obtain ⟨x, hx, he⟩ := ok.leads b hb
  rw [← he, find_self ok hx]
  rfl
theorem rise_at {α : Type} {c : α → α → Int} {l : List α} (h : Ord c l) {k : Nat} (hk : k + 1 < l.length) : c (l[k]'(by omega)) l[k + 1] < 0 := List.pairwise_iff_getElem.1 h k (k + 1) (by omega) hk (by omega)
theorem cell_on7 {w w' : World} {b j : Nat} {v : Value} (hb : Below w.heap.size w w') (h : w.cell? ⟨b, j, none⟩ = some v) : w'.cell? ⟨b, j, none⟩ = some v :=
  (hb.cell (p := ⟨b, j, none⟩) (World.block_lt_of_cell? _ _ h)).trans h
theorem cmpB_ne {x y : Bd} (h : cmpB x y < 0) : (x.ex.toList == y.ex.toList) = false ∨ (x.ex.toList == y.ex.toList) = true ∧ (x.que.toList == y.que.toList) = false ∨ (x.ex.toList == y.ex.toList) = true ∧ (x.que.toList == y.que.toList) = true ∧ (x.pat.toList == y.pat.toList) = false := by
  cases h1 : (x.ex.toList == y.ex.toList) with
  | false => exact .inl rfl
  | true =>
    cases h2 : (x.que.toList == y.que.toList) with
    | false => exact .inr (.inl ⟨rfl, rfl⟩)
    | true =>
      cases h3 : (x.pat.toList == y.pat.toList) with
      | false => exact .inr (.inr ⟨rfl, rfl, rfl⟩)
      | true =>
        rw [baList_eq, decide_eq_true_iff] at h1 h2 h3
        have : x = y := by
          obtain ⟨a, b, c⟩ := x
          obtain ⟨a', b', c'⟩ := y
          simp only at h1 h2 h3
          rw [h1, h2, h3]
        rw [this, cmpB3.self] at h
        omega

set_option maxRecDepth 20000 in
set_option maxHeartbeats 8000000 in
theorem holds_law (v : Value) (l : List Ac) (w : World) (hr : RowOf acells w v l) (hf : ∀ a ∈ l, a.Fits) :
    Calls Tryz.prog 4 #[v] w fun e w' => e = .returned (.bool true) ∧ Below w.heap.size w w' := by
  obtain ⟨va, vc, rfl⟩ := hr.slice
  have hl : l.length ≤ maxLen := hr.acs.2.1
  have l63 : l.length ≤ 9223372036854775807 := by unfold maxLen at hl; omega
  have HR : Hid (RowOf acells w (.slice va l.length vc) l) := hr
  have HFt : Hid (∀ a ∈ l, a.Fits) := hf
  have HL : Hid (∀ V, Calls Tryz.prog 8 #[] V fun e w' => e = .returned (.bool true) ∧ Below V.heap.size V w') := lives_any
  have kLi : Hid (∀ V, Below w.heap.size w V → Calls Tryz.prog 7 #[.slice va l.length vc] V fun e w' => ∃ r, e = .returned (.bool r) ∧ (r = true → l.length ≤ 300) ∧ Below V.heap.size V w') := fun V hV => light_any _ l V (hr.below hV (Nat.le_refl _)) hf
  have mixed : Tryz.prog.follows .mixedOrders = true := by kernel_rfl
  have kN := new_any w
  clear hr hf hl
  go_enter Tryz.func4, Tryz.ntmps4
  go_wp2_with fail
  refine kN.mono ?_
  rintro e w1 ⟨pt, rfl, F1, q1, hF, b1⟩
  obtain ⟨W2, fold2⟩ : ∃ W2, w1.alloc (.cells #[.slice none 0 0, .slice none 0 0] 29) = W2 := ⟨_, rfl⟩
  have H0 := two_new q1 hF b1 fold2
  clear q1 hF b1 kN
  go_wp2_with fail
  clear fold2
  refine (kLi.out W2 H0.bel).mono ?_
  rintro e w3 ⟨r, rfl, _, b3⟩
  have H3 := H0.below b3
  clear H0 b3
  cases r
  · have hb3 := H3.bel
    clear H3
    go_wp2_with (go_at_call 8; refine (HL.out _).mono ?_; rintro e w4 ⟨rfl, b4⟩)
    go_ret
    exact ⟨rfl, hb3.trans (b4.mono hb3.size)⟩
  · go_wp2
    go_loopw [34] (fun u34 wr => ∃ (k : Nat) (Ft Fr : Nat → Prop) (s : Tb), u34 = .int .i64 k ∧ k ≤ l.length ∧ Two w wr pt Ft s w1.heap.size Fr s) (fun u34 _ => l.length - (intOf u34).toNat)
    case atStart => exact ⟨0, _, _, _, rfl, Nat.zero_le _, H3⟩
    case round =>
      obtain ⟨k, Ft, Fr, s, rfl, hk, H⟩ := hrel
      clear H3
      by_cases hlt2 : k < l.length
      · have hlt : (k : Int) < (l.length : Int) := by omega
        obtain ⟨_, _, hAt⟩ := (HR.out.below H.bel (Nat.le_refl _)).acs
        obtain ⟨b, off, rfl, i0, i1, i2, i3, i4, i5, i6⟩ := hAt k hlt2
        have hfa := HFt.out _ (List.getElem_mem hlt2)
        generalize l[k] = a at *
        clear hAt
        obtain ⟨X, foldX⟩ : ∃ X, wr.alloc (.cells (acells a).toArray 37) = X := ⟨_, rfl⟩
        have HX := H.box a foldX
        obtain ⟨e0, e1, e2, e3, e4, e5, e6⟩ := HX.box
        have kA := act_any a w X pt w1.heap.size Ft Fr s HX.two hfa
        generalize actT s a = s' at kA
        unfold acells at foldX
        unfold acv at kA
        clear H HX hfa
        go_wp2_with (go_at_call 9; refine kA.mono ?_; clear kA; rintro e w4 ⟨rfl, Ft4, Fr4, H4⟩)
        clear i0 i1 i2 i3 i4 i5 i6 e0 e1 e2 e3 e4 e5 e6 foldX
        refine (exchanges_any pt Ft4 s' w4 H4.t H4.ok1).mono ?_
        rintro e w5 ⟨v5, rfl, o5, b5⟩
        have H5 := H4.below b5
        obtain ⟨xa, xc, rfl⟩ := o5.rng.slice
        clear H4
        go_wp2_with fail
        refine (bindings_any pt Ft4 s' w5 H5.t H5.ok1).mono ?_
        rintro e w6 ⟨v6, rfl, o6, b6⟩
        have H6 := H5.below b6
        obtain ⟨ya, yc, rfl⟩ := o6.rng.slice
        have RX : Hid (RowOf xcells w6 (.slice xa s'.xs.length xc) s'.xs) := o5.rng.below b6 (Nat.le_refl _)
        have RB : Hid (RowOf bcells w6 (.slice ya s'.bs.length yc) s'.bs) := o6.rng
        have nx := H6.ok1.nx
        have nb := H6.ok1.nb
        have OK : Hid s'.Ok := H6.ok1
        have nx' : ¬ (8 : Int) < (s'.xs.length : Int) := by omega
        have nb' : ¬ (32 : Int) < (s'.bs.length : Int) := by omega
        clear H5 o5 b5 o6 b6
        go_wp2
        go_loopw [56] (fun u56 wr => ∃ j : Nat, u56 = .int .i64 j ∧ j ≤ s'.xs.length ∧ Below w6.heap.size w6 wr) (fun u56 _ => s'.xs.length - (intOf u56).toNat)
        case atStart => exact ⟨0, rfl, Nat.zero_le _, Below.refl _ _⟩
        case round =>
          obtain ⟨j, rfl, hj, hb⟩ := hrel
          by_cases hjl : j < s'.xs.length
          · have hjl' : (j : Int) < (s'.xs.length : Int) := by omega
            have rX := (RX.out.below hb (Nat.le_refl _)).exs
            obtain ⟨bb, oo, hxa, ci⟩ := rX j hjl
            have hmem := List.getElem_mem hjl
            have hfs := find_self OK.out hmem
            have hgood := OK.out.good _ hmem
            have hshort := good_short hgood
            have hprev : Hid (∀ i, j = i + 1 → ∃ y : Ex, wr.cell? ⟨bb, oo + i * 3, none⟩ = some (.string y.name) ∧ Op.bytesLess y.name.toList (s'.xs[j]).name.toList = true) := by
              intro i hi
              subst hi
              obtain ⟨b2, o2, hxa2, ci2⟩ := rX i (by omega)
              rw [hxa] at hxa2
              injection hxa2 with hxa2
              injection hxa2 with h1 h2
              subst h1 h2
              refine ⟨s'.xs[i]'(by omega), ci2.c0, ?_⟩
              rw [less_cmp]
              exact decide_eq_true (rise_at OK.out.ox hjl)
            subst hxa
            obtain ⟨e0, e1, e2⟩ := ci
            generalize s'.xs[j] = x at *
            clear rX hmem
            obtain ⟨Y1, foldY⟩ : ∃ Y1, wr.alloc (.cells #[.string x.name, .int .i64 x.kind, .bool x.fed] 33) = Y1 := ⟨_, rfl⟩
            have bY : Below wr.heap.size wr Y1 := by rw [← foldY]; exact (Below.refl _ _).alloc (Nat.le_refl _) _
            have hY : Y1.heap[wr.heap.size]? = some (.cells #[.string x.name, .int .i64 x.kind, .bool x.fed] 33 (0, 0)) := by rw [← foldY]; exact heap_alloc_new wr _
            have c0 : Y1.cell? ⟨wr.heap.size, 0, none⟩ = some (.string x.name) := by simp [World.cell?, hY]
            have hb1 : Below w6.heap.size w6 Y1 := hb.trans (bY.mono hb.size)
            have kF := find_any pt Ft4 s' x.name Y1 (H6.t.kept hb1) OK.out (by unfold maxLen; omega)
            rw [hfs] at kF
            have kG : Hid (∀ V, Calls Tryz.prog 14 #[.agg #[.string x.name, .int .i64 x.kind, .bool x.fed]] V fun e w' => e = .returned (.bool true) ∧ Below V.heap.size V w') := fun V => by
              have := good_any x V (by unfold maxLen; omega)
              rwa [hgood] at this
            simp only [Option.getD_some, Option.isSome_some] at kF
            have HB1 : Hid _ := hb1
            have HP : Hid (Below wr.heap.size wr Y1) := bY
            clear hfs hgood hshort hb1 hb bY
            go_wp2_with fail
            refine kF.mono ?_
            clear kF
            rintro e w7 ⟨rfl, b7⟩
            obtain ⟨Y2, fold2⟩ : ∃ Y2, w7.alloc (.cells #[.string x.name, .int .i64 x.kind, .bool x.fed] 33) = Y2 := ⟨_, rfl⟩
            have b2 : Below w7.heap.size w7 Y2 := by rw [← fold2]; exact (Below.refl _ _).alloc (Nat.le_refl _) _
            have h2 : Y2.heap[w7.heap.size]? = some (.cells #[.string x.name, .int .i64 x.kind, .bool x.fed] 33 (0, 0)) := by rw [← fold2]; exact heap_alloc_new w7 _
            have b12 : Below Y1.heap.size Y1 Y2 := b7.trans (b2.mono b7.size)
            have h1 : Y2.heap[wr.heap.size]? = some (.cells #[.string x.name, .int .i64 x.kind, .bool x.fed] 33 (0, 0)) := (b12.block _ (Array.getElem?_eq_some_iff.1 hY).1).trans hY
            have bw2 : Below wr.heap.size wr Y2 := HP.out.trans (b12.mono HP.out.size)
            have HBQ : Hid (∀ V, Below Y2.heap.size Y2 V → Below w6.heap.size w6 V) := fun V hV => HB1.out.trans ((b12.trans (hV.mono b12.size)).mono HB1.out.size)
            have f0 := cell_regrown (show Y2.cell? ⟨wr.heap.size, 0, none⟩ = some (.string x.name) by simp [World.cell?, h1])
            have f1 := cell_regrown (show Y2.cell? ⟨wr.heap.size, 1, none⟩ = some (.int .i64 x.kind) by simp [World.cell?, h1])
            have f2 := cell_regrown (show Y2.cell? ⟨wr.heap.size, 2, none⟩ = some (.bool x.fed) by simp [World.cell?, h1])
            have g0 := cell_regrown (show Y2.cell? ⟨w7.heap.size, 0, none⟩ = some (.string x.name) by simp [World.cell?, h2])
            have g1 := cell_regrown (show Y2.cell? ⟨w7.heap.size, 1, none⟩ = some (.int .i64 x.kind) by simp [World.cell?, h2])
            have g2 := cell_regrown (show Y2.cell? ⟨w7.heap.size, 2, none⟩ = some (.bool x.fed) by simp [World.cell?, h2])
            cases j with
            | zero =>
              clear hprev e0 e1 e2 c0 h1 h2 hY b12 b7 b2 bw2
              go_wp2
              refine wp_region_quiet_below (by assumption) (by kernel_rfl) ?_
              repeat (first | go_big_quiet_step ((go_at_call 14; exact Calls.regrown_of (kG.out _))) | quiet_step ((go_at_call 14; exact Calls.regrown_of (kG.out _))))
              refine wpQuiet_nil ?_
              intro _ hw'
              obtain ⟨⟨dq, osq⟩, hw''⟩ := hw'
              subst hw''
              have hbq := HBQ.out _ (below_regrown Y2 dq osq)
              go_wp2
              exact ⟨⟨1, by go_num, by omega, hbq⟩, by simp [intOf]; omega⟩
            | succ i =>
              obtain ⟨y, p0, hless⟩ := hprev.out i rfl
              have p1 := cell_regrown (cell_on7 bw2 p0)
              have hi3 : (i : Int) < (s'.xs.length : Int) := by omega
              have hpos : decide ((0 : Int) < (i : Int) + 1) = true := decide_eq_true (by omega)
              have hwi : IntKind.i64.wrap ((i : Int) + 1 - 1) = (i : Int) := by rw [IntKind.wrap_i64]; omega
              clear hprev e0 e1 e2 c0 h1 h2 hY b12 b7 b2 bw2 p0
              go_wp2
              refine wp_region_quiet_below (by assumption) (by kernel_rfl) ?_
              repeat (first | go_big_quiet_step ((go_at_call 14; exact Calls.regrown_of (kG.out _))) | quiet_step ((go_at_call 14; exact Calls.regrown_of (kG.out _))))
              refine wpQuiet_nil ?_
              intro _ hw'
              obtain ⟨⟨dq, osq⟩, hw''⟩ := hw'
              subst hw''
              have hbq := HBQ.out _ (below_regrown Y2 dq osq)
              go_wp2
              exact ⟨⟨i + 1 + 1, by go_num, by omega, hbq⟩, by simp [intOf]; omega⟩
          · obtain rfl : j = s'.xs.length := by omega
            go_wp2
            go_loopw [98] (fun u98 wr => ∃ j : Nat, u98 = .int .i64 j ∧ j ≤ s'.bs.length ∧ Below w6.heap.size w6 wr) (fun u98 _ => s'.bs.length - (intOf u98).toNat)
            case atStart => exact ⟨0, rfl, Nat.zero_le _, hb⟩
            case round =>
              clear hb hj hjl
              obtain ⟨j, rfl, hj, hb⟩ := hrel
              by_cases hjl : j < s'.bs.length
              · have hjl' : (j : Int) < (s'.bs.length : Int) := by omega
                have rB := (RB.out.below hb (Nat.le_refl _)).bds
                obtain ⟨bb, oo, hxa, ci⟩ := rB j hjl
                have hmem := List.getElem_mem hjl
                have hfs := find_leads OK.out hmem
                have hfit := (OK.out.fit _ hmem).1
                have hprev : Hid (∀ i, j = i + 1 → ∃ y : Bd, (wr.cell? ⟨bb, oo + i * 3, none⟩ = some (.string y.ex) ∧ wr.cell? ⟨bb, oo + i * 3 + 1, none⟩ = some (.string y.que) ∧ wr.cell? ⟨bb, oo + i * 3 + 2, none⟩ = some (.string y.pat)) ∧ cmpB y s'.bs[j] < 0) := by
                  intro i hi
                  subst hi
                  obtain ⟨b2, o2, hxa2, ci2⟩ := rB i (by omega)
                  rw [hxa] at hxa2
                  injection hxa2 with hxa2
                  injection hxa2 with h1 h2
                  subst h1 h2
                  exact ⟨s'.bs[i]'(by omega), ⟨ci2.c0, ci2.c1, ci2.c2⟩, rise_at OK.out.ob hjl⟩
                subst hxa
                obtain ⟨e0, e1, e2⟩ := ci
                generalize s'.bs[j] = x at *
                clear rB hmem
                obtain ⟨Y1, foldY⟩ : ∃ Y1, wr.alloc (.cells #[.string x.ex, .string x.que, .string x.pat] 35) = Y1 := ⟨_, rfl⟩
                have bY : Below wr.heap.size wr Y1 := by rw [← foldY]; exact (Below.refl _ _).alloc (Nat.le_refl _) _
                have hY : Y1.heap[wr.heap.size]? = some (.cells #[.string x.ex, .string x.que, .string x.pat] 35 (0, 0)) := by rw [← foldY]; exact heap_alloc_new wr _
                have c0 : Y1.cell? ⟨wr.heap.size, 0, none⟩ = some (.string x.ex) := by simp [World.cell?, hY]
                have hb1 : Below w6.heap.size w6 Y1 := hb.trans (bY.mono hb.size)
                have kF := find_any pt Ft4 s' x.ex Y1 (H6.t.kept hb1) OK.out hfit
                rw [hfs] at kF
                generalize (findX s'.xs x.ex).getD zeroEx = fx at kF
                have HB1 : Hid _ := hb1
                have HP : Hid (Below wr.heap.size wr Y1) := bY
                clear hfs hfit hb1 hb bY
                go_wp2_with fail
                refine kF.mono ?_
                clear kF
                rintro e w7 ⟨rfl, b7⟩
                obtain ⟨Y2, fold2⟩ : ∃ Y2, w7.alloc (.cells #[.string fx.name, .int .i64 fx.kind, .bool fx.fed] 33) = Y2 := ⟨_, rfl⟩
                have b2 : Below w7.heap.size w7 Y2 := by rw [← fold2]; exact (Below.refl _ _).alloc (Nat.le_refl _) _
                have b12 : Below Y1.heap.size Y1 Y2 := b7.trans (b2.mono b7.size)
                have h1 : Y2.heap[wr.heap.size]? = some (.cells #[.string x.ex, .string x.que, .string x.pat] 35 (0, 0)) := (b12.block _ (Array.getElem?_eq_some_iff.1 hY).1).trans hY
                have bw2 : Below wr.heap.size wr Y2 := HP.out.trans (b12.mono HP.out.size)
                have HBQ : Hid (∀ q, Below w6.heap.size w6 (Y2.drewN q)) := fun q => by
                  have := HB1.out.trans (b12.mono HB1.out.size)
                  exact ⟨this.os, this.tape, this.output, this.size, this.block⟩
                have f0 : Y2.cell? ⟨wr.heap.size, 0, none⟩ = some (.string x.ex) := by simp [World.cell?, h1]
                have f1 : Y2.cell? ⟨wr.heap.size, 1, none⟩ = some (.string x.que) := by simp [World.cell?, h1]
                have f2 : Y2.cell? ⟨wr.heap.size, 2, none⟩ = some (.string x.pat) := by simp [World.cell?, h1]
                cases j with
                | zero =>
                  clear hprev e0 e1 e2 c0 h1 hY b12 b7 b2 bw2
                  go_wp2
                  go_quiet (fail)
                  go_wp2
                  exact ⟨⟨1, by go_num, by omega, HBQ.out _⟩, by simp [intOf]; omega⟩
                | succ i =>
                  obtain ⟨y, ⟨p0, p1, p2⟩, hless⟩ := hprev.out i rfl
                  have r0 := cell_on7 bw2 p0
                  have r1 := cell_on7 bw2 p1
                  have r2 := cell_on7 bw2 p2
                  have hi3 : (i : Int) < (s'.bs.length : Int) := by omega
                  have hpos : decide ((0 : Int) < (i : Int) + 1) = true := decide_eq_true (by omega)
                  have hwi : IntKind.i64.wrap ((i : Int) + 1 - 1) = (i : Int) := by rw [IntKind.wrap_i64]; omega
                  have hne := cmpB_ne hless
                  clear hprev e0 e1 e2 c0 h1 hY b12 b7 b2 bw2 p0 p1 p2 hless
                  rcases hne with n1 | ⟨n1, n2⟩ | ⟨n1, n2, n3⟩
                  all_goals go_wp2
                  all_goals go_quiet (fail)
                  all_goals go_wp2
                  all_goals exact ⟨⟨i + 1 + 1, by go_num, by omega, HBQ.out _⟩, by simp [intOf]; omega⟩
              · obtain rfl : j = s'.bs.length := by omega
                have H7 := H6.below hb
                go_wp2
                exact ⟨⟨k + 1, _, _, _, by go_num, by omega, H7⟩, by simp [intOf]; omega⟩
      · obtain rfl : k = l.length := by omega
        have hbw := H.bel
        clear H
        go_wp2_with (go_at_call 8; refine (HL.out _).mono ?_; rintro e w4 ⟨rfl, b4⟩)
        go_ret
        exact ⟨rfl, hbw.trans (b4.mono hbw.size)⟩
end Go.Proofs.YtiaagiijjledkaaGreatDoor
