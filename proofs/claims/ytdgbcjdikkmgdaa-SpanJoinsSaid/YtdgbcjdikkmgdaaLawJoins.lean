/-
  THE LAW SpanJoins.
-/
import Derived.Test.YtdgbcjdikkmgdaaLawOrder
import Derived.Test.YtdgbcjdikkmgdaaJoin
namespace Go.Proofs.Ytdgbcjdikkmgdaa
open Go.RowKit

/-- The cells of numbers; a row of numbers of the call's own. -/
def ncells (l : List Nat) : List Value := l.map fun n : Nat => Value.int .u64 (n : Int)
def NOwn (w : World) (base : Nat) (v : Value) (l : List Nat) : Prop := w.ownsRow base 23 1 v l.length (ncells l)
theorem numInfo : ∃ i, Try.prog.info? 23 = some i ∧ i.zero = some (.int .u64 0) ∧ i.size = 1 ∧ i.bytes = 8 := by
  have hinfo : (Try.prog.info? 23).map (fun i => (i.zero, i.size, i.bytes)) = some (some (.int .u64 0), 1, 8) := by kernel_rfl
  exact info_parts hinfo
theorem ncells_one (l : List Nat) : ∀ u ∈ ncells l, u.oneCell' = true := by
  intro u hu
  simp only [ncells, List.mem_map] at hu
  obtain ⟨b, _, rfl⟩ := hu
  rfl
theorem NOwn.nums {w : World} {base : Nat} {v : Value} {l : List Nat} (h : NOwn w base v l) : Nums w v l := by
  have h' := h
  rcases h.2 with ⟨rfl, hn⟩ | ⟨g, cap, cur, rfl, _, _, hnc, hcm, _, _⟩
  · exact .inl ⟨rfl, List.eq_nil_of_length_eq_zero hn⟩
  · exact .inr ⟨⟨g, 0, none⟩, cap, rfl, hnc, hcm, fun i hi => World.ownsRow.cells h' (g := g) rfl i _ (by simp [ncells, hi])⟩
theorem Nums.below {w w' : World} {v : Value} {l : List Nat} {B : Nat} (h : Nums w v l) (hb : Below B w w') (hB : w.heap.size ≤ B) : Nums w' v l := by
  rcases h with h | ⟨a, cap, hv, h1, h2, h3⟩
  · exact .inl h
  · refine .inr ⟨a, cap, hv, h1, h2, fun i hi => ?_⟩
    have hc := h3 i hi
    have hlt := World.block_lt_of_cell? w _ hc
    rw [hb.cell (p := a.add i) (by omega)]
    exact hc
theorem nown_one (w : World) (base n : Nat) (hb : base ≤ w.heap.size) : NOwn (w.alloc (.cells #[.int .u64 (n : Int)] 23)) base (.slice (some ⟨w.heap.size, 0, none⟩) 1 1) [n] :=
  ⟨by simp [ncells], .inr ⟨w.heap.size, 1, _, rfl, hb, heap_alloc_new w _, Nat.le_refl _, by simp [maxLen], by simp, by simp [ncells]⟩⟩
theorem wpList_append_nums {w : World} {ops : Array Oper} {rest : List Oper} {o : Oper} {a : Act} {Q : Exit → Act → World → Prop} (hgd : o.guard = none) (s x : Operand)
    (ho : o.op = .call { callee := .builtin .append, args := #[s, x], argTypes := #[22, 22] }) (base : Nat) (v src : Value) (xs ys : List Nat) (hs : a.eval s = v) (hx : a.eval x = src)
    (hown : NOwn w base v xs) (hy : Nums w src ys) (hlen : xs.length + ys.length ≤ 1000000) (hbase : base ≤ w.heap.size)
    (h : ∀ v' w', NOwn w' base v' (xs ++ ys) → Below base w w' → wpList Try.prog ops Q rest (a.put o.dst v') w') : wpList Try.prog ops Q (o :: rest) a w := by
  obtain ⟨i, hi, hz, hsz, hby⟩ := numInfo
  rcases hy with ⟨rfl, rfl⟩ | ⟨ad, cap, rfl, h1, h2, h3⟩
  · refine wpList_append_own_none hgd s x 22 ho base 23 i 1 Try.underlying22 hi v xs.length (ncells xs) hs hown hx ?_
    exact h v w (by simpa [NOwn] using hown) (Below.refl _ _)
  · refine wpList_append_own w hgd s x 22 ho base 23 i _ 1 8 Try.underlying22 hi hz hsz hby rfl (by decide) v xs.length (ncells xs) hs hown ad ys.length cap (ncells ys) hx (by simp [ncells]) (fun j u hj => by
        have hj2 := (List.getElem?_eq_some_iff.1 hj).1
        have hj3 : j < ys.length := by simpa [ncells] using hj2
        have hu : u = .int .u64 (ys[j] : Int) := by
          have := (List.getElem?_eq_some_iff.1 hj).2
          rw [← this]; simp [ncells]
        rw [hu]; exact h3 j hj3) (ncells_one ys)
      (by unfold maxLen; omega) (by omega) hbase ?_
    intro v' w' ho' hg _
    refine h v' w' ?_ ((Below.refl _ _).grown hg hbase (fun k hk => (World.ownsRow.lt hown k hk).1))
    unfold NOwn
    rw [show ncells (xs ++ ys) = ncells xs ++ ncells ys by simp [ncells], List.length_append]
    exact ho'

theorem join_unique {la lb lx ly : List (Nat × Nat)} (hx : Apart 1 lx) (hy : Apart 1 ly) (h1 : ∀ m, Mem lx m ↔ Mem la m ∨ Mem lb m) (h2 : ∀ m, Mem ly m ↔ Mem lb m ∨ Mem la m) : lx = ly :=
  hx.unique hy fun m => by rw [h1 m, h2 m, or_comm]

theorem addAll_length : ∀ (ns : List Nat) (l : List (Nat × Nat)), Fine l → (∀ n ∈ ns, n < 18446744073709551616) → (addAll l ns).length ≤ l.length + ns.length
  | [], _, _, _ => Nat.le_refl _
  | n :: t, l, h, hn => by
    have h1 := addAll_length t (addS l n) (h.add (hn n (by simp))) fun m hm => hn m (by simp [hm])
    have h2 := addS_length (n := n) h.1
    show (addAll (addS l n) t).length ≤ _
    rw [List.length_cons]; omega

set_option maxHeartbeats 4000000 in
set_option maxRecDepth 100000 in
theorem joins_law (v0 v1 : Value) (nums more : List Nat) (ask : Nat) (w : World) (hn : Nums w v0 nums) (hm : Nums w v1 more) (hbn : ∀ n ∈ nums, n < 18446744073709551616) (hbm : ∀ n ∈ more, n < 18446744073709551616) (l0 : nums.length ≤ 17592186043904) (l1 : more.length ≤ 17592186043904) :
    Calls Try.prog 8 #[v0, v1, .int .u64 (ask : Int)] w fun e w' => e = .returned (.bool true) ∧ Below w.heap.size w w' := by
  obtain ⟨a0, cap0, rfl, _⟩ := hn.slice
  obtain ⟨a1, cap1, rfl, _⟩ := hm.slice
  by_cases hlong : 200 < nums.length + more.length
  · have hl' : (200 : Int) < (nums.length : Int) + (more.length : Int) := by omega
    clear hn hm
    go_enter Try.func8, Try.ntmps8
    go_wp2_with (go_at_call 9; refine (lives_any _).mono ?_; rintro e w' ⟨rfl, b⟩)
    go_ret
    exact ⟨rfl, b⟩
  · have hl' : ¬ (200 : Int) < (nums.length : Int) + (more.length : Int) := by omega
    have HN : Hid (Nums w (.slice a0 nums.length cap0) nums ∧ ∀ n ∈ nums, n < 18446744073709551616) := ⟨hn, hbn⟩
    have HM : Hid (Nums w (.slice a1 more.length cap1) more ∧ ∀ n ∈ more, n < 18446744073709551616) := ⟨hm, hbm⟩
    have ln : nums.length ≤ 200 := by omega
    have lm : more.length ≤ 200 := by omega
    clear hn hm hbn hbm
    go_enter Try.func8, Try.ntmps8
    go_wp2_with fail
    refine (new_any _).mono ?_
    rintro e w0 ⟨rfl, _, rfl⟩
    go_wp2_with fail
    refine (new_any _).mono ?_
    rintro e w0 ⟨rfl, _, rfl⟩
    simp only [World.size_alloc]
    go_wp2
    go_loopw [37] (fun u37 wr => ∃ (k : Nat) (va : Value), u37 = .int .i64 k ∧ k ≤ nums.length ∧ Hid (Two w.heap.size w wr w.heap.size va (addAll [] (nums.take k)) (w.heap.size + 1) (.slice none 0 0) [])) (fun u37 _ => nums.length - (intOf u37).toNat)
    case atStart => exact ⟨0, .slice none 0 0, rfl, Nat.zero_le _, two_new w⟩
    case round =>
      obtain ⟨k, va, rfl, hk, HB⟩ := hrel
      by_cases hlt : k < nums.length
      · obtain ⟨b, off, rfl, hc⟩ := HN.out.1.at k hlt
        have hbw := World.block_lt_of_cell? w _ hc
        rw [← HB.out.a.bel.cell (p := ⟨b, off + k, none⟩) hbw] at hc
        have hnb := HN.out.2 nums[k] (List.getElem_mem hlt)
        have hs : Hid _ := fresh_take nums k hlt
        generalize nums[k] = n at hc hnb hs
        have hf := addAll_fine (nums.take k) [] fine_nil fun n h => HN.out.2 n (List.mem_of_mem_take h)
        have hz := addAll_size (nums.take k) [] fine_nil fun n h => HN.out.2 n (List.mem_of_mem_take h)
        have hz2 := length_le_sizeL (addAll [] (nums.take k))
        rw [List.length_take] at hz
        simp only [sizeL] at hz
        go_wp2_with fail
        refine (add_any w.heap.size n va _ wr HB.out.a.set hf.1 hf.2 hnb (by omega)).mono ?_
        rintro e w2 ⟨rfl, va2, s2, t2, n2⟩
        have T2 := HB.out.addA s2 t2 n2
        rw [← hs.out] at T2
        clear s2 t2 n2
        go_wp2
        exact ⟨⟨k + 1, va2, by go_num, by omega, T2⟩, by simp [intOf]; omega⟩
      · obtain rfl : k = nums.length := by omega
        rw [List.take_of_length_le (Nat.le_refl _)] at HB
        go_wp2
        go_loopw [47] (fun u47 wr => ∃ (k : Nat) (vb : Value), u47 = .int .i64 k ∧ k ≤ more.length ∧ Hid (Two w.heap.size w wr w.heap.size va (addAll [] nums) (w.heap.size + 1) vb (addAll [] (more.take k)))) (fun u47 _ => more.length - (intOf u47).toNat)
        case atStart => exact ⟨0, .slice none 0 0, rfl, Nat.zero_le _, HB.out⟩
        case round =>
          obtain ⟨k, vb, rfl, hk2, HC⟩ := hrel
          by_cases hlt2 : k < more.length
          · obtain ⟨b, off, rfl, hc⟩ := HM.out.1.at k hlt2
            have hbw := World.block_lt_of_cell? w _ hc
            rw [← HC.out.a.bel.cell (p := ⟨b, off + k, none⟩) hbw] at hc
            have hnb := HM.out.2 more[k] (List.getElem_mem hlt2)
            have hs : Hid _ := fresh_take more k hlt2
            generalize more[k] = n at hc hnb hs
            have hf := addAll_fine (more.take k) [] fine_nil fun n h => HM.out.2 n (List.mem_of_mem_take h)
            have hz := addAll_size (more.take k) [] fine_nil fun n h => HM.out.2 n (List.mem_of_mem_take h)
            have hz2 := length_le_sizeL (addAll [] (more.take k))
            rw [List.length_take] at hz
            simp only [sizeL] at hz
            go_wp2_with fail
            refine (add_any (w.heap.size + 1) n vb _ wr HC.out.b.set hf.1 hf.2 hnb (by omega)).mono ?_
            rintro e w2 ⟨rfl, vb2, s2, t2, n2⟩
            have T2 := HC.out.addB s2 t2 n2
            rw [← hs.out] at T2
            clear s2 t2 n2
            go_wp2
            exact ⟨⟨k + 1, vb2, by go_num, by omega, T2⟩, by simp [intOf]; omega⟩
          · obtain rfl : k = more.length := by omega
            rw [List.take_of_length_le (Nat.le_refl _)] at HC
            clear HB
            have fA := addAll_fine nums [] fine_nil HN.out.2
            have fB := addAll_fine more [] fine_nil HM.out.2
            have zA : (addAll [] nums).length ≤ 200 := by
              have := addAll_size nums [] fine_nil HN.out.2
              have := length_le_sizeL (addAll [] nums)
              simp only [sizeL] at *
              omega
            have zB : (addAll [] more).length ≤ 200 := by
              have := addAll_size more [] fine_nil HM.out.2
              have := length_le_sizeL (addAll [] more)
              simp only [sizeL] at *
              omega
            have HMM : Hid (∀ m, Mem (addAll [] more) m ↔ (m ∈ more ∧ m ≠ 0)) := fun m => by rw [addAll_mem more [] fine_nil HM.out.2 m]; exact ⟨fun h => h.elim (fun h => absurd h (mem_nil m)) id, .inr⟩
            generalize addAll [] nums = LA at *
            generalize addAll [] more = LB at *
            go_wp2_with fail
            refine (join_any _ _ LA LB wr HC.out.a.set.lies HC.out.b.set.lies fA fB (by omega)).mono ?_
            rintro e w1 ⟨X, vx, LX, rfl, sX, frX, b1, fX, mX, zX⟩
            have T1 := HC.out.go b1
            go_wp2_with fail
            refine (join_any _ _ LB LA w1 T1.b.set.lies T1.a.set.lies fB fA (by omega)).mono ?_
            rintro e w2 ⟨Y, vy, LY, rfl, sY, frY, b2, fY, mY, zY⟩
            have T2 := T1.go b2
            have sX2 := sX.kept b2 (Nat.le_refl _)
            obtain rfl := join_unique fX.1 fY.1 mX mY
            go_wp2_with fail
            refine (join_any _ _ LA LA w2 T2.a.set.lies T2.a.set.lies fA fA (by omega)).mono ?_
            rintro e w3 ⟨Z, vz, LZ, rfl, sZ, frZ, b3, fZ, mZ, zZ⟩
            have T3 := T2.go b3
            have sX3 := sX2.kept b3 (Nat.le_refl _)
            have sY3 := sY.kept b3 (Nat.le_refl _)
            obtain rfl : LZ = LA := fZ.1.unique fA.1 fun m => by rw [mZ m, or_self]
            have hpX : X < w1.heap.size := sX.lt
            go_wp2_with fail
            refine (ranges_any _ LX w3 sX3.lies (by omega)).mono ?_
            rintro e w4 ⟨r4, rfl, o4, b4⟩
            obtain ⟨r4a, r4c, rfl⟩ := o4.rng.slice
            go_wp2_with fail
            refine (ranges_any _ LX w4 (sY3.kept b4 (Nat.le_refl _)).lies (by omega)).mono ?_
            rintro e w5 ⟨r5, rfl, o5, b5⟩
            obtain ⟨r5a, r5c, rfl⟩ := o5.rng.slice
            go_wp2_with fail
            refine (same_any _ _ LX LX w5 (o4.kept b5 (Nat.le_refl _)).rng o5.rng).mono ?_
            rintro e w6 ⟨rfl, b6⟩
            rw [decide_eq_true rfl]
            have b36 : Below w3.heap.size w3 w6 := (b4.trans (b5.mono b4.size)).trans (b6.mono (Nat.le_trans b4.size b5.size))
            have T6 := T3.go b36
            have sX6 := sX3.kept b36 (Nat.le_refl _)
            have sZ6 := sZ.kept b36 (Nat.le_refl _)
            go_wp2_with fail
            refine (ranges_any _ LZ w6 sZ6.lies (by omega)).mono ?_
            rintro e w7 ⟨r7, rfl, o7, b7⟩
            obtain ⟨r7a, r7c, rfl⟩ := o7.rng.slice
            go_wp2_with fail
            refine (ranges_any _ LZ w7 (T6.go b7).a.set.lies (by omega)).mono ?_
            rintro e w8 ⟨r8, rfl, o8, b8⟩
            obtain ⟨r8a, r8c, rfl⟩ := o8.rng.slice
            go_wp2_with fail
            refine (same_any _ _ LZ LZ w8 (o7.kept b8 (Nat.le_refl _)).rng o8.rng).mono ?_
            rintro e w9 ⟨rfl, b9⟩
            rw [decide_eq_true rfl]
            have b69 : Below w6.heap.size w6 w9 := (b7.trans (b8.mono b7.size)).trans (b9.mono (Nat.le_trans b7.size b8.size))
            have T9 := T6.go b69
            have sX9 := sX6.kept b69 (Nat.le_refl _)
            have b09 : Below w.heap.size w w9 := T9.a.bel
            have hz9 : w.heap.size ≤ w9.heap.size := T9.a.sz
            have frx : ∀ g, vx.ownBlock = some g → wr.heap.size ≤ g := frX.2
            have hXr : wr.heap.size ≤ X := frX.1
            have apx : ∀ g, va.ownBlock = some g → vx.ownBlock ≠ some g := fun g hg he => by
              have h1 := (World.ownsRow.lt HC.out.a.set.own g hg).2
              have h2 := frx g he
              omega
            have hneX : w.heap.size ≠ X := fun he => by have := HC.out.a.set.lt; omega
            have TX : Two w.heap.size w w9 w.heap.size va LZ X vx LX := ⟨T9.a, ⟨sX9, T9.a.bel, ⟨Nat.le_trans HC.out.a.sz hXr, fun g hg => Nat.le_trans HC.out.a.sz (frx g hg)⟩, T9.a.sz⟩, hneX, apx⟩
            have HT : Hid (Two w.heap.size w w9 w.heap.size va LZ X vx LX ∧ SetAt w9 (w.heap.size + 1) vb LB) := ⟨TX, T9.b.set⟩
            have nA : Nums w9 (.slice a0 nums.length cap0) nums := HN.out.1.below b09 (Nat.le_refl _)
            have nB : Nums w9 (.slice a1 more.length cap1) more := HM.out.1.below b09 (Nat.le_refl _)
            have hmx : Hid (∀ n, memB LX n = (memB LZ n || memB LB n)) := fun n => by
              rw [Bool.eq_iff_iff, Bool.or_eq_true, memB_iff, memB_iff, memB_iff]; exact mX n
            have hend : Hid (∀ L, Fine L → (∀ m, Mem L m ↔ Mem LZ m ∨ (m ∈ more ∧ m ≠ 0)) → L = LX) := fun L hL hm => hL.1.unique fX.1 fun m => by rw [hm m, mX m, HMM.out m]
            clear T1 T2 T3 T6 T9 sX sX2 sX3 sX6 sX9 sY sY3 sZ sZ6 o4 o5 o7 o8 b1 b2 b3 b4 b5 b6 b7 b8 b9 b36 b69 TX frX frY frZ mX mY mZ
            go_wp2_with (first
              | (at_builtin; refine wpList_append_nums rfl (.tmp 91) (.tmp 92) rfl w9.heap.size _ _ [ask] nums rfl rfl (nown_one w9 _ ask (Nat.le_refl _)) (nA.below ((Below.refl _ _).alloc (Nat.le_refl _) _) (Nat.le_refl _)) (by show 1 + nums.length ≤ _; omega) (le_alloc (Nat.le_refl _) _) ?_; intro v10 w10 o10 b10; have b910 : Below w9.heap.size w9 w10 := ((Below.refl _ _).alloc (Nat.le_refl _) (.cells #[.int .u64 (ask : Int)] 23)).trans b10; have nB10 := nB.below b910 (Nat.le_refl _))
              | (at_builtin; refine wpList_append_nums rfl (.tmp 93) (.tmp 94) rfl w9.heap.size _ _ ([ask] ++ nums) more rfl rfl o10 nB10 (by rw [List.length_append]; show 1 + nums.length + more.length ≤ _; omega) (Nat.le_trans (le_alloc (Nat.le_refl _) _) b10.size) ?_; intro v11 w11 o11 b11; obtain ⟨N, hN⟩ : ∃ N, N = [ask] ++ nums ++ more := ⟨_, rfl⟩; have hN6 : N.length ≤ 500 := (by rw [hN]; simp; omega); rw [← hN] at o11; obtain ⟨va11, vc11, hv11, _⟩ := o11.nums.slice; subst hv11; clear hN))
            have b911 : Hid (Below w9.heap.size w9 w11) := b910.trans b11
            have HV : Hid (Nums w11 (.slice va11 N.length vc11) N) := o11.nums
            clear o10 b10 b910 nB10 o11 b11 nA nB
            go_loopw [97] (fun u97 wq => ∃ k : Nat, u97 = .int .i64 k ∧ k ≤ N.length ∧ Hid (Below w9.heap.size w9 wq ∧ Below w11.heap.size w11 wq)) (fun u97 _ => N.length - (intOf u97).toNat)
            case atStart => exact ⟨0, rfl, Nat.zero_le _, (⟨b911.out, Below.refl _ _⟩ : _ ∧ _)⟩
            case round =>
              obtain ⟨k, rfl, hk3, HQ⟩ := hrel
              by_cases hlt3 : k < N.length
              · obtain ⟨b, off, rfl, hc⟩ := HV.out.at k hlt3
                have hbw := World.block_lt_of_cell? w11 _ hc
                rw [← HQ.out.2.cell (p := ⟨b, off + k, none⟩) hbw] at hc
                generalize N[k] = n at hc
                have hx := hmx.out n
                have TQ := HT.out.1.go HQ.out.1
                have bQ := HT.out.2.kept HQ.out.1 (Nat.le_refl _)
                have HXX := has_any _ LX n _ TQ.b.set.lies fX.1 (by omega)
                have HAA := fun q1 (c1 : Below _ _ q1) => has_any _ LZ n q1 (TQ.go c1).a.set.lies fA.1 (by omega)
                have HBB := fun q2 (c2 : Below _ _ q2) => has_any _ LB n q2 (bQ.kept c2 (Nat.le_refl _)).lies fB.1 (by omega)
                rw [hx] at HXX
                generalize memB LZ n = p at HXX HAA
                generalize memB LB n = q at HXX HBB
                clear hx
                cases p with
                | true =>
                  rw [Bool.true_or] at HXX
                  go_wp2_with fail
                  refine HXX.mono ?_
                  rintro e q1 ⟨rfl, c1⟩
                  go_wp2_with fail
                  refine (HAA q1 c1).mono ?_
                  rintro e q2 ⟨rfl, c2⟩
                  have c12 := c1.trans (c2.mono c1.size)
                  go_wp2
                  exact ⟨⟨k + 1, by go_num, by omega, (⟨HQ.out.1.trans (c12.mono HQ.out.1.size), HQ.out.2.trans (c12.mono HQ.out.2.size)⟩ : _ ∧ _)⟩, by simp [intOf]; omega⟩
                | false =>
                  rw [Bool.false_or] at HXX
                  go_wp2_with fail
                  refine HXX.mono ?_
                  rintro e q1 ⟨rfl, c1⟩
                  go_wp2_with fail
                  refine (HAA q1 c1).mono ?_
                  rintro e q2 ⟨rfl, c2⟩
                  have c12 := c1.trans (c2.mono c1.size)
                  go_wp2_with fail
                  refine (HBB q2 c12).mono ?_
                  rintro e q3 ⟨rfl, c3⟩
                  have c13 := c12.trans (c3.mono c12.size)
                  go_wp2
                  exact ⟨⟨k + 1, by go_num, by omega, (⟨HQ.out.1.trans (c13.mono HQ.out.1.size), HQ.out.2.trans (c13.mono HQ.out.2.size)⟩ : _ ∧ _)⟩, by simp [intOf]; omega⟩
              · obtain rfl : k = N.length := by omega
                have TQ := HT.out.1.go HQ.out.1
                clear HT HV HQ b911
                go_wp2
                go_loopw [116] (fun u116 wq => ∃ (k : Nat) (va' : Value), u116 = .int .i64 k ∧ k ≤ more.length ∧ Hid (Two w.heap.size w wq w.heap.size va' (addAll LZ (more.take k)) X vx LX)) (fun u116 _ => more.length - (intOf u116).toNat)
                case atStart => exact ⟨0, va, rfl, Nat.zero_le _, TQ⟩
                case round =>
                  obtain ⟨k, va', rfl, hk4, HD⟩ := hrel
                  have hf := addAll_fine (more.take k) LZ fA fun n h => HM.out.2 n (List.mem_of_mem_take h)
                  have hz := addAll_size (more.take k) LZ fA fun n h => HM.out.2 n (List.mem_of_mem_take h)
                  have hz2 := length_le_sizeL (addAll LZ (more.take k))
                  have hzA : (addAll LZ (more.take k)).length ≤ LZ.length + 200 := Nat.le_trans (addAll_length (more.take k) LZ fA (fun n h => HM.out.2 n (List.mem_of_mem_take h))) (by rw [List.length_take]; omega)
                  by_cases hlt4 : k < more.length
                  · obtain ⟨b, off, rfl, hc⟩ := HM.out.1.at k hlt4
                    have hbw := World.block_lt_of_cell? w _ hc
                    rw [← HD.out.a.bel.cell (p := ⟨b, off + k, none⟩) hbw] at hc
                    have hnb := HM.out.2 more[k] (List.getElem_mem hlt4)
                    have hs : Hid (addAll LZ (more.take (k + 1)) = addS (addAll LZ (more.take k)) more[k]) := (by rw [List.take_succ_eq_append_getElem hlt4, addAll_snoc] : addAll LZ (more.take (k + 1)) = addS (addAll LZ (more.take k)) more[k])
                    generalize more[k] = n at hc hnb hs
                    go_wp2_with fail
                    refine (add_any w.heap.size n va' _ _ HD.out.a.set hf.1 hf.2 hnb (by omega)).mono ?_
                    rintro e q2 ⟨rfl, va2, s2, t2, n2⟩
                    have T2 := HD.out.addA s2 t2 n2
                    rw [← hs.out] at T2
                    clear s2 t2 n2
                    go_wp2
                    exact ⟨⟨k + 1, va2, by go_num, by omega, T2⟩, by simp [intOf]; omega⟩
                  · obtain rfl : k = more.length := by omega
                    rw [List.take_of_length_le (Nat.le_refl _)] at HD hf hzA
                    have he := hend.out _ hf (addAll_mem more LZ fA HM.out.2)
                    have T := HD.out
                    rw [he] at T
                    clear HD he hf hzA hz hz2
                    go_wp2_with fail
                    refine (ranges_any _ LX _ T.a.set.lies (by omega)).mono ?_
                    rintro e q1 ⟨r1, rfl, o1, c1⟩
                    obtain ⟨r1a, r1c, rfl⟩ := o1.rng.slice
                    have T1 := T.go c1
                    go_wp2_with fail
                    refine (ranges_any _ LX _ T1.b.set.lies (by omega)).mono ?_
                    rintro e q2 ⟨r2, rfl, o2, c2⟩
                    obtain ⟨r2a, r2c, rfl⟩ := o2.rng.slice
                    have T2 := T1.go c2
                    go_wp2_with fail
                    refine (same_any _ _ LX LX q2 (o1.kept c2 (Nat.le_refl _)).rng o2.rng).mono ?_
                    rintro e q3 ⟨rfl, c3⟩
                    have T3 := T2.go c3
                    rw [decide_eq_true rfl]
                    go_wp2_with fail
                    refine (lives_any _).mono ?_
                    rintro e q4 ⟨rfl, c4⟩
                    have T4 := T3.go c4
                    go_wp2
                    go_ret
                    exact ⟨rfl, T4.a.bel⟩
end Go.Proofs.Ytdgbcjdikkmgdaa
