/-
  THE LAW SpanOrder.
-/
import Derived.Test.YtdgbcjdikkmgdaaLawAdds
namespace Go.Proofs.Ytdgbcjdikkmgdaa
open Go.RowKit

/-- All of a list added. -/
def addAll (l : List (Nat × Nat)) (ns : List Nat) : List (Nat × Nat) := ns.foldl addS l
theorem addAll_fine : ∀ (ns : List Nat) (l : List (Nat × Nat)), Fine l → (∀ n ∈ ns, n < 18446744073709551616) → Fine (addAll l ns)
  | [], _, h, _ => h
  | n :: t, l, h, hn => addAll_fine t (addS l n) (h.add (hn n (by simp))) fun m hm => hn m (by simp [hm])
theorem addAll_mem : ∀ (ns : List Nat) (l : List (Nat × Nat)), Fine l → (∀ n ∈ ns, n < 18446744073709551616) → ∀ m, Mem (addAll l ns) m ↔ Mem l m ∨ (m ∈ ns ∧ m ≠ 0)
  | [], l, _, _, m => by simp [addAll]
  | n :: t, l, h, hn, m => by
    show Mem (addAll (addS l n) t) m ↔ _
    rw [addAll_mem t (addS l n) (h.add (hn n (by simp))) (fun m hm => hn m (by simp [hm])) m, addS_mem h.1 m]
    constructor
    · rintro ((h1 | ⟨rfl, h1⟩) | ⟨h1, h2⟩)
      · exact .inl h1
      · exact .inr ⟨by simp, h1⟩
      · exact .inr ⟨by simp [h1], h2⟩
    · rintro (h1 | ⟨h1, h2⟩)
      · exact .inl (.inl h1)
      · rcases List.mem_cons.1 h1 with rfl | h1
        · exact .inl (.inr ⟨rfl, h2⟩)
        · exact .inr ⟨h1, h2⟩
theorem addAll_snoc (l : List (Nat × Nat)) (ns : List Nat) (n : Nat) : addAll l (ns ++ [n]) = addS (addAll l ns) n := by simp [addAll]
/-- The order does not matter. -/
theorem addAll_reverse (ns : List Nat) (hn : ∀ n ∈ ns, n < 18446744073709551616) : addAll [] ns.reverse = addAll [] ns := by
  have h1 := addAll_fine ns [] fine_nil hn
  have h2 := addAll_fine ns.reverse [] fine_nil (fun n h => hn n (by simpa using h))
  refine h2.1.unique h1.1 fun m => ?_
  rw [addAll_mem ns.reverse [] fine_nil (fun n h => hn n (by simpa using h)) m, addAll_mem ns [] fine_nil hn m]
  simp
/-- Another set keeps while this one is added to. -/
theorem SetAt.turned {w1 w2 : World} {B B' : Nat} {v v' : Value} {l k : List (Nat × Nat)} (h : SetAt w1 B' v' k) (hs : SetAt w1 B v l) (t : Turned w1 w2 B v) (hB : B' ≠ B) (hne : ∀ g, v'.ownBlock = some g → v.ownBlock ≠ some g) : SetAt w2 B' v' k := by
  refine ⟨?_, h.own.turned hs t hne⟩
  rw [t.block B' h.lt hB (fun he => ?_)]
  · exact h.blk
  · rcases hs.own.2 with ⟨rfl, _⟩ | ⟨g', cap, cur, rfl, _, hgg, _⟩
    · simp [Value.ownBlock] at he
    · simp only [Value.ownBlock, Option.some.injEq] at he
      subst he
      have := h.blk
      rw [hgg] at this
      simp at this
/-- Two rows lie apart, also behind an addition to the one. -/
theorem apart_add {w1 : World} {B' : Nat} {v v' vb : Value} {l : List (Nat × Nat)} (h : SetAt w1 B' vb l) (hne : ∀ g, vb.ownBlock = some g → v.ownBlock ≠ some g) (nw : NewOr w1 v v') : ∀ g, vb.ownBlock = some g → v'.ownBlock ≠ some g := by
  intro g hg he
  rcases nw with e2 | ⟨g', e2, h2⟩
  · exact hne g hg (by rw [← e2]; exact he)
  · rw [e2] at he
    injection he with he
    have := (World.ownsRow.lt h.own g hg).2
    omega
theorem apart_symm {v v' : Value} (h : ∀ g, v.ownBlock = some g → v'.ownBlock ≠ some g) : ∀ g, v'.ownBlock = some g → v.ownBlock ≠ some g := fun g hg he => h g he hg

/-- Two sets of the call's own. -/
structure Two (base : Nat) (w w' : World) (A : Nat) (va : Value) (la : List (Nat × Nat)) (B : Nat) (vb : Value) (lb : List (Nat × Nat)) : Prop where
  a : Mine base w w' A va la
  b : Mine base w w' B vb lb
  ne : A ≠ B
  ap : ∀ g, va.ownBlock = some g → vb.ownBlock ≠ some g
theorem Two.addA {base : Nat} {w w1 w2 : World} {A B : Nat} {va vb v' : Value} {la lb l' : List (Nat × Nat)} (h : Two base w w1 A va la B vb lb) (hs : SetAt w2 A v' l') (t : Turned w1 w2 A va) (nw : NewOr w1 va v') : Two base w w2 A v' l' B vb lb := by
  have ma := h.a.add hs t nw
  exact ⟨ma, ⟨h.b.set.turned h.a.set t (Ne.symm h.ne) (apart_symm h.ap), ma.bel, h.b.fr, ma.sz⟩, h.ne, apart_symm (apart_add h.b.set (apart_symm h.ap) nw)⟩
theorem Two.swap {base : Nat} {w w1 : World} {A B : Nat} {va vb : Value} {la lb : List (Nat × Nat)} (h : Two base w w1 A va la B vb lb) : Two base w w1 B vb lb A va la := ⟨h.b, h.a, Ne.symm h.ne, apart_symm h.ap⟩
theorem Two.addB {base : Nat} {w w1 w2 : World} {A B : Nat} {va vb v' : Value} {la lb l' : List (Nat × Nat)} (h : Two base w w1 A va la B vb lb) (hs : SetAt w2 B v' l') (t : Turned w1 w2 B vb) (nw : NewOr w1 vb v') : Two base w w2 A va la B v' l' := (h.swap.addA hs t nw).swap
theorem Two.go {base : Nat} {w w1 w2 : World} {A B : Nat} {va vb : Value} {la lb : List (Nat × Nat)} (h : Two base w w1 A va la B vb lb) (b : Below w1.heap.size w1 w2) : Two base w w2 A va la B vb lb := ⟨h.a.go b, h.b.go b, h.ne, h.ap⟩
theorem two_new (w : World) : Two w.heap.size w ((w.alloc (.cells #[.bool true, .slice none 0 0] 49)).alloc (.cells #[.bool true, .slice none 0 0] 49)) w.heap.size (.slice none 0 0) [] (w.heap.size + 1) (.slice none 0 0) [] := by
  have m := mine_new (w.alloc (.cells #[.bool true, .slice none 0 0] 49))
  have m1 := (mine_new w).go ((Below.refl _ _).alloc (Nat.le_refl _) (.cells #[.bool true, .slice none 0 0] 49))
  rw [World.size_alloc] at m
  exact ⟨m1, ⟨m.set, m1.bel, ⟨by omega, fun g hg => by simp [Value.ownBlock] at hg⟩, m1.sz⟩, by omega, fun g hg => by simp [Value.ownBlock] at hg⟩

theorem fresh_take (ns : List Nat) (k : Nat) (h : k < ns.length) : addAll [] (ns.take (k + 1)) = addS (addAll [] (ns.take k)) ns[k] := by
  rw [List.take_succ_eq_append_getElem h, addAll_snoc]
theorem addAll_size (ns : List Nat) (l : List (Nat × Nat)) (h : Fine l) (hn : ∀ n ∈ ns, n < 18446744073709551616) : sizeL (addAll l ns) ≤ sizeL l + ns.length := by
  induction ns generalizing l with
  | nil => simp [addAll]
  | cons n t ih =>
    have := ih (addS l n) (h.add (hn n (by simp))) fun m hm => hn m (by simp [hm])
    rw [addS_size h.1] at this
    show sizeL (addAll (addS l n) t) ≤ _
    rw [List.length_cons]
    split at this <;> omega
theorem reverse_take (ns : List Nat) (k : Nat) (h : k < ns.length) : ns.reverse.take (k + 1) = ns.reverse.take k ++ [ns[ns.length - 1 - k]'(by omega)] := by
  rw [List.take_succ_eq_append_getElem (by simpa using h), List.getElem_reverse]

set_option maxHeartbeats 2000000 in
theorem order_law (v0 : Value) (nums : List Nat) (w : World) (hn : Nums w v0 nums) (hb : ∀ n ∈ nums, n < 18446744073709551616) :
    Calls Try.prog 5 #[v0] w fun e w' => e = .returned (.bool true) ∧ Below w.heap.size w w' := by
  obtain ⟨a, cap, rfl, hmax⟩ := hn.slice
  by_cases hlong : 200 < nums.length
  · have hl' : (200 : Int) < (nums.length : Int) := by omega
    clear hn
    go_enter Try.func5, Try.ntmps5
    go_wp2_with (go_at_call 9; refine (lives_any _).mono ?_; rintro e w' ⟨rfl, b⟩)
    go_ret
    exact ⟨rfl, b⟩
  · have hl' : ¬ (200 : Int) < (nums.length : Int) := by omega
    have HN : Hid (Nums w (.slice a nums.length cap) nums ∧ ∀ n ∈ nums, n < 18446744073709551616) := ⟨hn, hb⟩
    clear hn hb
    go_enter Try.func5, Try.ntmps5
    go_wp2_with fail
    refine (new_any _).mono ?_
    rintro e w0 ⟨rfl, _, rfl⟩
    go_wp2_with fail
    refine (new_any _).mono ?_
    rintro e w0 ⟨rfl, _, rfl⟩
    simp only [World.size_alloc]
    go_wp2
    go_loopw [5, 6, 25] (fun u5 u6 u25 wr => ∃ (k : Nat) (va vb : Value), u25 = .int .i64 k ∧ u5 = .int .i64 (sizeL (addAll [] (nums.take k)) : Nat) ∧ u6 = .int .i64 (sizeL (addAll [] (nums.reverse.take k)) : Nat) ∧ k ≤ nums.length ∧ Hid (Two w.heap.size w wr w.heap.size va (addAll [] (nums.take k)) (w.heap.size + 1) vb (addAll [] (nums.reverse.take k)))) (fun _ _ u25 _ => nums.length - (intOf u25).toNat)
    case atStart => exact ⟨0, .slice none 0 0, .slice none 0 0, rfl, rfl, rfl, Nat.zero_le _, two_new w⟩
    case round =>
      obtain ⟨k, va, vb, rfl, rfl, rfl, hk, HB⟩ := hrel
      have hA : Hid (Fine (addAll [] (nums.take k)) ∧ Fine (addAll [] (nums.reverse.take k)) ∧ sizeL (addAll [] (nums.take k)) ≤ k ∧ sizeL (addAll [] (nums.reverse.take k)) ≤ k) := by
        refine ⟨addAll_fine _ _ fine_nil fun n h => HN.out.2 n (List.mem_of_mem_take h), addAll_fine _ _ fine_nil fun n h => HN.out.2 n (by simpa using List.mem_of_mem_take h), ?_, ?_⟩
        · have := addAll_size (nums.take k) [] fine_nil fun n h => HN.out.2 n (List.mem_of_mem_take h)
          rw [List.length_take] at this
          simp only [sizeL] at this
          omega
        · have := addAll_size (nums.reverse.take k) [] fine_nil fun n h => HN.out.2 n (by simpa using List.mem_of_mem_take h)
          rw [List.length_take, List.length_reverse] at this
          simp only [sizeL] at this
          omega
      by_cases hlt : k < nums.length
      · obtain ⟨b, off, rfl, hc⟩ := HN.out.1.at k hlt
        obtain ⟨b', off', he, hc'⟩ := HN.out.1.at (nums.length - 1 - k) (by omega)
        injection he with he
        injection he with he1 he2
        subst he1 he2
        have hbw := World.block_lt_of_cell? w _ hc
        have hbw' : b < w.heap.size := hbw
        have hn1 := HN.out.2 nums[k] (List.getElem_mem hlt)
        have hn2 := HN.out.2 (nums[nums.length - 1 - k]'(by omega)) (List.getElem_mem _)
        have hs1 := fresh_take nums k hlt
        have hs2 : addAll [] (nums.reverse.take (k + 1)) = addS (addAll [] (nums.reverse.take k)) (nums[nums.length - 1 - k]'(by omega)) := by rw [reverse_take nums k hlt, addAll_snoc]
        have hz1 := addS_size (n := nums[k]) hA.out.1.1
        have hz2 := addS_size (n := nums[nums.length - 1 - k]'(by omega)) hA.out.2.1.1
        rw [← hs1] at hz1
        rw [← hs2] at hz2
        have HS : Hid (addAll [] (nums.take (k + 1)) = addS (addAll [] (nums.take k)) nums[k] ∧ addAll [] (nums.reverse.take (k + 1)) = addS (addAll [] (nums.reverse.take k)) (nums[nums.length - 1 - k]'(by omega))) := ⟨hs1, hs2⟩
        clear hs1 hs2
        have hcr : ∀ W, Below w.heap.size w W → W.cell? ⟨b, off + k, none⟩ = some (.int .u64 (nums[k] : Int)) := fun W hW => by rw [hW.cell (p := ⟨b, off + k, none⟩) hbw]; exact hc
        have hcr' : ∀ W, Below w.heap.size w W → W.cell? ⟨b, off + (nums.length - 1 - k), none⟩ = some (.int .u64 ((nums[nums.length - 1 - k]'(by omega)) : Int)) := fun W hW => by rw [hW.cell (p := ⟨b, off + (nums.length - 1 - k), none⟩) hbw']; exact hc'
        clear hc hc'
        generalize nums[k] = n1 at *
        generalize (nums[nums.length - 1 - k]'(by omega)) = n2 at *
        obtain ⟨j, hj⟩ : ∃ j, nums.length = k + 1 + j := ⟨nums.length - (k + 1), by omega⟩
        have hj2 : nums.length - 1 - k = j := by omega
        rw [hj2] at hcr'
        have c1 := hcr wr HB.out.a.bel
        have l1 := length_le_sizeL (addAll [] (nums.take k))
        have l2 := length_le_sizeL (addAll [] (nums.reverse.take k))
        have hA1 := hA.out
        clear hA
        generalize hLA : addAll [] (nums.take k) = LA at *
        generalize hLB : addAll [] (nums.reverse.take k) = LB at *
        generalize hLA' : addAll [] (nums.take (k + 1)) = LA' at *
        generalize hLB' : addAll [] (nums.reverse.take (k + 1)) = LB' at *
        have e1 : (nums.length : Int) - 1 - (k : Int) = (j : Int) := by omega
        have e2 : (j : Int) < (nums.length : Int) := by omega
        have e3 : j < nums.length := by omega
        clear hj hj2
        go_wp2_with fail
        refine (add_any w.heap.size n1 va LA wr HB.out.a.set hA1.1.1 hA1.1.2 hn1 (by omega)).mono ?_
        rintro e w2 ⟨rfl, va2, s2, t2, nw2⟩
        have T2 := HB.out.addA s2 t2 nw2
        have c2 := hcr' w2 T2.a.bel
        clear s2 t2 nw2
        have fin : ∀ (W : World) (va' vb' : Value), Two w.heap.size w W w.heap.size va' LA' (w.heap.size + 1) vb' LB' → ∀ x y : Int, x = (sizeL LA' : Int) → y = (sizeL LB' : Int) → (∃ (k_1 : Nat) (va vb : Value), Value.int IntKind.i64 ((k : Int) + 1) = .int .i64 k_1 ∧ Value.int IntKind.i64 x = .int .i64 (sizeL (addAll [] (nums.take k_1)) : Nat) ∧ Value.int IntKind.i64 y = .int .i64 (sizeL (addAll [] (nums.reverse.take k_1)) : Nat) ∧ k_1 ≤ nums.length ∧ Hid (Two w.heap.size w W w.heap.size va (addAll [] (nums.take k_1)) (w.heap.size + 1) vb (addAll [] (nums.reverse.take k_1)))) := fun W va' vb' T x y hx hy =>
          ⟨k + 1, va', vb', by go_num, by rw [hLA', hx], by rw [hLB', hy], by omega, by rw [hLA', hLB']; exact T⟩
        have FIN : Hid _ := fin
        clear fin
        cases hb1 : newB LA n1 with
        | true =>
          rw [hb1, if_pos rfl] at hz1
          go_wp2_with fail
          refine (add_any (w.heap.size + 1) n2 vb LB w2 T2.b.set hA1.2.1.1 hA1.2.1.2 hn2 (by omega)).mono ?_
          rintro e w3 ⟨rfl, vb3, s3, t3, nw3⟩
          have T3 := T2.addB s3 t3 nw3
          rw [← HS.out.1, ← HS.out.2] at T3
          clear s3 t3 nw3
          cases hb2 : newB LB n2 with
          | true =>
            rw [hb2, if_pos rfl] at hz2
            go_wp2
            exact ⟨FIN.out _ _ _ T3 _ _ (by go_num) (by go_num), by simp [intOf]; omega⟩
          | false =>
            rw [hb2] at hz2
            go_wp2
            exact ⟨FIN.out _ _ _ T3 _ _ (by go_num) (by simp at hz2; omega), by simp [intOf]; omega⟩
        | false =>
          rw [hb1] at hz1
          go_wp2_with fail
          refine (add_any (w.heap.size + 1) n2 vb LB w2 T2.b.set hA1.2.1.1 hA1.2.1.2 hn2 (by omega)).mono ?_
          rintro e w3 ⟨rfl, vb3, s3, t3, nw3⟩
          have T3 := T2.addB s3 t3 nw3
          rw [← HS.out.1, ← HS.out.2] at T3
          clear s3 t3 nw3
          cases hb2 : newB LB n2 with
          | true =>
            rw [hb2, if_pos rfl] at hz2
            go_wp2
            exact ⟨FIN.out _ _ _ T3 _ _ (by simp at hz1; omega) (by go_num), by simp [intOf]; omega⟩
          | false =>
            rw [hb2] at hz2
            go_wp2
            exact ⟨FIN.out _ _ _ T3 _ _ (by simp at hz1; omega) (by simp at hz2; omega), by simp [intOf]; omega⟩
      · obtain rfl : k = nums.length := by omega
        rw [List.take_of_length_le (Nat.le_refl _), show nums.reverse.take nums.length = nums.reverse from List.take_of_length_le (by simp), addAll_reverse nums HN.out.2] at HB hA
        rw [List.take_of_length_le (Nat.le_refl _), show nums.reverse.take nums.length = nums.reverse from List.take_of_length_le (by simp), addAll_reverse nums HN.out.2]
        have hA1 := hA.out
        have l1 := length_le_sizeL (addAll [] nums)
        have gl := gapsL_le (addAll [] nums)
        clear hA
        generalize addAll [] nums = L at *
        go_wp2_with fail
        refine (ranges_any _ L wr HB.out.a.set.lies (by omega)).mono ?_
        rintro e w1 ⟨r1, rfl, o1, b1⟩
        have T1 := HB.out.go b1
        obtain ⟨ra, rc, rfl⟩ := o1.rng.slice
        have HT : Hid (Two w.heap.size w w1 w.heap.size va L (w.heap.size + 1) vb L) := T1
        have HO : Hid (Rng w1 (.slice ra L.length rc) L) := o1.rng
        clear T1 o1 b1
        go_wp2
        go_loopw [8, 52] (fun u8 u52 wr => ∃ k : Nat, u52 = .int .i64 k ∧ u8 = .int .u64 (sizeL (L.take k) : Nat) ∧ k ≤ L.length ∧ Hid (Below w1.heap.size w1 wr)) (fun _ u52 _ => L.length - (intOf u52).toNat)
        case atStart => exact ⟨0, rfl, rfl, Nat.zero_le _, Below.refl _ _⟩
        case round =>
          obtain ⟨k, rfl, rfl, hk2, HB2⟩ := hrel
          by_cases hlt2 : k < L.length
          · obtain ⟨b, off, cap', hv, _, _, hc⟩ := HO.out.at (by omega)
            injection hv with hv1 _ hv3
            subst hv1 hv3
            obtain ⟨c0, c1⟩ := at_cells hc k hlt2
            have hbb := World.block_lt_of_cell? _ _ c0
            rw [← HB2.out.cell (p := ⟨b, off + k * 2, none⟩) hbb] at c0
            rw [← HB2.out.cell (p := ⟨b, off + k * 2 + 1, none⟩) hbb] at c1
            have hs : Hid (sizeL (L.take (k + 1)) = sizeL (L.take k) + (L[k].2 - L[k].1 + 1)) := (by rw [List.take_succ_eq_append_getElem hlt2, sizeL_append]; simp [sizeL] : sizeL (L.take (k + 1)) = sizeL (L.take k) + (L[k].2 - L[k].1 + 1))
            have hle := (hA1.1.1.lowR (List.getElem_mem hlt2)).2
            have hsz1 : sizeL (L.take (k + 1)) ≤ sizeL L := by
              have := sizeL_append (L.take (k + 1)) (L.drop (k + 1))
              rw [List.take_append_drop] at this
              omega
            rw [hs.out] at hsz1
            generalize L[k].1 = x1 at *
            generalize L[k].2 = x2 at *
            clear hc
            go_wp2
            refine ⟨⟨k + 1, by go_num, ?_, by omega, HB2.out.alloc HB2.out.size _⟩, by simp [intOf]; omega⟩
            rw [hs.out]
            simp
            omega
          · obtain rfl : k = L.length := by omega
            rw [List.take_of_length_le (Nat.le_refl _)]
            have T2 := HT.out.go HB2.out
            have hsz6 : sizeL L ≤ 200 := by omega
            go_wp2_with fail
            refine (ranges_any _ L wr T2.a.set.lies (by omega)).mono ?_
            rintro e w3 ⟨r3, rfl, o3, b3⟩
            have T3 := T2.go b3
            obtain ⟨r3a, r3c, rfl⟩ := o3.rng.slice
            go_wp2_with fail
            refine (ranges_any _ L w3 T3.b.set.lies (by omega)).mono ?_
            rintro e w4 ⟨r4, rfl, o4, b4⟩
            have T4 := T3.go b4
            obtain ⟨r4a, r4c, rfl⟩ := o4.rng.slice
            go_wp2_with fail
            refine (same_any _ _ L L w4 (o3.kept b4 (Nat.le_refl _)).rng o4.rng).mono ?_
            rintro e w5 ⟨rfl, b5⟩
            have T5 := T4.go b5
            rw [decide_eq_true rfl]
            go_wp2_with fail
            refine (gaps_any _ L w5 T5.a.set.lies hA1.1.1).mono ?_
            rintro e w' ⟨rfl, rfl⟩
            have hg2 : (gapsL L : Int) ≤ (sizeL L : Int) := by omega
            go_wp2_with fail
            refine (lives_any _).mono ?_
            rintro e w6 ⟨rfl, b6⟩
            have T6 := T5.go b6
            go_wp2
            go_ret
            exact ⟨rfl, T6.a.bel⟩
end Go.Proofs.Ytdgbcjdikkmgdaa
