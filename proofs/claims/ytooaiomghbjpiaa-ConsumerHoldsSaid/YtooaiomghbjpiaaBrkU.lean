/-
  slices.breakPatternsOrdered at tags: places between the bounds are exchanged.
-/
import Derived.Test.YtooaiomghbjpiaaPivU
import Derived.Sort.LotD1
import Derived.Sort.LotD5
namespace Go.Proofs.Ytooaiomghbjpiaa
open Go.RowKit Go.Sort Go.Shelf
set_option maxRecDepth 20000

theorem nextPow (n : Nat) (hn : n ≤ 1000000) (w : World) : Calls Try.prog 79 #[.int .i64 (n : Int)] w fun e w' => e = .returned (.int .u64 ((1 <<< bitsLen n : Nat) : Int)) ∧ w' = w :=
  calls_of_every_depth fun D => AnySM.nextPowerOfTwoIn { Try.sortI with } D n (by omega) w
theorem xorNextU (rb X : Nat) (hX : X < 18446744073709551616) (w : World) (hc : w.cell? ⟨rb, 0, none⟩ = some (.int .u64 (X : Int))) (hf : w.frozen? ⟨rb, 0, none⟩ = false) : Calls Try.prog 80 #[.pointer (some ⟨rb, 0, none⟩)] w fun e w' => ∃ Y : Nat, Y < 18446744073709551616 ∧ e = .returned (.int .u64 (Y : Int)) ∧ ∃ q, w' = (w.setCell ⟨rb, 0, none⟩ (.int .u64 (Y : Int))).drewN q :=
  (calls_of_every_depth fun D => AnySM.xorshift_NextIn { Try.sortI with } D rb 0 X hX w hc hf).mono fun _ _ ⟨h1, h2⟩ => ⟨xorNextN X, xorNextN_lt X hX, h1, 3, h2⟩
set_option maxHeartbeats 2000000 in
theorem breakU (w : World) (base g cap n a b : Nat) (d : Array Int) (h : UR w base g cap d) (hn : d.size = n) (hab : a + 12 < b) (hb : b ≤ n) (hsz : n ≤ 1000000) :
    Calls Try.prog 86 #[.slice (some ⟨g, 0, none⟩) n cap, .int .i64 (a : Int), .int .i64 (b : Int)] w fun e w' => e = .returned (.tuple #[]) ∧ ∃ d', Go1 w w' base g cap n d' ∧ PermIn a b d d' := by
  obtain ⟨L, hL⟩ : ∃ L, b - a = L := ⟨_, rfl⟩
  obtain ⟨q, hq⟩ : ∃ q, L / 4 = q := ⟨_, rfl⟩
  obtain ⟨J, hJ⟩ : ∃ J, a + q * 2 = J + 1 := ⟨a + q * 2 - 1, by omega⟩
  obtain ⟨M, hM⟩ : ∃ M, 1 <<< bitsLen L = M := ⟨_, rfl⟩
  have hM2 : 1 ≤ M ∧ M ≤ 2 * L := by
    rw [← hM, Nat.one_shiftLeft]
    exact ⟨Nat.one_le_two_pow, two_pow_bitsLen_le (by omega)⟩
  have hP := nextPow L (by omega)
  rw [hM] at hP
  have e1 : (b : Int) - (a : Int) = (L : Int) := by omega
  have e2 : (L : Int) / 4 = (q : Int) := by omega
  have e2' : (L : Int).tdiv 4 = (q : Int) := by rw [Int.tdiv_eq_ediv_of_nonneg (by omega)]; omega
  have eJ : (a : Int) + (q : Int) * 2 = (J : Int) + 1 := by omega
  have l8 : (8 : Int) ≤ (L : Int) := by omega
  have HN : Hid (a ≤ J ∧ J + 2 < b ∧ L = b - a ∧ 1 ≤ M ∧ M ≤ 2 * L) := ⟨by omega, by omega, hL.symm, hM2.1, hM2.2⟩
  have uL : IntKind.u64.wrap (L : Int) = (L : Int) := by unfold IntKind.wrap; simp [IntKind.signed, IntKind.bits]; omega
  have bq : (q : Int) ≤ 1000000 := by omega
  have bL : (L : Int) ≤ 1000000 := by omega
  have bJ : (J : Int) ≤ 1000000 := by omega
  have mb1 : (1 : Int) ≤ (M : Int) := by omega
  have mb2 : (M : Int) ≤ 2000000 := by omega
  have hgw := h.lt.1
  obtain ⟨W, fold⟩ : ∃ W, w.alloc (.cells #[.int .u64 (L : Int)] 122) = W := ⟨_, rfl⟩
  have H0 : Hid (Go1 w W base g cap n d ∧ W.heap[w.heap.size]? = some (.cells #[.int .u64 (L : Int)] 122 (0, 0)) ∧ g < w.heap.size) := ⟨(Go1.refl h hn).more (by rw [← fold]; exact (RowKit.Below.refl _ w).alloc (Nat.le_refl _) _) (Go1.refl h hn).base, by rw [← fold]; exact heap_alloc_new w _, hgw⟩
  clear h hn hL hq hJ hM hM2 hgw
  go_enter Try.func86, Try.ntmps86
  go_wp2_with fail
  refine (hP _).mono ?_
  rintro e V ⟨rfl, rfl⟩
  clear fold e1 uL hP
  go_wp2
  go_loopw [9, 10] (fun u9 _ wr => ∃ (I X : Nat) (dk : Array Int), u9 = .int .i64 (I : Int) ∧ J ≤ I ∧ I ≤ J + 3 ∧ X < 18446744073709551616 ∧ Hid (Go1 w wr base g cap n dk ∧ PermIn a b d dk ∧ wr.heap[w.heap.size]? = some (.cells #[.int .u64 (X : Int)] 122 (0, 0)))) (fun u9 _ _ => J + 3 - (intOf u9).toNat)
  case atStart => exact ⟨J, L, d, by go_num, Nat.le_refl _, by omega, by have := HN.out; omega, H0.out.1, permIn_refl _ _ _, H0.out.2.1⟩
  case round =>
    obtain ⟨I, X, dk, rfl, i1, i2, hX, HI⟩ := hrel
    by_cases hlt : I < J + 3
    · have hlt' : (I : Int) ≤ (J : Int) + 1 + 1 := by omega
      have cX : wr.cell? ⟨w.heap.size, 0, none⟩ = some (.int .u64 (X : Int)) := by simp [World.cell?, HI.out.2.2]
      have fX : wr.frozen? ⟨w.heap.size, 0, none⟩ = false := by simp [World.frozen?, HI.out.2.2]
      go_wp2_with fail
      refine (xorNextU w.heap.size X hX wr cX fX).mono ?_
      rintro e w1 ⟨Y, hY, rfl, q1, rfl⟩
      obtain ⟨Z, hZ⟩ : ∃ Z : Nat, Y &&& (M - 1) = Z := ⟨_, rfl⟩
      have lZ : Z ≤ M - 1 := by rw [← hZ]; exact Nat.and_le_right
      have eAnd : bits .and .u64 (Y : Int) ((M : Int) - 1) = (Z : Int) := by
        rw [show ((M : Int) - 1) = ((M - 1 : Nat) : Int) by omega, bits_and_u64_nat _ _ hY (by omega), hZ]
      obtain ⟨U, hU⟩ : ∃ U, (wr.setCell ⟨w.heap.size, 0, none⟩ (.int .u64 (Y : Int))).drewN q1 = U := ⟨_, rfl⟩
      have HU : Hid (Go1 w U base g cap n dk ∧ U.heap[w.heap.size]? = some (.cells #[.int .u64 (Y : Int)] 122 (0, 0))) := by
        have hx := HI.out.2.2
        have hgs := H0.out.2.2
        rw [← hU]
        refine ⟨Go1.drewN ⟨HI.out.1.1.same (Below.heap_setCell _ _ _ _ (by show g ≠ w.heap.size; omega)), HI.out.1.2.1, HI.out.1.2.2.setCell (by have := HI.out.1.1.lt.2; show base ≤ w.heap.size; omega) _⟩ q1, ?_⟩
        show (wr.setCell ⟨w.heap.size, 0, none⟩ (.int .u64 (Y : Int))).heap[w.heap.size]? = _
        simp [World.setCell, Array.getElem?_modify, hx]
      rw [hU]
      have bZ : (Z : Int) ≤ 2000000 := by omega
      obtain ⟨O, hO, hOL⟩ : ∃ O : Nat, (O = if L ≤ Z then Z - L else Z) ∧ O < L := ⟨_, rfl, by have := HN.out; split <;> omega⟩
      have hOb : (O : Int) < (L : Int) := by omega
      have hab' : (a : Int) + (L : Int) ≤ (n : Int) := by have := HN.out; omega
      obtain ⟨x, hx⟩ : ∃ x, dk[I]! = x := ⟨_, rfl⟩
      obtain ⟨y, hy⟩ : ∃ y, dk[a + O]! = y := ⟨_, rfl⟩
      have c1 : U.cell? ⟨g, I, none⟩ = some (.int .u64 x) := by rw [← hx]; exact HU.out.1.cell (by have := HN.out; omega)
      have c2 : U.cell? ⟨g, a + O, none⟩ = some (.int .u64 y) := by rw [← hy]; exact HU.out.1.cell (by omega)
      have f1 := HU.out.1.1.frozen I
      have f2 := HU.out.1.1.frozen (a + O)
      have HX : Hid (dk[I]! = x ∧ dk[a + O]! = y) := ⟨hx, hy⟩
      have nI : (I : Int) < (n : Int) := by have := HN.out; omega
      have nO : (a : Int) + (O : Int) < (n : Int) := by omega
      have HE : Hid (∀ q, Go1 w (((U.setCell ⟨g, I, none⟩ (.int .u64 y)).setCell ⟨g, a + O, none⟩ (.int .u64 x)).drewN q) base g cap n (swp dk I (a + O)) ∧ PermIn a b d (swp dk I (a + O)) ∧ (((U.setCell ⟨g, I, none⟩ (.int .u64 y)).setCell ⟨g, a + O, none⟩ (.int .u64 x)).drewN q).heap[w.heap.size]? = some (.cells #[.int .u64 (Y : Int)] 122 (0, 0))) := fun q => by
        have hgs := H0.out.2.2
        refine ⟨(HU.out.1.swap (by omega) (by omega) HX.out.2 HX.out.1).drewN q, permIn_trans _ _ _ _ _ HI.out.2.1 (swp_permIn dk a b I (a + O) (by have := HN.out; omega) (by have := HN.out; omega) (by omega) (by have := HN.out; omega) (by rw [HI.out.1.2.1]; omega)), ?_⟩
        show ((U.setCell ⟨g, I, none⟩ (.int .u64 y)).setCell ⟨g, a + O, none⟩ (.int .u64 x)).heap[w.heap.size]? = _
        rw [Below.heap_setCell _ _ _ _ (by show w.heap.size ≠ g; omega), Below.heap_setCell _ _ _ _ (by show w.heap.size ≠ g; omega)]
        exact HU.out.2
      clear hx hy hZ hU cX fX lZ
      by_cases hIO : I = a + O
      · have hxy : y = x := by rw [← HX.out.1, ← HX.out.2, hIO]
        have hI' : (I : Int) = (a : Int) + (O : Int) := by omega
        by_cases hLZ : L ≤ Z
        · have eO : (Z : Int) - (L : Int) = (O : Int) := by rw [if_pos hLZ] at hO; omega
          have hLZ' : (L : Int) ≤ (Z : Int) := by omega
          clear hO
          subst hIO hxy
          clear hI' c2 f2
          go_wp2
          go_region
          all_goals go_wp2
          all_goals go_roundw
          all_goals try (case measure => simp [intOf]; omega)
          all_goals exact ⟨a + O + 1, Y, swp dk (a + O) (a + O), by go_num, by omega, by omega, hY, HE.out 1⟩
        · obtain rfl : O = Z := by rw [if_neg hLZ] at hO; exact hO
          have hLZ' : ¬ (L : Int) ≤ (O : Int) := by omega
          clear hO
          subst hIO hxy
          clear hI' c2 f2
          go_wp2
          go_region
          all_goals go_wp2
          all_goals go_roundw
          all_goals try (case measure => simp [intOf]; omega)
          all_goals exact ⟨a + O + 1, Y, swp dk (a + O) (a + O), by go_num, by omega, by omega, hY, HE.out 1⟩
      · have hIO' : ¬ (a + O = I) := fun e => hIO e.symm
        by_cases hLZ : L ≤ Z
        · have eO : (Z : Int) - (L : Int) = (O : Int) := by rw [if_pos hLZ] at hO; omega
          have hLZ' : (L : Int) ≤ (Z : Int) := by omega
          clear hO
          go_wp2
          go_region
          all_goals go_wp2
          all_goals go_roundw
          all_goals try (case measure => simp [intOf]; omega)
          all_goals exact ⟨I + 1, Y, swp dk I (a + O), by go_num, by omega, by omega, hY, HE.out 1⟩
        · obtain rfl : O = Z := by rw [if_neg hLZ] at hO; exact hO
          have hLZ' : ¬ (L : Int) ≤ (O : Int) := by omega
          clear hO
          go_wp2
          go_region
          all_goals go_wp2
          all_goals go_roundw
          all_goals try (case measure => simp [intOf]; omega)
          all_goals exact ⟨I + 1, Y, swp dk I (a + O), by go_num, by omega, by omega, hY, HE.out 1⟩
    · have hlt' : ¬ (I : Int) ≤ (J : Int) + 1 + 1 := by omega
      go_wp2
      go_end0
      exact ⟨rfl, dk, HI.out.1, HI.out.2.1⟩
end Go.Proofs.Ytooaiomghbjpiaa
