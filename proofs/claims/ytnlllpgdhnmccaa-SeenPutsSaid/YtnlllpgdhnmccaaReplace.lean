/-
  slices.Replace by one range, by its contract.
-/
import Derived.Test.YtnlllpgdhnmccaaInsert
namespace Go.Proofs.Ytnlllpgdhnmccaa
open Go.RowKit

theorem zero2 : ∀ k : Nat, ((Value.agg #[.int .u64 0, .int .u64 0]).cells[k % (Value.agg #[.int .u64 0, .int .u64 0]).cells.size]!).oneCell' = true := by
  intro k
  have h : (Value.agg #[.int .u64 0, .int .u64 0]).cells.size = 2 := rfl
  rw [h]
  rcases Nat.mod_two_eq_zero_or_one k with h | h <;> rw [h] <;> rfl

set_option maxHeartbeats 4000000 in
set_option maxRecDepth 100000 in
/-- What stands from i to the end. -/
theorem replace_end (g c i vb x1 x2 : Nat) (l : List (Nat × Nat)) (T : List Value) (w : World) (hg : w.heap[g]? = some (.cells (rcells l ++ T).toArray 76 (0, 0))) (hi : i < l.length) (hc : l.length ≤ c) (hcm : c ≤ maxLen) (hT : T.length = c * 2 - l.length * 2)
    (hx : w.heap[vb]? = some (.cells #[.int .u64 (x1 : Int), .int .u64 (x2 : Int)] 76 (0, 0))) :
    Calls Try.prog 45 #[.slice (some ⟨g, 0, none⟩) l.length c, .int .i64 i, .int .i64 l.length, .slice (some ⟨vb, 0, none⟩) 1 1] w fun e w' =>
      e = .returned (.slice (some ⟨g, 0, none⟩) (i + 1) c) ∧ Only g w w' ∧ ∃ T', w'.heap[g]? = some (.cells (rcells (l.take i ++ [(x1, x2)]) ++ T').toArray 76 (0, 0)) ∧ T'.length = c * 2 - (i + 1) * 2 := by
  have hc63 : c ≤ 9223372036854775807 := by unfold maxLen at hcm; omega
  have hz2 : ¬ ((i : Int) = (l.length : Int)) := by omega
  have hb4 : ¬ (c = i) := by omega
  have hA := rcells_length (l.take i)
  rw [List.length_take, Nat.min_eq_left (by omega)] at hA
  have hl1 := rcells_length (l.drop i)
  rw [List.length_drop] at hl1
  have hll := rcells_length l
  have hsplit : rcells l = rcells (l.take i) ++ rcells (l.drop i) := by rw [← rcells_append, List.take_append_drop]
  obtain ⟨i0, hi0, hz0, hzs, hzb⟩ := rngInfo
  have HX : Hid (∀ j v, (rcells [(x1, x2)])[j]? = some v → w.cell? ((⟨vb, 0, none⟩ : Addr).add j) = some v) := one_src hx
  have H : Hid (w.heap[g]? = some (.cells (rcells l ++ T).toArray 76 (0, 0)) ∧ T.length = c * 2 - l.length * 2 ∧ (rcells l).length = l.length * 2 ∧ (rcells (l.take i)).length = i * 2 ∧ (rcells (l.drop i)).length = (l.length - i) * 2 ∧ rcells l = rcells (l.take i) ++ rcells (l.drop i)) := ⟨hg, hT, hll, hA, hl1, hsplit⟩
  have HS : Hid (splice (rcells l ++ T) (i * 2) (rcells [(x1, x2)]) = rcells (l.take i ++ [(x1, x2)]) ++ (rcells (l.drop i) ++ T).drop 2) := by
    show splice (rcells l ++ T) (i * 2) (rcells [(x1, x2)]) = rcells (l.take i ++ [(x1, x2)]) ++ (rcells (l.drop i) ++ T).drop 2
    rw [splice_in (rcells l ++ T) (rcells (l.take i)) (rcells (l.drop i) ++ T) (rcells [(x1, x2)]) 0 (i * 2) (by rw [hsplit, List.append_assoc]) (by rw [hA]; omega), rcells_append]
    simp [rcells_cons, rcells_nil]
  have HSL : Hid ((rcells (l.take i ++ [(x1, x2)]) ++ (rcells (l.drop i) ++ T).drop 2).length = c * 2 ∧ (rcells (l.take i ++ [(x1, x2)])).length = (i + 1) * 2) := by
    have h2 : (rcells (l.take i ++ [(x1, x2)])).length = (i + 1) * 2 := by rw [rcells_length]; simp; omega
    refine ⟨?_, h2⟩
    rw [List.length_append, h2, List.length_drop, List.length_append, hl1, hT]
    omega
  clear hA hl1 hll hsplit hg hT hx
  have hin : (i : Int) ≤ (l.length : Int) := by omega
  have hic : i ≤ c := by omega
  by_cases hlt : i + 1 < l.length
  · have hlt' : (i : Int) + 1 < (l.length : Int) := by omega
    have hb5 : ¬ (c = i + 1) := by omega
    go_enter Try.func45, Try.ntmps45
    go_wp2_with (first
      | (at_builtin; refine wpList_append2_room rfl (.tmp 32) (.tmp 33) 30 rfl 76 i0 Try.underlying30 hi0 hzs g i c rfl (rcells l ++ T) H.out.1 ⟨vb, 0, none⟩ 1 1 rfl (rcells [(x1, x2)]) rfl HX.out (rcells_one _) (by omega) (by rw [List.length_append, H.out.2.1, H.out.2.2.1]; show i * 2 + 2 ≤ _; omega) ?_; intro w1 HG1 only1; rw [HS.out] at HG1)
      | (refine wpList_clear2 rfl (.tmp 43) 30 rfl 76 Try.underlying30 _ Try.zeroValue76 rfl zero2 (some ⟨g, (i + 1) * 2, none⟩) (l.length - (i + 1)) (c - (i + 1)) rfl g ((i + 1) * 2) (rcells (l.take i ++ [(x1, x2)]) ++ (rcells (l.drop i) ++ T).drop 2) 76 HG1.out (fun _ => rfl) (by rw [HSL.out.1]; omega) ?_; intro w2 zs hzs2 HG2 only2))
    go_ret
    refine ⟨rfl, only1.trans only2, zs ++ ((rcells (l.drop i) ++ T).drop 2).drop zs.length, ?_, ?_⟩
    · rw [HG2.out, splice_in _ (rcells (l.take i ++ [(x1, x2)])) _ zs 0 ((i + 1) * 2) rfl (by rw [HSL.out.2]; omega)]
      simp
    · have := HSL.out.1
      rw [List.length_append, HSL.out.2] at this
      rw [List.length_append, List.length_drop]
      omega
  · obtain he : l.length = i + 1 := by omega
    have hlt' : ¬ (i : Int) + 1 < (l.length : Int) := by omega
    go_enter Try.func45, Try.ntmps45
    go_wp2_with (at_builtin; refine wpList_append2_room rfl (.tmp 32) (.tmp 33) 30 rfl 76 i0 Try.underlying30 hi0 hzs g i c rfl (rcells l ++ T) H.out.1 ⟨vb, 0, none⟩ 1 1 rfl (rcells [(x1, x2)]) rfl HX.out (rcells_one _) (by omega) (by rw [List.length_append, H.out.2.1, H.out.2.2.1]; show i * 2 + 2 ≤ _; omega) ?_; intro w1 HG1 only1; rw [HS.out] at HG1)
    go_ret
    refine ⟨rfl, only1, (rcells (l.drop i) ++ T).drop 2, HG1.out, ?_⟩
    have := HSL.out.1
    rw [List.length_append, HSL.out.2] at this
    omega

set_option maxHeartbeats 4000000 in
set_option maxRecDepth 100000 in
/-- What stands from i to j, where something stands behind it. -/
theorem replace_mid (g c i j vb x1 x2 : Nat) (l : List (Nat × Nat)) (T : List Value) (w : World) (hg : w.heap[g]? = some (.cells (rcells l ++ T).toArray 76 (0, 0))) (hij : i < j) (hj : j < l.length) (hc : l.length ≤ c) (hcm : c ≤ maxLen) (hT : T.length = c * 2 - l.length * 2) (hlen : l.length ≤ 1000000)
    (hx : w.heap[vb]? = some (.cells #[.int .u64 (x1 : Int), .int .u64 (x2 : Int)] 76 (0, 0))) :
    Calls Try.prog 45 #[.slice (some ⟨g, 0, none⟩) l.length c, .int .i64 i, .int .i64 j, .slice (some ⟨vb, 0, none⟩) 1 1] w fun e w' =>
      e = .returned (.slice (some ⟨g, 0, none⟩) (i + 1 + (l.length - j)) c) ∧ Only g w w' ∧ ∃ T', w'.heap[g]? = some (.cells (rcells (l.take i ++ (x1, x2) :: l.drop j) ++ T').toArray 76 (0, 0)) ∧ T'.length = c * 2 - (i + 1 + (l.length - j)) * 2 := by
  have hc63 : c ≤ 9223372036854775807 := by unfold maxLen at hcm; omega
  have hz2 : ¬ ((i : Int) = (j : Int)) := by omega
  have hz3 : ¬ ((j : Int) = (l.length : Int)) := by omega
  have hb4 : ¬ (c = i) := by omega
  have hb5 : ¬ (c = j) := by omega
  have hb6 : ¬ (c = i + 1) := by omega
  obtain ⟨n, hn⟩ : ∃ n, n = l.length := ⟨_, rfl⟩
  have hin : (i : Int) ≤ (n : Int) := by omega
  have hin2 : (j : Int) ≤ (n : Int) := by omega
  have hin3 : (i : Int) ≤ (j : Int) := by omega
  have hic : i ≤ c := by omega
  rw [← hn]
  have HX : Hid (∀ j v, (rcells [(x1, x2)])[j]? = some v → w.cell? ((⟨vb, 0, none⟩ : Addr).add j) = some v) := one_src hx
  have H : Hid (w.heap[g]? = some (.cells (rcells l ++ T).toArray 76 (0, 0))) := hg
  have HL : Hid (n = l.length) := hn
  have hsub : (n : Int) - (j : Int) = ((n - j : Nat) : Int) := by omega
  have hjn : j < n := by omega
  have hcn : n ≤ c := by omega
  have hn6 : n ≤ 1000000 := by omega
  have hA := rcells_length (l.take i)
  rw [List.length_take, Nat.min_eq_left (by omega)] at hA
  have hD := rcells_length (l.drop j)
  rw [List.length_drop, ← hn] at hD
  have hll := rcells_length l
  rw [← hn] at hll
  obtain ⟨M, hM⟩ : ∃ M, M = rcells ((l.take j).drop i) := ⟨_, rfl⟩
  have hMl : M.length = (j - i) * 2 := by rw [hM, rcells_length]; simp; omega
  have hsplit : rcells l = rcells (l.take i) ++ (M ++ rcells (l.drop j)) := by
    rw [hM, ← rcells_append, ← rcells_append]
    congr 1
    conv => lhs; rw [← List.take_append_drop j l]
    rw [← List.append_assoc]
    congr 1
    conv => lhs; rw [← List.take_append_drop i (l.take j)]
    rw [List.take_take, Nat.min_eq_left (by omega)]
  obtain ⟨L1, hL1⟩ : ∃ L1, L1 = rcells (l.take i) ++ (rcells [(x1, x2)] ++ (M ++ (rcells (l.drop j) ++ T)).drop 2) := ⟨_, rfl⟩
  have hS1 : splice (rcells l ++ T) (i * 2) (rcells [(x1, x2)]) = L1 := by
    rw [hL1, splice_in (rcells l ++ T) (rcells (l.take i)) (M ++ (rcells (l.drop j) ++ T)) (rcells [(x1, x2)]) 0 (i * 2) (by rw [hsplit]; simp) (by rw [hA]; omega)]
    simp [rcells_cons, rcells_nil]
  have hL1l : L1.length = c * 2 := by
    rw [hL1, List.length_append, List.length_append, List.length_drop, List.length_append, List.length_append, hA, hD, hMl, hT, ← hn]
    show i * 2 + (2 + _) = _
    omega
  obtain ⟨L2, hL2⟩ : ∃ L2, L2 = rcells (l.take i ++ (x1, x2) :: l.drop j) ++ ((M ++ (rcells (l.drop j) ++ T)).drop 2).drop (rcells (l.drop j)).length := ⟨_, rfl⟩
  have hS2 : splice L1 ((i + 1) * 2) (rcells (l.drop j)) = L2 := by
    rw [hL2, splice_in L1 (rcells (l.take i) ++ rcells [(x1, x2)]) ((M ++ (rcells (l.drop j) ++ T)).drop 2) (rcells (l.drop j)) 0 ((i + 1) * 2) (by rw [hL1, List.append_assoc]) (by rw [List.length_append, hA]; show _ = i * 2 + 2 + 0; omega), rcells_append, rcells_cons]
    simp [rcells_cons, rcells_nil]
  have hL2l : L2.length = c * 2 := by
    rw [← hS2, length_splice _ _ _ (by rw [hL1l, hD]; omega), hL1l]
  have hN2 : (rcells (l.take i ++ (x1, x2) :: l.drop j)).length = (i + 1 + (n - j)) * 2 := by rw [rcells_length]; simp; omega
  have hcell1 : ∀ k, j * 2 ≤ k → L1[k]? = (rcells l ++ T)[k]? := by
    intro k hk
    rw [← hS1, splice]
    rw [List.getElem?_append_right (by rw [List.length_take]; omega), List.getElem?_append_right (by rw [List.length_take, List.length_append, hll]; show 2 ≤ _; omega), List.getElem?_drop, List.length_take, List.length_append, hll]
    congr 1
    show i * 2 + 2 + (k - min (i * 2) _ - 2) = k
    omega
  have HK : Hid ((∀ (W : World), W.heap[g]? = some (.cells L1.toArray 76 (0, 0)) → ∀ q v, (rcells (l.drop j))[q]? = some v → W.cell? ((⟨g, j * 2, none⟩ : Addr).add q) = some v) ∧ splice (rcells l ++ T) (i * 2) (rcells [(x1, x2)]) = L1 ∧ L1.length = c * 2 ∧ splice L1 ((i + 1) * 2) (rcells (l.drop j)) = L2 ∧ L2.length = c * 2 ∧ (rcells l ++ T).length = c * 2 ∧ (rcells (l.drop j)).length = (n - j) * 2 ∧ (rcells (l.take i ++ (x1, x2) :: l.drop j)).length = (i + 1 + (n - j)) * 2 ∧ L2 = rcells (l.take i ++ (x1, x2) :: l.drop j) ++ ((M ++ (rcells (l.drop j) ++ T)).drop 2).drop (rcells (l.drop j)).length) := by
    refine ⟨fun W hW q v hq => ?_, hS1, hL1l, hS2, hL2l, by rw [List.length_append, hll, hT, ← hn]; omega, hD, hN2, hL2⟩
    rw [Addr.add_lit, cell_of_list hW, hcell1 _ (by omega), hsplit]
    have hq2 := (List.getElem?_eq_some_iff.1 hq).1
    rw [List.append_assoc, List.getElem?_append_right (by rw [hA]; omega), List.append_assoc, List.getElem?_append_right (by rw [hA, hMl]; omega), List.getElem?_append_left (by rw [hA, hMl]; omega), hA, hMl]
    rw [show j * 2 + q - i * 2 - (j - i) * 2 = q by omega]
    exact hq
  clear hg hx hn hT hj hc hlen hA hD hll hM hMl hsplit hL1 hS1 hL1l hL2 hS2 hL2l hN2 hcell1
  have hb1 : (0 : Int) ≤ (i : Int) + 1 := by omega
  have hb7 : ¬ (c = i + 1 + (n - j)) ∨ c = i + 1 + (n - j) := by omega
  have htn : i + 1 + (n - j) ≤ n := by omega
  have hmin1 : Nat.min 1 (i + 1 + (n - j) - i) = 1 := Nat.min_eq_left (by omega)
  have hmin2 : Nat.min (n - j) (i + 1 + (n - j) - (i + 1)) = n - j := by rw [show i + 1 + (n - j) - (i + 1) = n - j by omega]; exact Nat.min_self _
  have HM : Hid (Nat.min 1 (i + 1 + (n - j) - i) = 1 ∧ Nat.min (n - j) (i + 1 + (n - j) - (i + 1)) = n - j) := ⟨hmin1, hmin2⟩
  clear hmin1 hmin2
  go_enter Try.func45, Try.ntmps45
  go_wp2
  go_quiet (fail)
  go_wp2_with (refine wpList_copy2 rfl (.tmp 95) (.tmp 96) 30 30 rfl 76 Try.underlying30 info2 (some ⟨g, i * 2, none⟩) (some ⟨vb, 0, none⟩) (i + 1 + (n - j) - i) (c - i) 1 1 rfl rfl g (i * 2) (rcells l ++ T) 76 H.out (rcells [(x1, x2)]) (by rw [HM.out.1]; rfl) (fun _ => ⟨rfl, _, rfl, HX.out⟩) (by rw [HK.out.2.2.2.2.2.1]; show i * 2 + 2 ≤ _; omega) (rcells_one _) ?_; intro w2 m2 HG2 only2)
  rw [HK.out.2.1] at HG2
  have ON2 : Hid (Only g w w2) := ⟨only2.os, only2.tape, only2.output, only2.size, only2.block⟩
  clear only2
  have hr1 : (i : Int) + 1 ≤ (i : Int) + 1 + ((n - j : Nat) : Int) := by omega
  have hw1 : IntKind.i64.wrap ((i : Int) + 1) = (i : Int) + 1 := by rw [IntKind.wrap_i64]; omega
  have htn1 : ((i : Int) + 1).toNat = i + 1 := by omega
  have hsl : i + 1 + (n - j) - (i + 1) = n - j := by omega
  go_region_law (refine step_copy2 rfl (.tmp 103) (.tmp 106) 30 30 rfl 76 Try.underlying30 info2 (some ⟨g, (i + 1) * 2, none⟩) (some ⟨g, j * 2, none⟩) (n - j) (c - (i + 1)) (n - j) (c - j) (by simp [Act.eval, Act.put]) (by simp [Act.eval, Act.put]) g ((i + 1) * 2) L1 76 HG2.out (rcells (l.drop j)) (by rw [HK.out.2.2.2.2.2.2.1, show Nat.min (n - j) (n - j) = n - j from Nat.min_self _]) (fun _ => ⟨rfl, _, rfl, HK.out.1 _ HG2.out⟩) (by rw [HK.out.2.2.1, HK.out.2.2.2.2.2.2.1]; omega) (rcells_one _) ?_; intro w3 m3 HG3 only3)
  rw [HK.out.2.2.2.1] at HG3
  have ON3 : Hid (Only g w w3) := ON2.out.trans ⟨only3.os, only3.tape, only3.output, only3.size, only3.block⟩
  clear only3
  have hint : ((i : Int) + 1 + ((n - j : Nat) : Int)) = ((i + 1 + (n - j) : Nat) : Int) := by omega
  obtain ⟨t, ht⟩ : ∃ t, t = i + 1 + (n - j) := ⟨_, rfl⟩
  have htt : t ≤ n := by omega
  have htt2 : (t : Int) ≤ (n : Int) := by omega
  rw [hint, ← ht]
  have HT : Hid (t = i + 1 + (n - j)) := ht
  have HE : Hid ((rcells (l.take i ++ (x1, x2) :: l.drop j)).length = t * 2) := by
    rw [HT.out]; exact HK.out.2.2.2.2.2.2.2.1
  clear hint ht hr1 hsl hb7 htn hw1 htn1
  by_cases hct : c = t
  · obtain rfl : t = n := by omega
    obtain rfl : c = t := hct
    go_wp2_with (refine wpList_clear2 rfl (.tmp 110) 30 rfl 76 Try.underlying30 _ Try.zeroValue76 rfl zero2 (some ⟨g, 0, none⟩) 0 0 rfl g (c * 2) L2 76 HG3.out (fun h => absurd h (Nat.lt_irrefl 0)) (by rw [HK.out.2.2.2.2.1]; omega) ?_; intro w4 zs hzs2 HG4 only4)
    go_ret
    refine ⟨by rw [← HT.out]; rfl, ON3.out.trans only4, zs ++ (((M ++ (rcells (l.drop j) ++ T)).drop 2).drop (rcells (l.drop j)).length).drop zs.length, ?_, ?_⟩
    · rw [HG4.out, splice_in L2 _ _ zs 0 (c * 2) HK.out.2.2.2.2.2.2.2.2 (by rw [HE.out]; omega)]
      simp
    · have h1 := HK.out.2.2.2.2.1
      rw [HK.out.2.2.2.2.2.2.2.2, List.length_append, HE.out] at h1
      rw [List.length_append, List.length_drop, ← HT.out]
      omega
  · go_wp2_with (refine wpList_clear2 rfl (.tmp 110) 30 rfl 76 Try.underlying30 _ Try.zeroValue76 rfl zero2 (some ⟨g, t * 2, none⟩) (n - t) (c - t) rfl g (t * 2) L2 76 HG3.out (fun _ => rfl) (by rw [HK.out.2.2.2.2.1]; omega) ?_; intro w4 zs hzs2 HG4 only4)
    go_ret
    refine ⟨by rw [HT.out]; rfl, ON3.out.trans only4, zs ++ (((M ++ (rcells (l.drop j) ++ T)).drop 2).drop (rcells (l.drop j)).length).drop zs.length, ?_, ?_⟩
    · rw [HG4.out, splice_in L2 _ _ zs 0 (t * 2) HK.out.2.2.2.2.2.2.2.2 (by rw [HE.out]; omega)]
      simp
    · have h1 := HK.out.2.2.2.2.1
      rw [HK.out.2.2.2.2.2.2.2.2, List.length_append, HE.out] at h1
      rw [List.length_append, List.length_drop, ← HT.out]
      omega

set_option maxHeartbeats 1000000 in
set_option maxRecDepth 100000 in
theorem replace_ins (base vb x1 x2 i : Nat) (v : Value) (l : List (Nat × Nat)) (w : World) (hown : Own2 w base v l) (hi : i ≤ l.length) (hlen : l.length ≤ 1000000) (hb : base ≤ w.heap.size)
    (hx : w.heap[vb]? = some (.cells #[.int .u64 (x1 : Int), .int .u64 (x2 : Int)] 76 (0, 0))) (hne : v.ownBlock ≠ some vb) :
    Calls Try.prog 45 #[v, .int .i64 i, .int .i64 i, .slice (some ⟨vb, 0, none⟩) 1 1] w fun e w' =>
      ∃ v', e = .returned v' ∧ Own2 w' base v' (l.take i ++ (x1, x2) :: l.drop i) ∧ w.grownBy w' v.ownBlock ∧ NewOr w v v' := by
  have hI := insert_any base vb x1 x2 i v l w hown hi hlen hb hx hne
  have hfin : ∀ w' v', Own2 w' base v' (l.take i ++ (x1, x2) :: l.drop i) → ∃ a c, v' = .slice a (l.length + 1) c := fun w' v' h => by
    obtain ⟨a, c, h⟩ := h.rng.slice
    refine ⟨a, c, ?_⟩
    rw [h]; simp; omega
  rcases hown.split with ⟨rfl, rfl⟩ | ⟨g, c, T, rfl, hbg, hg, h1, h2, hT⟩
  · obtain rfl : i = 0 := by simpa using hi
    clear hown hx hne hb
    go_enter Try.func45, Try.ntmps45
    go_wp2_with (go_at_call 57; refine hI.mono ?_; rintro e w' ⟨v', rfl, own, gr, nw⟩; obtain ⟨va, vc, hva⟩ := hfin w' v' own; subst hva)
    go_ret
    exact ⟨_, rfl, own, gr, nw⟩
  · have hc63 : c ≤ 9223372036854775807 := by unfold maxLen at h2; omega
    have hin : (i : Int) ≤ (c : Int) := by omega
    have hic : i ≤ c := by omega
    clear hown hx hne hb hg hT
    go_enter Try.func45, Try.ntmps45
    go_wp2_with (go_at_call 57; refine hI.mono ?_; rintro e w' ⟨v', rfl, own, gr, nw⟩; obtain ⟨va, vc, hva⟩ := hfin w' v' own; subst hva)
    all_goals go_ret
    all_goals exact ⟨_, rfl, own, gr, nw⟩

/-- slices.Replace by one range. -/
theorem replace_any (base vb x1 x2 i j : Nat) (v : Value) (l : List (Nat × Nat)) (w : World) (hown : Own2 w base v l) (hij : i ≤ j) (hj : j ≤ l.length) (hlen : l.length ≤ 1000000) (hb : base ≤ w.heap.size)
    (hx : w.heap[vb]? = some (.cells #[.int .u64 (x1 : Int), .int .u64 (x2 : Int)] 76 (0, 0))) (hne : v.ownBlock ≠ some vb) :
    Calls Try.prog 45 #[v, .int .i64 i, .int .i64 j, .slice (some ⟨vb, 0, none⟩) 1 1] w fun e w' =>
      ∃ v', e = .returned v' ∧ Own2 w' base v' (l.take i ++ (x1, x2) :: l.drop j) ∧ w.grownBy w' v.ownBlock ∧ NewOr w v v' := by
  rcases Nat.eq_or_lt_of_le hij with rfl | hlt
  · exact replace_ins base vb x1 x2 i v l w hown hj hlen hb hx hne
  · rcases hown.split with ⟨rfl, rfl⟩ | ⟨g, c, T, rfl, hbg, hg, h1, h2, hT⟩
    · simp at hj; omega
    · rcases Nat.eq_or_lt_of_le hj with rfl | hlt2
      · refine (replace_end g c i vb x1 x2 l T w hg hlt h1 h2 hT hx).mono ?_
        rintro e w' ⟨rfl, only, T', hg', hT'⟩
        rw [List.drop_length]
        exact ⟨_, rfl, own2_mk hbg hg' (by simp; omega) (by simp; omega) h2 (by rw [hT']; simp; omega), only.grown, .inl rfl⟩
      · refine (replace_mid g c i j vb x1 x2 l T w hg hlt hlt2 h1 h2 hT hlen hx).mono ?_
        rintro e w' ⟨rfl, only, T', hg', hT'⟩
        exact ⟨_, rfl, own2_mk hbg hg' (by simp; omega) (by simp; omega) h2 (by rw [hT']; simp; omega), only.grown, .inl rfl⟩
end Go.Proofs.Ytnlllpgdhnmccaa
