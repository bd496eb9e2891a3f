/-
  PACKAGE span: grown, beside, Add.
-/
import Derived.Test.YtnlllpgdhnmccaaReplace
namespace Go.Proofs.Ytnlllpgdhnmccaa
open Go.RowKit Go.Sort

theorem growL_succ (B : List (Nat × Nat)) (n k : Nat) (h : k < B.length) : growL (B.take (k + 1)) n = (min (growL (B.take k) n).1 B[k].1, max (growL (B.take k) n).2 B[k].2) := by
  unfold growL
  rw [List.take_succ_eq_append_getElem h, List.foldl_append]
  rfl

theorem set2 {w : World} {b : Nat} {u v : Value} {t : TypeId} (u' v' : Value) (h : w.heap[b]? = some (.cells #[u, v] t (0, 0))) : ((w.setCell ⟨b, 0, none⟩ u').setCell ⟨b, 1, none⟩ v').heap[b]? = some (.cells #[u', v'] t (0, 0)) := by
  have h1 := heap_setCell_same w b 0 _ _ u' h
  have h2 := heap_setCell_same (w.setCell ⟨b, 0, none⟩ u') b 1 _ _ v' h1
  simpa using h2
theorem set2_other {w : World} {b k : Nat} (u' v' : Value) (h : k ≠ b) : ((w.setCell ⟨b, 0, none⟩ u').setCell ⟨b, 1, none⟩ v').heap[k]? = w.heap[k]? := by
  rw [heap_setCell_other _ _ _ _ h, heap_setCell_other _ _ _ _ h]

set_option maxHeartbeats 1000000 in
theorem grown_any (v : Value) (B : List (Nat × Nat)) (n : Nat) (w : World) (hr : Rng w v B) (hlen : B.length ≤ 1000000) :
    Calls Try.prog 46 #[v, .int .u64 (n : Int)] w fun e w' => e = .returned (.agg #[.int .u64 ((growL B n).1 : Int), .int .u64 ((growL B n).2 : Int)]) ∧ Below w.heap.size w w' := by
  obtain ⟨a, cap, rfl⟩ := hr.slice
  have HR : Hid (Rng w (.slice a B.length cap) B) := hr
  clear hr
  go_enter Try.func46, Try.ntmps46
  go_wp2
  go_loopw [13] (fun u13 wr => ∃ k : Nat, u13 = .int .i64 k ∧ k ≤ B.length ∧ Hid (Below w.heap.size w wr ∧ wr.heap[w.heap.size]? = some (.cells #[.int .u64 0, .int .u64 0] 76 (0, 0)) ∧ wr.heap[w.heap.size + 1]? = some (.cells #[.int .u64 ((growL (B.take k) n).1 : Int), .int .u64 ((growL (B.take k) n).2 : Int)] 76 (0, 0)))) (fun u13 _ => B.length - (intOf u13).toNat)
  case atStart =>
    refine ⟨0, rfl, Nat.zero_le _, (⟨?_, ?_, ?_⟩ : _ ∧ _ ∧ _)⟩
    · exact ((Below.refl _ _).alloc (Nat.le_refl _) _).alloc (by simp) _
    · rw [Below.heap_alloc _ _ _ (by simp)]; exact heap_alloc_new w _
    · exact heap_alloc2_new w _ _
  case round =>
    obtain ⟨k, rfl, hk, HB⟩ := hrel
    obtain ⟨d0, d1, d2, d3⟩ := cells2 HB.out.2.2
    obtain ⟨e0, e1, e2, e3⟩ := cells2 HB.out.2.1
    have hX : w.heap.size + 1 < wr.heap.size := (Array.getElem?_eq_some_iff.1 HB.out.2.2).1
    by_cases hlt : k < B.length
    · obtain ⟨b, off, cap', hv, _, _, hc⟩ := HR.out.at (by omega)
      injection hv with hv1 _ hv3
      subst hv1 hv3
      obtain ⟨c0, c1⟩ := at_cells hc k hlt
      have hb := World.block_lt_of_cell? w _ c0
      rw [← HB.out.1.cell (p := ⟨b, off + k * 2, none⟩) hb] at c0
      rw [← HB.out.1.cell (p := ⟨b, off + k * 2 + 1, none⟩) hb] at c1
      have hs : Hid _ := growL_succ B n k hlt
      generalize growL (B.take k) n = G at *
      generalize hG' : growL (B.take (k + 1)) n = G' at *
      obtain ⟨y1, y2⟩ := G
      generalize B[k] = r at *
      obtain ⟨r1, r2⟩ := r
      simp only at d0 d1 c0 c1
      clear hc
      go_wp2
      have hm1 : (min (y1 : Int) (r1 : Int)) = ((min y1 r1 : Nat) : Int) := by omega
      have hm2 : (max (y2 : Int) (r2 : Int)) = ((max y2 r2 : Nat) : Int) := by omega
      refine ⟨⟨k + 1, by go_num, by omega, (⟨?_, ?_, ?_⟩ : _ ∧ _ ∧ _)⟩, by simp [intOf]; omega⟩
      · exact ((HB.out.1.setCell (p := ⟨w.heap.size + 1, 0, none⟩) (Nat.le_succ _) _).setCell (p := ⟨w.heap.size + 1, 1, none⟩) (Nat.le_succ _) _).alloc (by have := HB.out.1.size; simpa using this) _
      · rw [Below.heap_alloc _ _ _ (by simp; omega), set2_other _ _ (by omega)]; exact HB.out.2.1
      · rw [Below.heap_alloc _ _ _ (by simp; omega), set2 _ _ HB.out.2.2, hG', hs.out, hm1, hm2]
    · go_wp2
      obtain rfl : k = B.length := by omega
      have hfin := set2 (.int .u64 ((growL (B.take B.length) n).1 : Int)) (.int .u64 ((growL (B.take B.length) n).2 : Int)) HB.out.2.1
      refine bodyPost_ret (results_cell_row rfl _ _ w.heap.size 76 _ (0, 0) _ rfl hfin Try.underlying76 rfl info2) rfl ?_
      rw [List.take_of_length_le (Nat.le_refl _)]
      exact ⟨rfl, (HB.out.1.setCell (p := ⟨w.heap.size, 0, none⟩) (Nat.le_refl _) _).setCell (p := ⟨w.heap.size, 1, none⟩) (Nat.le_refl _) _⟩

set_option maxHeartbeats 400000 in
theorem beside1_any (r1 r2 n bn : Nat) (W : World) (hn : W.cell? ⟨bn, 0, none⟩ = some (.int .u64 (n : Int))) (h1 : 1 ≤ n) (h2 : n < 18446744073709551616) :
    Calls Try.prog 55 #[.agg #[.int .u64 (r1 : Int), .int .u64 (r2 : Int)], .pointer (some ⟨bn, 0, none⟩)] W fun e w' => e = .returned (.bool (decide (n - 1 ≤ r2))) ∧ ∃ q os', w' = grow (W.drewN q) os' := by
  have hb := World.block_lt_of_cell? _ _ hn
  have hw : IntKind.u64.wrap ((n : Int) - 1) = (n : Int) - 1 := by rw [IntKind.wrap_u64]; omega
  have hd : decide (n - 1 ≤ r2) = decide ((n : Int) - 1 ≤ (r2 : Int)) := by rw [decide_eq_decide]; omega
  rw [hd]
  go_enter Try.func55, Try.ntmps55
  go_wp2
  go_ret
  exact ⟨rfl, 0, _, alloc_eq_grow _ _⟩
set_option maxHeartbeats 400000 in
theorem beside2_any (r1 r2 n bn : Nat) (W : World) (hn : W.cell? ⟨bn, 0, none⟩ = some (.int .u64 (n : Int))) (h1 : 1 ≤ r1) (h2 : r1 < 18446744073709551616) :
    Calls Try.prog 56 #[.agg #[.int .u64 (r1 : Int), .int .u64 (r2 : Int)], .pointer (some ⟨bn, 0, none⟩)] W fun e w' => e = .returned (.bool (decide (n < r1 - 1))) ∧ ∃ q os', w' = grow (W.drewN q) os' := by
  have hb := World.block_lt_of_cell? _ _ hn
  have hw : IntKind.u64.wrap ((r1 : Int) - 1) = (r1 : Int) - 1 := by rw [IntKind.wrap_u64]; omega
  have hd : decide (n < r1 - 1) = decide ((n : Int) < (r1 : Int) - 1) := by rw [decide_eq_decide]; omega
  rw [hd]
  go_enter Try.func56, Try.ntmps56
  go_wp2
  go_ret
  exact ⟨rfl, 0, _, alloc_eq_grow _ _⟩

set_option maxHeartbeats 1000000 in
theorem beside_any (B n : Nat) (v : Value) (l : List (Nat × Nat)) (w : World) (hs : SetAt w B v l) (hl : Apart 1 l) (hu : Upto 18446744073709551616 l) (h1 : 1 ≤ n) (h2 : n < 18446744073709551616) (hlen : l.length ≤ 1000000) :
    Calls Try.prog 44 #[.pointer (some ⟨B, 0, none⟩), .int .u64 (n : Int)] w fun e w' => e = .returned (.tuple #[.int .i64 (fromL l n : Nat), .int .i64 (toL l n : Nat)]) ∧ Below w.heap.size w w' := by
  have b0 : Below w.heap.size w (w.alloc (.cells #[.int .u64 (n : Int)] 23)) := (Below.refl _ _).alloc (Nat.le_refl _) _
  have eg1 : ∀ args w, (callFunc 55 args).run Try.prog w = .ok (.enter 55 args) w := enters_of Try.func55 (by kernel_rfl) rfl
  have eg2 : ∀ args w, (callFunc 56 args).run Try.prog w = .ok (.enter 56 args) w := enters_of Try.func56 (by kernel_rfl) rfl
  have cn := cell_new_r w (.int .u64 (n : Int)) 23
  obtain ⟨c0, c1, _, _⟩ := cells2 hs.blk
  have hB := hs.lt
  obtain ⟨a, cap, rfl⟩ := hs.own.rng.slice
  have hf : (l.countP fun r => !decide (n - 1 ≤ r.2)) = fromL l n := by
    unfold fromL; refine List.countP_congr fun r _ => ?_; simp; omega
  have ht : (l.countP fun r => !decide (n < r.1 - 1)) = toL l n := by
    unfold toL; refine List.countP_congr fun r _ => ?_; simp
  have S1 := fun W (hW : Below (w.alloc (.cells #[.int .u64 (n : Int)] 23)).heap.size (w.alloc (.cells #[.int .u64 (n : Int)] 23)) W) => search_any (.slice a l.length cap) l 55 w.heap.size (fun r => decide (n - 1 ≤ r.2)) W ((hs.own.rng.below b0 (Nat.le_refl _)).below hW (Nat.le_refl _)) eg1
    (fun W' hW' r _ => beside1_any r.1 r.2 n w.heap.size W' (by rw [hW'.cell (p := ⟨w.heap.size, 0, none⟩) (by have := hW.size; simp at this ⊢; omega), hW.cell (p := ⟨w.heap.size, 0, none⟩) (by simp)]; exact cn) h1 h2)
    (fun i j hi hj hij h => by have := hl.risingLo hi hj hij; simp at h ⊢; omega) hlen
  have S2 := fun W (hW : Below (w.alloc (.cells #[.int .u64 (n : Int)] 23)).heap.size (w.alloc (.cells #[.int .u64 (n : Int)] 23)) W) => search_any (.slice a l.length cap) l 56 w.heap.size (fun r => decide (n < r.1 - 1)) W ((hs.own.rng.below b0 (Nat.le_refl _)).below hW (Nat.le_refl _)) eg2
    (fun W' hW' r hr => beside2_any r.1 r.2 n w.heap.size W' (by rw [hW'.cell (p := ⟨w.heap.size, 0, none⟩) (by have := hW.size; simp at this ⊢; omega), hW.cell (p := ⟨w.heap.size, 0, none⟩) (by simp)]; exact cn) (hl.lowR hr).1 (by have := hu r hr; have := (hl.lowR hr).2; omega))
    (fun i j hi hj hij h => by have := hl.risingLo hi hj hij; simp at h ⊢; omega) hlen
  rw [hf] at S1
  rw [ht] at S2
  generalize fromL l n = f at *
  generalize toL l n = t at *
  clear hf ht eg1 eg2 cn
  go_enter Try.func44, Try.ntmps44
  go_wp2_with fail
  refine (S1 _ (Below.refl _ _)).mono ?_
  rintro e w1 ⟨rfl, b1⟩
  have c1' : w1.cell? ⟨B, 1, none⟩ = some (.slice a l.length cap) := by rw [b1.cell (p := ⟨B, 1, none⟩) (by simp; omega), b0.cell (p := ⟨B, 1, none⟩) hB]; exact c1
  go_wp2_with fail
  refine (S2 _ b1).mono ?_
  rintro e w2 ⟨rfl, b2⟩
  go_wp2
  go_ret2
  exact ⟨rfl, b0.trans ((b1.trans (b2.mono b1.size)).mono (by simp))⟩
end Go.Proofs.Ytnlllpgdhnmccaa
