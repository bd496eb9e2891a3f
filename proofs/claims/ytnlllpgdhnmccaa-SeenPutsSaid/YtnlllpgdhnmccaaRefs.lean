/-
  THE DOCUMENT's ANSWERS that only read, by their contracts.
-/
import Derived.Test.YtnlllpgdhnmccaaPairs
import Derived.Test.YtnlllpgdhnmccaaPuts
import Derived.Laws.StructEq
namespace Go.Proofs.Ytnlllpgdhnmccaa
open Go.RowKit

theorem topL_at {l : List (Nat × Nat)} {k : Nat} (hk : l.length = k + 1) : topL l = (l[k]'(by omega)).2 := by
  have h : l.getLast? = some (l[k]'(by omega)) := by
    rw [List.getLast?_eq_getElem?, show l.length - 1 = k by omega, List.getElem?_eq_getElem (by omega)]
  unfold topL
  rw [h]
theorem lowL_at {l : List (Nat × Nat)} (hp : 0 < l.length) : lowL l = if l[0].1 = 1 then l[0].2 else 0 := by
  cases l with
  | nil => simp at hp
  | cons r t => rfl

set_option maxHeartbeats 400000 in
theorem rlow_any (v : Value) (l : List (Nat × Nat)) (w : World) (hr : Rng w v l) :
    Calls Try.prog 31 #[v] w fun e w' => e = .returned (.int .u64 (lowL l : Nat)) ∧ w' = w := by
  by_cases hp : 0 < l.length
  · obtain ⟨b, off, cap, rfl, h1, h2, hc⟩ := hr.at hp
    obtain ⟨c0, c1⟩ := at_cells hc 0 hp
    rw [Nat.zero_mul, Nat.add_zero] at c0 c1
    rw [lowL_at hp]
    generalize l[0].1 = lo at c0 c1 ⊢
    generalize l[0].2 = hi at c1 ⊢
    have hk2 : l.length ≤ 9223372036854775807 := by unfold maxLen at h2; omega
    clear hc hr
    generalize l.length = n at *
    by_cases h1 : lo = 1
    · subst h1
      go_enter Try.func31, Try.ntmps31
      go_wp2
      go_ret
      exact ⟨rfl, rfl⟩
    · have hne : ¬ ((lo : Int) = 1) := by omega
      rw [if_neg h1]
      go_enter Try.func31, Try.ntmps31
      go_wp2
      go_ret
      exact ⟨rfl, rfl⟩
  · obtain rfl : l = [] := List.eq_nil_of_length_eq_zero (by omega)
    obtain ⟨a, cap, rfl⟩ := hr.slice
    simp only [List.length_nil]
    go_enter Try.func31, Try.ntmps31
    go_wp2
    go_ret
    exact ⟨rfl, rfl⟩

theorem gapsL_succ (l : List (Nat × Nat)) (k : Nat) (h : k < l.length) : gapsL (l.take (k + 1)) = gapsL (l.take k) + if l[k].1 = 1 then 0 else 1 := by
  unfold gapsL
  rw [List.take_succ_eq_append_getElem h, List.countP_append]
  by_cases h1 : l[k].1 = 1 <;> simp [h1]

set_option maxHeartbeats 400000 in
theorem rgaps_any (v : Value) (l : List (Nat × Nat)) (w : World) (hr : Rng w v l) :
    Calls Try.prog 32 #[v] w fun e w' => e = .returned (.int .i64 (gapsL l : Nat)) ∧ Below w.heap.size w w' := by
  by_cases hp : 0 < l.length
  · obtain ⟨b, off, cap, rfl, h1, h2, hc⟩ := hr.at hp
    have hk2 : l.length ≤ 9223372036854775807 := by unfold maxLen at h2; omega
    have hC : Hid (∀ j u, (rcells l)[j]? = some u → w.cell? ⟨b, off + j, none⟩ = some u) := hc
    have hG : Hid (gapsL l ≤ l.length) := gapsL_le l
    clear hc hr
    generalize hg : gapsL l = G at hG ⊢
    have HG : Hid (gapsL l = G) := hg
    clear hg
    go_enter Try.func32, Try.ntmps32
    go_wp2
    go_loopw [3, 8] (fun u3 u8 wr => ∃ k : Nat, u8 = .int .i64 k ∧ u3 = .int .i64 (gapsL (l.take k) : Nat) ∧ k ≤ l.length ∧ Hid (Below w.heap.size w wr)) (fun _ u8 _ => l.length - (intOf u8).toNat)
    case atStart => exact ⟨0, rfl, rfl, Nat.zero_le _, Below.refl _ _⟩
    case round =>
      obtain ⟨k, rfl, rfl, hk, HB⟩ := hrel
      by_cases hlt : k < l.length
      · obtain ⟨c0, c1⟩ := at_cells hC.out k hlt
        have hb := World.block_lt_of_cell? w _ c0
        rw [← HB.out.cell (p := ⟨b, off + k * 2, none⟩) hb] at c0
        rw [← HB.out.cell (p := ⟨b, off + k * 2 + 1, none⟩) hb] at c1
        generalize hl0 : l[k].1 = lo at c0
        generalize l[k].2 = hi at c1
        have hs := gapsL_succ l k hlt
        rw [hl0] at hs
        by_cases h1 : lo = 1
        · subst h1
          have hs' : Hid (gapsL (l.take (k + 1)) = gapsL (l.take k)) := (by simpa using hs : gapsL (l.take (k + 1)) = gapsL (l.take k))
          clear hs
          go_wp2
          exact ⟨⟨k + 1, by go_num, by rw [hs'.out], by omega, HB.out.alloc HB.out.size _⟩, by simp [intOf]; omega⟩
        · have hne : ¬ ((lo : Int) = 1) := by omega
          have hs' : Hid (gapsL (l.take (k + 1)) = gapsL (l.take k) + 1) := (by simpa [h1] using hs : gapsL (l.take (k + 1)) = gapsL (l.take k) + 1)
          have hle := gapsL_le (l.take k)
          rw [List.length_take] at hle
          clear hs
          go_wp2
          refine ⟨⟨k + 1, by go_num, ?_, by omega, HB.out.alloc HB.out.size _⟩, by simp [intOf]; omega⟩
          rw [hs'.out]
          go_num
      · go_wp2
        obtain rfl : k = l.length := by omega
        go_ret
        exact ⟨ret_int (by rw [List.take_of_length_le (Nat.le_refl _), HG.out]), HB.out⟩
  · obtain rfl : l = [] := List.eq_nil_of_length_eq_zero (by omega)
    obtain ⟨a, cap, rfl⟩ := hr.slice
    simp only [List.length_nil]
    go_enter Try.func32, Try.ntmps32
    go_wp2
    go_rounds 1
    go_ret
    exact ⟨rfl, Below.refl _ _⟩

theorem memB_succ (l : List (Nat × Nat)) (k n : Nat) (h : k < l.length) : memB (l.take (k + 1)) n = (memB (l.take k) n || (decide (l[k].1 ≤ n) && decide (n ≤ l[k].2))) := by
  unfold memB
  rw [List.take_succ_eq_append_getElem h, List.any_append]
  simp
theorem memB_of_take {l : List (Nat × Nat)} {k n : Nat} (h : k < l.length) (h1 : l[k].1 ≤ n) (h2 : n ≤ l[k].2) : memB l n = true := by
  rw [memB_iff]
  exact ⟨l[k], List.getElem_mem h, h1, h2⟩

set_option maxHeartbeats 400000 in
theorem rhas_any (v : Value) (l : List (Nat × Nat)) (n : Nat) (w : World) (hr : Rng w v l) :
    Calls Try.prog 34 #[v, .int .u64 n] w fun e w' => e = .returned (.bool (memB l n)) ∧ Below w.heap.size w w' := by
  by_cases hp : 0 < l.length
  · obtain ⟨b, off, cap, rfl, h1, h2, hc⟩ := hr.at hp
    have hk2 : l.length ≤ 9223372036854775807 := by unfold maxLen at h2; omega
    have hC : Hid (∀ j u, (rcells l)[j]? = some u → w.cell? ⟨b, off + j, none⟩ = some u) := hc
    clear hc hr
    generalize hg : memB l n = G
    have HG : Hid (memB l n = G) := hg
    clear hg
    go_enter Try.func34, Try.ntmps34
    go_wp2
    go_loopw [9] (fun u9 wr => ∃ k : Nat, u9 = .int .i64 k ∧ k ≤ l.length ∧ Hid (memB (l.take k) n = false ∧ Below w.heap.size w wr)) (fun u9 _ => l.length - (intOf u9).toNat)
    case atStart => exact ⟨0, rfl, Nat.zero_le _, (⟨by simp [memB], Below.refl _ _⟩ : _ ∧ _)⟩
    case round =>
      obtain ⟨k, rfl, hk, HB⟩ := hrel
      by_cases hlt : k < l.length
      · obtain ⟨c0, c1⟩ := at_cells hC.out k hlt
        have hb := World.block_lt_of_cell? w _ c0
        rw [← HB.out.2.cell (p := ⟨b, off + k * 2, none⟩) hb] at c0
        rw [← HB.out.2.cell (p := ⟨b, off + k * 2 + 1, none⟩) hb] at c1
        have hsucc : Hid _ := memB_succ l k n hlt
        have hfound : Hid (l[k].1 ≤ n → n ≤ l[k].2 → memB l n = true) := memB_of_take hlt
        generalize l[k].1 = lo at c0 hsucc hfound
        generalize l[k].2 = hi at c1 hsucc hfound
        by_cases g1 : lo ≤ n
        · have g1' : (lo : Int) ≤ (n : Int) := by omega
          by_cases g2 : n ≤ hi
          · have g2' : (n : Int) ≤ (hi : Int) := by omega
            go_wp2
            go_ret
            exact ⟨ret_bool (by rw [← HG.out, hfound.out g1 g2]), HB.out.2.alloc HB.out.2.size _⟩
          · have g2' : ¬ (n : Int) ≤ (hi : Int) := by omega
            go_wp2
            exact ⟨⟨k + 1, by go_num, by omega, (⟨by rw [hsucc.out, HB.out.1]; simp [g2], HB.out.2.alloc HB.out.2.size _⟩ : _ ∧ _)⟩, by simp [intOf]; omega⟩
        · have g1' : ¬ (lo : Int) ≤ (n : Int) := by omega
          go_wp2
          exact ⟨⟨k + 1, by go_num, by omega, (⟨by rw [hsucc.out, HB.out.1]; simp [g1], HB.out.2.alloc HB.out.2.size _⟩ : _ ∧ _)⟩, by simp [intOf]; omega⟩
      · go_wp2
        obtain rfl : k = l.length := by omega
        go_ret
        exact ⟨ret_bool (by rw [← HG.out, ← HB.out.1, List.take_of_length_le (Nat.le_refl _)]), HB.out.2⟩
  · obtain rfl : l = [] := List.eq_nil_of_length_eq_zero (by omega)
    obtain ⟨a, cap, rfl⟩ := hr.slice
    simp only [List.length_nil]
    go_enter Try.func34, Try.ntmps34
    go_wp2
    go_rounds 1
    go_ret
    exact ⟨rfl, Below.refl _ _⟩
end Go.Proofs.Ytnlllpgdhnmccaa
