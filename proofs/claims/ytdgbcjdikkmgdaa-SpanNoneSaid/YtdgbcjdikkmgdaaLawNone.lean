/-
  THE LAW SpanNone.
-/
import Derived.Test.YtdgbcjdikkmgdaaLives
import Derived.Test.YtdgbcjdikkmgdaaJoin
namespace Go.Proofs.Ytdgbcjdikkmgdaa
open Go.RowKit

/-- A set that no call made. -/
def Unmade (w : World) (s : Value) : Prop := s = .pointer none ∨ ∃ Z, s = .pointer (some ⟨Z, 0, none⟩) ∧ w.heap[Z]? = some (.cells #[.bool false, .slice none 0 0] 49 (0, 0))
theorem Unmade.lies {w : World} {s : Value} (h : Unmade w s) : Lies w s [] := by
  rcases h with rfl | ⟨Z, rfl, hz⟩
  · exact .inl ⟨rfl, rfl⟩
  · exact .inr ⟨Z, false, _, rfl, hz, rng_nil _⟩
theorem Unmade.below {w w' : World} {s : Value} {B : Nat} (h : Unmade w s) (hb : Below B w w') (hB : w.heap.size ≤ B) : Unmade w' s := by
  rcases h with rfl | ⟨Z, rfl, hz⟩
  · exact .inl rfl
  · exact .inr ⟨Z, rfl, by rw [hb.block Z (by have := (Array.getElem?_eq_some_iff.1 hz).1; omega)]; exact hz⟩

set_option maxHeartbeats 400000 in
theorem addNone_any (s : Value) (n : Nat) (w : World) (h : Unmade w s) :
    Calls Try.prog 11 #[s, .int .u64 (n : Int)] w fun e w' => e = .returned (.bool false) ∧ w' = w := by
  rcases h with rfl | ⟨Z, rfl, hz⟩
  · go_enter Try.func11, Try.ntmps11
    go_wp2
    go_ret
    exact ⟨rfl, rfl⟩
  · obtain ⟨c0, c1, _, _⟩ := cells2 hz
    clear hz
    go_enter Try.func11, Try.ntmps11
    go_wp2
    go_ret
    exact ⟨rfl, rfl⟩

set_option maxHeartbeats 1000000 in
theorem none_law (n : Nat) (w : World) (hn : n < 18446744073709551616) :
    Calls Try.prog 7 #[.int .u64 (n : Int)] w fun e w' => e = .returned (.bool true) ∧ Below w.heap.size w w' := by
  have f0 := fine_nil
  have hnew : newB [] n = decide (0 < n) := by
    unfold newB
    by_cases h : n = 0
    · subst h; rfl
    · simp [memB, h]; omega
  have hcmp : decide ((0 : Int) < (n : Int)) = decide (0 < n) := by simp
  have HA := fun B v W (hW : SetAt W B v []) => add_any B n v [] W hW f0.1 f0.2 hn (by simp)
  rw [hnew] at HA
  have m0 : memB [] n = false := rfl
  have hlow : lowL [] = 0 := rfl
  have htop : topL [] = 0 := rfl
  have hgap : gapsL [] = 0 := rfl
  have i0 : ∀ W, (Instr.index 50 (.agg #[.pointer none, .pointer (some ⟨w.heap.size, 0, none⟩)]) (.int .i64 0)).run Try.prog W = .ok (.pointer none) W := fun W => by kernel_rfl
  have i1 : ∀ W, (Instr.index 50 (.agg #[.pointer none, .pointer (some ⟨w.heap.size, 0, none⟩)]) (.int .i64 1)).run Try.prog W = .ok (.pointer (some ⟨w.heap.size, 0, none⟩)) W := fun W => by kernel_rfl
  go_enter Try.func7, Try.ntmps7
  go_wp2
  go_loopw [8] (fun u8 wr => ∃ k : Int, u8 = .int .i64 k ∧ (k = 0 ∨ k = 1 ∨ k = 2) ∧ Hid (Below w.heap.size w wr ∧ wr.heap[w.heap.size]? = some (.cells #[.bool false, .slice none 0 0] 49 (0, 0)))) (fun u8 _ => 2 - (intOf u8).toNat)
  case atStart => exact ⟨0, rfl, .inl rfl, (⟨(Below.refl _ _).alloc (Nat.le_refl _) _, heap_alloc_new w _⟩ : _ ∧ _)⟩
  case round =>
    obtain ⟨k, rfl, hk, HB⟩ := hrel
    rcases hk with rfl | rfl | rfl
    · skip
      have U0 : Unmade wr (.pointer none) := .inl rfl
      go_wp2_with fail
      refine (addNone_any _ n wr U0).mono ?_
      rintro e w' ⟨rfl, rfl⟩
      go_wp2_with fail
      refine (has_any _ [] n _ U0.lies f0.1 (by simp)).mono ?_
      rw [m0]
      rintro e w1 ⟨rfl, b1⟩
      have U1 := U0.below b1 (Nat.le_refl _)
      go_wp2_with fail
      refine (low_any _ [] _ U1.lies).mono ?_
      rintro e w' ⟨rfl, rfl⟩
      go_wp2_with fail
      refine (top_any _ [] _ U1.lies).mono ?_
      rintro e w' ⟨rfl, rfl⟩
      rw [htop]
      go_wp2_with fail
      refine (gaps_any _ [] _ U1.lies f0.1).mono ?_
      rintro e w' ⟨rfl, rfl⟩
      rw [hgap]
      go_wp2_with fail
      refine (ranges_any _ [] _ U1.lies (by simp)).mono ?_
      rintro e w2 ⟨v2, rfl, o2, b2⟩
      have U2 := U1.below b2 (Nat.le_refl _)
      obtain ⟨a2, c2, hv2⟩ : ∃ a c, v2 = .slice a 0 c := o2.rng.slice
      subst hv2
      go_wp2_with fail
      refine (copy_any _ [] _ U2.lies (by simp)).mono ?_
      rintro e w3 ⟨C, vC, rfl, s3, fr3, b3⟩
      have U3 := U2.below b3 (Nat.le_refl _)
      go_wp2_with fail
      refine (HA C vC w3 s3).mono ?_
      rintro e w4 ⟨rfl, v4, s4, t4, n4⟩
      have b03 : Below w.heap.size w w3 := ((HB.out.1.trans (b1.mono HB.out.1.size)).trans (b2.mono (Nat.le_trans HB.out.1.size b1.size))).trans (b3.mono (Nat.le_trans (Nat.le_trans HB.out.1.size b1.size) b2.size))
      have hz3 : w.heap.size ≤ w2.heap.size := Nat.le_trans (Nat.le_trans HB.out.1.size b1.size) b2.size
      have hzz : w3.heap[w.heap.size]? = some (.cells #[.bool false, .slice none 0 0] 49 (0, 0)) := by
        have hl0 := (Array.getElem?_eq_some_iff.1 HB.out.2).1
        rw [b3.block _ (by have := b1.size; have := b2.size; omega), b2.block _ (by have := b1.size; omega), b1.block _ hl0]; exact HB.out.2
      have hlt3 : w.heap.size < w2.heap.size := by
        have hl0 := (Array.getElem?_eq_some_iff.1 HB.out.2).1
        have := b1.size; have := b2.size; omega
      have b34 : Below w2.heap.size w3 w4 := ⟨t4.os, t4.tape, t4.output, t4.size, fun k hk => t4.block k (by have := b3.size; omega) (by have := fr3.1; omega) (fun he => by have := fr3.2 k he; omega)⟩
      have b04 : Below w.heap.size w w4 := b03.trans (b34.mono hz3)
      have hz4 : w4.heap[w.heap.size]? = some (.cells #[.bool false, .slice none 0 0] 49 (0, 0)) := by rw [b34.block _ hlt3]; exact hzz
      have U4 : Unmade w4 (.pointer none) := .inl rfl
      clear s3 fr3 t4 n4 U2 U1 U0 U3 b1 b2 b3
      go_wp2_with fail
      refine (join_any _ (.pointer none) [] [] w4 U4.lies (.inl ⟨rfl, rfl⟩) f0 f0 (by simp)).mono ?_
      rintro e w5 ⟨J, vJ, lj, rfl, _, _, b5, _⟩
      go_wp2
      refine ⟨⟨1, rfl, .inr (.inl rfl), (⟨b04.trans (b5.mono b04.size), by rw [b5.block _ (Array.getElem?_eq_some_iff.1 hz4).1]; exact hz4⟩ : _ ∧ _)⟩, by simp [intOf]⟩
    · skip
      have U0 : Unmade wr (Value.pointer (some ⟨w.heap.size, 0, none⟩)) := .inr ⟨w.heap.size, rfl, HB.out.2⟩
      go_wp2_with fail
      refine (addNone_any _ n wr U0).mono ?_
      rintro e w' ⟨rfl, rfl⟩
      go_wp2_with fail
      refine (has_any _ [] n _ U0.lies f0.1 (by simp)).mono ?_
      rw [m0]
      rintro e w1 ⟨rfl, b1⟩
      have U1 := U0.below b1 (Nat.le_refl _)
      go_wp2_with fail
      refine (low_any _ [] _ U1.lies).mono ?_
      rintro e w' ⟨rfl, rfl⟩
      go_wp2_with fail
      refine (top_any _ [] _ U1.lies).mono ?_
      rintro e w' ⟨rfl, rfl⟩
      rw [htop]
      go_wp2_with fail
      refine (gaps_any _ [] _ U1.lies f0.1).mono ?_
      rintro e w' ⟨rfl, rfl⟩
      rw [hgap]
      go_wp2_with fail
      refine (ranges_any _ [] _ U1.lies (by simp)).mono ?_
      rintro e w2 ⟨v2, rfl, o2, b2⟩
      have U2 := U1.below b2 (Nat.le_refl _)
      obtain ⟨a2, c2, hv2⟩ : ∃ a c, v2 = .slice a 0 c := o2.rng.slice
      subst hv2
      go_wp2_with fail
      refine (copy_any _ [] _ U2.lies (by simp)).mono ?_
      rintro e w3 ⟨C, vC, rfl, s3, fr3, b3⟩
      have U3 := U2.below b3 (Nat.le_refl _)
      go_wp2_with fail
      refine (HA C vC w3 s3).mono ?_
      rintro e w4 ⟨rfl, v4, s4, t4, n4⟩
      have b03 : Below w.heap.size w w3 := ((HB.out.1.trans (b1.mono HB.out.1.size)).trans (b2.mono (Nat.le_trans HB.out.1.size b1.size))).trans (b3.mono (Nat.le_trans (Nat.le_trans HB.out.1.size b1.size) b2.size))
      have hz3 : w.heap.size ≤ w2.heap.size := Nat.le_trans (Nat.le_trans HB.out.1.size b1.size) b2.size
      have hzz : w3.heap[w.heap.size]? = some (.cells #[.bool false, .slice none 0 0] 49 (0, 0)) := by
        have hl0 := (Array.getElem?_eq_some_iff.1 HB.out.2).1
        rw [b3.block _ (by have := b1.size; have := b2.size; omega), b2.block _ (by have := b1.size; omega), b1.block _ hl0]; exact HB.out.2
      have hlt3 : w.heap.size < w2.heap.size := by
        have hl0 := (Array.getElem?_eq_some_iff.1 HB.out.2).1
        have := b1.size; have := b2.size; omega
      have b34 : Below w2.heap.size w3 w4 := ⟨t4.os, t4.tape, t4.output, t4.size, fun k hk => t4.block k (by have := b3.size; omega) (by have := fr3.1; omega) (fun he => by have := fr3.2 k he; omega)⟩
      have b04 : Below w.heap.size w w4 := b03.trans (b34.mono hz3)
      have hz4 : w4.heap[w.heap.size]? = some (.cells #[.bool false, .slice none 0 0] 49 (0, 0)) := by rw [b34.block _ hlt3]; exact hzz
      have U4 : Unmade w4 (Value.pointer (some ⟨w.heap.size, 0, none⟩)) := .inr ⟨w.heap.size, rfl, hz4⟩
      clear s3 fr3 t4 n4 U2 U1 U0 U3 b1 b2 b3
      go_wp2_with fail
      refine (join_any _ (.pointer none) [] [] w4 U4.lies (.inl ⟨rfl, rfl⟩) f0 f0 (by simp)).mono ?_
      rintro e w5 ⟨J, vJ, lj, rfl, _, _, b5, _⟩
      go_wp2
      refine ⟨⟨2, rfl, .inr (.inr rfl), (⟨b04.trans (b5.mono b04.size), by rw [b5.block _ (Array.getElem?_eq_some_iff.1 hz4).1]; exact hz4⟩ : _ ∧ _)⟩, by simp [intOf]⟩
    · go_wp2_with (go_at_call 9; refine (lives_any _).mono ?_; rintro e w' ⟨rfl, b⟩)
      go_ret
      exact ⟨rfl, HB.out.1.trans (b.mono HB.out.1.size)⟩
end Go.Proofs.Ytdgbcjdikkmgdaa
