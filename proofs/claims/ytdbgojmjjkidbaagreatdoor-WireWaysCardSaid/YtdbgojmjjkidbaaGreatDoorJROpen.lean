/-
  THE WALK of the document's Open.
-/
import Derived.Test.YtdbgojmjjkidbaaGreatDoorJOpen
namespace Go.Proofs.YtdbgojmjjkidbaaGreatDoor
open Go.RowKit


set_option maxHeartbeats 400000 in
theorem ropen_any (s : Value) (bs : List UInt8) (w : World) (hs : Holds w s bs) :
    Calls Tryz.prog 68 #[s] w (Opened w bs) := by
  by_cases h1 : bs.length < 4
  · obtain ⟨a, cap, rfl⟩ := hs.slice
    go_enter Tryz.func68, Tryz.ntmps68
    go_wp2_with fail
    refine (rget4_bad _ bs _ hs h1).mono ?_
    rintro e w1 ⟨rfl, rfl⟩
    go_wp2
    go_ret3
    exact opened_bad w1 bs 8 (errO_short bs h1) (by decide)
  obtain ⟨b, off, cap, rfl, hc1, hc2, hcell⟩ := hs.at (by omega)
  have hc3 : cap ≤ maxLen := hc2
  unfold maxLen at hc2
  have hcnt := cntO_lt bs (by omega)
  have hg1 := rget4_good _ bs w hs (by omega)
  rw [show getN (bs.take 4) = cntO bs from rfl] at hg1
  by_cases h2 : 1048576 < cntO bs
  · go_enter Tryz.func68, Tryz.ntmps68
    go_wp2_with fail
    refine hg1.mono ?_
    rintro e w1 ⟨rfl, rfl⟩
    go_wp2
    go_ret3
    exact opened_bad w1 bs 5 (errO_limit bs h1 h2) (by decide)
  by_cases h3 : bs.length < cntO bs + 8
  · have hend := opened_bad w bs 8 (errO_cut bs h1 h2 h3) (by decide)
    go_enter Tryz.func68, Tryz.ntmps68
    go_wp2_with fail
    refine hg1.mono ?_
    rintro e w1 ⟨rfl, rfl⟩
    go_wp2
    go_ret3
    exact hend
  · have hg2 := rget4_good _ _ w (holds_part hcell (4 + cntO bs) (n := bs.length - (4 + cntO bs)) (cap := cap - (4 + cntO bs)) (by omega) (by omega) (by omega)) (by simp; omega)
    rw [List.take_take, Nat.min_eq_left (by omega), show getN ((bs.drop (4 + cntO bs)).take 4) = bornO bs from rfl] at hg2
    have hs3 := holds_part hcell 0 (n := 4 + cntO bs) (cap := cap) (by omega) (by omega) (by omega)
    rw [List.drop_zero, Nat.add_zero] at hs3
    have hblt : bornO bs < 4294967296 := by
      have := getN_lt (bs.drop (4 + cntO bs)) 4 (by simp; omega)
      exact this
    have hclt := crc_lt (bs.take (4 + cntO bs))
    by_cases h4 : bornO bs = crc (bs.take (4 + cntO bs))
    · obtain ⟨hk1, hk2⟩ := openO_good bs (errO_ok bs h1 h2 h3 h4)
      have hk0 := errO_ok bs h1 h2 h3 h4
      have HK : Hid (contO bs = (bs.drop 4).take (cntO bs) ∧ sizeO bs = cntO bs + 8 ∧ errO bs = 0) := ⟨hk1, hk2, hk0⟩
      clear hk0 hk1 hk2
      have hs4 := holds_part hcell 4 (n := cntO bs) (cap := cap - 4) (by omega) (by omega) (by omega)
      obtain ⟨X, hX⟩ : ∃ X, X = (bs.drop 4).take (cntO bs) := ⟨_, rfl⟩
      have hXl : X.length = cntO bs := by rw [hX]; simp; omega
      rw [← hX] at HK hs4
      clear hX
      have hcut : 4 + cntO bs - 4 = cntO bs := by omega
      go_enter Tryz.func68, Tryz.ntmps68
      go_wp2_with fail
      refine hg1.mono ?_
      rintro e w1 ⟨rfl, rfl⟩
      go_wp2_with fail
      refine hg2.mono ?_
      rintro e w2 ⟨rfl, rfl⟩
      go_wp2_with fail
      refine (rsum_any _ _ _ hs3).mono ?_
      rintro e w3 ⟨rfl, rfl⟩
      have hs5 := hs4.below ((Below.refl w3.heap.size w3).alloc (Nat.le_refl _) (.cells #[] 5)) (Nat.le_refl _)
      go_wp2_with (at_builtin; refine wpList_append_bytes rfl _ _ 78 5 isU8W rfl w3.heap.size _ _ [] X rfl rfl (owns_new _ _ _ [] (Nat.le_refl _) (by simp)) (by rw [hcut]; exact hs5) (by simp; omega) (by simp) ?_; intro v4 w4 own4 bel4 sz4)
      go_ret3
      obtain ⟨k1, k2, k3⟩ := HK.out
      refine ⟨_, by rw [k2, k3]; rfl, ?_, ((Below.refl _ _).alloc (Nat.le_refl _) _).trans bel4⟩
      rw [k1]
      exact own4
    · have hend := opened_bad w bs 7 (errO_sum bs h1 h2 h3 h4) (by decide)
      have hne : ((bornO bs : Int) != (crc (bs.take (4 + cntO bs)) : Int)) = true := by simp; omega
      go_enter Tryz.func68, Tryz.ntmps68
      go_wp2_with fail
      refine hg1.mono ?_
      rintro e w1 ⟨rfl, rfl⟩
      go_wp2_with fail
      refine hg2.mono ?_
      rintro e w2 ⟨rfl, rfl⟩
      go_wp2_with fail
      refine (rsum_any _ _ _ hs3).mono ?_
      rintro e w3 ⟨rfl, rfl⟩
      go_wp2
      go_ret3
      exact hend

end Go.Proofs.YtdbgojmjjkidbaaGreatDoor
