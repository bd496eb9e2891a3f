/-
  THE WALKS of Seal and of the document's Seal.
-/
import Derived.Test.YtdbgojmjjkidbaaGreatDoorJCrc
import Derived.Test.YtdbgojmjjkidbaaGreatDoorJLives
import Derived.Laws.CopyOwn
namespace Go.Proofs.YtdbgojmjjkidbaaGreatDoor
open Go.RowKit


theorem Owns.mono {w : World} {b b' : Nat} {e : TypeId} {v : Value} {bs : List UInt8} (h : Owns w b e v bs) (hb : b' ≤ b) : Owns w b' e v bs := by
  refine ⟨h.1, ?_⟩
  rcases h.2 with hn | ⟨g, cap, cur, hv, hbg, rest⟩
  · exact .inl hn
  · exact .inr ⟨g, cap, cur, hv, Nat.le_trans hb hbg, rest⟩

theorem Owns.kept {w w' : World} {b B : Nat} {e : TypeId} {v : Value} {bs : List UInt8} (h : Owns w b e v bs) (hb : Below B w w') (hB : w.heap.size ≤ B) : Owns w' b e v bs := by
  refine ⟨h.1, ?_⟩
  rcases h.2 with hn | ⟨g, cap, cur, hv, hbg, hg, rest⟩
  · exact .inl hn
  · refine .inr ⟨g, cap, cur, hv, hbg, ?_, rest⟩
    rw [hb.block g (by have := (Array.getElem?_eq_some_iff.1 hg).1; omega)]
    exact hg

theorem owns_nil (w : World) (b : Nat) (e : TypeId) : Owns w b e (.slice none 0 0) [] := World.ownsRow_nil _ _ _ _


/-- The count and the bytes. -/
def headL (bs : List UInt8) : List UInt8 := putL 4 bs.length ++ bs

/-- What is sealed. -/
def sealL (bs : List UInt8) : List UInt8 := if bs.length ≤ 1048576 then headL bs ++ putL 4 (crc (headL bs)) else []

theorem headL_length (bs : List UInt8) : (headL bs).length = bs.length + 4 := by simp [headL, putL_length]; omega

theorem sealL_length (bs : List UInt8) (h : bs.length ≤ 1048576) : (sealL bs).length = bs.length + 8 := by simp [sealL, h, headL_length, putL_length]

theorem putI_4 (v : Nat) : putI 4 v = putL 4 v := rfl


set_option maxRecDepth 20000 in
set_option maxHeartbeats 400000 in
theorem seal_any (s : Value) (bs : List UInt8) (w : World) (ht : Tab w) (hs : Holds w s bs) :
    Calls Tryz.prog 62 #[s] w fun e w' => ∃ v, e = .returned v ∧ Owns w' w.heap.size 5 v (sealL bs) ∧ Below w.heap.size w w' := by
  obtain ⟨a, cap, rfl⟩ := hs.slice
  by_cases hl : bs.length ≤ 1048576
  · have hS : sealL bs = headL bs ++ putL 4 (crc (headL bs)) := by unfold sealL; rw [if_pos hl]
    have HS : Hid _ := hS
    have hhl := headL_length bs
    have hclt := crc_lt (headL bs)
    clear hS
    go_enter Tryz.func62, Tryz.ntmps62
    go_wp2_with fail
    refine (put_any _ [] 4 bs.length _ ht (.inl ⟨rfl, rfl⟩) (by simp) (by omega)).mono ?_
    rintro e w1 ⟨v1, rfl, own1, bel1⟩
    have sz1 := bel1.size
    go_wp2_with (at_builtin; refine wpList_append_bytes rfl _ _ 78 5 isU8W rfl w.heap.size _ _ (putL 4 bs.length) bs rfl rfl own1 (hs.below bel1 (Nat.le_refl _)) (by rw [putL_length]; omega) sz1 ?_; intro v2 w2 own2 bel2 sz2)
    refine (sum_any _ (headL bs) _ own2.holds).mono ?_
    rintro e w3 ⟨rfl, rfl⟩
    go_wp2_with fail
    refine (put_any _ (headL bs) 4 (crc (headL bs)) _ (ht.below (bel1.trans bel2) ht.pos) own2.holds (by omega) (by omega)).mono ?_
    rintro e w4 ⟨v4, rfl, own4, bel4⟩
    go_wp2_with fail
    go_ret
    refine ⟨_, rfl, ?_, (bel1.trans bel2).trans (bel4.mono sz2)⟩
    rw [HS.out]
    exact own4.mono sz2
  · have hS : sealL bs = [] := by unfold sealL; rw [if_neg hl]
    go_enter Tryz.func62, Tryz.ntmps62
    go_wp2_with fail
    go_ret
    exact ⟨_, rfl, by rw [hS]; exact owns_nil _ _ _, Below.refl _ _⟩


set_option maxHeartbeats 400000 in
theorem rseal_any (s : Value) (bs : List UInt8) (w : World) (hs : Holds w s bs) :
    Calls Tryz.prog 65 #[s] w fun e w' => ∃ v, e = .returned v ∧ Owns w' w.heap.size 5 v (sealL bs) ∧ Below w.heap.size w w' := by
  obtain ⟨a, cap, rfl⟩ := hs.slice
  by_cases hl : bs.length ≤ 1048576
  · have hS : sealL bs = headL bs ++ putL 4 (crc (headL bs)) := by unfold sealL; rw [if_pos hl]
    have HS : Hid _ := hS
    have hhl := headL_length bs
    have hclt := crc_lt (headL bs)
    clear hS
    go_enter Tryz.func65, Tryz.ntmps65
    go_wp2_with fail
    refine (rput_any _ [] 4 bs.length _ (.inl ⟨rfl, rfl⟩) (by simp)).mono ?_
    rintro e w1 ⟨v1, rfl, own1, bel1⟩
    have sz1 := bel1.size
    go_wp2_with (at_builtin; refine wpList_append_bytes rfl _ _ 78 5 isU8W rfl w.heap.size _ _ (putL 4 bs.length) bs rfl rfl own1 (hs.below bel1 (Nat.le_refl _)) (by rw [putL_length]; omega) sz1 ?_; intro v2 w2 own2 bel2 sz2)
    refine (rsum_any _ (headL bs) _ own2.holds).mono ?_
    rintro e w3 ⟨rfl, rfl⟩
    go_wp2_with fail
    refine (rput_any _ (headL bs) 4 (crc (headL bs)) _ own2.holds (by omega)).mono ?_
    rintro e w4 ⟨v4, rfl, own4, bel4⟩
    go_wp2_with fail
    go_ret
    refine ⟨_, rfl, ?_, (bel1.trans bel2).trans (bel4.mono sz2)⟩
    rw [HS.out]
    exact own4.mono sz2
  · have hS : sealL bs = [] := by unfold sealL; rw [if_neg hl]
    go_enter Tryz.func65, Tryz.ntmps65
    go_wp2_with fail
    go_ret
    exact ⟨_, rfl, by rw [hS]; exact owns_nil _ _ _, Below.refl _ _⟩

end Go.Proofs.YtdbgojmjjkidbaaGreatDoor
