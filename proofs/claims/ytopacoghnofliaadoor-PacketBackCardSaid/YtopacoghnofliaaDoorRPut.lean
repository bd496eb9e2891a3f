/-
  THE WALK of the document's Put.
-/
import Derived.Test.YtopacoghnofliaaDoorPut
namespace Go.Proofs.YtopacoghnofliaaDoor
open Go.RowKit


set_option maxHeartbeats 400000 in
theorem rput_good (s : Value) (bs : List UInt8) (n v : Nat) (w : World) (hs : Holds w s bs) (hl : bs.length ≤ 100000000) (hg : goodB n = true) :
    Calls Tryd.prog 28 #[s, .int .i64 n, .int .u64 v] w fun e w' => ∃ v', e = .returned v' ∧ Owns w' w.heap.size 5 v' (bs ++ putL n v) ∧ Below w.heap.size w w' := by
  have hn : n = 1 ∨ n = 2 ∨ n = 4 ∨ n = 8 := by unfold goodB at hg; simp at hg; omega
  have hn1 : 1 ≤ n := by omega
  have hn8 : n ≤ 8 := by omega
  clear hn
  go_enter Tryd.func28, Tryd.ntmps28
  go_wp2_with (first
    | (go_at_call 44; refine (rgoodW_any _ _).mono ?_; rintro e w' ⟨rfl, rfl⟩)
    | (at_builtin; refine wpList_append_bytes rfl _ _ 34 5 isU8W rfl w.heap.size _ _ [] bs rfl rfl (owns_made _ _ _ #[] 0 (Nat.le_refl _) (by unfold maxLen; omega) rfl) (hs.below ((Below.refl _ _).alloc (Nat.le_refl _) _) (Nat.le_refl _)) (by simp; omega) (by simp) ?_; intro v1 w1 own1 bel1 sz1))
  go_loopw [7, 8] (fun o i wr => ∃ k : Nat, k ≤ n ∧ i = .int .i64 ((n : Int) - 1 - k) ∧ Owns wr w.heap.size 5 o (bs ++ (putL n v).take k) ∧ Below w.heap.size w wr ∧ w.heap.size ≤ wr.heap.size) (fun _ i _ => (intOf i + 1).toNat)
  case atStart =>
    refine ⟨0, Nat.zero_le _, by simp, by simpa using own1, ?_, sz1⟩
    exact ((Below.refl _ _).alloc (Nat.le_refl _) _).trans bel1
  case round =>
    obtain ⟨k, hk, rfl, own, bel, sz⟩ := hrel
    have HS : Hid (k < n → (putL n v).take (k + 1) = (putL n v).take k ++ [UInt8.ofNat (v >>> (8 * (n - 1 - k)))]) := putL_succ n v k
    have hlen : (bs ++ (putL n v).take k).length ≤ 100000008 := by simp [putL_length]; omega
    by_cases hlt : k < n
    · have hsh : ((8 * ((n : Int) - 1 - k)) % 18446744073709551616).toNat = 8 * (n - 1 - k) := by omega
      go_wp2_with (at_builtin; refine wpList_append_bytes rfl _ _ 34 5 isU8W rfl w.heap.size _ _ (bs ++ (putL n v).take k) [UInt8.ofNat (v >>> (8 * (n - 1 - k)))] rfl rfl (World.ownsRow.alloc own _) (holds_byte wr _ v _) (by simp only [List.length_singleton]; omega) (by simp; omega) ?_; intro v2 w2 own2 bel2 sz2)
      go_roundw
      case rel =>
        refine ⟨k + 1, by omega, by go_num, ?_, ?_, sz2⟩
        · rw [HS.out hlt, ← List.append_assoc]
          exact own2
        · exact (bel.alloc sz _).trans bel2
      case measure => simp [intOf]; omega
    · go_wp2
      obtain rfl : k = n := by omega
      go_ret
      refine ⟨_, rfl, ?_, bel⟩
      rw [List.take_of_length_le (by rw [putL_length]; omega)] at own
      exact own


theorem rput_bad (s : Value) (bs : List UInt8) (n v : Int) (w : World) (hs : Holds w s bs) (hl : bs.length ≤ 100000000) (hg : goodB n = false) :
    Calls Tryd.prog 28 #[s, .int .i64 n, .int .u64 v] w fun e w' => ∃ v', e = .returned v' ∧ Owns w' w.heap.size 5 v' bs ∧ Below w.heap.size w w' := by
  go_enter Tryd.func28, Tryd.ntmps28
  go_wp2_with (first
    | (go_at_call 44; refine (rgoodW_any _ _).mono ?_; rintro e w' ⟨rfl, rfl⟩)
    | (at_builtin; refine wpList_append_bytes rfl _ _ 34 5 isU8W rfl w.heap.size _ _ [] bs rfl rfl (owns_made _ _ _ #[] 0 (Nat.le_refl _) (by unfold maxLen; omega) rfl) (hs.below ((Below.refl _ _).alloc (Nat.le_refl _) _) (Nat.le_refl _)) (by simp; omega) (by simp) ?_; intro v1 w1 own1 bel1 sz1))
  go_ret
  exact ⟨_, rfl, by simpa using own1, ((Below.refl _ _).alloc (Nat.le_refl _) _).trans bel1⟩


theorem rput_any (s : Value) (bs : List UInt8) (n : Int) (v : Nat) (w : World) (hs : Holds w s bs) (hl : bs.length ≤ 100000000) :
    Calls Tryd.prog 28 #[s, .int .i64 n, .int .u64 v] w fun e w' => ∃ v', e = .returned v' ∧ Owns w' w.heap.size 5 v' (bs ++ putI n v) ∧ Below w.heap.size w w' := by
  unfold putI
  cases hg : goodB n with
  | false => simpa using rput_bad s bs n v w hs hl hg
  | true =>
    have hn : n = 1 ∨ n = 2 ∨ n = 4 ∨ n = 8 := by unfold goodB at hg; simp at hg; omega
    obtain ⟨k, rfl⟩ : ∃ k : Nat, n = k := ⟨n.toNat, by omega⟩
    simpa using rput_good s bs k v w hs hl hg

end Go.Proofs.YtopacoghnofliaaDoor
