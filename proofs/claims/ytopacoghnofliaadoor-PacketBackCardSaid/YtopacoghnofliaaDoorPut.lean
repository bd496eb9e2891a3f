/-
  THE WALK of Put: a number behind bytes.
-/
import Derived.Test.YtopacoghnofliaaDoorWalks
import Derived.Outline
namespace Go.Proofs.YtopacoghnofliaaDoor
open Go.RowKit


theorem isU8W : U8 Tryd.prog 34 5 := by
  have hinfo : (Tryd.prog.info? 5).map (fun i => (i.zero, i.size, i.bytes)) = some (some (.int .u8 0), 1, 1) := by kernel_rfl
  obtain ⟨i0, hi, hz0, hz1, hz2⟩ := info_parts hinfo
  exact ⟨Tryd.underlying34, Tryd.underlying5, i0, hi, hz0, hz1, hz2⟩


/-- The n lowest bytes of v, the highest first. -/
def putL (n v : Nat) : List UInt8 := (List.range n).map fun i => UInt8.ofNat (v >>> (8 * (n - 1 - i)))

theorem putL_length (n v : Nat) : (putL n v).length = n := by simp [putL]

theorem putL_succ (n v k : Nat) (h : k < n) : (putL n v).take (k + 1) = (putL n v).take k ++ [UInt8.ofNat (v >>> (8 * (n - 1 - k)))] := by
  rw [List.take_succ_eq_append_getElem (by simpa [putL] using h)]
  simp [putL]


theorem shr_byte (v m : Nat) : UInt8.ofNat (((v : Int) / 2 ^ m % 256).toNat) = UInt8.ofNat (v >>> m) := by
  have : ((v : Int) / 2 ^ m % 256).toNat = v / 2 ^ m % 256 := by
    have h : ((v : Int) / 2 ^ m % 256) = ((v / 2 ^ m % 256 : Nat) : Int) := by
      rw [Int.natCast_emod, Int.natCast_ediv, Int.natCast_pow]; rfl
    rw [h, Int.toNat_natCast]
  rw [this, Nat.shiftRight_eq_div_pow]
  apply UInt8.toNat_inj.1
  rw [UInt8.toNat_ofNat', UInt8.toNat_ofNat']
  generalize v / 2 ^ m = q
  omega

theorem holds_byte (w : World) (e : TypeId) (v m : Nat) :
    Holds (w.alloc (.cells #[.int .u8 ((v : Int) / 2 ^ m % 256)] e)) (.slice (some ⟨w.heap.size, 0, none⟩) 1 1) [UInt8.ofNat (v >>> m)] := by
  rw [← shr_byte]
  exact holds_one w e _ (Int.emod_nonneg _ (by decide)) (Int.emod_lt_of_pos _ (by decide))


set_option maxHeartbeats 400000 in
theorem put_good (s : Value) (bs : List UInt8) (n v : Nat) (w : World) (ht : Tab w) (hs : Holds w s bs) (hl : bs.length ≤ 100000000) (hg : goodB n = true) (_hv : v < 18446744073709551616) :
    Calls Tryd.prog 25 #[s, .int .i64 n, .int .u64 v] w fun e w' => ∃ v', e = .returned v' ∧ Owns w' w.heap.size 5 v' (bs ++ putL n v) ∧ Below w.heap.size w w' := by
  have hn : n = 1 ∨ n = 2 ∨ n = 4 ∨ n = 8 := by unfold goodB at hg; simp at hg; omega
  have hn8 : n ≤ 8 := by omega
  obtain ⟨C, hmk, hC⟩ := run_make_bytes (P := Tryd.prog) w 34 5 isU8W (bs.length + n) (by omega)
  rw [show ((bs.length + n : Nat) : Int) = (bs.length : Int) + (n : Int) by omega] at hmk
  have hlen : ∃ a cap, s = .slice a bs.length cap := by
    rcases hs with ⟨rfl, rfl⟩ | ⟨a, cap, rfl, _⟩
    · exact ⟨_, _, rfl⟩
    · exact ⟨_, _, rfl⟩
  obtain ⟨a, cap, rfl⟩ := hlen
  clear hn
  go_enter Tryd.func25, Tryd.ntmps25
  go_wp2_with (first
    | (go_at_call 41; refine (goodW_any _ _ ht).mono ?_; rintro e w' ⟨rfl, rfl⟩)
    | (at_builtin; refine wpList_append_bytes rfl _ _ 34 5 isU8W rfl w'.heap.size _ _ [] bs rfl rfl (owns_made _ _ _ _ _ (Nat.le_refl _) (by unfold maxLen; omega) hC) (hs.below ((Below.refl _ _).alloc (Nat.le_refl _) _) (Nat.le_refl _)) (by simp; omega) (by simp) ?_; intro v1 w1 own1 bel1 sz1))
  go_loopw [7, 21] (fun o i wr => ∃ k : Nat, k ≤ n ∧ i = .int .i64 k ∧ Owns wr w'.heap.size 5 o (bs ++ (putL n v).take k) ∧ Below w'.heap.size w' wr ∧ w'.heap.size ≤ wr.heap.size) (fun _ i _ => n - (intOf i).toNat)
  case atStart => 
    refine ⟨0, Nat.zero_le _, rfl, by simpa using own1, ?_, sz1⟩
    exact ((Below.refl _ _).alloc (Nat.le_refl _) _).trans bel1
  case round =>
    obtain ⟨k, hk, rfl, own, bel, sz⟩ := hrel
    have hsucc : k < n → (putL n v).take (k + 1) = (putL n v).take k ++ [UInt8.ofNat (v >>> (8 * (n - 1 - k)))] := putL_succ n v k
    have hlen : (bs ++ (putL n v).take k).length ≤ 100000008 := by simp [putL_length]; omega
    have HS : Hid _ := hsucc
    clear hsucc
    by_cases hlt : k < n
    · go_wp2_with (at_builtin; refine wpList_append_bytes rfl _ _ 34 5 isU8W rfl w'.heap.size _ _ (bs ++ (putL n v).take k) [UInt8.ofNat (v >>> (8 * (n - 1 - k)))] rfl rfl (World.ownsRow.alloc own _) (holds_byte wr _ v _) (by simp only [List.length_singleton]; omega) (by simp; omega) ?_; intro v2 w2 own2 bel2 sz2)
      go_roundw
      case rel =>
        refine ⟨k + 1, by omega, by go_num, ?_, ?_, sz2⟩
        · rw [HS.out hlt, ← List.append_assoc]
          exact own2
        · exact (bel.alloc sz _).trans bel2
      case measure => simp [intOf]; omega
    · go_wp2
      obtain rfl : k = n := by omega
      go_ret
      refine ⟨_, rfl, ?_, bel⟩
      rw [List.take_of_length_le (by rw [putL_length]; omega)] at own
      exact own


theorem put_bad (s : Value) (bs : List UInt8) (n v : Int) (w : World) (ht : Tab w) (hs : Holds w s bs) (hl : bs.length ≤ 100000000) (hg : goodB n = false) :
    Calls Tryd.prog 25 #[s, .int .i64 n, .int .u64 v] w fun e w' => ∃ v', e = .returned v' ∧ Owns w' w.heap.size 5 v' bs ∧ Below w.heap.size w w' := by
  obtain ⟨C, hmk, hC⟩ := run_make_bytes (P := Tryd.prog) w 34 5 isU8W bs.length (by omega)
  have hlen : ∃ a cap, s = .slice a bs.length cap := by
    rcases hs with ⟨rfl, rfl⟩ | ⟨a, cap, rfl, _⟩
    · exact ⟨_, _, rfl⟩
    · exact ⟨_, _, rfl⟩
  obtain ⟨a, cap, rfl⟩ := hlen
  go_enter Tryd.func25, Tryd.ntmps25
  go_wp2_with (first
    | (go_at_call 41; refine (goodW_any _ _ ht).mono ?_; rintro e w' ⟨rfl, rfl⟩)
    | (at_builtin; refine wpList_append_bytes rfl _ _ 34 5 isU8W rfl w'.heap.size _ _ [] bs rfl rfl (owns_made _ _ _ _ _ (Nat.le_refl _) (by unfold maxLen; omega) hC) (hs.below ((Below.refl _ _).alloc (Nat.le_refl _) _) (Nat.le_refl _)) (by simp; omega) (by simp) ?_; intro v1 w1 own1 bel1 sz1))
  go_rounds 1
  go_ret
  exact ⟨_, rfl, by simpa using own1, ((Below.refl _ _).alloc (Nat.le_refl _) _).trans bel1⟩


/-- The bytes of a number of a width; none where it is no width. -/
def putI (n : Int) (v : Nat) : List UInt8 := if goodB n then putL n.toNat v else []


theorem put_any (s : Value) (bs : List UInt8) (n : Int) (v : Nat) (w : World) (ht : Tab w) (hs : Holds w s bs) (hl : bs.length ≤ 100000000) (hv : v < 18446744073709551616) :
    Calls Tryd.prog 25 #[s, .int .i64 n, .int .u64 v] w fun e w' => ∃ v', e = .returned v' ∧ Owns w' w.heap.size 5 v' (bs ++ putI n v) ∧ Below w.heap.size w w' := by
  unfold putI
  cases hg : goodB n with
  | false => simpa using put_bad s bs n v w ht hs hl hg
  | true =>
    have hn : n = 1 ∨ n = 2 ∨ n = 4 ∨ n = 8 := by unfold goodB at hg; simp at hg; omega
    obtain ⟨k, rfl⟩ : ∃ k : Nat, n = k := ⟨n.toNat, by omega⟩
    simpa using put_good s bs k v w ht hs hl hg hv


end Go.Proofs.YtopacoghnofliaaDoor
