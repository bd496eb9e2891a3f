/-
  THE WALKS of Get and of the document's Get.
-/
import Derived.Test.YtopacoghnofliaaDoorRPut
import Derived.Outline
namespace Go.Proofs.YtopacoghnofliaaDoor
open Go.RowKit


/-- The number that the bytes are, the highest first. -/
def getN (bs : List UInt8) : Nat := bs.foldl (fun a b => a * 256 + b.toNat) 0

theorem getN_snoc (bs : List UInt8) (b : UInt8) : getN (bs ++ [b]) = getN bs * 256 + b.toNat := by simp [getN]

theorem getN_take (bs : List UInt8) (k : Nat) (h : k < bs.length) : getN (bs.take (k + 1)) = getN (bs.take k) * 256 + bs[k].toNat := by
  rw [List.take_succ_eq_append_getElem h, getN_snoc]

theorem getN_lt (bs : List UInt8) : ∀ k : Nat, k ≤ bs.length → getN (bs.take k) < 256 ^ k
  | 0, _ => by simp [getN]
  | k + 1, h => by
    rw [getN_take bs k (by omega), Nat.pow_succ]
    have h1 := getN_lt bs k (by omega)
    have h2 := bs[k].toNat_lt
    omega

theorem getN_lt8 (bs : List UInt8) (k : Nat) (h : k ≤ bs.length) (h8 : k ≤ 7) : getN (bs.take k) < 72057594037927936 :=
  Nat.lt_of_lt_of_le (getN_lt bs k h) (Nat.pow_le_pow_right (by decide) h8)


theorem Holds.slice {w : World} {v : Value} {bs : List UInt8} (h : Holds w v bs) : ∃ a cap, v = .slice a bs.length cap := by
  rcases h with ⟨rfl, rfl⟩ | ⟨a, cap, rfl, _⟩
  · exact ⟨_, _, rfl⟩
  · exact ⟨_, _, rfl⟩

/-- Bytes that are there lie at plain addresses. -/
theorem Holds.at {w : World} {v : Value} {bs : List UInt8} (h : Holds w v bs) (hp : 0 < bs.length) :
    ∃ b off cap, v = .slice (some ⟨b, off, none⟩) bs.length cap ∧ bs.length ≤ cap ∧ cap ≤ maxLen ∧ ∀ j (hj : j < bs.length), w.cell? ⟨b, off + j, none⟩ = some (.int .u8 (bs[j].toNat : Int)) := by
  rcases h with ⟨rfl, rfl⟩ | ⟨a, cap, rfl, h1, h2, h3⟩
  · simp at hp
  · obtain ⟨b, off, spot⟩ := a
    have h0 := h3 0 (.int .u8 (bs[0].toNat : Int)) (by simp [bcells, hp])
    have hspot : spot = none := by simpa [Addr.add] using World.cell?_spot h0
    subst hspot
    refine ⟨b, off, cap, rfl, h1, h2, fun j hj => ?_⟩
    rw [← Go.WideShapes.add_plain]
    exact h3 j _ (by simp [bcells, hj])


theorem or_byte (a : Nat) (b : UInt8) (ha : a < 72057594037927936) : bits .or .u64 ((a : Int) * 256) (IntKind.u64.wrap (b.toNat : Int)) = ((a * 256 + b.toNat : Nat) : Int) := by
  have hb := b.toNat_lt
  have e1 : ((a : Int) * 256) = ((a * 256 : Nat) : Int) := by omega
  have e2 : IntKind.u64.wrap (b.toNat : Int) = (b.toNat : Int) := by rw [IntKind.wrap_u64]; omega
  rw [e1, e2, bits_or_u64_nat _ _ (by omega) (by omega)]
  have h := Nat.two_pow_add_eq_or_of_lt (i := 8) (b := b.toNat) (by omega) a
  rw [show a * 256 = 2 ^ 8 * a by omega, ← h]

theorem add_byte (a : Nat) (b : UInt8) (ha : a < 72057594037927936) : IntKind.u64.wrap ((a : Int) * 256 + IntKind.u64.wrap (b.toNat : Int)) = ((a * 256 + b.toNat : Nat) : Int) := by
  have hb := b.toNat_lt
  rw [IntKind.wrap_u64, IntKind.wrap_u64]; omega


set_option maxHeartbeats 400000 in
theorem get_good (s : Value) (bs : List UInt8) (n : Nat) (w : World) (ht : Tab w) (hs : Holds w s bs) (hg : goodB n = true) (hn : n ≤ bs.length) :
    Calls Tryd.prog 47 #[s, .int .i64 n] w fun e w' => e = .returned (.tuple #[.int .u64 (getN (bs.take n)), .bool true]) ∧ w' = w := by
  have hn' : n = 1 ∨ n = 2 ∨ n = 4 ∨ n = 8 := by unfold goodB at hg; simp at hg; omega
  have hn1 : 1 ≤ n := by omega
  have hn8 : n ≤ 8 := by omega
  clear hn'
  obtain ⟨b, off, cap, rfl, hc1, hc2, hcell⟩ := hs.at (by omega)
  unfold maxLen at hc2
  go_enter Tryd.func47, Tryd.ntmps47
  go_wp2_with (go_at_call 41; refine (goodW_any _ _ ht).mono ?_; rintro e w' ⟨rfl, rfl⟩)
  go_loop [6, 18] (fun x i => ∃ k : Nat, k ≤ n ∧ i = .int .i64 k ∧ x = .int .u64 (getN (bs.take k))) (fun _ i => n - (intOf i).toNat)
  case atStart => exact ⟨0, Nat.zero_le _, rfl, by simp [getN]⟩
  case round =>
    obtain ⟨k, hk, rfl, rfl⟩ := hrel
    by_cases hlt : k < n
    · have hb := getN_lt8 bs k (by omega) (by omega)
      have hc := hcell k (by omega)
      go_wp2
      refine ⟨⟨k + 1, by omega, by go_num, ?_⟩, by simp [intOf]; omega⟩
      rw [or_byte _ _ hb, ← getN_take]
    · go_wp2
      obtain rfl : k = n := by omega
      go_ret2
      exact ⟨rfl, rfl⟩


/-- Too few bytes, or no width. -/
def getB (bs : List UInt8) (n : Int) : Bool := goodB n && decide (n ≤ (bs.length : Int))

theorem get_bad (s : Value) (bs : List UInt8) (n : Int) (w : World) (ht : Tab w) (hs : Holds w s bs) (hg : getB bs n = false) :
    Calls Tryd.prog 47 #[s, .int .i64 n] w fun e w' => e = .returned (.tuple #[.int .u64 0, .bool false]) ∧ w' = w := by
  obtain ⟨a, cap, rfl⟩ := hs.slice
  clear hs
  cases hgd : goodB n
  · go_enter Tryd.func47, Tryd.ntmps47
    go_wp2_with (go_at_call 41; refine (goodW_any _ _ ht).mono ?_; rintro e w' ⟨rfl, rfl⟩)
    go_ret2
    exact ⟨rfl, rfl⟩
  · have hlt : (bs.length : Int) < n := by unfold getB at hg; rw [hgd] at hg; simp at hg; omega
    clear hg
    go_enter Tryd.func47, Tryd.ntmps47
    go_wp2_with (go_at_call 41; refine (goodW_any _ _ ht).mono ?_; rintro e w' ⟨rfl, rfl⟩)
    go_ret2
    exact ⟨rfl, rfl⟩


/-- What Get answers. -/
def getI (bs : List UInt8) (n : Int) : Nat := if getB bs n then getN (bs.take n.toNat) else 0

theorem get_any (s : Value) (bs : List UInt8) (n : Int) (w : World) (ht : Tab w) (hs : Holds w s bs) :
    Calls Tryd.prog 47 #[s, .int .i64 n] w fun e w' => e = .returned (.tuple #[.int .u64 (getI bs n), .bool (getB bs n)]) ∧ w' = w := by
  unfold getI
  cases hg : getB bs n with
  | false => simpa using get_bad s bs n w ht hs hg
  | true =>
    have hg2 : goodB n = true ∧ n ≤ (bs.length : Int) := by unfold getB at hg; simpa using hg
    have hn : n = 1 ∨ n = 2 ∨ n = 4 ∨ n = 8 := by have h := hg2.1; unfold goodB at h; simp at h; omega
    obtain ⟨k, rfl⟩ : ∃ k : Nat, n = k := ⟨n.toNat, by omega⟩
    simpa using get_good s bs k w ht hs hg2.1 (by omega)


set_option maxHeartbeats 400000 in
theorem rget_good (s : Value) (bs : List UInt8) (n : Nat) (w : World) (hs : Holds w s bs) (hg : goodB n = true) (hn : n ≤ bs.length) :
    Calls Tryd.prog 51 #[s, .int .i64 n] w fun e w' => e = .returned (.tuple #[.int .u64 (getN (bs.take n)), .bool true]) ∧ w' = w := by
  have hn' : n = 1 ∨ n = 2 ∨ n = 4 ∨ n = 8 := by unfold goodB at hg; simp at hg; omega
  have hn1 : 1 ≤ n := by omega
  have hn8 : n ≤ 8 := by omega
  clear hn'
  obtain ⟨b, off, cap, rfl, hc1, hc2, hcell⟩ := hs.at (by omega)
  unfold maxLen at hc2
  go_enter Tryd.func51, Tryd.ntmps51
  go_wp2_with (go_at_call 44; refine (rgoodW_any _ _).mono ?_; rintro e w' ⟨rfl, rfl⟩)
  go_loop [6, 7] (fun x i => ∃ k : Nat, k ≤ n ∧ i = .int .i64 k ∧ x = .int .u64 (getN (bs.take k))) (fun _ i => n - (intOf i).toNat)
  case atStart => exact ⟨0, Nat.zero_le _, rfl, by simp [getN]⟩
  case round =>
    obtain ⟨k, hk, rfl, rfl⟩ := hrel
    by_cases hlt : k < n
    · have hb := getN_lt8 bs k (by omega) (by omega)
      have hc := hcell k (by omega)
      go_wp2
      refine ⟨⟨k + 1, by omega, by go_num, ?_⟩, by simp [intOf]; omega⟩
      rw [add_byte _ _ hb, ← getN_take]
    · go_wp2
      obtain rfl : k = n := by omega
      go_ret2
      exact ⟨rfl, rfl⟩

theorem rget_bad (s : Value) (bs : List UInt8) (n : Int) (w : World) (hs : Holds w s bs) (hg : getB bs n = false) :
    Calls Tryd.prog 51 #[s, .int .i64 n] w fun e w' => e = .returned (.tuple #[.int .u64 0, .bool false]) ∧ w' = w := by
  obtain ⟨a, cap, rfl⟩ := hs.slice
  clear hs
  cases hgd : goodB n
  · go_enter Tryd.func51, Tryd.ntmps51
    go_wp2_with (go_at_call 44; refine (rgoodW_any _ _).mono ?_; rintro e w' ⟨rfl, rfl⟩)
    go_ret2
    exact ⟨rfl, rfl⟩
  · have hlt : (bs.length : Int) < n := by unfold getB at hg; rw [hgd] at hg; simp at hg; omega
    clear hg
    go_enter Tryd.func51, Tryd.ntmps51
    go_wp2_with (go_at_call 44; refine (rgoodW_any _ _).mono ?_; rintro e w' ⟨rfl, rfl⟩)
    go_ret2
    exact ⟨rfl, rfl⟩

theorem rget_any (s : Value) (bs : List UInt8) (n : Int) (w : World) (hs : Holds w s bs) :
    Calls Tryd.prog 51 #[s, .int .i64 n] w fun e w' => e = .returned (.tuple #[.int .u64 (getI bs n), .bool (getB bs n)]) ∧ w' = w := by
  unfold getI
  cases hg : getB bs n with
  | false => simpa using rget_bad s bs n w hs hg
  | true =>
    have hg2 : goodB n = true ∧ n ≤ (bs.length : Int) := by unfold getB at hg; simpa using hg
    have hn : n = 1 ∨ n = 2 ∨ n = 4 ∨ n = 8 := by have h := hg2.1; unfold goodB at h; simp at h; omega
    obtain ⟨k, rfl⟩ : ∃ k : Nat, n = k := ⟨n.toNat, by omega⟩
    simpa using rget_good s bs k w hs hg2.1 (by omega)

end Go.Proofs.YtopacoghnofliaaDoor
