/-
  THE DOCUMENT's find, by its contract.
-/
import Derived.Test.YtndinjekocgjhaaRefS
namespace Go.Proofs.Ytndinjekocgjhaa
open Go.RowKit

/-- A name's place in a directory; below 0: none. -/
def posE (l : List En) (n : ByteArray) : Int := match l.findIdx? (fun e => decide (e.name = n)) with
  | some i => (i : Int)
  | none => -1
theorem posE_at {l : List En} {n : ByteArray} {k : Nat} (hk : k < l.length) (h0 : ∀ i (hi : i < l.length), i < k → l[i].name ≠ n) (h1 : l[k].name = n) : posE l n = (k : Int) := by
  have : l.findIdx? (fun e => decide (e.name = n)) = some k := by
    rw [List.findIdx?_eq_some_iff_getElem]
    exact ⟨hk, by simpa using h1, fun j hj => by simpa using h0 j (by omega) hj⟩
  unfold posE
  rw [this]
theorem posE_none {l : List En} {n : ByteArray} (h0 : ∀ i (hi : i < l.length), l[i].name ≠ n) : posE l n = -1 := by
  have : l.findIdx? (fun e => decide (e.name = n)) = none := by
    rw [List.findIdx?_eq_none_iff]
    intro x hx
    obtain ⟨i, hi, rfl⟩ := List.mem_iff_getElem.1 hx
    simpa using h0 i hi
  unfold posE
  rw [this]
/-- Entries that are there lie at plain addresses. -/
theorem ens_at {w : World} {a : Option Addr} {n cap : Nat} {l : List En} (h : K.RowOf ecl w (.slice a n cap) l) : n = l.length ∧ l.length ≤ maxLen ∧ ∀ i (hi : i < l.length), ∃ b off, a = some ⟨b, off, none⟩ ∧ w.cell? ⟨b, off + i * 2, none⟩ = some (.string l[i].name) ∧ w.cell? ⟨b, off + i * 2 + 1, none⟩ = some (.int .i64 (l[i].f : Int)) := by
  have hn : n = l.length := by
    obtain ⟨a', cap', hv⟩ := h.slice
    injection hv
  have hcm : l.length ≤ maxLen := by
    rcases h with ⟨hv, rfl⟩ | ⟨_, _, hv, h1, h2, _⟩
    · exact Nat.zero_le _
    · omega
  refine ⟨hn, hcm, fun i hi => ?_⟩
  obtain ⟨b, off, cap', hv, _, _, hc⟩ := h.at (by omega)
  injection hv with hv1 _ _
  exact ⟨b, off, hv1, by simpa using K.row_cell hc i hi 0 (by decide) _ rfl, K.row_cell hc i hi 1 (by decide) _ rfl⟩

set_option maxRecDepth 20000 in
set_option maxHeartbeats 2000000 in
theorem rfind_at {w : World} {p : Nat} {A D S : Value} {L : List Rf} {kp : Int} {m : M} (h : RAt w p A D S L kp m) (n : ByteArray) :
    Calls Try.prog 60 #[.pointer (some ⟨p, 0, none⟩), .string n] w fun e w' => e = .returned (.int .i64 (posE m.dir n)) ∧ Below w.heap.size w w' := by
  obtain ⟨_, _, c2, _, _, _, _, _⟩ := h.cells
  have hr := h.dir.rng
  obtain ⟨va, vc, rfl⟩ := hr.slice
  obtain ⟨_, hlm, hat⟩ := ens_at hr
  generalize m.dir = l at *
  have l63 : l.length ≤ 9223372036854775807 := by unfold maxLen at hlm; omega
  have HA : Hid _ := hat
  clear hr hat h
  go_enter Try.func60, Try.ntmps60
  go_wp2
  go_loopw [12] (fun u12 wr => ∃ k : Nat, u12 = .int .i64 k ∧ k ≤ l.length ∧ Hid (∀ i (hi : i < l.length), i < k → l[i].name ≠ n) ∧ Below w.heap.size w wr) (fun u12 wr => l.length - (intOf u12).toNat)
  case atStart => exact ⟨0, rfl, Nat.zero_le _, fun i _ h => by omega, Below.refl _ _⟩
  case round =>
    obtain ⟨k, rfl, hk, HS, hB⟩ := hrel
    by_cases hlt : k < l.length
    · have hlt' : (k : Int) < (l.length : Int) := by omega
      obtain ⟨b, off, rfl, g0', g1'⟩ := HA.out k hlt
      have hB' := fun o => hB.alloc hB.size o
      have g0 := cell_on hB g0'
      have g1 := cell_on hB g1'
      obtain ⟨s, hs⟩ : ∃ z, l[k].name = z := ⟨_, rfl⟩
      obtain ⟨f, hf⟩ : ∃ z, l[k].f = z := ⟨_, rfl⟩
      rw [hs] at g0
      rw [hf] at g1
      clear g0' g1' hB
      by_cases he : s = n
      · subst he
        have HP : Hid _ := posE_at hlt HS.out hs
        clear HS
        go_wp2
        go_ret
        exact ⟨by rw [HP.out]; rfl, hB' _⟩
      · have HS' : Hid (∀ i (hi : i < l.length), i < k + 1 → l[i].name ≠ n) := fun i hi hik => by
          by_cases e : i = k
          · subst e; rw [hs]; exact he
          · exact HS.out i hi (by omega)
        have hq : (s.toList == n.toList) = false := by
          rw [Bool.eq_false_iff]
          intro h
          have h := eq_of_beq h
          rw [ByteArray.toList_eq, ByteArray.toList_eq] at h
          exact he (ByteArray.ext (Array.toList_inj.1 h))
        clear HS
        go_wp2
        exact ⟨⟨k + 1, by go_num, by omega, HS', hB' _⟩, by simp [intOf]; omega⟩
    · have e : k = l.length := by omega
      have hlt' : ¬ (k : Int) < (l.length : Int) := by omega
      have HP : Hid _ := posE_none (fun i hi => HS.out i hi (by omega))
      clear HS
      go_wp2
      go_ret
      exact ⟨by rw [HP.out]; rfl, hB⟩
end Go.Proofs.Ytndinjekocgjhaa
