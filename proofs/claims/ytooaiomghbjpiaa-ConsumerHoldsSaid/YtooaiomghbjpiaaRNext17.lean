/-
  THE DOCUMENT's has, Next and Find, by their contracts.
-/
import Derived.Test.YtooaiomghbjpiaaRefD17
namespace Go.Proofs.Ytooaiomghbjpiaa
open Go.RowKit Go.Maps Go.Sort Go.Shelf
set_option maxRecDepth 20000

theorem Row.atU {w : World} {v : Value} {l : List Int} (h : Row w v (ucells l)) (hp : 0 < l.length) :
    ∃ b off cap, v = .slice (some ⟨b, off, none⟩) l.length cap ∧ l.length ≤ cap ∧ cap ≤ maxLen ∧ ∀ j (hj : j < l.length), w.cell? ⟨b, off + j, none⟩ = some (.int .u64 l[j]) := by
  obtain ⟨b, off, cap, hv, h1, h2, h3⟩ := h.at (by rw [ucells_length]; exact hp)
  rw [ucells_length] at hv h1
  refine ⟨b, off, cap, hv, h1, h2, fun j hj => ?_⟩
  rw [h3 j (by rw [ucells_length]; exact hj)]
  simp [ucells]
theorem Row.sliceU {w : World} {v : Value} {l : List Int} (h : Row w v (ucells l)) : ∃ a cap, v = .slice a l.length cap := by
  obtain ⟨a, cap, hv⟩ := h.slice
  rw [ucells_length] at hv
  exact ⟨a, cap, hv⟩
theorem any_take {l : List Int} {t : Int} {k : Nat} (hk : k < l.length) (h : (l.take k).any (fun u => decide (u = t)) = false) : (l.take (k + 1)).any (fun u => decide (u = t)) = decide (l[k] = t) := by
  rw [List.take_succ_eq_append_getElem hk, List.any_append, h]; simp
theorem any_pre {l : List Int} {t : Int} {k : Nat} (h : (l.take k).any (fun u => decide (u = t)) = true) : l.any (fun u => decide (u = t)) = true := by
  rw [← List.take_append_drop k l, List.any_append, h]; rfl
set_option maxHeartbeats 1000000 in
theorem rhas_any (v : Value) (l : List Int) (t : Int) (w : World) (hr : Row w v (ucells l)) (hl : l.length ≤ 1000000) :
    Calls Try.prog 45 #[v, .int .u64 t] w fun e w' => e = .returned (.bool (l.any fun u => decide (u = t))) ∧ w' = w := by
  obtain ⟨va, cap, rfl⟩ := hr.sliceU
  have HR : Hid (Row w (.slice va l.length cap) (ucells l)) := hr
  obtain ⟨n, hn⟩ : ∃ z, l.length = z := ⟨_, rfl⟩
  rw [hn] at hl HR ⊢
  obtain ⟨P, hP⟩ : ∃ z, (l.any fun u => decide (u = t)) = z := ⟨_, rfl⟩
  have HQ : Hid ((l.any fun u => decide (u = t)) = P) := hP
  rw [hP]
  clear hr hP
  go_enter Try.func45, Try.ntmps45
  go_wp2
  go_loopw [6, 9] (fun _ u9 wr => ∃ k : Nat, u9 = .int .i64 k ∧ k ≤ n ∧ Hid ((l.take k).any (fun u => decide (u = t)) = false) ∧ wr = w) (fun _ u9 _ => n - (intOf u9).toNat)
  case atStart => exact ⟨0, rfl, Nat.zero_le _, rfl, rfl⟩
  case round =>
    obtain ⟨k, rfl, hk, HS, rfl⟩ := hrel
    by_cases hlt : k < n
    · have hlt' : (k : Int) < (n : Int) := by omega
      have hkl : k < l.length := by omega
      obtain ⟨b, off, cap', hv, _, _, hc⟩ := HR.out.atU (by omega)
      have h0 := hc k hkl
      rw [hn] at hv
      injection hv with hv1 _ _
      subst hv1
      obtain ⟨x, hx⟩ : ∃ z, l[k] = z := ⟨_, rfl⟩
      rw [hx] at h0
      have HT : Hid ((l.take (k + 1)).any (fun u => decide (u = t)) = decide (x = t)) := by show _ = _; rw [any_take hkl HS.out, hx]
      clear hc hx HS
      by_cases he : x = t
      · have hb : (x == t) = true := by simpa using he
        have HE : Hid (P = true) := by show P = true; rw [← HQ.out]; exact any_pre (k := k + 1) (by rw [HT.out]; simpa using he)
        go_wp2
        go_ret
        exact ⟨by rw [HE.out]; rfl, rfl⟩
      · have hb : (x == t) = false := by simpa using he
        have HE : Hid ((l.take (k + 1)).any (fun u => decide (u = t)) = false) := by show _ = _; rw [HT.out]; simpa using he
        clear HT
        go_wp2
        go_roundw
        case rel => exact ⟨k + 1, by go_num, by omega, HE, by simp⟩
        case measure => simp [intOf]; omega
    · have hlt' : ¬ (k : Int) < (n : Int) := by omega
      have HE : Hid (P = false) := by
        have := HS.out
        rw [List.take_of_length_le (by omega), HQ.out] at this
        exact this
      go_wp2
      go_ret
      exact ⟨by rw [HE.out]; rfl, rfl⟩
theorem nextC_at {X : List Ro} {q : ByteArray} {k : Nat} (hk : k < X.length) (h0 : ∀ i (hi : i < X.length), i < k → readyB q X[i].s = false) (h1 : readyB q X[k].s = true) : nextC (X.map Ro.s) q = some X[k].s := by
  unfold nextC
  rw [List.find?_eq_some_iff_getElem]
  exact ⟨h1, k, by simpa using hk, by simp, fun j hj => by simpa using h0 j (by omega) hj⟩
theorem nextC_no {X : List Ro} {q : ByteArray} (h0 : ∀ i (hi : i < X.length), readyB q X[i].s = false) : nextC (X.map Ro.s) q = none := by
  unfold nextC
  rw [List.find?_eq_none]
  intro s hs
  obtain ⟨x, hx, rfl⟩ := List.mem_map.1 hs
  obtain ⟨i, hi, rfl⟩ := List.mem_iff_getElem.1 hx
  simpa using h0 i hi
set_option maxHeartbeats 2000000 in
theorem rnext_at {w : World} {p : Nat} {v : Value} {X : List Ro} (h : RdAt w p v X) (q : ByteArray) :
    Calls Try.prog 26 #[.pointer (some ⟨p, 0, none⟩), .string q] w fun e w' => e = .returned (nextV (X.map Ro.s) q) ∧ Below w.heap.size w w' := by
  obtain ⟨c0, _⟩ := h.cell
  have hr := h.row.rng
  obtain ⟨va, vc, rfl⟩ := hr.slice
  obtain ⟨_, hlm, hat⟩ := ros_at hr
  have l63 : X.length ≤ 9223372036854775807 := by unfold maxLen at hlm; omega
  have HA : Hid _ := hat
  have HP1 : Hid (∀ k (hk : k < X.length), (∀ i (hi : i < X.length), i < k → readyB q X[i].s = false) → readyB q X[k].s = true → nextV (X.map Ro.s) q = .tuple #[.int .i64 X[k].s.c, .bool true]) := fun k hk h0 h1 => nextV_some (nextC_at hk h0 h1)
  have HP2 : Hid ((∀ i (hi : i < X.length), readyB q X[i].s = false) → nextV (X.map Ro.s) q = .tuple #[.int .i64 0, .bool false]) := fun h0 => nextV_none (nextC_no h0)
  clear hr hat h
  generalize nextV (X.map Ro.s) q = P at *
  obtain ⟨n, hn⟩ : ∃ z, X.length = z := ⟨_, rfl⟩
  rw [hn] at c0 l63 hlm
  go_enter Try.func26, Try.ntmps26
  go_wp2
  go_loopw [13] (fun u13 wr => ∃ k : Nat, u13 = .int .i64 k ∧ k ≤ n ∧ Hid (∀ i (hi : i < X.length), i < k → readyB q X[i].s = false) ∧ Below w.heap.size w wr) (fun u13 wr => n - (intOf u13).toNat)
  case atStart => exact ⟨0, rfl, Nat.zero_le _, fun i _ h => by omega, Below.refl _ _⟩
  case round =>
    obtain ⟨k, rfl, hk, HS, hB⟩ := hrel
    by_cases hlt : k < n
    · have hlt' : (k : Int) < (n : Int) := by omega
      have hkl : k < X.length := by omega
      obtain ⟨b, off, rfl, g0', g1', g2', g3'⟩ := HA.out k hkl
      have hB' := fun o => hB.alloc hB.size o
      have g0 := cell_on hB g0'
      have g1 := cell_on hB g1'
      have g2 := cell_on hB g2'
      have g3 := cell_on hB g3'
      obtain ⟨x, hx⟩ : ∃ z, X[k] = z := ⟨_, rfl⟩
      rw [hx] at g0 g1 g2 g3
      have HX : Hid (∀ i (hi : i < X.length), i < k + 1 → i ≠ k → readyB q X[i].s = false) := fun i hi h1 h2 => HS.out i hi (by omega)
      have hW : (x.s.q.toList == q.toList) = wantB q x.s := txt_dec _ _
      have HC : Hid (readyB q X[k].s = (wantB q x.s && !decide (x.s.m ≤ (x.s.t.length : Int))) ∧ X[k].s.c = x.s.c) := ⟨by rw [hx]; rfl, by rw [hx]⟩
      have HN : Hid (readyB q X[k].s = false → ∀ i (hi : i < X.length), i < k + 1 → readyB q X[i].s = false) := fun h9 i hi hik => by
        by_cases e : i = k
        · subst e; exact h9
        · exact HX.out i hi hik e
      generalize wantB q x.s = B at *
      clear g0' g1' g2' g3' hB hx HX
      generalize x.s.t.length = tl at *
      generalize x.s.q = xq at *
      generalize x.s.m = xm at *
      generalize x.s.c = xc at *
      cases B with
      | false =>
        have HS' := HN.out (by rw [HC.out.1]; rfl)
        have HS2 : Hid (∀ i (hi : i < X.length), i < k + 1 → readyB q X[i].s = false) := HS'
        clear HS HN HS'
        go_wp2
        go_roundw
        case rel => exact ⟨k + 1, by go_num, by omega, HS2, hB' _⟩
        case measure => simp [intOf]; omega
      | true =>
        by_cases hf : (tl : Int) < xm
        · have HP : Hid (P = .tuple #[.int .i64 xc, .bool true]) := by
            have := HP1.out k hkl HS.out (by rw [HC.out.1]; simp; omega)
            rw [HC.out.2] at this
            exact this
          clear HS HN
          go_wp2
          go_ret2
          exact ⟨by rw [HP.out]; rfl, hB' _⟩
        · have HS' := HN.out (by rw [HC.out.1]; simp; omega)
          have HS2 : Hid (∀ i (hi : i < X.length), i < k + 1 → readyB q X[i].s = false) := HS'
          clear HS HN HS'
          go_wp2
          go_roundw
          case rel => exact ⟨k + 1, by go_num, by omega, HS2, hB' _⟩
          case measure => simp [intOf]; omega
    · have hlt' : ¬ (k : Int) < (n : Int) := by omega
      have HP : Hid (P = .tuple #[.int .i64 0, .bool false]) := HP2.out fun i hi => HS.out i hi (by omega)
      clear HS
      go_wp2
      go_ret2
      exact ⟨by rw [HP.out]; rfl, hB⟩
end Go.Proofs.Ytooaiomghbjpiaa
