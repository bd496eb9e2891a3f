/-
  THE LAW's light, by its contract.
-/
import Derived.Test.YtooaiomghbjpiaaRefD17
import Derived.Test.YtooaiomghbjpiaaRNext17
namespace Go.Proofs.Ytooaiomghbjpiaa
open Go.RowKit Go.Maps Go.Sort Go.Shelf
set_option maxRecDepth 20000

set_option maxHeartbeats 2000000 in
theorem light_any (v : Value) (l : List Ac) (w : World) (hr : K.RowOf acells w v l) (hf : ∀ a ∈ l, a.Fits) :
    Calls Try.prog 9 #[v] w fun e w' => ∃ b, e = .returned (.bool b) ∧ (b = true → l.length ≤ 250) ∧ Below w.heap.size w w' := by
  obtain ⟨va, vc, rfl⟩ := hr.slice
  obtain ⟨_, hlm, hat⟩ := acs_at hr
  have l63 : l.length ≤ 9223372036854775807 := by unfold maxLen at hlm; omega
  have HA : Hid _ := hat
  have HFt : Hid (∀ i (hi : i < l.length), l[i].q.size ≤ 140737488355328) := fun i hi => (hf _ (List.getElem_mem hi)).q
  clear hr hf hat hlm
  obtain ⟨m, hm⟩ : ∃ z, l.length = z := ⟨_, rfl⟩
  rw [hm] at l63 ⊢
  go_enter Try.func9, Try.ntmps9
  go_wp2
  go_loopw [3, 5, 8] (fun u3 _ u8 wr => ∃ k n : Nat, u3 = .int .i64 (n : Int) ∧ u8 = .int .i64 (k : Int) ∧ k ≤ m ∧ k ≤ n ∧ n ≤ 250 ∧ Below w.heap.size w wr) (fun _ _ u8 _ => m - (intOf u8).toNat)
  case atStart => exact ⟨0, 0, rfl, rfl, Nat.zero_le _, Nat.le_refl _, by omega, Below.refl _ _⟩
  case round =>
    obtain ⟨k, n, rfl, rfl, hk, hkn, hn, hB⟩ := hrel
    by_cases hlt : k < m
    · have hlt' : (k : Int) < (m : Int) := by omega
      have hkl : k < l.length := by omega
      obtain ⟨b, off, rfl, g0', g1', g2', g3', g4'⟩ := HA.out k hkl
      have hB' := fun o => hB.alloc hB.size o
      have t1 := HFt.out k hkl
      have g0 := cell_on hB g0'
      have g1 := cell_on hB g1'
      have g2 := cell_on hB g2'
      have g3 := cell_on hB g3'
      have g4 := cell_on hB g4'
      obtain ⟨x, hx⟩ : ∃ z, l[k] = z := ⟨_, rfl⟩
      rw [hx] at g0 g1 g2 g3 g4 t1
      clear g0' g1' g2' g3' g4' hB hx
      generalize x.kind = xd at *
      generalize x.c = xc at *
      generalize x.q = xq at *
      generalize x.n = xn at *
      generalize x.t = xt at *
      obtain ⟨z, hz⟩ : ∃ z, xq.size / 50 = z := ⟨_, rfl⟩
      have e1 : (xq.size : Int) / 50 = (z : Int) := by omega
      have e2 : (xq.size : Int).tdiv 50 = (z : Int) := by rw [Int.tdiv_eq_ediv_of_nonneg (by omega)]; omega
      have hzb : z ≤ 2814749767107 := by omega
      by_cases hs : (250 : Int) < (n : Int) + (1 + (z : Int))
      · go_wp2
        go_ret
        exact ⟨false, rfl, fun h => Bool.noConfusion h, hB' _⟩
      · go_wp2
        go_roundw
        case rel => exact ⟨k + 1, n + (1 + z), by go_num, by go_num, by omega, by omega, by omega, hB' _⟩
        case measure => simp [intOf]; omega
    · have hlt' : ¬ (k : Int) < (m : Int) := by omega
      go_wp2
      go_ret
      exact .inr ⟨rfl, by omega, hB⟩
end Go.Proofs.Ytooaiomghbjpiaa

/-
  The law's tags, and the document's Ints, where both are the same, by their contracts.
-/
namespace Go.Proofs.Ytooaiomghbjpiaa
open Go.RowKit Go.Maps Go.Sort Go.Shelf
set_option maxRecDepth 20000

set_option maxHeartbeats 1000000 in
theorem tags_same (u v : Value) (l : List Int) (w : World) (hu : Row w u (ucells l)) (hv : Row w v (ucells l)) (hl : l.length ≤ 1000000) :
    Calls Try.prog 17 #[u, v] w fun e w' => e = .returned (.bool true) ∧ ∃ q, w' = w.drewN q := by
  obtain ⟨ua, uc, rfl⟩ := hu.sliceU
  obtain ⟨va, vc, rfl⟩ := hv.sliceU
  have HR : Hid (Row w (.slice ua l.length uc) (ucells l) ∧ Row w (.slice va l.length vc) (ucells l)) := ⟨hu, hv⟩
  obtain ⟨n, hn⟩ : ∃ z, l.length = z := ⟨_, rfl⟩
  rw [hn] at HR hl ⊢
  clear hu hv
  go_enter Try.func17, Try.ntmps17
  go_wp2
  go_loopw [5, 13] (fun _ u13 wr => ∃ k : Nat, u13 = .int .i64 (k : Int) ∧ k ≤ n ∧ ∃ q, wr = w.drewN q) (fun _ u13 _ => n - (intOf u13).toNat)
  case atStart => exact ⟨0, rfl, Nat.zero_le _, 0, rfl⟩
  case round =>
    obtain ⟨k, rfl, hk, q, rfl⟩ := hrel
    by_cases hlt : k < n
    · have hlt' : (k : Int) < (n : Int) := by omega
      have hkl : k < l.length := by omega
      obtain ⟨b1, o1, cp1, hv1, _, _, hc1⟩ := HR.out.1.atU (by omega)
      obtain ⟨b2, o2, cp2, hv2, _, _, hc2⟩ := HR.out.2.atU (by omega)
      have h1 := hc1 k hkl
      have h2 := hc2 k hkl
      rw [hn] at hv1 hv2
      injection hv1 with e1 _ e3
      injection hv2 with e2 _ e4
      subst e1 e2 e3 e4
      obtain ⟨x, hx⟩ : ∃ z, l[k] = z := ⟨_, rfl⟩
      rw [hx] at h1 h2
      have h3 : (w.drewN q).cell? ⟨b1, o1 + k, none⟩ = some (.int .u64 x) := h1
      have h4 : (w.drewN q).cell? ⟨b2, o2 + k, none⟩ = some (.int .u64 x) := h2
      clear hc1 hc2 hx
      go_wp2
      go_region
      all_goals go_wp2
      all_goals go_roundw
      case rel => exact ⟨k + 1, by go_num, by omega, _, rfl⟩
      case measure => simp [intOf]; omega
    · have hlt' : ¬ (k : Int) < (n : Int) := by omega
      go_wp2
      go_ret
      exact ⟨rfl, _, rfl⟩
set_option maxHeartbeats 1000000 in
theorem ints_same (u v : Value) (l : List Int) (w : World) (hu : Row w u (icells l)) (hv : Row w v (icells l)) (hl : l.length ≤ 1000000) :
    Calls Try.prog 12 #[u, v] w fun e w' => e = .returned (.bool true) ∧ ∃ q, w' = w.drewN q := by
  obtain ⟨ua, uc, rfl⟩ := hu.sliceInts
  obtain ⟨va, vc, rfl⟩ := hv.sliceInts
  have HR : Hid (Row w (.slice ua l.length uc) (icells l) ∧ Row w (.slice va l.length vc) (icells l)) := ⟨hu, hv⟩
  obtain ⟨n, hn⟩ : ∃ z, l.length = z := ⟨_, rfl⟩
  rw [hn] at HR hl ⊢
  clear hu hv
  go_enter Try.func12, Try.ntmps12
  go_wp2
  go_loopw [5, 13] (fun _ u13 wr => ∃ k : Nat, u13 = .int .i64 (k : Int) ∧ k ≤ n ∧ ∃ q, wr = w.drewN q) (fun _ u13 _ => n - (intOf u13).toNat)
  case atStart => exact ⟨0, rfl, Nat.zero_le _, 0, rfl⟩
  case round =>
    obtain ⟨k, rfl, hk, q, rfl⟩ := hrel
    by_cases hlt : k < n
    · have hlt' : (k : Int) < (n : Int) := by omega
      have hkl : k < l.length := by omega
      obtain ⟨b1, o1, cp1, hv1, _, _, hc1⟩ := HR.out.1.atInts (by omega)
      obtain ⟨b2, o2, cp2, hv2, _, _, hc2⟩ := HR.out.2.atInts (by omega)
      have h1 := hc1 k hkl
      have h2 := hc2 k hkl
      rw [hn] at hv1 hv2
      injection hv1 with e1 _ e3
      injection hv2 with e2 _ e4
      subst e1 e2 e3 e4
      obtain ⟨x, hx⟩ : ∃ z, l[k] = z := ⟨_, rfl⟩
      rw [hx] at h1 h2
      have h3 : (w.drewN q).cell? ⟨b1, o1 + k, none⟩ = some (.int .i64 x) := h1
      have h4 : (w.drewN q).cell? ⟨b2, o2 + k, none⟩ = some (.int .i64 x) := h2
      clear hc1 hc2 hx
      go_wp2
      go_region
      all_goals go_wp2
      all_goals go_roundw
      case rel => exact ⟨k + 1, by go_num, by omega, _, rfl⟩
      case measure => simp [intOf]; omega
    · have hlt' : ¬ (k : Int) < (n : Int) := by omega
      go_wp2
      go_ret
      exact ⟨rfl, _, rfl⟩
end Go.Proofs.Ytooaiomghbjpiaa

/-
  The law's tags, and the document's Ints, of any two rows, by their contracts.
-/
namespace Go.Proofs.Ytooaiomghbjpiaa
open Go.RowKit Go.Maps Go.Sort Go.Shelf
set_option maxRecDepth 20000

/-- It is told whether; true where it holds. -/
def SomeB (e : Ending) (P : Prop) : Prop := ∃ b, e = .returned (.bool b) ∧ (P → b = true)
set_option maxHeartbeats 1000000 in
theorem tags_any (u v : Value) (l m : List Int) (w : World) (hu : Row w u (ucells l)) (hv : Row w v (ucells m)) (hl : l.length ≤ 1000000) (hm : m.length ≤ 1000000) :
    Calls Try.prog 17 #[u, v] w fun e w' => SomeB e (l = m) ∧ ∃ q, w' = w.drewN q := by
  obtain ⟨ua, uc, rfl⟩ := hu.sliceU
  obtain ⟨va, vc, rfl⟩ := hv.sliceU
  have HR : Hid (Row w (.slice ua l.length uc) (ucells l) ∧ Row w (.slice va m.length vc) (ucells m)) := ⟨hu, hv⟩
  obtain ⟨n, hn⟩ : ∃ z, l.length = z := ⟨_, rfl⟩
  obtain ⟨n2, hn2⟩ : ∃ z, m.length = z := ⟨_, rfl⟩
  rw [hn] at HR hl ⊢
  rw [hn2] at HR hm ⊢
  clear hu hv
  by_cases hne : n = n2
  · subst hne
    go_enter Try.func17, Try.ntmps17
    go_wp2
    go_loopw [5, 13] (fun _ u13 wr => ∃ k : Nat, u13 = .int .i64 (k : Int) ∧ k ≤ n ∧ ∃ q, wr = w.drewN q) (fun _ u13 _ => n - (intOf u13).toNat)
    case atStart => exact ⟨0, rfl, Nat.zero_le _, 0, rfl⟩
    case round =>
      obtain ⟨k, rfl, hk, q, rfl⟩ := hrel
      by_cases hlt : k < n
      · have hlt' : (k : Int) < (n : Int) := by omega
        have hkl : k < l.length := by omega
        have hkm : k < m.length := by omega
        obtain ⟨b1, o1, cp1, hv1, _, _, hc1⟩ := HR.out.1.atU (by omega)
        obtain ⟨b2, o2, cp2, hv2, _, _, hc2⟩ := HR.out.2.atU (by omega)
        have h1 := hc1 k hkl
        have h2 := hc2 k hkm
        rw [hn] at hv1
        rw [hn2] at hv2
        injection hv1 with e1 _ e3
        injection hv2 with e2 _ e4
        subst e1 e2 e3 e4
        obtain ⟨x, hx⟩ : ∃ z, l[k] = z := ⟨_, rfl⟩
        obtain ⟨y, hy⟩ : ∃ z, m[k] = z := ⟨_, rfl⟩
        rw [hx] at h1
        rw [hy] at h2
        have h3 : (w.drewN q).cell? ⟨b1, o1 + k, none⟩ = some (.int .u64 x) := h1
        have h4 : (w.drewN q).cell? ⟨b2, o2 + k, none⟩ = some (.int .u64 y) := h2
        have HXY : Hid (l = m → x = y) := fun e => by subst e; rw [← hx, ← hy]
        clear hc1 hc2 hx hy
        by_cases he : x = y
        · have hb : (x != y) = false := by simpa using he
          have hb2 : (x == y) = true := by simpa using he
          clear he
          go_wp2
          go_quiet (fail)
          go_wp2
          go_roundw
          case rel => exact ⟨k + 1, by go_num, by omega, _, rfl⟩
          case measure => simp [intOf]; omega
        · have hb : (x != y) = true := by simpa using he
          have hb2 : (x == y) = false := by simpa using he
          have HN : Hid (l = m → False) := fun e => he (HXY.out e)
          clear he HXY
          go_wp2
          go_quiet (fail)
          go_wp2
          go_ret
          exact ⟨⟨false, rfl, fun e => (HN.out e).elim⟩, _, World.drewN_drewN _ _ _⟩
      · have hlt' : ¬ (k : Int) < (n : Int) := by omega
        go_wp2
        go_ret
        exact ⟨⟨true, rfl, fun _ => rfl⟩, _, rfl⟩
  · have hb : ((n : Int) != (n2 : Int)) = true := by simpa using fun e => hne (by omega)
    have hb2 : ((n : Int) == (n2 : Int)) = false := by simpa using fun e => hne (by omega)
    have HN : Hid (l = m → False) := fun e => hne (by rw [← hn, ← hn2, e])
    clear hn hn2 hne
    go_enter Try.func17, Try.ntmps17
    go_wp2
    go_ret
    exact ⟨⟨false, rfl, fun e => (HN.out e).elim⟩, 0, rfl⟩
set_option maxHeartbeats 1000000 in
theorem ints_any (u v : Value) (l m : List Int) (w : World) (hu : Row w u (icells l)) (hv : Row w v (icells m)) (hl : l.length ≤ 1000000) (hm : m.length ≤ 1000000) :
    Calls Try.prog 12 #[u, v] w fun e w' => SomeB e (l = m) ∧ ∃ q, w' = w.drewN q := by
  obtain ⟨ua, uc, rfl⟩ := hu.sliceInts
  obtain ⟨va, vc, rfl⟩ := hv.sliceInts
  have HR : Hid (Row w (.slice ua l.length uc) (icells l) ∧ Row w (.slice va m.length vc) (icells m)) := ⟨hu, hv⟩
  obtain ⟨n, hn⟩ : ∃ z, l.length = z := ⟨_, rfl⟩
  obtain ⟨n2, hn2⟩ : ∃ z, m.length = z := ⟨_, rfl⟩
  rw [hn] at HR hl ⊢
  rw [hn2] at HR hm ⊢
  clear hu hv
  by_cases hne : n = n2
  · subst hne
    go_enter Try.func12, Try.ntmps12
    go_wp2
    go_loopw [5, 13] (fun _ u13 wr => ∃ k : Nat, u13 = .int .i64 (k : Int) ∧ k ≤ n ∧ ∃ q, wr = w.drewN q) (fun _ u13 _ => n - (intOf u13).toNat)
    case atStart => exact ⟨0, rfl, Nat.zero_le _, 0, rfl⟩
    case round =>
      obtain ⟨k, rfl, hk, q, rfl⟩ := hrel
      by_cases hlt : k < n
      · have hlt' : (k : Int) < (n : Int) := by omega
        have hkl : k < l.length := by omega
        have hkm : k < m.length := by omega
        obtain ⟨b1, o1, cp1, hv1, _, _, hc1⟩ := HR.out.1.atInts (by omega)
        obtain ⟨b2, o2, cp2, hv2, _, _, hc2⟩ := HR.out.2.atInts (by omega)
        have h1 := hc1 k hkl
        have h2 := hc2 k hkm
        rw [hn] at hv1
        rw [hn2] at hv2
        injection hv1 with e1 _ e3
        injection hv2 with e2 _ e4
        subst e1 e2 e3 e4
        obtain ⟨x, hx⟩ : ∃ z, l[k] = z := ⟨_, rfl⟩
        obtain ⟨y, hy⟩ : ∃ z, m[k] = z := ⟨_, rfl⟩
        rw [hx] at h1
        rw [hy] at h2
        have h3 : (w.drewN q).cell? ⟨b1, o1 + k, none⟩ = some (.int .i64 x) := h1
        have h4 : (w.drewN q).cell? ⟨b2, o2 + k, none⟩ = some (.int .i64 y) := h2
        have HXY : Hid (l = m → x = y) := fun e => by subst e; rw [← hx, ← hy]
        clear hc1 hc2 hx hy
        by_cases he : x = y
        · have hb : (x != y) = false := by simpa using he
          have hb2 : (x == y) = true := by simpa using he
          clear he
          go_wp2
          go_quiet (fail)
          go_wp2
          go_roundw
          case rel => exact ⟨k + 1, by go_num, by omega, _, rfl⟩
          case measure => simp [intOf]; omega
        · have hb : (x != y) = true := by simpa using he
          have hb2 : (x == y) = false := by simpa using he
          have HN : Hid (l = m → False) := fun e => he (HXY.out e)
          clear he HXY
          go_wp2
          go_quiet (fail)
          go_wp2
          go_ret
          exact ⟨⟨false, rfl, fun e => (HN.out e).elim⟩, _, World.drewN_drewN _ _ _⟩
      · have hlt' : ¬ (k : Int) < (n : Int) := by omega
        go_wp2
        go_ret
        exact ⟨⟨true, rfl, fun _ => rfl⟩, _, rfl⟩
  · have hb : ((n : Int) != (n2 : Int)) = true := by simpa using fun e => hne (by omega)
    have hb2 : ((n : Int) == (n2 : Int)) = false := by simpa using fun e => hne (by omega)
    have HN : Hid (l = m → False) := fun e => hne (by rw [← hn, ← hn2, e])
    clear hn hn2 hne
    go_enter Try.func12, Try.ntmps12
    go_wp2
    go_ret
    exact ⟨⟨false, rfl, fun e => (HN.out e).elim⟩, 0, rfl⟩
end Go.Proofs.Ytooaiomghbjpiaa
