/-
  THE LAW's light, by its contract.
-/
import Derived.Test.YtndinjekocgjhaaActs
namespace Go.Proofs.Ytndinjekocgjhaa
open Go.RowKit

set_option maxRecDepth 20000 in
set_option maxHeartbeats 4000000 in
theorem light_any (v : Value) (l : List Ac) (w : World) (hr : K.RowOf acells w v l) (hf : ∀ a ∈ l, a.Fits w) :
    Calls Try.prog 7 #[v] w fun e w' => ∃ b, e = .returned (.bool b) ∧ (b = true → l.length ≤ 250 ∧ ∀ a ∈ l, a.dl ≤ 12500 ∧ a.a.size ≤ 12500 ∧ a.b.size ≤ 12500) ∧ Below w.heap.size w w' := by
  obtain ⟨va, vc, rfl⟩ := hr.slice
  obtain ⟨_, hlm, hat⟩ := acs_at hr
  have l63 : l.length ≤ 9223372036854775807 := by unfold maxLen at hlm; omega
  have HA : Hid _ := hat
  have HFt : Hid (∀ i (hi : i < l.length), l[i].dl ≤ 140737488351232 ∧ l[i].a.size ≤ 140737488355328 ∧ l[i].b.size ≤ 140737488355328) := fun i hi => by
    have h := hf _ (List.getElem_mem hi)
    obtain ⟨bl, h1, h2⟩ := h.d
    obtain ⟨_, _, hv⟩ := h1.slice
    injection hv with _ hv _
    exact ⟨by omega, h.a, h.b⟩
  clear hr hf hat
  go_enter Try.func7, Try.ntmps7
  go_wp2
  go_loopw [3, 8] (fun u3 u8 wr => ∃ k n : Nat, u3 = .int .i64 n ∧ u8 = .int .i64 k ∧ k ≤ l.length ∧ k ≤ n ∧ n ≤ 250 ∧ Hid (∀ i (hi : i < l.length), i < k → l[i].dl ≤ 12500 ∧ l[i].a.size ≤ 12500 ∧ l[i].b.size ≤ 12500) ∧ Below w.heap.size w wr) (fun u3 u8 wr => l.length - (intOf u8).toNat)
  case atStart => exact ⟨0, 0, rfl, rfl, Nat.zero_le _, Nat.le_refl _, by omega, fun i _ h => by omega, Below.refl _ _⟩
  case round =>
    obtain ⟨k, n, rfl, rfl, hk, hkn, hn, HS, hB⟩ := hrel
    by_cases hlt : k < l.length
    · have hlt' : (k : Int) < (l.length : Int) := by omega
      obtain ⟨b, off, rfl, g0', g1', g2', g3', g4', g5'⟩ := HA.out k hlt
      have hB' := fun o => hB.alloc hB.size o
      obtain ⟨t1, t2, t3⟩ := HFt.out k hlt
      have g0 := cell_on hB g0'
      have g1 := cell_on hB g1'
      have g2 := cell_on hB g2'
      have g3 := cell_on hB g3'
      have g4 := cell_on hB g4'
      have g5 := cell_on hB g5'
      obtain ⟨kd, hkd⟩ : ∃ z, l[k].kind = z := ⟨_, rfl⟩
      obtain ⟨sa, hsa⟩ : ∃ z, l[k].a = z := ⟨_, rfl⟩
      obtain ⟨sb, hsb⟩ : ∃ z, l[k].b = z := ⟨_, rfl⟩
      obtain ⟨da, hda⟩ : ∃ z, l[k].da = z := ⟨_, rfl⟩
      obtain ⟨dl, hdl⟩ : ∃ z, l[k].dl = z := ⟨_, rfl⟩
      obtain ⟨dc, hdc⟩ : ∃ z, l[k].dc = z := ⟨_, rfl⟩
      obtain ⟨xn, hxn⟩ : ∃ z, l[k].n = z := ⟨_, rfl⟩
      obtain ⟨xm, hxm⟩ : ∃ z, l[k].m = z := ⟨_, rfl⟩
      rw [hkd] at g0
      rw [hsa] at g1 t2
      rw [hsb] at g2 t3
      rw [hda, hdl, hdc] at g3
      rw [hdl] at t1
      rw [hxn] at g4
      rw [hxm] at g5
      clear g0' g1' g2' g3' g4' g5' hB
      by_cases hs : (250 : Int) < (n : Int) + (1 + ((dl : Int) + (sa.size : Int) + (sb.size : Int)) / 50)
      · go_wp2
        go_ret
        exact ⟨false, rfl, fun h => Bool.noConfusion h, hB' _⟩
      · go_wp2
        refine ⟨⟨k + 1, n + (1 + (dl + sa.size + sb.size) / 50), ?_, by go_num, by omega, by omega, by omega, fun i hi hik => ?_, hB' _⟩, by simp [intOf]; omega⟩
        · congr 1
        · by_cases e : i = k
          · subst e
            rw [hdl, hsa, hsb]
            omega
          · exact HS.out i hi (by omega)
    · have e : k = l.length := by omega
      have hlt' : ¬ (k : Int) < (l.length : Int) := by omega
      have hR : l.length ≤ 250 ∧ ∀ a ∈ l, a.dl ≤ 12500 ∧ a.a.size ≤ 12500 ∧ a.b.size ≤ 12500 := ⟨by omega, fun a ha => by
        obtain ⟨i, hi, rfl⟩ := List.mem_iff_getElem.1 ha
        exact HS.out i hi (by omega)⟩
      have HR : Hid _ := hR
      clear hR HS
      go_wp2
      go_ret
      exact .inr ⟨rfl, HR.out, hB⟩
end Go.Proofs.Ytndinjekocgjhaa
