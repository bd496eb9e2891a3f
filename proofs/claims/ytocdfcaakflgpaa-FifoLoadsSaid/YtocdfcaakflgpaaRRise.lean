/-
  THE DOCUMENT's rise, by its contract.
-/
import Derived.Test.YtocdfcaakflgpaaLoad
import Derived.Test.YtocdfcaakflgpaaRTake
namespace Go.Proofs.Ytocdfcaakflgpaa
open Go.RowKit Go.Sort Go.Shelf

set_option maxRecDepth 20000 in
set_option maxHeartbeats 2000000 in
theorem rrise_any (v : Value) (l : List It) (n : Nat) (w : World) (hr : Rows w v l) (hlen : l.length ≤ 1000000) :
    Calls Try.prog 41 #[v, .int .u64 (n : Int)] w fun e w' => e = .returned (.bool (riseB l 0 n)) ∧ Below w.heap.size w w' := by
  obtain ⟨a, cap, rfl⟩ := hr.slice
  obtain ⟨_, _, hA⟩ := hr.items
  clear hr
  obtain ⟨R, hR⟩ : ∃ R, R = riseB l 0 n := ⟨_, rfl⟩
  rw [← hR]
  have HR : Hid (R = riseB l 0 n) := hR
  clear hR
  go_enter Try.func41, Try.ntmps41
  go_wp2
  go_loopw [5, 6, 9] (fun u5 u6 u9 wr => ∃ k la : Nat, u9 = .int .i64 k ∧ k ≤ l.length ∧ Below w.heap.size w wr ∧ Hid (R = riseB (l.drop k) la n) ∧ Hid ((k = 0 → la = 0) ∧ ∀ j (h : j < l.length), k = j + 1 → l[j].tag = la)) (fun u5 u6 u9 wr => l.length - (intOf u9).toNat)
  case atStart => exact ⟨0, 0, rfl, Nat.zero_le _, Below.refl _ _, HR, ⟨fun _ => rfl, fun j _ h => by omega⟩⟩
  case round =>
    obtain ⟨k, la, rfl, hk, hb, HK, HLa⟩ := hrel
    by_cases hlt2 : k < l.length
    · have hlt : (k : Int) < (l.length : Int) := by omega
      obtain ⟨b, off, rfl, hi⟩ := hA k hlt2
      have HK' : Hid (R = (decide (la < l[k].tag) && decide (l[k].tag < n) && riseB (l.drop (k + 1)) l[k].tag n)) := by
        have := HK.out
        rw [List.drop_eq_getElem_cons hlt2] at this
        exact this
      have HG : Hid ((k + 1 = 0 → l[k].tag = 0) ∧ ∀ j (h : j < l.length), k + 1 = j + 1 → l[j].tag = l[k].tag) := ⟨fun h => by omega, fun j _ h => by (have hjk : j = k := by omega); subst hjk; rfl⟩
      obtain ⟨e0, e1, e2, e3, e4, e5, e6, e7⟩ := hi.below hb (Nat.le_refl _)
      obtain ⟨X, foldX⟩ : ∃ X, wr.alloc (.cells #[.int .u64 (l[k].tag : Int), .int .i64 l[k].m.o, .int .u64 l[k].m.s, .int .i64 l[k].m.hop, .string l[k].m.ex, .string l[k].m.key, .string l[k].m.body, .bool l[k].again] 38) = X := ⟨_, rfl⟩
      have hX : Below w.heap.size w X := by rw [← foldX]; exact hb.alloc hb.size _
      have iX : ItAt X wr.heap.size 0 l[k] := by rw [← foldX]; exact itAt_new wr _ _ rfl
      have y0 := iX.c0
      have HX : Hid (Below w.heap.size w X) := hX
      rcases Nat.eq_zero_or_pos k with h0 | h0
      · have la0 : la = 0 := HLa.out.1 h0
        subst la0
        clear HLa HK hA hi iX hX hb
        have hk0 : ¬ (0 : Int) < (k : Int) := by omega
        have hk1 : ¬ 0 < k := by omega
        have HK0 : Hid (k = 0) := h0
        clear h0
        generalize l[k] = x at *
        by_cases h1 : x.tag = 0
        · have h1' : decide ((x.tag : Int) < 1) = true := by simp; omega
          have h1i : (x.tag : Int) < 1 := by omega
          have HT : Hid (x.tag = 0) := h1
          clear h1
          go_wp2
          go_quiet (fail)
          go_wp2
          go_ret
          exact ⟨ret_bool (by rw [HK'.out]; simp [HT.out]), (HX.out.trans ⟨rfl, rfl, rfl, Nat.le_refl _, fun _ _ => rfl⟩)⟩
        · have h1' : decide ((x.tag : Int) < 1) = false := by simp; omega
          have h1i : ¬ (x.tag : Int) < 1 := by omega
          by_cases h2 : n ≤ x.tag
          · have h2' : decide ((n : Int) ≤ (x.tag : Int)) = true := by simp; omega
            have h2i : (n : Int) ≤ (x.tag : Int) := by omega
            go_wp2
            go_quiet (fail)
            go_wp2
            go_ret
            exact ⟨ret_bool (by rw [HK'.out]; simp; omega), (HX.out.trans ⟨rfl, rfl, rfl, Nat.le_refl _, fun _ _ => rfl⟩)⟩
          · have h2' : decide ((n : Int) ≤ (x.tag : Int)) = false := by simp; omega
            have h2i : ¬ (n : Int) ≤ (x.tag : Int) := by omega
            have hk0' : decide ((0 : Int) < (k : Int)) = false := by simp; omega
            go_wp2
            go_quiet (fail)
            go_wp2
            go_roundw
            case rel => exact ⟨k + 1, x.tag, by go_num, by omega, (HX.out.trans ⟨rfl, rfl, rfl, Nat.le_refl _, fun _ _ => rfl⟩), by show _ = _; rw [HK'.out]; simp; omega, HG⟩
            case measure => simp [intOf]; omega
      · obtain ⟨j, rfl⟩ : ∃ j, k = j + 1 := ⟨k - 1, by omega⟩
        have hla := HLa.out.2 j (by omega) rfl
        obtain ⟨b2, off2, hbb, hi2⟩ := hA j (by omega)
        obtain ⟨rfl, rfl⟩ : b2 = b ∧ off2 = off := by simpa [eq_comm] using hbb
        have g0 := (hi2.below hX (Nat.le_refl _)).c0
        rw [hla] at g0
        have hj : IntKind.i64.wrap ((j : Int) + 1 - 1) = (j : Int) := by rw [IntKind.wrap_i64]; omega
        have hj' : IntKind.i64.wrap (j : Int) = (j : Int) := by rw [IntKind.wrap_i64]; omega
        clear HLa HK hA hi hi2 iX hX hb hbb hla
        generalize l[j + 1] = x at *
        by_cases h1 : x.tag = 0
        · have h1' : decide ((x.tag : Int) < 1) = true := by simp; omega
          have h1i : (x.tag : Int) < 1 := by omega
          have HT : Hid (x.tag = 0) := h1
          clear h1
          go_wp2
          go_quiet (fail)
          go_wp2
          go_ret
          exact ⟨ret_bool (by rw [HK'.out]; simp [HT.out]), (HX.out.trans ⟨rfl, rfl, rfl, Nat.le_refl _, fun _ _ => rfl⟩)⟩
        · have h1' : decide ((x.tag : Int) < 1) = false := by simp; omega
          have h1i : ¬ (x.tag : Int) < 1 := by omega
          by_cases h2 : n ≤ x.tag
          · have h2' : decide ((n : Int) ≤ (x.tag : Int)) = true := by simp; omega
            have h2i : (n : Int) ≤ (x.tag : Int) := by omega
            go_wp2
            go_quiet (fail)
            go_wp2
            go_ret
            exact ⟨ret_bool (by rw [HK'.out]; simp; omega), (HX.out.trans ⟨rfl, rfl, rfl, Nat.le_refl _, fun _ _ => rfl⟩)⟩
          · have h2' : decide ((n : Int) ≤ (x.tag : Int)) = false := by simp; omega
            have h2i : ¬ (n : Int) ≤ (x.tag : Int) := by omega
            have hjp' : decide ((0 : Int) < (j : Int) + 1) = true := decide_eq_true (by omega)
            have hjp : (0 : Int) < (j : Int) + 1 := by omega
            by_cases h3 : x.tag ≤ la
            · have h3' : decide ((x.tag : Int) ≤ (la : Int)) = true := by simp; omega
              have h3i : (x.tag : Int) ≤ (la : Int) := by omega
              go_wp2
              go_quiet (fail)
              go_wp2
              go_ret
              exact ⟨ret_bool (by rw [HK'.out]; simp; omega), (HX.out.trans ⟨rfl, rfl, rfl, Nat.le_refl _, fun _ _ => rfl⟩)⟩
            · have h3' : decide ((x.tag : Int) ≤ (la : Int)) = false := by simp; omega
              have h3i : ¬ (x.tag : Int) ≤ (la : Int) := by omega
              go_wp2
              go_quiet (fail)
              go_wp2
              go_roundw
              case rel => exact ⟨j + 1 + 1, x.tag, by go_num, by omega, (HX.out.trans ⟨rfl, rfl, rfl, Nat.le_refl _, fun _ _ => rfl⟩), by show _ = _; rw [HK'.out]; simp; omega, HG⟩
              case measure => simp [intOf]; omega
    · obtain rfl : k = l.length := by omega
      have hK := HK.out
      rw [List.drop_length] at hK
      go_wp2
      go_ret
      exact ⟨ret_bool hK.symm, hb⟩
end Go.Proofs.Ytocdfcaakflgpaa
