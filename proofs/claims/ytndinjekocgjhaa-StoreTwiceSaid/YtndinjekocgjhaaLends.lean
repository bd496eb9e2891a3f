/-
  Same, Lend, Kept, Texts, by their contracts.
-/
import Derived.Test.YtndinjekocgjhaaTells
import Derived.RegionTactic
import Derived.Outline
namespace Go.Proofs.Ytndinjekocgjhaa
open Go.RowKit

/-- Bytes that are there lie at plain addresses. -/
theorem Holds.at {w : World} {v : Value} {bs : List UInt8} (h : Holds w v bs) (hp : 0 < bs.length) :
    ∃ b off cap, v = .slice (some ⟨b, off, none⟩) bs.length cap ∧ bs.length ≤ cap ∧ cap ≤ maxLen ∧ ∀ j (hj : j < bs.length), w.cell? ⟨b, off + j, none⟩ = some (.int .u8 (bs[j].toNat : Int)) := by
  rcases h with ⟨rfl, rfl⟩ | ⟨a, cap, rfl, h1, h2, h3⟩
  · simp at hp
  · obtain ⟨b, off, spot⟩ := a
    have h0 := h3 0 (.int .u8 (bs[0].toNat : Int)) (by simp [bcells, hp])
    have hspot : spot = none := by simpa [Addr.add] using World.cell?_spot h0
    subst hspot
    refine ⟨b, off, cap, rfl, h1, h2, fun j hj => ?_⟩
    rw [← Go.WideShapes.add_plain]
    exact h3 j _ (by simp [bcells, hj])

theorem same_any (x y : Value) (xs ys : List UInt8) (w : World) (hx : Holds w x xs) (hy : Holds w y ys) :
    Calls Try.prog 20 #[x, y] w fun e w' => e = .returned (.bool (xs == ys)) ∧ w' = w := by
  have kx := run_string_of hx 29 9 5 Try.underlying29 Try.underlying5 Try.underlying9
  have ky := run_string_of hy 29 9 5 Try.underlying29 Try.underlying5 Try.underlying9
  go_enter Try.func20, Try.ntmps20
  go_wp2
  go_ret
  exact ⟨ret_bool rfl, rfl⟩

set_option maxHeartbeats 400000 in
theorem lend_any (s : Value) (bs : List UInt8) (w : World) (hs : Holds w s bs) (hl : bs.length ≤ 1000000) :
    Calls Try.prog 26 #[s] w fun e w' => ∃ v1 v2, e = .returned (.tuple #[v1, v2]) ∧ Owns w' w.heap.size 5 v1 ([167, 59] ++ bs ++ [94, 193]) ∧ Holds w' v2 bs ∧ Below w.heap.size w w' := by
  obtain ⟨a, cap, rfl⟩ := hs.slice
  go_enter Try.func26, Try.ntmps26
  go_wp2_with (first
    | (at_builtin; refine wpList_append_bytes rfl (.tmp 5) (.tmp 6) 29 5 isU8 rfl w.heap.size _ _ [167, 59] bs rfl rfl (owns_new _ _ _ [167, 59] (Nat.le_refl _) (by simp [maxLen])) (hs.below ((Below.refl _ _).alloc (Nat.le_refl _) _) (Nat.le_refl _)) (by simp; omega) (by simp) ?_; intro v1 w1 own1 bel1 sz1)
    | (at_builtin; refine wpList_append_bytes rfl (.tmp 7) (.tmp 8) 29 5 isU8 rfl w.heap.size _ _ ([167, 59] ++ bs) [94, 193] rfl rfl (World.ownsRow.alloc own1 _) (owns_new _ w1.heap.size _ [94, 193] (Nat.le_refl _) (by simp [maxLen])).holds (by simp; omega) (by simp; omega) ?_; intro v2 w2 own2 bel2 sz2))
  have belT : Below w.heap.size w w2 := (((Below.refl _ _).alloc (Nat.le_refl _) _).trans bel1).trans ((Below.refl _ _).alloc sz1 _ |>.trans bel2)
  obtain ⟨g, cap2, hv2, hcap2, hmax2, hcell2⟩ : ∃ g cap2, v2 = .slice (some ⟨g, 0, none⟩) (2 + bs.length + 2) cap2 ∧ 2 + bs.length + 2 ≤ cap2 ∧ cap2 ≤ maxLen ∧ ∀ j (hj : j < bs.length), w2.cell? ⟨g, 2 + j, none⟩ = some (.int .u8 (bs[j].toNat : Int)) := by
    obtain ⟨b, off, c, hv, h1, h2, h3⟩ := own2.holds.at (by simp)
    rcases own2.2 with ⟨h, _⟩ | ⟨g, cap, cur, h, _⟩
    · rw [hv] at h; simp at h
    · rw [hv] at h
      simp at h
      obtain ⟨⟨rfl, rfl⟩, rfl⟩ := h
      refine ⟨b, c, by rw [hv]; simp; omega, by simp at h1; omega, h2, fun j hj => ?_⟩
      have hc := h3 (2 + j) (by simp; omega)
      rw [Nat.zero_add] at hc
      rw [hc]
      simp [List.getElem_cons, hj]
  rw [hv2] at own2 ⊢
  clear hv2 v2
  unfold maxLen at hmax2
  go_wp2
  go_region
  go_wp2
  go_ret2
  refine ⟨_, _, rfl, own2, ?_, belT.drew⟩
  refine .inr ⟨⟨g, 2, none⟩, cap2 - 2, ?_, by omega, by unfold maxLen; omega, fun j u hj => ?_⟩
  · exact congrArg (fun n => Value.slice (some ⟨g, 2, none⟩) n (cap2 - 2)) (show 2 + bs.length - 2 = bs.length by omega)
  · have hj' : j < bs.length := by
      have := (List.getElem?_eq_some_iff.1 hj).1
      simpa [bcells] using this
    rw [Go.WideShapes.add_plain]
    have hc := hcell2 j hj'
    have hu : u = .int .u8 (bs[j].toNat : Int) := by simpa [bcells, hj'] using hj.symm
    rw [hu]
    exact hc

/-- Kept: the memory is as it was lent. -/
theorem kept_any (x s : Value) (xs bs : List UInt8) (w : World) (hx : Holds w x xs) (hs : Holds w s bs) (hl : bs.length ≤ 1000000) :
    Calls Try.prog 28 #[x, s] w fun e w' => e = .returned (.bool (xs == [167, 59] ++ bs ++ [94, 193])) ∧ Below w.heap.size w w' := by
  go_enter Try.func28, Try.ntmps28
  go_wp2_with fail
  refine (lend_any _ bs _ hs hl).mono ?_
  rintro e w1 ⟨v1, v2, rfl, own1, hold2, bel1⟩
  have kx := run_string_of (hx.below bel1 (Nat.le_refl _)) 29 9 5 Try.underlying29 Try.underlying5 Try.underlying9
  have ky := run_string_of own1.holds 29 9 5 Try.underlying29 Try.underlying5 Try.underlying9
  go_wp2
  go_ret
  exact ⟨ret_bool rfl, bel1⟩

set_option maxRecDepth 20000 in
set_option maxHeartbeats 1000000 in
/-- Two lists of texts, compared. -/
theorem texts_any (w : World) (va vb : Value) (l m : List ByteArray) (ha : Row w va (scells l)) (hb : Row w vb (scells m)) (hl : l.length ≤ 1000000) (_hm : m.length ≤ 1000000) :
    Calls Try.prog 10 #[va, vb] w fun e w' => e = .returned (.bool (l.map txt == m.map txt)) ∧ ∃ n, w' = w.drewN n := by
  obtain ⟨a1, c1, rfl, _⟩ := ha.sliceStrs
  obtain ⟨a2, c2, rfl, _⟩ := hb.sliceStrs
  by_cases hlen : l.length = m.length
  · rw [← hlen] at hb ⊢
    have HL : Hid _ := hlen
    have hle1 : l.length ≤ m.length := by omega
    have hle2 : m.length ≤ l.length := by omega
    clear hlen
    go_enter Try.func10, Try.ntmps10
    go_wp2
    go_loopw [13] (fun i wr => ∃ k : Nat, k ≤ l.length ∧ i = .int .i64 k ∧ (l.map txt).take k = (m.map txt).take k ∧ ∃ d, wr = w.drewN d) (fun i _ => l.length - (intOf i).toNat)
    case atStart => exact ⟨0, Nat.zero_le _, rfl, rfl, 0, rfl⟩
    case round =>
      obtain ⟨k, hk, rfl, hpre, hd⟩ := hrel
      have HD : Hid _ := hd
      have HP : Hid _ := hpre
      clear hd hpre
      by_cases hlt : k < l.length
      · obtain ⟨b1, o1, d1, hv1, _, _, hc1⟩ := ha.atStrs (by omega)
        obtain ⟨b2, o2, d2, hv2, _, _, hc2⟩ := hb.atStrs (by omega)
        injection hv1 with hv11 _ hv13
        rw [← HL.out] at hv2
        injection hv2 with hv21 _ hv23
        subst hv11 hv13 hv21 hv23
        have e1 : wr.cell? ⟨b1, o1 + k, none⟩ = some (.string l[k]) := by obtain ⟨d, rfl⟩ := HD.out; exact hc1 k hlt
        have e2 : wr.cell? ⟨b2, o2 + k, none⟩ = some (.string (m[k]'(by omega))) := by obtain ⟨d, rfl⟩ := HD.out; exact hc2 k (by omega)
        have hlt' : (k : Int) < (m.length : Int) := by omega
        have hlt'' : (k : Int) < (l.length : Int) := by omega
        have HE : Hid ((l[k].toList == (m[k]'(by omega)).toList) = (txt l[k] == txt (m[k]'(by omega)))) := by
          show _ = _
          rw [ByteArray.toList_eq, ByteArray.toList_eq]; rfl
        have HT1 : Hid ((l.map txt).take (k + 1) = (l.map txt).take k ++ [txt l[k]]) := by
          show _ = _
          rw [List.take_succ_eq_append_getElem (by rw [List.length_map]; omega)]; simp
        have HT2 : Hid ((m.map txt).take (k + 1) = (m.map txt).take k ++ [txt (m[k]'(by omega))]) := by
          show _ = _
          rw [List.take_succ_eq_append_getElem (by rw [List.length_map]; omega)]; simp
        clear hc1 hc2
        generalize hx : l[k] = x at *
        generalize hy : (m[k]'(by omega)) = y at *
        cases hq : (x.toList == y.toList)
        · go_wp2
          go_quiet (fail)
          go_wp2
          go_ret
          obtain ⟨d, hd⟩ := HD.out
          refine ⟨ret_bool ?_, d + nq, by rw [hd, World.drewN_drewN]⟩
          symm
          rw [beq_eq_false_iff_ne]
          intro e
          have h1 := HT1.out
          rw [e, HT2.out] at h1
          have h2 := HE.out
          rw [hq] at h2
          have h3 := (List.append_inj' h1 rfl).2
          simp at h3
          rw [h3] at h2
          simp at h2
        · go_wp2
          go_quiet (fail)
          go_wp2
          go_roundw
          case rel =>
            refine ⟨k + 1, by omega, by go_num, ?_, ?_⟩
            · have h2 := HE.out
              rw [hq] at h2
              rw [HT1.out, HT2.out, HP.out, beq_iff_eq.1 h2.symm]
            · obtain ⟨d, hd⟩ := HD.out
              exact ⟨d + nq, by rw [hd, World.drewN_drewN]⟩
          case measure => simp [intOf]; omega
      · go_wp2
        go_ret
        obtain ⟨d, hd⟩ := HD.out
        refine ⟨ret_bool ?_, d, hd⟩
        have := HP.out
        rw [List.take_of_length_le (by rw [List.length_map]; omega), List.take_of_length_le (by rw [List.length_map]; omega)] at this
        rw [this]
        simp
  · have hlen' : ((l.length : Int) == (m.length : Int)) = false := by rw [beq_eq_false_iff_ne]; omega
    go_enter Try.func10, Try.ntmps10
    go_wp2
    go_ret
    refine ⟨ret_bool ?_, 0, rfl⟩
    symm
    rw [beq_eq_false_iff_ne]
    intro e
    apply hlen
    have := congrArg List.length e
    simpa using this

theorem txt_inj {s t : ByteArray} (h : txt s = txt t) : s = t := arr_inj h
/-- Are two rows of names the same? -/
theorem texts_eq (w : World) (va vb : Value) (l m : List ByteArray) (ha : Row w va (scells l)) (hb : Row w vb (scells m)) (hl : l.length ≤ 1000000) (hm : m.length ≤ 1000000) :
    Calls Try.prog 10 #[va, vb] w fun e w' => e = .returned (.bool (decide (l = m))) ∧ Below w.heap.size w w' := by
  refine (texts_any w va vb l m ha hb hl hm).mono ?_
  rintro e w' ⟨rfl, n, rfl⟩
  refine ⟨ret_bool ?_, below_draws _ _ _⟩
  rw [Bool.eq_iff_iff]
  simp only [beq_iff_eq, decide_eq_true_eq]
  exact ⟨fun h => (List.map_inj_right (fun a b h => txt_inj h)).1 h, fun h => by rw [h]⟩
end Go.Proofs.Ytndinjekocgjhaa
