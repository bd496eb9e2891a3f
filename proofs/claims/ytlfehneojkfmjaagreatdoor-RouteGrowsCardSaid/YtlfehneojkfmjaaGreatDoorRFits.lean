/-
  THE WALK of the document's fits (it calls itself, and only reads).
-/
import Derived.Test.YtlfehneojkfmjaaGreatDoorFits
namespace Go.Proofs.YtlfehneojkfmjaaGreatDoor
open Go.RowKit Go.Shelf

theorem Row.drewN {w : World} {v : Value} {cs : List Value} (h : Row w v cs) (d : Nat) : Row (w.drewN d) v cs := h

/-- 'v[i:]'. -/
theorem row_from {P : Program} {t e : TypeId} {z : Value} {by' : Nat} (U : Elem P t e z by') {w : World} {v : Value} {cs : List Value} (h : Row w v cs) (i : Nat) (hi : i ≤ cs.length) (i' : Int) (hi' : i' = i) :
    ∃ a cap, (∀ W, (Instr.slice t v (some (.int .i64 i')) none none).run P W = .ok (.slice a (cs.length - i) cap) W) ∧ Row w (.slice a (cs.length - i) cap) (cs.drop i) := by
  subst hi'
  obtain ⟨inf, hinf, hz, hsz, hby⟩ := U.info
  have hel : P.elem t = e := by simp [Program.elem, U.ht]
  have hso : ∀ W, (sizeOf (P.elem t)).run P W = .ok 1 W := fun W => by
    rw [hel]
    simp [sizeOf, typeInfo, hinf, hsz]
  have hut : P.underlying t = some (.slice (P.elem t)) := by rw [hel]; exact U.ht
  rcases h with ⟨rfl, rfl⟩ | ⟨ad, cap, rfl, h1, h2, h3⟩
  · have : i = 0 := by simpa using hi
    subst this
    refine ⟨none, 0, fun W => ?_, .inl ⟨rfl, rfl⟩⟩
    rw [run_slice_l W t none 0 0 hut .i64 (0 : Nat) (by omega) (by simp)]
    simp [hso, Result.andThen, sliced]
  · refine ⟨some (if cap = i then ad else ad.add i), cap - i, fun W => ?_, ?_⟩
    · rw [run_slice_l W t (some ad) cs.length cap hut .i64 i (by omega) (by omega)]
      simp [hso, Result.andThen, sliced]
      split <;> rfl
    · refine .inr ⟨_, _, by rw [List.length_drop], by rw [List.length_drop]; omega, by omega, fun j u hj => ?_⟩
      rw [List.getElem?_drop] at hj
      have hlt := (List.getElem?_eq_some_iff.1 hj).1
      rw [if_neg (by omega)]
      have := h3 (i + j) u hj
      rw [← this]
      congr 1
      have hadd : (ad.add i).add j = ad.add (i + j) := by
        unfold Addr.add
        by_cases hi0 : i = 0 <;> by_cases hj0 : j = 0 <;> simp [hi0, hj0]
        omega
      exact hadd

set_option maxRecDepth 20000 in
set_option maxHeartbeats 2000000 in
theorem rfits_any (over : Bool) (Q : List ByteArray) : ∀ (K : List ByteArray) (w : World) (vp vk : Value), Row w vp (scells Q) → Row w vk (scells K) → K.length ≤ 1000000 → Q.length ≤ 1000000 →
    Calls Tryz.prog 79 #[vp, vk, .bool over] w fun e w' => e = .returned (.bool (rfits over (Q.map txt) (K.map txt))) ∧ ∃ n, w' = w.drewN n := by
  induction Q with
  | nil =>
    intro K w vp vk hp hk hK _
    obtain ⟨ap, cp, rfl⟩ := hp.sliceStrs
    obtain ⟨ak, ck, rfl⟩ := hk.sliceStrs
    go_enter Tryz.func79, Tryz.ntmps79
    go_wp2
    go_ret
    refine ⟨ret_bool ?_, 0, rfl⟩
    cases K with
    | nil => rfl
    | cons x K => simp [rfits]; omega
  | cons q Q ih =>
    intro K w vp vk hp hk hK hQ
    obtain ⟨bp, op, cp, rfl, hp1, hp2, hcp⟩ := hp.atStrs (by simp)
    have hq := hcp 0 (by simp)
    simp only [List.length_cons, List.getElem_cons_zero, Nat.add_zero] at hq hp1 hQ ⊢
    have hqe : (q.toList == [35]) = (txt q == [35]) := by rw [ByteArray.toList_eq]; rfl
    by_cases hm : txt q = [35]
    · have hqe' : (q.toList == [35]) = true := by rw [hqe, hm]; rfl
      clear hqe
      obtain ⟨ak, ck, rfl⟩ := hk.sliceStrs
      go_enter Tryz.func79, Tryz.ntmps79
      go_wp2
      go_loopw [7] (fun i wr => ∃ k : Nat, k ≤ K.length + 1 ∧ i = .int .i64 k ∧ (∀ j, j < k → rfits over (Q.map txt) ((K.map txt).drop j) = false) ∧ ∃ d, wr = w.drewN d) (fun i _ => K.length + 1 - (intOf i).toNat)
      case atStart => exact ⟨0, Nat.zero_le _, rfl, fun j hj => by omega, 0, rfl⟩
      case round =>
        obtain ⟨k, hkl, rfl, hno, hd⟩ := hrel
        have HD : Hid _ := hd
        clear hd
        by_cases hlt : k < K.length + 1
        · obtain ⟨a1, c1, hs1, hr1⟩ := row_from elemS hp 1 (by simp [scells]) 1 rfl
          obtain ⟨a2, c2, hs2, hr2⟩ := row_from elemS hk k (by rw [scells_length]; omega) k rfl
          rw [scells_length] at hs1 hs2 hr1 hr2
          simp only [List.length_cons, Nat.add_sub_cancel] at hs1 hr1
          have e1 : (scells (q :: Q)).drop 1 = scells Q := rfl
          have e2 : (scells K).drop k = scells (K.drop k) := by simp [scells, List.map_drop]
          rw [e1] at hr1
          rw [e2] at hr2
          have hcall : ∀ m, Calls Tryz.prog 79 #[.slice a1 Q.length c1, .slice a2 (K.length - k) c2, .bool over] (wr.drewN m) _ := fun m => ih (K.drop k) (wr.drewN m) _ _ (by obtain ⟨d, rfl⟩ := HD.out; exact hr1) (by obtain ⟨d, rfl⟩ := HD.out; exact hr2) (by rw [List.length_drop]; omega) (by omega)
          clear hr1 hr2 e1 e2
          have hmd : (K.map txt).drop k = (K.drop k).map txt := by rw [List.map_drop]
          cases hb : rfits over (Q.map txt) ((K.drop k).map txt) <;> rw [hb] at hcall
          · go_wp2
            go_quiet ((go_at_call 79; exact Calls.quiet_of (hcall _)))
            go_wp2
            go_roundw
            case rel =>
              refine ⟨k + 1, by omega, by go_num, fun j hj => ?_, ?_⟩
              · by_cases e : j = k
                · subst e; rw [hmd]; exact hb
                · exact hno j (by omega)
              · obtain ⟨d, hd⟩ := HD.out
                exact ⟨d + nq, by rw [hd, World.drewN_drewN]⟩
            case measure => simp [intOf]; omega
          · go_wp2
            go_quiet ((go_at_call 79; exact Calls.quiet_of (hcall _)))
            go_wp2
            go_ret
            obtain ⟨d, hd⟩ := HD.out
            refine ⟨ret_bool ?_, d + nq, by rw [hd, World.drewN_drewN]⟩
            rw [List.map_cons, rfits.eq_def]
            simp only [hm, if_true]
            symm
            rw [List.any_eq_true]
            exact ⟨k, List.mem_range.2 (by rw [List.length_map]; omega), by rw [hmd]; exact hb⟩
        · go_wp2
          go_ret
          obtain ⟨d, hd⟩ := HD.out
          refine ⟨ret_bool ?_, d, hd⟩
          rw [List.map_cons, rfits.eq_def]
          simp only [hm, if_true]
          symm
          rw [Bool.eq_false_iff]
          intro h
          rw [List.any_eq_true] at h
          obtain ⟨j, hj, h⟩ := h
          rw [hno j (by have := List.mem_range.1 hj; rw [List.length_map] at this; omega)] at h
          cases h
    · have hqe' : (q.toList == [35]) = false := by rw [hqe]; simpa using hm
      clear hqe
      cases K with
      | nil =>
        obtain ⟨ak, ck, rfl⟩ := hk.sliceStrs
        go_enter Tryz.func79, Tryz.ntmps79
        go_wp2
        go_ret
        refine ⟨ret_bool ?_, 0, rfl⟩
        rw [List.map_cons, rfits.eq_def]
        simp [hm]
      | cons x K =>
        obtain ⟨bk, ok, ck, rfl, hk1, hk2, hck⟩ := hk.atStrs (by simp)
        have hx := hck 0 (by simp)
        simp only [List.length_cons, List.getElem_cons_zero, Nat.add_zero] at hx hk1 hK ⊢
        clear hck hcp
        obtain ⟨a1, c1, hs1, hr1⟩ := row_from elemS hp 1 (by simp [scells]) 1 rfl
        obtain ⟨a2, c2, hs2, hr2⟩ := row_from elemS hk 1 (by simp [scells]) 1 rfl
        rw [scells_length] at hs1 hs2 hr1 hr2
        simp only [List.length_cons, Nat.add_sub_cancel] at hs1 hr1 hs2 hr2
        have e1 : (scells (q :: Q)).drop 1 = scells Q := rfl
        have e2 : (scells (x :: K)).drop 1 = scells K := rfl
        rw [e1] at hr1
        rw [e2] at hr2
        have hcall : ∀ m, Calls Tryz.prog 79 #[.slice a1 Q.length c1, .slice a2 K.length c2, .bool over] (w.drewN m) _ := fun m => ih K (w.drewN m) _ _ hr1 hr2 (by omega) (by omega)
        clear hr1 hr2 e1 e2
        have HR : Hid (rfits over ((q :: Q).map txt) ((x :: K).map txt) = (if (over && (x.toList == [35])) = true then false else ((q.toList == [42]) || (q.toList == x.toList)) && rfits over (Q.map txt) (K.map txt))) := by
          show _ = _
          rw [List.map_cons, List.map_cons, rfits.eq_def]
          simp only [hm, if_false]
          rw [ByteArray.toList_eq, ByteArray.toList_eq]
          rfl
        have hg0 : decide ((K.length : Int) + 1 = 0) = false := decide_eq_false (by omega)
        cases over <;> cases h35 : (x.toList == [35]) <;> cases h42 : (q.toList == [42]) <;> cases hqx : (q.toList == x.toList)
        all_goals go_enter Tryz.func79, Tryz.ntmps79
        all_goals go_wp2
        all_goals first
          | (go_quiet ((go_at_call 79; exact Calls.quiet_of (hcall _)))
             go_wp2
             go_ret
             exact ⟨ret_bool (by rw [HR.out, h35, h42, hqx]; simp), _, rfl⟩)
          | (go_ret
             exact ⟨ret_bool (by rw [HR.out, h35]; rfl), 0, rfl⟩)
end Go.Proofs.YtlfehneojkfmjaaGreatDoor
