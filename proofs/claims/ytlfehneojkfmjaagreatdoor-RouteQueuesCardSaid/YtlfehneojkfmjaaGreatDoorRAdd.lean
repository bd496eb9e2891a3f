/-
  THE DOCUMENT's add, Queues, Who, by their contracts.
-/
import Derived.Test.YtlfehneojkfmjaaGreatDoorLay
import Derived.Test.YtlfehneojkfmjaaGreatDoorGrows
namespace Go.Proofs.YtlfehneojkfmjaaGreatDoor
open Go.RowKit Go.Sort Go.Shelf

theorem radd_cons (s : ByteArray) (done : Bool) (x : ByteArray) (r : List ByteArray) : radd s done (x :: r) = (if ¬ cmpS x s < 0 ∧ done = false then [s] else []) ++ ((if x = s then [] else [x]) ++ radd s (done || !decide (cmpS x s < 0)) r) := by rw [radd]

set_option maxRecDepth 20000 in
set_option maxHeartbeats 4000000 in
theorem radd_any (v : Value) (l : List ByteArray) (s : ByteArray) (w : World) (hr : Row w v (scells l)) (hl : l.length ≤ 1000) (ho : Ord cmpS l) :
    Calls Tryz.prog 30 #[v, .string s] w fun e w' => ∃ v', e = .returned v' ∧ Row w' v' (scells (addS s l)) ∧ Below w.heap.size w w' := by
  obtain ⟨va, vc, rfl⟩ := hr.sliceStrs
  rw [← radd_addS ho]
  go_enter Tryz.func30, Tryz.ntmps30
  go_wp2
  go_loopw [5, 6, 8, 11] (fun u5 u6 u8 u11 wr => ∃ (k : Nat) (out : List ByteArray) (done : Bool), u11 = .int .i64 k ∧ k ≤ l.length ∧ u6 = .bool done ∧ Own1 wr w.heap.size 9 u5 (scells out) ∧ radd s false l = out ++ radd s done (l.drop k) ∧ out.length ≤ 2 * k ∧ Below w.heap.size w wr) (fun u5 u6 u8 u11 wr => l.length - (intOf u11).toNat)
  case atStart => exact ⟨0, [], false, rfl, Nat.zero_le _, rfl, own1_nil _ _ _, by simp, by simp, Below.refl _ _⟩
  case round =>
    obtain ⟨k, out, done, rfl, hk, rfl, hown, heq, hol, hbr⟩ := hrel
    have hsl := hbr.size
    by_cases hlt2 : k < l.length
    · have hlt : (k : Int) < (l.length : Int) := by omega
      obtain ⟨rb, ro, rc, hv, _, _, hcell⟩ := (hr.below hbr (Nat.le_refl _)).atStrs (by omega)
      have hck := hcell k hlt2
      injection hv with hv1 _ hv3
      subst hv1 hv3
      rw [List.drop_eq_getElem_cons hlt2, radd_cons] at heq
      clear hcell hr
      generalize l[k] = x at *
      have lc := less_cmp x s
      have sd := same_dec x s
      obtain ⟨da, dn, dc, rfl⟩ : ∃ a n c, u5 = .slice a n c := by obtain ⟨a, c, h⟩ := hown.row.slice; exact ⟨a, _, c, h⟩
      have HS : Hid (w.heap.size ≤ wr.heap.size) := hsl
      by_cases hc : cmpS x s < 0
      · have hne : ¬ x = s := fun e => by rw [e, cmpS3.self] at hc; exact absurd hc (by decide)
        rw [decide_eq_true hc] at lc heq
        rw [decide_eq_false hne] at sd
        rw [if_neg (fun h => h.1 hc), if_neg hne] at heq
        simp only [Bool.not_true, Bool.or_false, List.nil_append] at heq
        have HE : Hid _ := heq
        clear heq hc hne hsl
        go_wp2_with (at_builtin; refine wpList_append_row rfl _ _ 30 9 (.string ⟨#[]⟩) 16 elemS rfl w.heap.size _ _ (scells out) [.string x] rfl rfl (World.ownsRow.alloc hown _) (row_one _ _ _) (by simp [Value.oneCell']) (by rw [scells_length]; simp; omega) (by rw [scells_length]; simp; omega) (by have := HS.out; simp; omega) ?_; intro v' w4 hown' hb4 hs4)
        go_roundw
        case rel => exact ⟨k + 1, out ++ [x], done, by go_num, by omega, rfl, by rw [scells_append]; exact hown', by rw [HE.out]; simp, by simp; omega, hbr.trans (((Below.refl _ _).alloc HS.out _).trans hb4)⟩
        case measure => simp [intOf]; omega
      · rw [decide_eq_false hc] at lc heq
        simp only [Bool.not_false, Bool.or_true] at heq
        cases done
        · rw [if_pos ⟨hc, rfl⟩] at heq
          by_cases hxs : x = s
          · rw [decide_eq_true hxs] at sd
            rw [if_pos hxs] at heq
            have HE : Hid _ := heq
            clear heq hc hxs hsl
            go_wp2_with (at_builtin; refine wpList_append_row rfl _ _ 30 9 (.string ⟨#[]⟩) 16 elemS rfl w.heap.size _ _ (scells out) [.string s] rfl rfl (World.ownsRow.alloc hown _) (row_one _ _ _) (by simp [Value.oneCell']) (by rw [scells_length]; simp; omega) (by rw [scells_length]; simp; omega) (by have := HS.out; simp; omega) ?_; intro v' w4 hown' hb4 hs4)
            go_roundw
            case rel => exact ⟨k + 1, out ++ [s], true, by go_num, by omega, rfl, by rw [scells_append]; exact hown', by rw [HE.out]; simp, by simp; omega, hbr.trans (((Below.refl _ _).alloc HS.out _).trans hb4)⟩
            case measure => simp [intOf]; omega
          · rw [decide_eq_false hxs] at sd
            rw [if_neg hxs] at heq
            have HE : Hid _ := heq
            clear heq hc hxs hsl
            go_wp2_with (first
              | (at_builtin; refine wpList_append_row rfl _ _ 30 9 (.string ⟨#[]⟩) 16 elemS rfl w.heap.size _ _ (scells out) [.string s] rfl rfl (World.ownsRow.alloc hown _) (row_one _ _ _) (by simp [Value.oneCell']) (by rw [scells_length]; simp; omega) (by rw [scells_length]; simp; omega) (by have := HS.out; simp; omega) ?_; intro v' w4 hown' hb4 hs4; have hown2 : Own1 w4 w.heap.size 9 v' (scells (out ++ [s])) := (by rw [scells_append]; exact hown'))
              | (at_builtin; refine wpList_append_row rfl _ _ 30 9 (.string ⟨#[]⟩) 16 elemS rfl w.heap.size _ _ (scells (out ++ [s])) [.string x] rfl rfl (World.ownsRow.alloc hown2 _) (row_one _ _ _) (by simp [Value.oneCell']) (by rw [scells_length]; simp; omega) (by rw [scells_length]; simp; omega) (by simp; omega) ?_; intro v'' w5 hown3 hb5 hs5))
            go_roundw
            case rel => exact ⟨k + 1, (out ++ [s]) ++ [x], true, by go_num, by omega, rfl, by rw [scells_append]; exact hown3, by rw [HE.out]; simp, by simp; omega, hbr.trans (((Below.refl _ _).alloc HS.out _).trans (hb4.trans (((Below.refl _ _).alloc hs4 _).trans hb5)))⟩
            case measure => simp [intOf]; omega
        · rw [if_neg (fun h => by cases h.2)] at heq
          by_cases hxs : x = s
          · rw [decide_eq_true hxs] at sd
            rw [if_pos hxs] at heq
            have HE : Hid _ := heq
            clear heq hc hxs hsl
            go_wp2
            go_roundw
            case rel => exact ⟨k + 1, out, true, by go_num, by omega, rfl, hown, by rw [HE.out]; simp, by omega, hbr⟩
            case measure => simp [intOf]; omega
          · rw [decide_eq_false hxs] at sd
            rw [if_neg hxs] at heq
            have HE : Hid _ := heq
            clear heq hc hxs hsl
            go_wp2_with (at_builtin; refine wpList_append_row rfl _ _ 30 9 (.string ⟨#[]⟩) 16 elemS rfl w.heap.size _ _ (scells out) [.string x] rfl rfl (World.ownsRow.alloc hown _) (row_one _ _ _) (by simp [Value.oneCell']) (by rw [scells_length]; simp; omega) (by rw [scells_length]; simp; omega) (by have := HS.out; simp; omega) ?_; intro v' w4 hown' hb4 hs4)
            go_roundw
            case rel => exact ⟨k + 1, out ++ [x], true, by go_num, by omega, rfl, by rw [scells_append]; exact hown', by rw [HE.out]; simp, by simp; omega, hbr.trans (((Below.refl _ _).alloc HS.out _).trans hb4)⟩
            case measure => simp [intOf]; omega
    · obtain rfl : k = l.length := by omega
      rw [List.drop_length] at heq
      obtain ⟨da, dn, dc, rfl⟩ : ∃ a n c, u5 = .slice a n c := by obtain ⟨a, c, h⟩ := hown.row.slice; exact ⟨a, _, c, h⟩
      have HS : Hid (w.heap.size ≤ wr.heap.size) := hsl
      have HE : Hid _ := heq
      clear hr hsl heq
      cases done
      · go_wp2_with (at_builtin; refine wpList_append_row rfl _ _ 30 9 (.string ⟨#[]⟩) 16 elemS rfl w.heap.size _ _ (scells out) [.string s] rfl rfl (World.ownsRow.alloc hown _) (row_one _ _ _) (by simp [Value.oneCell']) (by rw [scells_length]; simp; omega) (by rw [scells_length]; simp; omega) (by have := HS.out; simp; omega) ?_; intro v' w4 hown' hb4 hs4)
        go_ret
        refine ⟨_, rfl, ?_, hbr.trans (((Below.refl _ _).alloc HS.out _).trans hb4)⟩
        rw [HE.out]
        show Row _ _ (scells (out ++ [s]))
        rw [scells_append]
        exact hown'.row
      · go_wp2
        go_ret
        refine ⟨_, rfl, ?_, hbr⟩
        rw [HE.out]
        show Row _ _ (scells (out ++ []))
        rw [List.append_nil]
        exact hown.row
end Go.Proofs.YtlfehneojkfmjaaGreatDoor
