/-
  THE DOCUMENT's BOOK: Put, by its contract.
-/
import Derived.Test.YtnlllpgdhnmccaaRef2
import Derived.Test.YtnlllpgdhnmccaaSlabs
import Derived.Test.YtnlllpgdhnmccaaRefs3
namespace Go.Proofs.Ytnlllpgdhnmccaa
open Go.RowKit Go.Sort

/-- A range's cells. -/
def renc (r : Nat × Nat) : List Value := [.int .u64 (r.1 : Int), .int .u64 (r.2 : Int)]
instance : K.Enc renc 2 where
  len _ := rfl
  one r u hu := by
    simp only [renc, List.mem_cons, List.not_mem_nil, or_false] at hu
    rcases hu with rfl | rfl <;> rfl
  pos := by decide

set_option maxRecDepth 20000 in
set_option maxHeartbeats 2000000 in
theorem rbput_in (p m i : Nat) (v : Nat → Value) (f : Nat → List (Nat × Nat)) (la : Option Addr) (lc : Nat) (l : List (Nat × Nat)) (w : World) (h : RbAt w p v f) (hi : i < 8) (hm : m = i + 1) (hr : Rng w (.slice la l.length lc) l) (hg : goodB 1 l = true) (hu : Upto 18446744073709551616 l) (hlen : l.length ≤ 1000000) :
    Calls Try.prog 16 #[ptrS p, .int .i64 (m : Int), .slice la l.length lc] w fun e w' => e = .returned (.int .i64 0) ∧ ∃ v', RbAt w' p (putF v (i + 1) v') (putF f i l) ∧ Moved w w' (footR p v) (footR p (putF v (i + 1) v')) := by
  have hI := is_any (m : Int) w
  rw [show knownB (m : Int) = true from decide_eq_true (by omega)] at hI
  have hG := rgood_any (.slice la l.length lc) l w hr hu hlen
  rw [hg] at hG
  obtain ⟨i0, hi0, hz0, hzs, hzb⟩ := rngInfo
  have hm9 : (m : Int) < 9 := by omega
  have hp : p < w.heap.size := h.lts p (.inl rfl)
  have hll : l.length ≤ 9223372036854775807 := by omega
  have HX : Hid (∀ W, Below w.heap.size w W → (∀ o, K.RowOf renc (W.drew.alloc o) (.slice la l.length lc) l) ∧ (∀ o v' w', K.OwnOf renc 2 76 w' w.heap.size v' ([] ++ l) → (W.drew.alloc o).grownBy w' (some W.heap.size) →
      (w'.cell? ⟨p, m, none⟩ = some (v (i + 1)) ∧ w'.frozen? ⟨p, m, none⟩ = false) ∧ RbAt (w'.setCell ⟨p, m, none⟩ v') p (putF v (i + 1) v') (putF f i l) ∧ Moved w (w'.setCell ⟨p, m, none⟩ v') (footR p v) (footR p (putF v (i + 1) v')))) := by
    intro W bW
    have bD : ∀ o, Below w.heap.size w (W.drew.alloc o) := fun o => bW.drew.alloc bW.size o
    refine ⟨fun o => hr.below (bD o) (Nat.le_refl _), fun o v' w' own gr => ?_⟩
    have b' : Below w.heap.size w w' := (bD o).grown gr (bD o).size (fun k e => by cases e; exact bW.size)
    have hR' : RbAt w' p v f := h.same fun k hk => b'.block k (h.lts k hk)
    have own2 : Own2 w' 0 v' l := (show Own2 w' w.heap.size v' l from own).mono (Nat.zero_le _)
    have nw : NewOr w (v (i + 1)) v' ∨ v'.ownBlock = none := by
      by_cases h : v'.ownBlock = none
      · exact .inr h
      · obtain ⟨g, hg⟩ := Option.ne_none_iff_exists'.1 h
        exact .inl (.inr ⟨g, hg, (World.ownsRow.lt own g hg).1⟩)
    refine ⟨⟨by rw [cell_of_list hR'.blk, hm]; exact fcells_get _ (by omega), by simp [World.frozen?, hR'.blk]⟩, ?_⟩
    rw [hm]
    refine ⟨hR'.put own2, ?_⟩
    rcases nw with nw | nw
    · exact RbAt.moved hi b' nw
    · refine ⟨b'.os, b'.tape, b'.output, by simpa using b'.size, fun k hk hn => ?_, ?_⟩
      · rw [Below.heap_setCell _ _ _ _ (fun e => hn (.inl e)), b'.block k hk]
      · rintro k (rfl | ⟨j, hj, hk⟩)
        · exact .inl (.inl rfl)
        · by_cases e : j = i
          · subst e
            rw [putF_at, nw] at hk
            cases hk
          · rw [putF_ne _ _ (by omega)] at hk
            exact .inl (.inr ⟨j, hj, hk⟩)
  obtain ⟨va, vn, vc, hv⟩ := (h.rows i hi).rng.slice3
  rw [hv] at HX
  clear h hi hm hr hg hu hp hv
  unfold ptrS
  go_enter Try.func16, Try.ntmps16
  go_wp2_with fail
  refine hI.mono ?_
  rintro e w1 ⟨rfl, hw1⟩
  subst hw1
  go_wp2_with fail
  refine hG.mono ?_
  rintro e W ⟨rfl, bW⟩
  obtain ⟨HR0, HE0⟩ := HX.out W bW
  have HR : Hid _ := HR0
  have HE : Hid _ := HE0
  have bs : w1.heap.size ≤ W.heap.size := bW.size
  clear HR0 HE0 HX hI hG
  go_wp2
  go_region_law (refine K.step_append_rows (enc := renc) rfl (.tmp 15) (.tmp 16) 30 rfl Try.underlying30 i0 _ 16 hi0 hz0 hzs hzb rfl w1.heap.size (.slice (some ⟨W.heap.size, 0, none⟩) 0 0) (.slice la l.length lc) [] l (by simp [Act.eval]) (by simp [Act.eval]) (K.ownOf_empty W.drew _ bs) (HR.out _) (by unfold maxLen; simp; omega) (by simp; omega) (by simp; omega) ?_; intro v' w' own' gr' nw'; obtain ⟨⟨k0, k1⟩, HF0⟩ := HE.out _ v' w' own' gr'; have HF : Hid _ := HF0; obtain ⟨ua, uc, hv'⟩ := K.RowOf.slice (K.OwnOf.rng own'); rw [List.nil_append] at hv'; subst hv'; clear HF0 own' gr' nw')
  all_goals go_wp2
  all_goals go_ret
  all_goals exact ⟨rfl, _, HF.out⟩

set_option maxHeartbeats 1000000 in
theorem rbput_any (p : Nat) (F : Nat → Prop) (f : Nat → List (Nat × Nat)) (o : Int) (lv : Value) (l : List (Nat × Nat)) (w : World) (h : Rb w p F f) (hr : Rng w lv l) (hu : Upto 18446744073709551616 l) (hlen : l.length ≤ 1000000) :
    Calls Try.prog 16 #[ptrS p, .int .i64 o, lv] w fun e w' => e = .returned (.int .i64 (putE o l)) ∧ ∃ F', Rb w' p F' (putS f o l) ∧ Moved w w' F F' := by
  obtain ⟨v, hb, rfl⟩ := RbAt.told h
  obtain ⟨la, lc, rfl⟩ := hr.slice
  have hI := is_any o w
  by_cases ho : 1 ≤ o ∧ o ≤ 8
  · have hE : putE o l = if goodB 1 l = true then 0 else 7 := if_pos ho
    obtain ⟨i, hi, he⟩ := known_at ho
    by_cases hg : goodB 1 l = true
    · have hc := rbput_in p (i + 1) i v f la lc l w hb hi rfl hr hg hu hlen
      rw [show ((i + 1 : Nat) : Int) = o by omega] at hc
      refine hc.mono ?_
      rintro e w' ⟨rfl, v', h1, h2⟩
      exact ⟨by rw [hE, if_pos hg], _, ⟨_, by rw [putS_in hi he hg]; exact h1, fun _ => Iff.rfl⟩, h2⟩
    · rw [hE, if_neg hg, show putS f o l = f from if_neg fun hh => hg hh.2]
      rw [show knownB o = true from decide_eq_true ho] at hI
      have hG := rgood_any (.slice la l.length lc) l w hr hu hlen
      rw [Bool.eq_false_iff.2 hg] at hG
      have HH : Hid (∀ V, Below w.heap.size w V → Rb V p (footR p v) f) := fun V hV => h.kept hV
      clear h hb hr hu hE ho he hg
      unfold ptrS
      go_enter Try.func16, Try.ntmps16
      go_wp2_with fail
      refine hI.mono ?_
      rintro e w1 ⟨rfl, hw1⟩
      subst hw1
      go_wp2_with fail
      refine hG.mono ?_
      rintro e W ⟨rfl, bW⟩
      go_wp2
      go_ret
      exact ⟨rfl, _, HH.out _ bW, .of_below bW⟩
  · rw [show putE o l = 2 from if_neg ho, show putS f o l = f from if_neg fun hh => ho hh.1]
    rw [show knownB o = false from decide_eq_false ho] at hI
    have HH : Hid (Rb w p (footR p v) f) := h
    clear h hb hr hu ho
    unfold ptrS
    go_enter Try.func16, Try.ntmps16
    go_wp2_with fail
    refine hI.mono ?_
    rintro e w1 ⟨rfl, hw1⟩
    subst hw1
    go_wp2
    go_ret
    exact ⟨rfl, _, HH.out, .refl _ _⟩
end Go.Proofs.Ytnlllpgdhnmccaa
