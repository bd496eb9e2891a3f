/-
  maps.DeleteFunc at bindings, shed, Drop, Forget, by their contracts.
-/
import Derived.Test.YtiaagiijjledkaaGreatDoorBind
import Derived.Maps.RangeWalk
import Derived.Laws.IdiomRangeMap
namespace Go.Proofs.YtiaagiijjledkaaGreatDoor
open Go.RowKit Go.Sort Go.Maps Go.Shelf

theorem atKey_absent {H : Type} {es : List (Lit × DataW H)} {z : Lit} (h : ∀ p ∈ es, p.1 ≠ z) (zd : DataW H) : (DataW.map es).atKey z zd = zd := by
  unfold DataW.atKey
  have : es.find? (fun p => p.1.sameKey z) = none := by
    rw [List.find?_eq_none]
    intro p hp
    rw [sameKey_false (h p hp)]; simp
  simp only [this]

set_option maxRecDepth 100000 in
set_option maxHeartbeats 4000000 in
theorem deleteFunc_any (pd : Bd → Bool) (g : Nat) (cb : Array Value) (b : Nat) (l : List Bd) (hl : BL l) (w : World) (eg : ∀ args w, (callFunc g args).run Tryz.prog w = .ok (.enter g args) w) (hown : BAt w b l)
    (hdel : ∀ (W : World) (x : Bd), w.grownBy W (some b) → Calls Tryz.prog g (#[bv x, .agg #[]] ++ cb) W fun e w' => e = .returned (.bool (pd x)) ∧ W.grownBy w' none) :
    Calls Tryz.prog 60 #[.map (some b), .func (.func g) #[] cb] w fun e w' => e = .returned (.tuple #[]) ∧ BAt w' b (l.filter fun x => !pd x) ∧ w.grownBy w' (some b) := by
  obtain ⟨pdL, hpdL⟩ : ∃ pdL : Lit → DataW Ex → Bool, ∀ x ∈ l, ∀ d, pdL (bkl x) d = pd x := by
    refine ⟨fun z _ => l.any fun y => (bkl y).sameKey z && pd y, fun x hx d => ?_⟩
    rw [Bool.eq_iff_iff, List.any_eq_true]
    constructor
    · rintro ⟨y, hy, h⟩
      rw [Bool.and_eq_true] at h
      rw [← hl.diff.unique hy hx (WideAt.sameKey_eq h.1)]
      exact h.2
    · intro h
      exact ⟨x, hx, by rw [(sameKey_iff bKeyed.one (hl.keys x hx)).2 rfl, h]; rfl⟩
  have hend : Lib.deleteFuncD pdL (DofG bkl bd l) = DofG bkl bd (l.filter fun x => !pd x) := by
    rw [deleteFunc_DofG bKeyed.one hl.keys hl.diff pdL]
    congr 1
    exact List.filter_congr fun x hx => by rw [hpdL x hx]
  obtain ⟨es0, hD, hap, hkeys⟩ := World.ownsMap.entries hown bKeyed
  have hes : ∀ p ∈ es0, ∃ y ∈ l, bkl y = p.1 := by
    intro p hp
    unfold DofG at hD
    injection hD with hD
    rw [← hD] at hp
    obtain ⟨y, hy, rfl⟩ := List.mem_map.1 (mem_sorted.1 hp)
    exact ⟨y, hy, rfl⟩
  have hown' : w.ownsMap Tryz.prog 35 unitElem b l.length (.map es0) := by rw [← hD]; exact hown
  have HEND : Hid (∀ w', w'.ownsMap Tryz.prog 35 unitElem b l.length (Lib.deleteFuncD pdL (.map es0)) → BAt w' b (l.filter fun x => !pd x)) := fun w' h => by
    rw [← hD, hend] at h
    exact ownsMapG_fit h
  have HD : Hid (∀ (W : World) (x : Bd), w.grownBy W (some b) → Calls Tryz.prog g (#[bv x, .agg #[]] ++ cb) W fun e w' => e = .returned (.bool (pd x)) ∧ W.grownBy w' none) := hdel
  clear hdel hown hD hend
  go_enter Tryz.func60, Tryz.ntmps60
  go_wp2_with (first
    | (at_range; refine wpList_range_own _ rfl _ 51 rfl 35 68 bKeyed Tryz.underlying51 unitElem b l.length _ rfl hown' ?_; intro w0 hrg0 hg0 hs0)
    | go_in)
  go_frame
  go_loopw [4, 5] (fun _ _ wr => ∃ (left : Lit → Bool) (cnt : Nat), wr.ranges Tryz.prog 35 unitElem b w.heap.size l.length (Fk pdL es0 left) left cnt ∧ w.grownBy wr (some b))
    (fun _ _ wr => wr.rangeLeft b w.heap.size)
  case atStart => exact ⟨_, _, by rw [Fk_start hkeys]; exact hrg0, hg0.but _⟩
  case round =>
    obtain ⟨left, cnt, hrg, hgw⟩ := hrel
    go_wp2_with (first
      | (at_next; refine wpList_next_ranges _ rfl _ rfl 35 bKeyed unitElem bv (fun _ : Unit => Value.agg #[]) (fun key kl hk => by obtain ⟨s, _, hs, _⟩ := bkey_inv hk; exact ⟨s, hs⟩) (fun v y hv => ⟨(), (unitElem_inv hv).1⟩) b w.heap.size l.length _ _ _ rfl hrg ?_ ?_)
      | go_in)
    · intro _ hl0
      go_wp2
      go_end0
      exact ⟨rfl, HEND.out _ (by rw [← Fk_end hl0]; exact hrg.owns), hgw⟩
    · intro c kl yd yp w1 cnt1 hkey hlx hv hat hrg1 hlt hg1 hs1 hen
      have hgw1 := hgw.andThen hg1 (fun j hj => by cases hj; exact Or.inl (Nat.le_refl _))
      obtain ⟨_, hz⟩ := unitElem_inv hv
      simp at hz
      obtain ⟨rfl, rfl⟩ := hz
      obtain ⟨y, hy, hyk⟩ : ∃ y ∈ l, bkl y = kl := by
        by_cases hn : ∃ y ∈ l, bkl y = kl
        · exact hn
        · have h1 := hat .nil
          unfold Fk at h1
          rw [atKey_absent (fun p hp e => by
            obtain ⟨y, hy, hyp⟩ := hes p (List.mem_filter.1 hp).1
            exact hn ⟨y, hy, hyp.trans e⟩)] at h1
          cases h1
      obtain rfl : c = y := by
        have := bKeyed.inj hkey (by rw [← hyk]; exact keyOf_bd (hl.fit y hy))
        cases c; cases y
        simp at this
        simp [this]
      obtain ⟨w2, fold⟩ : ∃ w2, (w1.alloc (.cells #[.string c.ex, .string c.que, .string c.pat] 35)).alloc (.cells #[] 68) = w2 := ⟨_, rfl⟩
      have g12 : w1.grownBy w2 none := by rw [← fold]; exact (World.grownBy_alloc w1 _ none).andThen (World.grownBy_alloc _ _ none) (fun j hj => by cases hj)
      have hgw2 := hgw1.andThen g12 (fun j hj => by cases hj)
      have hrg2 := hrg1.kept g12 (by simp) (by simp)
      have k0 : w2.cell? ⟨w1.heap.size, 0, none⟩ = some (.string c.ex) := by rw [← fold]; exact cell_allocK _ (cell_of_list (C := bcells c) (heap_alloc_new w1 _) 0)
      have k1 : w2.cell? ⟨w1.heap.size, 1, none⟩ = some (.string c.que) := by rw [← fold]; exact cell_allocK _ (cell_of_list (C := bcells c) (heap_alloc_new w1 _) 1)
      have k2 : w2.cell? ⟨w1.heap.size, 2, none⟩ = some (.string c.pat) := by rw [← fold]; exact cell_allocK _ (cell_of_list (C := bcells c) (heap_alloc_new w1 _) 2)
      have hc := HD.out w2 c hgw2
      have hpp := hpdL c hy (.agg [])
      rw [hyk] at hpp
      have HPP : Hid _ := hpp
      have HAT : Hid (∀ zd, (Fk pdL es0 left).atKey kl zd = .agg []) := hat
      clear hs1 hv hat hpp
      cases hp : pd c <;> rw [hp] at hc
      · go_wp2_with (first
          | (go_at_fn g; refine hc.mono ?_; rintro e w3 ⟨rfl, hg3⟩)
          | go_in)
        have hrg3 := hrg2.kept hg3 (by simp) (by simp)
        go_roundw
        case rel => exact ⟨_, cnt1, by rw [← Fk_stays hap (bKeyed.key hkey) hlx (HPP.out.trans hp) HAT.out]; exact hrg3, hgw2.andThen hg3 (fun j hj => by cases hj)⟩
        case measure => rw [hrg3.left_eq, hrg.left_eq]; exact hlt
      · go_wp2_with (first
          | (go_at_fn g; refine hc.mono ?_; rintro e w3 ⟨rfl, hg3⟩; have hrg3 := hrg2.kept hg3 (by simp) (by simp); have m0 := hg3.cell k0 (by simp); have m1 := hg3.cell k1 (by simp); have m2 := hg3.cell k2 (by simp))
          | (at_delete; refine wpList_delete_ranges _ rfl _ _ 51 35 rfl 68 bKeyed Tryz.underlying51 unitElem b w.heap.size l.length _ _ _ rfl hrg3 _ _ rfl hkey ?_; intro w4 cnt4 hrg4 hle hturn; go_frame)
          | go_in)
        rw [strike_twice] at hrg4
        go_roundw
        case rel => exact ⟨_, cnt4, by rw [← Fk_struck hap (bKeyed.key hkey) hlx (HPP.out.trans hp) HAT.out]; exact hrg4, (hgw2.andThen hg3 (fun j hj => by cases hj)).andThen hturn.grown (fun j hj => by cases hj; exact Or.inr rfl)⟩
        case measure => rw [hrg4.left_eq, hrg.left_eq]; omega

set_option maxRecDepth 20000 in
set_option maxHeartbeats 1000000 in
/-- shed's closure: what it asks another one. -/
theorem shed1_any (pd : Bd → Bool) (g : Nat) (cb : Array Value) (q : Nat) (x : Bd) (W : World) (eg : ∀ args w, (callFunc g args).run Tryz.prog w = .ok (.enter g args) w) (hq : W.cell? ⟨q, 0, none⟩ = some (.func (.func g) #[] cb))
    (hg : ∀ W', W.grownBy W' none → Calls Tryz.prog g (#[bv x] ++ cb) W' fun e w' => e = .returned (.bool (pd x)) ∧ W'.grownBy w' none) :
    Calls Tryz.prog 61 (#[bv x, .agg #[]] ++ #[.pointer (some ⟨q, 0, none⟩)]) W fun e w' => e = .returned (.bool (pd x)) ∧ W.grownBy w' none := by
  obtain ⟨W2, fold⟩ : ∃ W2, (W.alloc (.cells #[.string x.ex, .string x.que, .string x.pat] 35)).alloc (.cells #[] 68) = W2 := ⟨_, rfl⟩
  have g12 : W.grownBy W2 none := by rw [← fold]; exact (World.grownBy_alloc W _ none).andThen (World.grownBy_alloc _ _ none) (fun j hj => by cases hj)
  have k0 : W2.cell? ⟨W.heap.size, 0, none⟩ = some (.string x.ex) := by rw [← fold]; exact cell_allocK _ (cell_of_list (C := bcells x) (heap_alloc_new W _) 0)
  have k1 : W2.cell? ⟨W.heap.size, 1, none⟩ = some (.string x.que) := by rw [← fold]; exact cell_allocK _ (cell_of_list (C := bcells x) (heap_alloc_new W _) 1)
  have k2 : W2.cell? ⟨W.heap.size, 2, none⟩ = some (.string x.pat) := by rw [← fold]; exact cell_allocK _ (cell_of_list (C := bcells x) (heap_alloc_new W _) 2)
  have k3 := g12.cell hq (by simp)
  have hc := hg W2 g12
  generalize pd x = r at hc ⊢
  clear hg
  go_enter Tryz.func61, Tryz.ntmps61
  go_wp2_with (first
    | (go_at_fn g; refine hc.mono ?_; rintro e w3 ⟨rfl, hg3⟩)
    | go_in)
  go_ret
  exact ⟨rfl, g12.andThen hg3 (fun j hj => by cases hj)⟩
set_option maxRecDepth 20000 in
set_option maxHeartbeats 1000000 in
theorem drop1_any (x : Bd) (n : Nat) (s : ByteArray) (W : World) (hn : W.cell? ⟨n, 0, none⟩ = some (.string s)) :
    Calls Tryz.prog 43 (#[bv x] ++ #[.pointer (some ⟨n, 0, none⟩)]) W fun e w' => e = .returned (.bool (x.ex.toList == s.toList)) ∧ W.grownBy w' none := by
  have k3 := fun o => cell_allocK o hn
  go_enter Tryz.func43, Tryz.ntmps43
  go_wp2
  go_ret
  exact ⟨rfl, World.grownBy_alloc W _ none⟩
set_option maxRecDepth 20000 in
set_option maxHeartbeats 1000000 in
theorem forget1_any (x : Bd) (n : Nat) (s : ByteArray) (W : World) (hn : W.cell? ⟨n, 0, none⟩ = some (.string s)) :
    Calls Tryz.prog 47 (#[bv x] ++ #[.pointer (some ⟨n, 0, none⟩)]) W fun e w' => e = .returned (.bool (x.que.toList == s.toList)) ∧ W.grownBy w' none := by
  have k3 := fun o => cell_allocK o hn
  go_enter Tryz.func47, Tryz.ntmps47
  go_wp2
  go_ret
  exact ⟨rfl, World.grownBy_alloc W _ none⟩
end Go.Proofs.YtiaagiijjledkaaGreatDoor
