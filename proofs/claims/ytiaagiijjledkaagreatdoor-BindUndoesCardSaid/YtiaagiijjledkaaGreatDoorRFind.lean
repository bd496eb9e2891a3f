/-
  THE DOCUMENT's Find, Has, ahead, by their contracts.
-/
import Derived.Test.YtiaagiijjledkaaGreatDoorRTable
import Derived.Test.YtiaagiijjledkaaGreatDoorFind
import Derived.Shelf.SlSortCmp.QuietGrown
namespace Go.Proofs.YtiaagiijjledkaaGreatDoor
open Go.RowKit Go.Sort Go.Shelf

theorem less_cb : ∀ a b : List UInt8, Op.bytesLess a b = decide (Lib.compareBytes a b < 0)
  | [], [] => by simp [Op.bytesLess, Lib.compareBytes]
  | [], _ :: _ => by simp [Op.bytesLess, Lib.compareBytes]
  | _ :: _, [] => by simp [Op.bytesLess, Lib.compareBytes]
  | x :: a, y :: b => by
    rw [Op.bytesLess, less_cb a b, Lib.compareBytes]
    by_cases h1 : x < y
    · rw [if_pos h1]; simp [h1]
    · rw [if_neg h1]
      by_cases h2 : y < x
      · rw [if_pos h2]
        have h3 : (x == y) = false := by
          rw [beq_eq_false_iff_ne]
          intro e
          rw [e] at h2
          exact absurd h2 (by rw [UInt8.lt_iff_toNat_lt]; omega)
        simp [h1, h3]
      · rw [if_neg h2]
        have h3 : x = y := by
          rw [UInt8.lt_iff_toNat_lt] at h1 h2
          exact UInt8.toNat_inj.1 (by omega)
        simp [h3]
theorem less_cmp (a b : ByteArray) : Op.bytesLess a.toList b.toList = decide (cmpS a b < 0) := by
  rw [less_cb, ByteArray.toList_eq, ByteArray.toList_eq]
  rfl
theorem same_dec (a b : ByteArray) : (a.toList == b.toList) = decide (a = b) := by
  rw [Bool.eq_iff_iff]
  simp only [decide_eq_true_eq, beq_iff_eq, ByteArray.toList_eq]
  exact ⟨arr_inj, fun h => by rw [h]⟩

set_option maxRecDepth 20000 in
set_option maxHeartbeats 2000000 in
theorem rfind_any (p : Nat) (F : Nat → Prop) (s : Tb) (n : ByteArray) (w : World) (h : RT w p F s) (hl : s.xs.length ≤ 1000000) :
    Calls Tryz.prog 28 #[.pointer (some ⟨p, 0, none⟩), .string n] w fun e w' => e = .returned (.tuple #[xv ((findX s.xs n).getD zeroEx), .bool (findX s.xs n).isSome]) ∧ Below w.heap.size w w' := by
  obtain ⟨W, fold⟩ : ∃ W, w.alloc (.cells #[.string ⟨#[]⟩, .int .i64 0, .bool false] 33) = W := ⟨_, rfl⟩
  have bW : Below w.heap.size w W := by rw [← fold]; exact (Below.refl _ _).alloc (Nat.le_refl _) _
  have hWz : W.heap[w.heap.size]? = some (.cells #[.string ⟨#[]⟩, .int .i64 0, .bool false] 33 (0, 0)) := by rw [← fold]; exact heap_alloc_new w _
  have hWs : Hid (w.heap.size < W.heap.size) := (Array.getElem?_eq_some_iff.1 hWz).1
  obtain ⟨vx, vb, hq, hF, hlt⟩ := h.kept bW
  obtain ⟨c0, c1⟩ := cells2 hq.blk
  obtain ⟨ax, cx, rfl⟩ := hq.x.slice
  have hX := hq.x.exs
  clear hq hF hlt h
  have HZ : Hid (∀ V, Below W.heap.size W V → V.heap[w.heap.size]? = some (.cells #[.string ⟨#[]⟩, .int .i64 0, .bool false] 33 (0, 0))) := fun V hV => (hV.block _ hWs.out).trans hWz
  clear hWz
  go_enter Tryz.func28, Tryz.ntmps28
  go_wp2
  clear fold c0 c1
  go_loopw [7, 13] (fun u7 u13 wr => ∃ k : Nat, u13 = .int .i64 k ∧ k ≤ s.xs.length ∧ (∀ x ∈ s.xs.take k, ¬ x.name = n) ∧ Below W.heap.size W wr) (fun u7 u13 wr => s.xs.length - (intOf u13).toNat)
  case atStart => exact ⟨0, rfl, Nat.zero_le _, by simp, Below.refl _ _⟩
  case round =>
    obtain ⟨k, rfl, hk, hno, hbr⟩ := hrel
    have HBR : Hid _ := hbr
    by_cases hlt2 : k < s.xs.length
    · have hlt : (k : Int) < (s.xs.length : Int) := by omega
      obtain ⟨b, off, rfl, hi⟩ := hX k hlt2
      obtain ⟨e0, e1, e2⟩ := hi.below hbr (Nat.le_refl _)
      have hfk : ∀ x, x = s.xs[k] → (x.name = n → findX s.xs n = some x) ∧ (¬ x.name = n → ∀ y ∈ s.xs.take (k + 1), ¬ y.name = n) := fun x hx => by
        constructor
        · intro e
          unfold findX
          rw [← List.take_append_drop k s.xs, List.find?_append]
          rw [List.find?_eq_none.2 (fun y hy => by simpa using hno y hy)]
          rw [List.drop_eq_getElem_cons hlt2, List.find?_cons_of_pos (by rw [← hx]; simpa using e), ← hx]
          rfl
        · intro e y hy
          rw [List.take_succ_eq_append_getElem hlt2, ← hx] at hy
          rcases List.mem_append.1 hy with hy | hy
          · exact hno y hy
          · rw [List.mem_singleton.1 hy]; exact e
      have hfk' := hfk _ rfl
      clear hX hi hfk
      generalize s.xs[k] = x at *
      obtain ⟨X, foldX⟩ : ∃ X, wr.alloc (.cells #[.string x.name, .int .i64 x.kind, .bool x.fed] 33) = X := ⟨_, rfl⟩
      have bX : Below W.heap.size W X := by rw [← foldX]; exact hbr.alloc hbr.size _
      have z0 : X.cell? ⟨wr.heap.size, 0, none⟩ = some (.string x.name) := by rw [← foldX]; exact cell_of_list (C := xcells x) (heap_alloc_new wr _) 0
      have z1 : X.cell? ⟨wr.heap.size, 1, none⟩ = some (.int .i64 x.kind) := by rw [← foldX]; exact cell_of_list (C := xcells x) (heap_alloc_new wr _) 1
      have z2 : X.cell? ⟨wr.heap.size, 2, none⟩ = some (.bool x.fed) := by rw [← foldX]; exact cell_of_list (C := xcells x) (heap_alloc_new wr _) 2
      have hXz := HZ.out X bX
      have t0 : X.cell? ⟨w.heap.size, 0, none⟩ = some (.string ⟨#[]⟩) := cell_of_list (C := [.string ⟨#[]⟩, .int .i64 0, .bool false]) hXz 0
      have t1 : X.cell? ⟨w.heap.size, 1, none⟩ = some (.int .i64 0) := cell_of_list (C := [.string ⟨#[]⟩, .int .i64 0, .bool false]) hXz 1
      have t2 : X.cell? ⟨w.heap.size, 2, none⟩ = some (.bool false) := cell_of_list (C := [.string ⟨#[]⟩, .int .i64 0, .bool false]) hXz 2
      have f0 := frozen_of_list hXz
      have HP : Hid _ := put3_at (w := X) ⟨_, hXz, rfl⟩ (.string x.name) (.int .i64 x.kind) (.bool x.fed)
      have HE : Hid _ := put3_below (w := X) (.string x.name) (.int .i64 x.kind) (.bool x.fed) (bW.trans (bX.mono bW.size)) (Nat.le_refl _)
      have HBX : Hid _ := bX
      have hne : ¬ w.heap.size = wr.heap.size := by have := hWs.out; have := hbr.size; omega
      have hsd := same_dec x.name n
      clear hXz bX hbr hno
      by_cases hxn : x.name = n
      · have hfx : Hid _ := hfk'.1 hxn
        have hsd' : (x.name.toList == n.toList) = true := by rw [hsd, decide_eq_true hxn]
        clear hsd hxn hfk'
        go_wp2
        refine ret_x (p := 4) (u := 5) (r := .bool true) rfl w.heap.size rfl rfl rfl HP.out ?_
        rw [hfx.out]
        exact ⟨rfl, HE.out⟩
      · have hfx : Hid _ := hfk'.2 hxn
        have hsd' : (x.name.toList == n.toList) = false := by rw [hsd, decide_eq_false hxn]
        clear hsd hxn hfk'
        go_wp2
        go_roundw
        case rel => exact ⟨k + 1, by go_num, by omega, hfx.out, HBX.out⟩
        case measure => simp [intOf]; omega
    · obtain rfl : k = s.xs.length := by omega
      rw [List.take_length] at hno
      have hfn : findX s.xs n = none := by
        unfold findX
        rw [List.find?_eq_none]
        intro x hx
        simpa using hno x hx
      have hXz := HZ.out wr hbr
      have t0 : wr.cell? ⟨w.heap.size, 0, none⟩ = some (.string ⟨#[]⟩) := cell_of_list (C := [.string ⟨#[]⟩, .int .i64 0, .bool false]) hXz 0
      have t1 : wr.cell? ⟨w.heap.size, 1, none⟩ = some (.int .i64 0) := cell_of_list (C := [.string ⟨#[]⟩, .int .i64 0, .bool false]) hXz 1
      have t2 : wr.cell? ⟨w.heap.size, 2, none⟩ = some (.bool false) := cell_of_list (C := [.string ⟨#[]⟩, .int .i64 0, .bool false]) hXz 2
      have f0 := frozen_of_list hXz
      have HP : Hid _ := put3_at (w := wr) ⟨_, hXz, rfl⟩ (.string ⟨#[]⟩) (.int .i64 0) (.bool false)
      have HE : Hid _ := put3_below (w := wr) (.string ⟨#[]⟩) (.int .i64 0) (.bool false) (bW.trans (hbr.mono bW.size)) (Nat.le_refl _)
      have HF : Hid _ := hfn
      clear hXz hno hX hfn
      go_wp2
      refine ret_x (p := 4) (u := 5) (r := .bool false) rfl w.heap.size rfl rfl rfl HP.out ?_
      rw [HF.out]
      exact ⟨rfl, HE.out⟩

theorem bd_same {x y : Bd} (h1 : x.ex.toList = y.ex.toList) (h2 : x.que.toList = y.que.toList) (h3 : x.pat.toList = y.pat.toList) : x = y := by
  rw [ByteArray.toList_eq, ByteArray.toList_eq] at h1 h2 h3
  cases x; cases y
  simp only at h1 h2 h3
  rw [arr_inj h1, arr_inj h2, arr_inj h3]

set_option maxRecDepth 20000 in
set_option maxHeartbeats 2000000 in
theorem rhas_any (p : Nat) (F : Nat → Prop) (s : Tb) (y : Bd) (w : World) (h : RT w p F s) (hl : s.bs.length ≤ 1000000) :
    Calls Tryz.prog 16 #[.pointer (some ⟨p, 0, none⟩), bv y] w fun e w' => e = .returned (.bool (decide (y ∈ s.bs))) ∧ Below w.heap.size w w' := by
  obtain ⟨W, fold⟩ : ∃ W, w.alloc (.cells #[.string y.ex, .string y.que, .string y.pat] 35) = W := ⟨_, rfl⟩
  have bW : Below w.heap.size w W := by rw [← fold]; exact (Below.refl _ _).alloc (Nat.le_refl _) _
  have x0 : W.cell? ⟨w.heap.size, 0, none⟩ = some (.string y.ex) := by rw [← fold]; exact cell_of_list (C := bcells y) (heap_alloc_new w _) 0
  have x1 : W.cell? ⟨w.heap.size, 1, none⟩ = some (.string y.que) := by rw [← fold]; exact cell_of_list (C := bcells y) (heap_alloc_new w _) 1
  have x2 : W.cell? ⟨w.heap.size, 2, none⟩ = some (.string y.pat) := by rw [← fold]; exact cell_of_list (C := bcells y) (heap_alloc_new w _) 2
  have HX : Hid (∀ V, Below W.heap.size W V → V.cell? ⟨w.heap.size, 0, none⟩ = some (.string y.ex) ∧ V.cell? ⟨w.heap.size, 1, none⟩ = some (.string y.que) ∧ V.cell? ⟨w.heap.size, 2, none⟩ = some (.string y.pat)) := fun V hV =>
    ⟨(hV.cell (p := ⟨w.heap.size, 0, none⟩) (World.block_lt_of_cell? _ _ x0)).trans x0, (hV.cell (p := ⟨w.heap.size, 1, none⟩) (World.block_lt_of_cell? _ _ x1)).trans x1, (hV.cell (p := ⟨w.heap.size, 2, none⟩) (World.block_lt_of_cell? _ _ x2)).trans x2⟩
  obtain ⟨vx, vb, hq, hF, hlt⟩ := h.kept bW
  obtain ⟨c0, c1⟩ := cells2 hq.blk
  obtain ⟨ax, cx, rfl⟩ := hq.b.slice
  have hX := hq.b.bds
  clear hq hF hlt h x0 x1 x2
  go_enter Tryz.func16, Tryz.ntmps16
  go_wp2
  clear fold c0 c1
  go_loopw [6, 12] (fun u6 u12 wr => ∃ k : Nat, u12 = .int .i64 k ∧ k ≤ s.bs.length ∧ (y ∉ s.bs.take k) ∧ Below W.heap.size W wr) (fun u6 u12 wr => s.bs.length - (intOf u12).toNat)
  case atStart => exact ⟨0, rfl, Nat.zero_le _, by simp, Below.refl _ _⟩
  case round =>
    obtain ⟨k, rfl, hk, hno, hbr⟩ := hrel
    by_cases hlt2 : k < s.bs.length
    · have hlt : (k : Int) < (s.bs.length : Int) := by omega
      obtain ⟨b, off, rfl, hi⟩ := hX k hlt2
      obtain ⟨e0, e1, e2⟩ := hi.below hbr (Nat.le_refl _)
      have hfk : ∀ x, x = s.bs[k] → (x = y → y ∈ s.bs) ∧ (¬ x = y → y ∉ s.bs.take (k + 1)) := fun x hx => by
        constructor
        · rintro rfl
          rw [hx]; exact List.getElem_mem hlt2
        · intro e hy
          rw [List.take_succ_eq_append_getElem hlt2, ← hx] at hy
          rcases List.mem_append.1 hy with hy | hy
          · exact hno hy
          · exact e (List.mem_singleton.1 hy).symm
      have hfk' := hfk _ rfl
      clear hX hi hfk
      generalize s.bs[k] = x at *
      obtain ⟨X, foldX⟩ : ∃ X, wr.alloc (.cells #[.string x.ex, .string x.que, .string x.pat] 35) = X := ⟨_, rfl⟩
      have bX : Below W.heap.size W X := by rw [← foldX]; exact hbr.alloc hbr.size _
      have z0 : X.cell? ⟨wr.heap.size, 0, none⟩ = some (.string x.ex) := by rw [← foldX]; exact cell_of_list (C := bcells x) (heap_alloc_new wr _) 0
      have z1 : X.cell? ⟨wr.heap.size, 1, none⟩ = some (.string x.que) := by rw [← foldX]; exact cell_of_list (C := bcells x) (heap_alloc_new wr _) 1
      have z2 : X.cell? ⟨wr.heap.size, 2, none⟩ = some (.string x.pat) := by rw [← foldX]; exact cell_of_list (C := bcells x) (heap_alloc_new wr _) 2
      obtain ⟨t0, t1, t2⟩ := HX.out X bX
      have HBX : Hid _ := bX
      have HBW : Hid _ := bW
      clear bX hbr hno
      have HF : Hid _ := hfk'
      clear hfk'
      go_wp2
      · rename_i h1 h2 h3
        go_ret
        exact ⟨retK_bool (decide_eq_true (HF.out.1 (bd_same h1 h2 h3))).symm, HBW.out.trans (HBX.out.mono HBW.out.size)⟩
      all_goals (rename_i h; exact ⟨⟨k + 1, by go_num, by omega, HF.out.2 (fun e => h (by rw [e])), HBX.out⟩, by simp [intOf]; omega⟩)
    · obtain rfl : k = s.bs.length := by omega
      rw [List.take_length] at hno
      have HN : Hid _ := decide_eq_false hno
      clear hX hno
      go_wp2
      go_ret
      exact ⟨retK_bool HN.out.symm, bW.trans (hbr.mono bW.size)⟩

/-- Does a binding stand ahead of another one? -/
theorem ahead_cmp (x y : Bd) : decide (cmpB x y < 0) = (if x.ex = y.ex then (if x.que = y.que then decide (cmpS x.pat y.pat < 0) else decide (cmpS x.que y.que < 0)) else decide (cmpS x.ex y.ex < 0)) := by
  unfold cmpB cor
  simp only
  by_cases h1 : x.ex = y.ex
  · rw [if_pos h1, if_pos (show cmpS x.ex y.ex = 0 by rw [h1]; exact cmpS3.self _)]
    by_cases h2 : x.que = y.que
    · rw [if_pos h2, if_pos (show cmpS x.que y.que = 0 by rw [h2]; exact cmpS3.self _)]
    · rw [if_neg h2, if_neg (fun e => h2 (cmpS_eq e))]
  · rw [if_neg h1, if_neg (fun e => h1 (cmpS_eq e))]

theorem below_grown (B : Nat) (w : World) (q : Nat) (os : Array Obj) (hB : B ≤ w.heap.size) : Below B w (grow (w.drewN q) os) :=
  ⟨rfl, rfl, rfl, by simp [grow], fun k hk => by
    show (w.heap ++ os)[k]? = _
    rw [Array.getElem?_append_left (by omega)]⟩

set_option maxRecDepth 20000 in
set_option maxHeartbeats 2000000 in
theorem rahead_grew (x y : Bd) (w : World) : Calls Tryz.prog 46 #[bv x, bv y] w fun e w' => e = .returned (.bool (decide (cmpB x y < 0))) ∧ ∃ q os', w' = grow (w.drewN q) os' := by
  obtain ⟨X, fold⟩ : ∃ X, (w.alloc (.cells #[.string x.ex, .string x.que, .string x.pat] 35)).alloc (.cells #[.string y.ex, .string y.que, .string y.pat] 35) = X := ⟨_, rfl⟩
  have HX : Hid (∃ q os', X = grow (w.drewN q) os') := ⟨0, #[.cells #[.string x.ex, .string x.que, .string x.pat] 35, .cells #[.string y.ex, .string y.que, .string y.pat] 35], by rw [← fold, alloc_eq_grow, alloc_eq_grow, grow_grow]; rfl⟩
  have a0 : X.cell? ⟨w.heap.size, 0, none⟩ = some (.string x.ex) := by rw [← fold]; simp [World.cell?_alloc_old, World.cell?_alloc_at]
  have a1 : X.cell? ⟨w.heap.size, 1, none⟩ = some (.string x.que) := by rw [← fold]; simp [World.cell?_alloc_old, World.cell?_alloc_at]
  have a2 : X.cell? ⟨w.heap.size, 2, none⟩ = some (.string x.pat) := by rw [← fold]; simp [World.cell?_alloc_old, World.cell?_alloc_at]
  have b0 : X.cell? ⟨w.heap.size + 1, 0, none⟩ = some (.string y.ex) := by rw [← fold, ← World.size_alloc w (.cells #[.string x.ex, .string x.que, .string x.pat] 35)]; simp [World.cell?_alloc_at]
  have b1 : X.cell? ⟨w.heap.size + 1, 1, none⟩ = some (.string y.que) := by rw [← fold, ← World.size_alloc w (.cells #[.string x.ex, .string x.que, .string x.pat] 35)]; simp [World.cell?_alloc_at]
  have b2 : X.cell? ⟨w.heap.size + 1, 2, none⟩ = some (.string y.pat) := by rw [← fold, ← World.size_alloc w (.cells #[.string x.ex, .string x.que, .string x.pat] 35)]; simp [World.cell?_alloc_at]
  have l1 := less_cmp x.ex y.ex
  have l2 := less_cmp x.que y.que
  have l3 := less_cmp x.pat y.pat
  have s1 := same_dec x.ex y.ex
  have s2 := same_dec x.que y.que
  rw [ahead_cmp]
  by_cases h1 : x.ex = y.ex
  · rw [if_pos h1]
    have s1' : (x.ex.toList == y.ex.toList) = true := by rw [s1, decide_eq_true h1]
    by_cases h2 : x.que = y.que
    · rw [if_pos h2]
      have s2' : (x.que.toList == y.que.toList) = true := by rw [s2, decide_eq_true h2]
      rw [← l3]
      clear l1 l2 l3 s1 s2 h1 h2
      go_enter Tryz.func46, Tryz.ntmps46
      go_wp2
      go_ret
      exact ⟨rfl, HX.out⟩
    · rw [if_neg h2]
      have s2' : (x.que.toList == y.que.toList) = false := by rw [s2, decide_eq_false h2]
      rw [← l2]
      clear l1 l2 l3 s1 s2 h1 h2
      go_enter Tryz.func46, Tryz.ntmps46
      go_wp2
      go_ret
      exact ⟨rfl, HX.out⟩
  · rw [if_neg h1]
    have s1' : (x.ex.toList == y.ex.toList) = false := by rw [s1, decide_eq_false h1]
    rw [← l1]
    clear l1 l2 l3 s1 s2 h1
    go_enter Tryz.func46, Tryz.ntmps46
    go_wp2
    go_ret
    exact ⟨rfl, HX.out⟩

theorem rahead_any (x y : Bd) (w : World) : Calls Tryz.prog 46 #[bv x, bv y] w fun e w' => e = .returned (.bool (decide (cmpB x y < 0))) ∧ Below w.heap.size w w' := by
  refine (rahead_grew x y w).mono ?_
  rintro e w' ⟨rfl, q, os, rfl⟩
  exact ⟨rfl, below_grown _ w q os (Nat.le_refl _)⟩
end Go.Proofs.YtiaagiijjledkaaGreatDoor
