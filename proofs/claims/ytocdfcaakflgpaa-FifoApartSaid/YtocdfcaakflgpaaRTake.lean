/-
  THE DOCUMENT's take, by its contract.
-/
import Derived.Test.YtocdfcaakflgpaaRefBase
namespace Go.Proofs.Ytocdfcaakflgpaa
open Go.RowKit Go.Sort

theorem findT_append (a b : List It) (t : Nat) : findT (a ++ b) t = (findT a t).or (findT b t) := by unfold findT; exact List.find?_append
theorem dropT_append (a b : List It) (t : Nat) : dropT (a ++ b) t = dropT a t ++ dropT b t := by unfold dropT; exact List.filter_append _ _
theorem take_snoc {l : List It} {k : Nat} (h : k < l.length) : l.take (k + 1) = l.take k ++ [l[k]] := by rw [List.take_succ_eq_append_getElem h]
theorem results_take {fn : Func} {p q u : Tmp} (h : fn.results = #[.tmp p, .cell q 38, .tmp u]) (tmps : Array Value) (w : World) (g : Nat) (v0 v1 v2 v3 v4 v5 v6 v7 : Value) (hp : tmps.getD q undef = .pointer (some ⟨g, 0, none⟩)) (hg : w.heap[g]? = some (.cells #[v0, v1, v2, v3, v4, v5, v6, v7] 38 (0, 0))) :
    (results fn tmps).run Try.prog w = .ok (.tuple #[tmps.getD p undef, .agg #[v0, v1, v2, v3, v4, v5, v6, v7], tmps.getD u undef]) w := by
  have hp' : tmps[q]?.getD undef = .pointer (some ⟨g, 0, none⟩) := by simpa using hp
  have hl := run_loadVar_row (P := Try.prog) w g _ _ _ _ _ hg Try.underlying38 rfl info8
  simp only [results, h]
  simp [hp', asAddr, hl, Result.andThen]
theorem ret_take {fn : Func} {Rp : Ending → World → Prop} {a : Act} {w : World} {p q u : Tmp} (h : fn.results = #[.tmp p, .cell q 38, .tmp u]) (g : Nat) {v0 v1 v2 v3 v4 v5 v6 v7 rv r : Value} (hp : a.tmps.getD q undef = .pointer (some ⟨g, 0, none⟩)) (hrv : a.tmps.getD p undef = rv) (hu : a.tmps.getD u undef = r) (hd : a.defers = [])
    (hg : w.heap[g]? = some (.cells #[v0, v1, v2, v3, v4, v5, v6, v7] 38 (0, 0))) (hR : Rp (.returned (.tuple #[rv, .agg #[v0, v1, v2, v3, v4, v5, v6, v7], r])) w) : bodyPost Try.prog fn Rp .ret a w :=
  bodyPost_ret (results_take h a.tmps w g v0 v1 v2 v3 v4 v5 v6 v7 hp hg) hd (by rw [hrv, hu]; exact hR)
theorem soft_of {w : World} {b : Nat} {y : It} (h : w.heap[b]? = some (.cells (icells y).toArray 38 (0, 0))) : Soft w b := ⟨_, h, rfl⟩
theorem dropT_one_eq {x : It} {t : Nat} (h : x.tag = t) : dropT [x] t = [] := by unfold dropT; simp [h]
theorem dropT_one_ne {x : It} {t : Nat} (h : ¬ x.tag = t) : dropT [x] t = [x] := by unfold dropT; simp [h]
theorem findT_one_eq {x : It} {t : Nat} (h : x.tag = t) : findT [x] t = some x := by unfold findT; simp [h]
theorem findT_one_ne {x : It} {t : Nat} (h : ¬ x.tag = t) : findT [x] t = none := by unfold findT; simp [h]
/-- The last one with a tag. -/
def lastT (l : List It) (t : Nat) : Option It := (l.filter fun x => x.tag == t).getLast?
theorem lastT_snoc_eq {l : List It} {x : It} {t : Nat} (h : x.tag = t) : lastT (l ++ [x]) t = some x := by
  unfold lastT; rw [List.filter_append]; simp [h]
theorem lastT_snoc_ne {l : List It} {x : It} {t : Nat} (h : ¬ x.tag = t) : lastT (l ++ [x]) t = lastT l t := by
  unfold lastT; rw [List.filter_append]; simp [h]
theorem lastT_find {l : List It} (hl : Rise l) (t : Nat) : lastT l t = findT l t := by
  induction l with
  | nil => rfl
  | cons x r ih =>
    obtain ⟨h1, h2⟩ := List.pairwise_cons.1 hl
    by_cases h : x.tag = t
    · have hr : r.filter (fun x => x.tag == t) = [] := by
        rw [List.filter_eq_nil_iff]
        intro y hy
        have := h1 y hy
        simp; omega
      have e1 : lastT (x :: r) t = some x := by unfold lastT; rw [List.filter_cons, if_pos (by simp [h]), hr]; rfl
      rw [e1]; unfold findT; rw [List.find?_cons]; simp [h]
    · have e1 : lastT (x :: r) t = lastT r t := by unfold lastT; rw [List.filter_cons, if_neg (by simp [h])]
      have e2 : findT (x :: r) t = findT r t := by unfold findT; exact List.find?_cons_of_neg (by simpa using h)
      rw [e1, e2, ih h2]

/-- Between two rounds. -/
structure Took (w wr : World) (v : Value) (l : List It) (t : Nat) : Prop where
  own : Own8 wr (w.heap.size + 2) v (dropT l t)
  res : Soft wr w.heap.size
  it : wr.heap[w.heap.size + 1]? = some (.cells (icells ((lastT l t).getD zeroIt)).toArray 38 (0, 0))
  bel : Below w.heap.size w wr
  size : w.heap.size + 2 ≤ wr.heap.size
theorem Took.alloc {w wr : World} {v : Value} {l : List It} {t : Nat} (h : Took w wr v l t) (o : Obj) : Took w (wr.alloc o) v l t :=
  ⟨h.own.alloc o, h.res.same (Below.heap_alloc _ _ _ (by have := h.size; omega)), (Below.heap_alloc _ _ _ (by have := h.size; omega)).trans h.it, h.bel.alloc h.bel.size o, by have := h.size; rw [World.size_alloc]; omega⟩
theorem Took.hit {w wr : World} {v : Value} {l : List It} {x : It} {t : Nat} (h : Took w wr v l t) (hx : x.tag = t) : Took w (put8 wr (w.heap.size + 1) (.int .u64 (x.tag : Int)) (.int .i64 x.m.o) (.int .u64 x.m.s) (.int .i64 x.m.hop) (.string x.m.ex) (.string x.m.key) (.string x.m.body) (.bool x.again)) v (l ++ [x]) t := by
  have hz := put8_at (soft_of h.it) (.int .u64 (x.tag : Int)) (.int .i64 x.m.o) (.int .u64 x.m.s) (.int .i64 x.m.hop) (.string x.m.ex) (.string x.m.key) (.string x.m.body) (.bool x.again)
  have hs := put8_size wr (w.heap.size + 1) (.int .u64 (x.tag : Int)) (.int .i64 x.m.o) (.int .u64 x.m.s) (.int .i64 x.m.hop) (.string x.m.ex) (.string x.m.key) (.string x.m.body) (.bool x.again)
  have hw := put8_world wr (w.heap.size + 1) (.int .u64 (x.tag : Int)) (.int .i64 x.m.o) (.int .u64 x.m.s) (.int .i64 x.m.hop) (.string x.m.ex) (.string x.m.key) (.string x.m.body) (.bool x.again)
  have ho : ∀ k, k ≠ w.heap.size + 1 → (put8 wr (w.heap.size + 1) (.int .u64 (x.tag : Int)) (.int .i64 x.m.o) (.int .u64 x.m.s) (.int .i64 x.m.hop) (.string x.m.ex) (.string x.m.key) (.string x.m.body) (.bool x.again)).heap[k]? = wr.heap[k]? := fun k hk => put8_other (.int .u64 (x.tag : Int)) (.int .i64 x.m.o) (.int .u64 x.m.s) (.int .i64 x.m.hop) (.string x.m.ex) (.string x.m.key) (.string x.m.body) (.bool x.again) hk
  generalize put8 wr (w.heap.size + 1) (.int .u64 (x.tag : Int)) (.int .i64 x.m.o) (.int .u64 x.m.s) (.int .i64 x.m.hop) (.string x.m.ex) (.string x.m.key) (.string x.m.body) (.bool x.again) = X at *
  refine ⟨?_, h.res.same (ho _ (by omega)), ?_, h.bel.trans ⟨hw.1, hw.2.1, hw.2.2, Nat.le_of_eq hs.symm, fun k hk => ho k (by omega)⟩, by rw [hs]; exact h.size⟩
  · rw [dropT_append, dropT_one_eq hx, List.append_nil]
    exact h.own.same fun g hg => ho g (by have := (h.own.lt hg).1; omega)
  · rw [lastT_snoc_eq hx]; exact hz
theorem Took.miss {w wr w' : World} {v v' : Value} {l : List It} {x : It} {t : Nat} (h : Took w wr v l t) (hx : ¬ x.tag = t) (own : Own8 w' (w.heap.size + 2) v' (dropT l t ++ [x])) (gr : wr.grownBy w' v.ownBlock) : Took w w' v' (l ++ [x]) t := by
  have hne : ∀ k, k < w.heap.size + 2 → ¬ some k = v.ownBlock := fun k hk he => by have := (h.own.lt he.symm).1; omega
  have hs := h.size
  refine ⟨by rw [dropT_append, dropT_one_ne hx]; exact own, h.res.same (gr.block _ (by omega) (hne _ (by omega))), ?_, h.own.below gr h.bel h.bel.size (by omega), by have := gr.size; omega⟩
  rw [lastT_snoc_ne hx]
  exact (gr.block _ (by omega) (hne _ (by omega))).trans h.it

set_option maxRecDepth 20000 in
set_option maxHeartbeats 2000000 in
theorem rtake_any (v : Value) (l : List It) (t : Nat) (w : World) (hr : Rows w v l) (hl : Rise l) (hlen : l.length ≤ 1000000) :
    Calls Try.prog 42 #[v, .int .u64 (t : Int)] w fun e w' => ∃ v', e = .returned (.tuple #[v', iv ((findT l t).getD zeroIt), .bool (findT l t).isSome]) ∧ Own8 w' w.heap.size v' (dropT l t) ∧ Below w.heap.size w w' := by
  obtain ⟨a, cap, rfl⟩ := hr.slice
  obtain ⟨_, _, hA⟩ := hr.items
  obtain ⟨i0, hi0, hz0, hzs, hzb⟩ := itemInfo
  obtain ⟨W, fold⟩ : ∃ W, (w.alloc (.cells #[.int .u64 0, .int .i64 0, .int .u64 0, .int .i64 0, .string ⟨#[]⟩, .string ⟨#[]⟩, .string ⟨#[]⟩, .bool false] 38)).alloc (.cells #[.int .u64 0, .int .i64 0, .int .u64 0, .int .i64 0, .string ⟨#[]⟩, .string ⟨#[]⟩, .string ⟨#[]⟩, .bool false] 38) = W := ⟨_, rfl⟩
  have T0 : Took w W (.slice none 0 0) (l.take 0) t := by
    rw [List.take_zero]
    refine ⟨ownOf_nil _ _, ⟨#[.int .u64 0, .int .i64 0, .int .u64 0, .int .i64 0, .string ⟨#[]⟩, .string ⟨#[]⟩, .string ⟨#[]⟩, .bool false], ?_, rfl⟩, ?_, ?_, ?_⟩
    · rw [← fold, Below.heap_alloc _ _ _ (by simp)]; exact heap_alloc_new w _
    · rw [← fold, ← World.size_alloc w (.cells #[.int .u64 0, .int .i64 0, .int .u64 0, .int .i64 0, .string ⟨#[]⟩, .string ⟨#[]⟩, .string ⟨#[]⟩, .bool false] 38)]; exact heap_alloc_new _ _
    · rw [← fold]; exact (below_alloc _ _).trans (((Below.refl _ _).alloc (Nat.le_refl _) _).mono (by simp))
    · rw [← fold]; simp
  clear hr
  go_enter Try.func42, Try.ntmps42
  go_wp2
  go_loopw [7, 9, 11, 14] (fun u7 u9 u11 u14 wr => ∃ k : Nat, u14 = .int .i64 k ∧ k ≤ l.length ∧ Took w wr u7 (l.take k) t ∧ u9 = .bool (lastT (l.take k) t).isSome) (fun u7 u9 u11 u14 wr => l.length - (intOf u14).toNat)
  case atStart => exact ⟨0, rfl, Nat.zero_le _, T0, rfl⟩
  case round =>
    clear T0 fold
    obtain ⟨k, rfl, hk, T, rfl⟩ := hrel
    by_cases hlt2 : k < l.length
    · have hlt : (k : Int) < (l.length : Int) := by omega
      obtain ⟨b, off, rfl, hi⟩ := hA k hlt2
      obtain ⟨e0, e1, e2, e3, e4, e5, e6, e7⟩ := hi.below T.bel (Nat.le_refl _)
      have hsn := take_snoc hlt2
      have HSN : Hid _ := hsn
      clear hsn hA hi
      generalize l[k] = x at *
      have hdl : (dropT (l.take k) t).length ≤ 1000000 := Nat.le_trans (List.length_filter_le _ _) (by simp; omega)
      obtain ⟨Wy, fold⟩ : ∃ Wy, wr.alloc (.cells #[.int .u64 (x.tag : Int), .int .i64 x.m.o, .int .u64 x.m.s, .int .i64 x.m.hop, .string x.m.ex, .string x.m.key, .string x.m.body, .bool x.again] 38) = Wy := ⟨_, rfl⟩
      have Ty := T.alloc (.cells #[.int .u64 (x.tag : Int), .int .i64 x.m.o, .int .u64 x.m.s, .int .i64 x.m.hop, .string x.m.ex, .string x.m.key, .string x.m.body, .bool x.again] 38)
      have iy : ItAt Wy wr.heap.size 0 x := by rw [← fold]; exact itAt_new wr x _ rfl
      rw [fold] at Ty
      obtain ⟨y0, y1, y2, y3, y4, y5, y6, y7⟩ := iy
      simp only [Nat.zero_add] at y0 y1 y2 y3 y4 y5 y6 y7
      obtain ⟨va, vc, hv⟩ := T.own.rng.slice
      subst hv
      have HT : Hid (Took w Wy (.slice va (dropT (l.take k) t).length vc) (l.take k) t) := Ty
      clear T
      by_cases hx : x.tag = t
      · have hxi : (x.tag : Int) = (t : Int) := by omega
        have f0 := (soft_of Ty.it).frozen
        obtain ⟨t0, u0⟩ := (soft_of Ty.it).cell 0 (by decide)
        obtain ⟨t1, u1⟩ := (soft_of Ty.it).cell 1 (by decide)
        obtain ⟨t2, u2⟩ := (soft_of Ty.it).cell 2 (by decide)
        obtain ⟨t3, u3⟩ := (soft_of Ty.it).cell 3 (by decide)
        obtain ⟨t4, u4⟩ := (soft_of Ty.it).cell 4 (by decide)
        obtain ⟨t5, u5⟩ := (soft_of Ty.it).cell 5 (by decide)
        obtain ⟨t6, u6⟩ := (soft_of Ty.it).cell 6 (by decide)
        obtain ⟨t7, u7⟩ := (soft_of Ty.it).cell 7 (by decide)
        have HH : Hid _ := HT.out.hit hx
        have HL : Hid (lastT (l.take k ++ [x]) t = some x) := lastT_snoc_eq hx
        have HX : Hid (x.tag = t) := hx
        subst hx
        clear Ty hxi
        go_wp2
        go_roundw
        case rel => exact ⟨k + 1, by go_num, by omega, by rw [HSN.out]; exact HH.out, by rw [HSN.out, HL.out]; rfl⟩
        case measure => simp [intOf]; omega
      · have hxi : ¬ (x.tag : Int) = (t : Int) := by omega
        have HL : Hid (lastT (l.take k ++ [x]) t = lastT (l.take k) t) := lastT_snoc_ne hx
        have HX : Hid (¬ x.tag = t) := hx
        clear hx
        generalize hfd : (lastT (l.take k) t).isSome = fd at *
        go_wp2_with (at_builtin; refine wpList_append_rows (enc := icells) rfl (.tmp 23) (.tmp 25) 47 rfl Try.underlying47 i0 _ 88 hi0 hz0 hzs hzb rfl (w.heap.size + 2) (.slice va (dropT (l.take k) t).length vc) _ (dropT (l.take k) t) [x] rfl rfl (HT.out.own.alloc _) (row_one _ _ _ rfl) (by unfold maxLen; simp; omega) (by simp; omega) (by have := HT.out.size; simp; omega) ?_; intro v' w' own' gr' _; have HM : Hid _ := (HT.out.alloc _).miss HX.out own' gr'; obtain ⟨va', vc', hv'⟩ := own'.rng.slice; rw [List.length_append, List.length_singleton] at hv'; subst hv')
        go_roundw
        case rel => exact ⟨k + 1, by go_num, by omega, by rw [HSN.out]; exact HM.out, by rw [HSN.out, HL.out, hfd]⟩
        case measure => simp [intOf]; omega
    · obtain rfl : k = l.length := by omega
      rw [List.take_length] at T
      simp only [List.take_length]
      have hlf := lastT_find hl t
      have iy := item_of_cells T.it
      have hown := T.own.mono (c := w.heap.size) (by omega)
      rw [hlf] at iy ⊢
      obtain ⟨fd, hfd⟩ : ∃ fd, fd = (findT l t).isSome := ⟨_, rfl⟩
      obtain ⟨x, hx⟩ : ∃ x, x = (findT l t).getD zeroIt := ⟨_, rfl⟩
      rw [← hfd]
      rw [← hx] at iy
      have HR : Hid (fd = (findT l t).isSome ∧ x = (findT l t).getD zeroIt) := ⟨hfd, hx⟩
      clear hfd hx
      obtain ⟨y0, y1, y2, y3, y4, y5, y6, y7⟩ := iy
      simp only [Nat.zero_add] at y0 y1 y2 y3 y4 y5 y6 y7
      have f0 := T.res.frozen
      obtain ⟨t0, u0⟩ := T.res.cell 0 (by decide)
      obtain ⟨t1, u1⟩ := T.res.cell 1 (by decide)
      obtain ⟨t2, u2⟩ := T.res.cell 2 (by decide)
      obtain ⟨t3, u3⟩ := T.res.cell 3 (by decide)
      obtain ⟨t4, u4⟩ := T.res.cell 4 (by decide)
      obtain ⟨t5, u5⟩ := T.res.cell 5 (by decide)
      obtain ⟨t6, u6⟩ := T.res.cell 6 (by decide)
      obtain ⟨t7, u7⟩ := T.res.cell 7 (by decide)
      obtain ⟨va, vc, hv⟩ := T.own.rng.slice
      subst hv
      have hsz := T.size
      have hz := put8_at T.res (.int .u64 (x.tag : Int)) (.int .i64 x.m.o) (.int .u64 x.m.s) (.int .i64 x.m.hop) (.string x.m.ex) (.string x.m.key) (.string x.m.body) (.bool x.again)
      obtain ⟨k1, k2, k3⟩ := put8_world wr w.heap.size (.int .u64 (x.tag : Int)) (.int .i64 x.m.o) (.int .u64 x.m.s) (.int .i64 x.m.hop) (.string x.m.ex) (.string x.m.key) (.string x.m.body) (.bool x.again)
      have k4 := put8_size wr w.heap.size (.int .u64 (x.tag : Int)) (.int .i64 x.m.o) (.int .u64 x.m.s) (.int .i64 x.m.hop) (.string x.m.ex) (.string x.m.key) (.string x.m.body) (.bool x.again)
      have k5 : ∀ k, k ≠ w.heap.size → (put8 wr w.heap.size (.int .u64 (x.tag : Int)) (.int .i64 x.m.o) (.int .u64 x.m.s) (.int .i64 x.m.hop) (.string x.m.ex) (.string x.m.key) (.string x.m.body) (.bool x.again)).heap[k]? = wr.heap[k]? := fun k hk => put8_other (.int .u64 (x.tag : Int)) (.int .i64 x.m.o) (.int .u64 x.m.s) (.int .i64 x.m.hop) (.string x.m.ex) (.string x.m.key) (.string x.m.body) (.bool x.again) hk
      obtain ⟨X, fold⟩ : ∃ X, put8 wr w.heap.size (.int .u64 (x.tag : Int)) (.int .i64 x.m.o) (.int .u64 x.m.s) (.int .i64 x.m.hop) (.string x.m.ex) (.string x.m.key) (.string x.m.body) (.bool x.again) = X := ⟨_, rfl⟩
      rw [fold] at hz k1 k2 k3 k4 k5
      have HZ : Hid (X.drew.heap[w.heap.size]? = some (.cells #[.int .u64 (x.tag : Int), .int .i64 x.m.o, .int .u64 x.m.s, .int .i64 x.m.hop, .string x.m.ex, .string x.m.key, .string x.m.body, .bool x.again] 38 (0, 0))) := hz
      have HE : Hid (Own8 X.drew w.heap.size (.slice va (dropT l t).length vc) (dropT l t) ∧ Below w.heap.size w X.drew) := by
        have h1 : Own8 X (w.heap.size + 2) (.slice va (dropT l t).length vc) (dropT l t) := T.own.same fun g hg => k5 g (by have := (T.own.lt hg).1; omega)
        have h2 : Own8 X w.heap.size (.slice va (dropT l t).length vc) (dropT l t) := h1.mono (by omega)
        have h3 : Below w.heap.size w X := T.bel.trans ⟨k1, k2, k3, Nat.le_of_eq k4.symm, fun k hk => k5 k (by omega)⟩
        exact ⟨h2, h3.drew⟩
      clear T hown hA hz k1 k2 k3 k4 k5
      go_wp2
      go_region
      all_goals go_wp2
      all_goals (simp only [put8] at fold; try rw [fold])
      all_goals (refine ret_take (p := 4) (q := 5) (u := 6) (rv := .slice va (dropT l t).length vc) (r := .bool fd) rfl w.heap.size rfl rfl rfl rfl HZ.out ?_)
      all_goals exact ⟨_, by rw [← HR.out.1, ← HR.out.2], HE.out.1, HE.out.2⟩
end Go.Proofs.Ytocdfcaakflgpaa
