/-
  THE SEARCH, by its contract; the closures that it is handed.
-/
import Derived.Test.YtnlllpgdhnmccaaPairs
import Derived.Shelf.SlSorted.Search
import Derived.Shelf.SlSortCmp.QuietGrown
import Derived.Test.YtnlllpgdhnmccaaShelf
namespace Go.Proofs.Ytnlllpgdhnmccaa
open Go.RowKit Go.Sort

theorem cell_alloc_r {W : World} {a : Addr} {v : Value} (o : Obj) (h : W.cell? a = some v) : (W.alloc o).cell? a = some v := by
  have hb := World.block_lt_of_cell? _ _ h
  have := cell_grown hb h 0 #[o]
  rwa [show grow (W.drewN 0) #[o] = W.alloc o from (alloc_eq_grow W o).symm] at this
theorem cell_new_r (W : World) (v : Value) (t : TypeId) : (W.alloc (.cells #[v] t)).cell? ⟨W.heap.size, 0, none⟩ = some v := by
  rw [World.cell?_alloc_at _ _ _ _ (by simp)]; rfl
theorem below_grown_r (B : Nat) (w : World) (q : Nat) (os : Array Obj) (hB : B ≤ w.heap.size) : Below B w (grow (w.drewN q) os) :=
  ⟨rfl, rfl, rfl, by first | (simp [grow]; done) | (simp [grow]; omega), fun i hi => by
    show ((w.drewN q).heap ++ os)[i]? = _
    rw [Array.getElem?_append_left (by show i < w.heap.size; omega)]
    rfl⟩

/-- The world behind draws and with blocks laid behind it. -/
def Grew (w w' : World) : Prop := ∃ q os, w' = grow (w.drewN q) os
theorem Grew.refl (w : World) : Grew w w := ⟨0, #[], by rw [grow_empty]; rfl⟩
theorem Grew.trans {a b c : World} (h : Grew a b) (k : Grew b c) : Grew a c := by
  obtain ⟨q, os, rfl⟩ := h
  obtain ⟨q', os', rfl⟩ := k
  refine ⟨q + q', os ++ os', ?_⟩
  show grow (grow ((a.drewN q).drewN q') os) os' = _
  rw [grow_grow, World.drewN_drewN]
theorem Grew.alloc (w : World) (o : Obj) : Grew w (w.alloc o) := ⟨0, #[o], alloc_eq_grow w o⟩
theorem Grew.drewN (w : World) (q : Nat) : Grew w (w.drewN q) := ⟨q, #[], by rw [grow_empty]⟩
theorem Grew.below {w w' : World} {B : Nat} (h : Grew w w') (hB : B ≤ w.heap.size) : Below B w w' := by
  obtain ⟨q, os, rfl⟩ := h
  exact below_grown_r B w q os hB

set_option maxHeartbeats 2000000 in
theorem search1_any (bi bl b off n cap g bn i r1 r2 : Nat) (res : Bool) (W : World)
    (hi : W.cell? ⟨bi, 0, none⟩ = some (.func (.func g) #[] #[.pointer (some ⟨bn, 0, none⟩)])) (hl : W.cell? ⟨bl, 0, none⟩ = some (.slice (some ⟨b, off, none⟩) n cap)) (hlt : i < n)
    (c0 : W.cell? ⟨b, off + i * 2, none⟩ = some (.int .u64 (r1 : Int))) (c1 : W.cell? ⟨b, off + i * 2 + 1, none⟩ = some (.int .u64 (r2 : Int)))
    (eg : ∀ args w, (callFunc g args).run Try.prog w = .ok (.enter g args) w)
    (hc : ∀ (m : Nat) (os : Array Obj), Calls Try.prog g #[.agg #[.int .u64 (r1 : Int), .int .u64 (r2 : Int)], .pointer (some ⟨bn, 0, none⟩)] (grow (W.drewN m) os) fun e w' => e = .returned (.bool res) ∧ ∃ q os', w' = grow ((grow (W.drewN m) os).drewN q) os') :
    Calls Try.prog 62 #[.int .i64 i, .pointer (some ⟨bi, 0, none⟩), .pointer (some ⟨bl, 0, none⟩)] W fun e w' => e = .returned (.bool res) ∧ ∃ q os', w' = grow (W.drewN q) os' := by
  have hi' := fun m os => cell_grown (World.block_lt_of_cell? _ _ hi) hi m os
  have hl' := fun m os => cell_grown (World.block_lt_of_cell? _ _ hl) hl m os
  have c0' := fun m os => cell_grown (World.block_lt_of_cell? _ _ c0) c0 m os
  have c1' := fun m os => cell_grown (World.block_lt_of_cell? _ _ c1) c1 m os
  have hlt' : (i : Int) < (n : Int) := by omega
  have mixed : Try.prog.follows .mixedOrders = true := by kernel_rfl
  clear hi hl c0 c1
  go_enter Try.func62, Try.ntmps62
  go_wp2
  go_quiet_grown (first | (go_at_fn g; refine Calls.grown_of (hc _ _)))
  go_wp2
  go_ret
  exact ⟨rfl, nq, osq, rfl⟩

set_option maxHeartbeats 1000000 in
/-- search: how many ranges the closure says false of. -/
theorem search_grew (v : Value) (l : List (Nat × Nat)) (g bn : Nat) (p : Nat × Nat → Bool) (w : World) (hr : Rng w v l)
    (eg : ∀ args w, (callFunc g args).run Try.prog w = .ok (.enter g args) w)
    (hg : ∀ (W : World), Below w.heap.size w W → ∀ r ∈ l, Calls Try.prog g #[.agg #[.int .u64 (r.1 : Int), .int .u64 (r.2 : Int)], .pointer (some ⟨bn, 0, none⟩)] W fun e w' => e = .returned (.bool (p r)) ∧ ∃ q os', w' = grow (W.drewN q) os')
    (hmono : ∀ a b (ha : a < l.length) (hb : b < l.length), a ≤ b → p l[a] = true → p l[b] = true) (hlen : l.length ≤ 1000000) :
    Calls Try.prog 49 #[v, .func (.func g) #[] #[.pointer (some ⟨bn, 0, none⟩)]] w fun e w' => e = .returned (.int .i64 (l.countP fun r => !p r : Nat)) ∧ Grew w w' := by
  obtain ⟨a, cap, rfl⟩ := hr.slice
  have hA : ∀ i (hi : i < l.length), ∃ b off, a = some ⟨b, off, none⟩ ∧ w.cell? ⟨b, off + i * 2, none⟩ = some (.int .u64 (l[i].1 : Int)) ∧ w.cell? ⟨b, off + i * 2 + 1, none⟩ = some (.int .u64 (l[i].2 : Int)) := by
    intro i hi
    obtain ⟨b, off, cap', hv, _, _, hc⟩ := hr.at (by omega)
    injection hv with hv1 _ _
    exact ⟨b, off, hv1, at_cells hc i hi⟩
  obtain ⟨W0, hW0⟩ : ∃ W0, W0 = (w.alloc (.cells #[.slice a l.length cap] 30)).alloc (.cells #[.func (.func g) #[] #[.pointer (some ⟨bn, 0, none⟩)]] 87) := ⟨_, rfl⟩
  have hsize : W0.heap.size = w.heap.size + 1 + 1 := by rw [hW0]; simp
  have hB0 : Below w.heap.size w W0 := by rw [hW0]; exact ((Below.refl _ w).alloc (Nat.le_refl _) _).alloc (by simp) _
  have ca : W0.cell? ⟨w.heap.size, 0, none⟩ = some (.slice a l.length cap) := by rw [hW0]; exact cell_alloc_r _ (cell_new_r w _ _)
  have cx : W0.cell? ⟨w.heap.size + 1, 0, none⟩ = some (.func (.func g) #[] #[.pointer (some ⟨bn, 0, none⟩)]) := by
    rw [hW0]
    have := cell_new_r (w.alloc (.cells #[.slice a l.length cap] 30)) (.func (.func g) #[] #[.pointer (some ⟨bn, 0, none⟩)]) 87
    rwa [World.size_alloc] at this
  have eg2 : ∀ args w, (callFunc 62 args).run Try.prog w = .ok (.enter 62 args) w := enters_of Try.func62 (by kernel_rfl) rfl
  have hS := Any.sort_Search Try.search 62 #[.pointer (some ⟨w.heap.size + 1, 0, none⟩), .pointer (some ⟨w.heap.size, 0, none⟩)] l.length (fun i => p (l.getD i (0, 0))) W0 eg2 (by omega)
    (fun m os i hi => by
      obtain ⟨b, off, rfl, c0, c1⟩ := hA i hi
      rw [show l.getD i (0, 0) = l[i] by simp [List.getD, hi]]
      have hb := World.block_lt_of_cell? _ _ c0
      have hbel : ∀ m' os', Below w.heap.size w (grow ((grow (W0.drewN m) os).drewN m') os') := fun m' os' =>
        (hB0.trans (below_grown_r _ W0 m os (by omega))).trans (below_grown_r _ _ m' os' (by have := (below_grown_r w.heap.size W0 m os (by omega)).size; omega))
      have c0' : (grow (W0.drewN m) os).cell? ⟨b, off + i * 2, none⟩ = some (.int .u64 (l[i].1 : Int)) := by
        rw [(hB0.trans (below_grown_r _ W0 m os (by omega))).cell (p := ⟨b, off + i * 2, none⟩) hb]; exact c0
      have c1' : (grow (W0.drewN m) os).cell? ⟨b, off + i * 2 + 1, none⟩ = some (.int .u64 (l[i].2 : Int)) := by
        rw [(hB0.trans (below_grown_r _ W0 m os (by omega))).cell (p := ⟨b, off + i * 2 + 1, none⟩) hb]; exact c1
      exact search1_any (w.heap.size + 1) w.heap.size b off l.length cap g bn i l[i].1 l[i].2 (p l[i]) _ (cell_grown (by simp [hsize]) cx m os) (cell_grown (by simp [hsize]; omega) ca m os) hi c0' c1' eg
        (fun m' os' => hg _ (hbel m' os') l[i] (List.getElem_mem hi)))
    (fun a b hab hb h => by
      simp only [List.getD, List.getElem?_eq_getElem hb, List.getElem?_eq_getElem (Nat.lt_of_le_of_lt hab hb), Option.getD_some] at h ⊢
      exact hmono a b _ hb hab h)
  have hcount : (List.range l.length).countP (fun i => !p (l.getD i (0, 0))) = l.countP fun r => !p r := by
    have h : l = (List.range l.length).map (fun i => l.getD i (0, 0)) := by
      apply List.ext_getElem
      · simp
      · intro i h1 h2
        simp [List.getD, h1]
    conv => rhs; rw [h, List.countP_map]
    rfl
  rw [hcount] at hS
  change Calls Try.prog 61 _ _ _ at hS
  clear hA ca cx hr hcount hg hmono
  generalize l.countP (fun r => !p r) = r at hS ⊢
  go_enter Try.func49, Try.ntmps49
  go_wp2_with (go_at_call 61; rw [← hW0]; refine hS.mono ?_; rintro e w' ⟨rfl, q, os, rfl⟩)
  go_ret
  refine ⟨rfl, ?_⟩
  have hG : Grew w W0 := by rw [hW0]; exact (Grew.alloc _ _).trans (Grew.alloc _ _)
  first
    | exact hG.trans ⟨q, os, rfl⟩
    | (rw [← hW0]; exact hG.trans ⟨q, os, rfl⟩)

theorem search_any (v : Value) (l : List (Nat × Nat)) (g bn : Nat) (p : Nat × Nat → Bool) (w : World) (hr : Rng w v l)
    (eg : ∀ args w, (callFunc g args).run Try.prog w = .ok (.enter g args) w)
    (hg : ∀ (W : World), Below w.heap.size w W → ∀ r ∈ l, Calls Try.prog g #[.agg #[.int .u64 (r.1 : Int), .int .u64 (r.2 : Int)], .pointer (some ⟨bn, 0, none⟩)] W fun e w' => e = .returned (.bool (p r)) ∧ ∃ q os', w' = grow (W.drewN q) os')
    (hmono : ∀ a b (ha : a < l.length) (hb : b < l.length), a ≤ b → p l[a] = true → p l[b] = true) (hlen : l.length ≤ 1000000) :
    Calls Try.prog 49 #[v, .func (.func g) #[] #[.pointer (some ⟨bn, 0, none⟩)]] w fun e w' => e = .returned (.int .i64 (l.countP fun r => !p r : Nat)) ∧ Below w.heap.size w w' :=
  (search_grew v l g bn p w hr eg hg hmono hlen).mono fun _ _ ⟨h, g⟩ => ⟨h, g.below (Nat.le_refl _)⟩
end Go.Proofs.Ytnlllpgdhnmccaa
