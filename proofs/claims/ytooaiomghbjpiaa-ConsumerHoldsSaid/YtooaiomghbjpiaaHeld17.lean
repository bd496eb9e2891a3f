/-
  held, Hold, Drop, by their contracts, whatever sorts the tags.
-/
import Derived.Test.YtooaiomghbjpiaaSmallU
import Derived.Test.YtooaiomghbjpiaaLives17
namespace Go.Proofs.Ytooaiomghbjpiaa
open Go.RowKit Go.Maps Go.Sort Go.Shelf
set_option maxRecDepth 20000

/-- The tags of a set can be sorted, wherever they lie. -/
def SortsU (l : List Int) : Prop := ∀ (w : World) (base g cap : Nat) (xs : List Int), xs.Perm l → UR w base g cap xs.toArray → PdqU w base g cap xs.length xs.toArray
theorem sortsU_small {l : List Int} (h : l.length ≤ 12) : SortsU l := fun w base g cap xs hp hu => pdqU_small hu (by simp) (by rw [hp.length_eq]; exact h)
theorem sortedU_any (Bm b : Nat) (l : List Int) (hr : TL l) (hl : l.Pairwise (· < ·)) (hlen : l.length ≤ 100000) (w : World) (hBm : w.cell? ⟨Bm, 0, none⟩ = some (.map (some b))) (hown : TAt w b l) (hS : SortsU l) :
    Calls Try.prog 49 #[.func (.func 63) #[] #[.pointer (some ⟨Bm, 0, none⟩)]] w fun e W' => ∃ v, e = .returned v ∧ Own1 W' w.heap.size 31 v (ucells l) ∧ Below w.heap.size w W' := by
  have hC := collectU_any Bm b l hr (by omega) w hBm hown
  go_enter Try.func49, Try.ntmps49
  go_wp2_with fail
  refine hC.mono ?_
  rintro e w1 ⟨v, xs, rfl, hp, own, b1⟩
  have hSo := sort_of w1 w.heap.size v xs l own hp hl hlen fun g cap hv => hS w1 w.heap.size g cap xs hp (by
    unfold UR
    rw [show xs.toArray.toList = xs by simp, show xs.toArray.size = xs.length by simp, ← hv]
    exact own)
  obtain ⟨va, vc, hva⟩ := own1_slice own
  have HB : Hid (Below w.heap.size w w1) := b1
  clear hC own b1 hp
  rw [ucells_length] at hva
  generalize xs.length = n at *
  subst hva
  go_wp2_with fail
  refine hSo.mono ?_
  rintro e w2 ⟨rfl, own2, b2⟩
  clear hSo
  go_wp2
  go_ret
  exact ⟨_, rfl, own2, HB.out.trans b2⟩
set_option maxHeartbeats 2000000 in
theorem held_at {w : World} {x : Sx} (h : SeAt w x) (ok : SeOk x.s) (hS : SortsU x.s.t) : Calls Try.prog 34 #[.pointer (some ⟨x.p, 0, none⟩)] w fun e w' => ∃ v, e = .returned (.agg #[.string x.s.q, v]) ∧ Own1 w' w.heap.size 31 v (ucells x.s.t) ∧ Below w.heap.size w w' := by
  obtain ⟨W, fold⟩ : ∃ W, w.alloc (.cells #[.string ⟨#[]⟩, .slice none 0 0] 40) = W := ⟨_, rfl⟩
  have bW : Below w.heap.size w W := by rw [← fold]; exact (Below.refl _ w).alloc (Nat.le_refl _) _
  have hZ : W.heap[w.heap.size]? = some (.cells #[.string ⟨#[]⟩, .slice none 0 0] 40 (0, 0)) := by rw [← fold]; exact heap_alloc_new w _
  have hs := h.kept bW
  obtain ⟨_, c1, _, c3⟩ := hs.cells
  have hT : Hid (∀ V, Below W.heap.size W V → TAt V x.b x.s.t) := fun V b => (hs.kept b).tags
  have hKe : ∀ V, Calls Try.prog 50 #[.map (some x.b)] V fun e w' => e = .returned (.func (.func 63) #[] #[.pointer (some ⟨V.heap.size, 0, none⟩)]) ∧ w' = V.alloc (.cells #[.map (some x.b)] 85) := fun V => keysU_any (some x.b) V
  have HS : Hid (∀ V, Below W.heap.size W V → Calls Try.prog 49 #[.func (.func 63) #[] #[.pointer (some ⟨V.heap.size, 0, none⟩)]] (V.alloc (.cells #[.map (some x.b)] 85)) fun e W' => ∃ v, e = .returned v ∧ Own1 W' W.heap.size 31 v (ucells x.s.t) ∧ Below W.heap.size W W') := fun V b => by
    have bA : Below V.heap.size V (V.alloc (.cells #[.map (some x.b)] 85)) := (Below.refl _ _).alloc (Nat.le_refl _) _
    have hc : (V.alloc (.cells #[.map (some x.b)] 85)).cell? ⟨V.heap.size, 0, none⟩ = some (.map (some x.b)) := by simp
    refine (sortedU_any V.heap.size x.b x.s.t (tl_of_up ok.up ok.pos) ok.up (by have := ok.len; have := ok.m2; omega) _ hc ((hT.out V b).same (bA.block _ (hT.out V b).lt)) hS).mono ?_
    rintro e W' ⟨v, h1, h2, h3⟩
    have b2 : Below W.heap.size W (V.alloc (.cells #[.map (some x.b)] 85)) := b.trans (bA.mono b.size)
    exact ⟨v, h1, own1_lower h2 (by have := b.size; simp; omega), b2.trans (h3.mono b2.size)⟩
  have H0 : Hid (Below w.heap.size w W ∧ W.heap.size = w.heap.size + 1 ∧ W.heap[w.heap.size]? = some (.cells #[.string ⟨#[]⟩, .slice none 0 0] 40 (0, 0))) := ⟨bW, by rw [← fold]; simp, hZ⟩
  have hSo := HS.out W.drew ⟨rfl, rfl, rfl, Nat.le_refl _, fun _ _ => rfl⟩
  have hKo := hKe W.drew
  have hn1 : ¬ w.heap.size = x.p := by have := h.lts.1; omega
  have hn2 : ¬ x.p = w.heap.size := by have := h.lts.1; omega
  generalize x.p = q at *
  generalize x.b = qb at *
  generalize x.s.q = qq at *
  generalize x.s.t = ts at *
  clear hs h ok bW hZ HS hKe
  go_enter Try.func34, Try.ntmps34
  go_wp2
  try rw [fold]
  go_region_held3 (fun w' => w'.cell? ⟨q, 1, none⟩ = some (.string qq) ∧ w'.cell? ⟨q, 3, none⟩ = some (.map (some qb))) (go_keep) (first
    | (go_at_call 50; refine hKo.mono ?_; rintro e w2 ⟨rfl, rfl⟩)
    | (go_at_call 49; refine hSo.mono ?_; rintro e w3 ⟨v, rfl, own3, b3⟩; obtain ⟨va, vc, hv⟩ := own1_slice own3; generalize (ucells ts).length = nt at hv; subst hv; have z3 : w3.heap[w.heap.size]? = some (.cells #[.string ⟨#[]⟩, .slice none 0 0] 40 (0, 0)) := (b3.block _ (by rw [H0.out.2.1]; omega)).trans H0.out.2.2; have z0 : w3.cell? ⟨w.heap.size, 0, none⟩ = some (.string ⟨#[]⟩) := (by simp [World.cell?, z3]); have z1 : w3.cell? ⟨w.heap.size, 1, none⟩ = some (.slice none 0 0) := (by simp [World.cell?, z3]); have zf0 : w3.frozen? ⟨w.heap.size, 0, none⟩ = false := (by simp [World.frozen?, z3]); have zf1 : w3.frozen? ⟨w.heap.size, 1, none⟩ = false := (by simp [World.frozen?, z3]); have HO : Hid (Own1 w3 W.heap.size 31 (.slice va nt vc) (ucells ts) ∧ Below W.heap.size W w3 ∧ w3.heap[w.heap.size]? = some (.cells #[.string ⟨#[]⟩, .slice none 0 0] 40 (0, 0))) := ⟨own3, b3, z3⟩; clear own3 z3; have q1 := (b3.cell (p := ⟨q, 1, none⟩) (World.block_lt_of_cell? _ _ c1)).trans c1; have q3 := (b3.cell (p := ⟨q, 3, none⟩) (World.block_lt_of_cell? _ _ c3)).trans c3))
  go_wp2
  refine bodyPost_ret (v := .agg #[.string qq, .slice va nt vc]) (by simp [results, Try.results34, go_sem, z0, z1]) rfl ?_
  obtain ⟨own3, bW, hz⟩ := HO.out
  have hsz := H0.out.2.1
  refine ⟨_, rfl, own1_lower (own1_same own3 fun g hg => ?_) (by omega), ?_⟩
  · have hg' := (own1_blk own3 hg).1
    rw [Below.heap_setCell _ _ _ _ (by show g ≠ w.heap.size; omega), Below.heap_setCell _ _ _ _ (by show g ≠ w.heap.size; omega)]
  · exact ((H0.out.1.trans (bW.mono (by omega))).setCell (Nat.le_refl _) _).setCell (Nat.le_refl _) _
end Go.Proofs.Ytooaiomghbjpiaa
