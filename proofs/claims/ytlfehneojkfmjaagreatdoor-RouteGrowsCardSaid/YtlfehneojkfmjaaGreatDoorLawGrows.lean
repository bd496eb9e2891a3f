/-
  RouteGrows, walked.
-/
import Derived.Test.YtlfehneojkfmjaaGreatDoorLay
import Derived.Test.YtlfehneojkfmjaaGreatDoorCopy
import Derived.Test.YtlfehneojkfmjaaGreatDoorGrowIdx
import Derived.Deep.RegionLaw
import Derived.Deep.CutRange
import Derived.Deep.RegionHeld3
namespace Go.Proofs.YtlfehneojkfmjaaGreatDoor
open Go.RowKit Go.Sort Go.Shelf

set_option maxRecDepth 20000 in
theorem tInfo : ∃ i, Tryz.prog.info? 43 = some i ∧ i.zero = some (tiv ⟨zeroEx, zeroBd⟩) ∧ i.size = 6 ∧ i.bytes = 80 := by
  refine ⟨_, rfl, ?_, ?_, ?_⟩ <;> rfl
theorem keptX {w w1 w2 : World} (h : Below w.heap.size w w1) (b : Below w1.heap.size w1 w2) : Below w.heap.size w w2 := h.trans (b.mono h.size)
theorem cellH {w w' : World} {b j : Nat} {v : Value} (hb : Below w.heap.size w w') (h : w.cell? ⟨b, j, none⟩ = some v) : w'.cell? ⟨b, j, none⟩ = some v :=
  (hb.cell (p := ⟨b, j, none⟩) (World.block_lt_of_cell? _ _ h)).trans h

set_option maxRecDepth 20000 in
set_option maxHeartbeats 8000000 in
/-- The first statement: are the ties and the one more light, and the key? -/
theorem grows_law (v0 : Value) (l : List Ti) (b : Bd) (key : ByteArray) (w : World) (h0 : RowOf tcells w v0 l) (f0 : ∀ a ∈ l, a.Fits) (hlen : l.length * 80 ≤ 140737488351232) (hbf : b.ex.size ≤ 140737488355328 ∧ b.que.size ≤ 140737488355328 ∧ b.pat.size ≤ 140737488355328) (hk : key.size ≤ maxLen) :
    Calls Tryz.prog 5 #[v0, bv b, .string key] w fun e w' => e = .returned (.bool true) ∧ Below w.heap.size w w' := by
  obtain ⟨va, vc, rfl⟩ := h0.slice
  have HL : Hid (∀ V, Calls Tryz.prog 7 #[] V fun e w' => e = .returned (.bool true) ∧ Below V.heap.size V w') := lives_any
  have hk63 : key.size ≤ 9223372036854775807 := hk
  obtain ⟨V, fold⟩ : ∃ V, w.alloc (.cells #[.string b.ex, .string b.que, .string b.pat] 39) = V := ⟨_, rfl⟩
  have bV : Below w.heap.size w V := by rw [← fold]; exact (Below.refl _ _).alloc (Nat.le_refl _) _
  have v0 : V.cell? ⟨w.heap.size, 0, none⟩ = some (.string b.ex) := by rw [← fold]; exact cell_of_list (C := bcells b) (heap_alloc_new w _) 0
  have v1 : V.cell? ⟨w.heap.size, 1, none⟩ = some (.string b.que) := by rw [← fold]; exact cell_of_list (C := bcells b) (heap_alloc_new w _) 1
  have v2 : V.cell? ⟨w.heap.size, 2, none⟩ = some (.string b.pat) := by rw [← fold]; exact cell_of_list (C := bcells b) (heap_alloc_new w _) 2
  obtain ⟨tb, htb⟩ : ∃ tb : Ti, tb = ⟨⟨⟨#[]⟩, 0, false⟩, b⟩ := ⟨_, rfl⟩
  have hFT : ∀ a ∈ l ++ [tb], a.Fits := by
    intro a ha
    rcases List.mem_append.1 ha with ha | ha
    · exact f0 a ha
    · rw [List.mem_singleton.1 ha, htb]
      exact ⟨by show (0 : Nat) ≤ _; omega, hbf⟩
  have hLi := fun v W (h : RowOf tcells W v (l ++ [tb])) => light_fun v (l ++ [tb]) W h hFT
  have HLB : Hid (lightF 0 (l ++ [tb]) = true → l.length ≤ 100) := fun h => by
    have := lightF_len (Nat.zero_le 100) h
    rw [List.length_append] at this
    omega
  generalize lightF 0 (l ++ [tb]) = lb at *
  have hrV := h0.below bV (Nat.le_refl _)
  have HV : Hid (∀ V', Below V.heap.size V V' → V'.cell? ⟨w.heap.size, 0, none⟩ = some (.string b.ex) ∧ V'.cell? ⟨w.heap.size, 1, none⟩ = some (.string b.que) ∧ V'.cell? ⟨w.heap.size, 2, none⟩ = some (.string b.pat)) := fun V' hV' => ⟨cellH hV' v0, cellH hV' v1, cellH hV' v2⟩
  have HRV : Hid _ := hrV
  have hwV : w.heap.size < V.heap.size := World.block_lt_of_cell? _ _ v0
  obtain ⟨i0, hi0, hz0, hzs, hzb⟩ := tInfo
  obtain ⟨X, hX⟩ : ∃ X : Obj, X = .cells #[.string ⟨#[]⟩, .int .i64 0, .bool false, .string b.ex, .string b.que, .string b.pat] 43 := ⟨_, rfl⟩
  have belD : Below V.heap.size V V.drew := (Below.refl _ _).drew
  have belA : Below V.heap.size V (V.drew.alloc (.cells #[] 43)) := belD.alloc (Nat.le_refl _) _
  have belC : Below V.heap.size V ((V.drew.alloc (.cells #[] 43)).alloc X) := belA.alloc (by simp) _
  have belF : Below V.heap.size V ((V.drew.alloc X).alloc (.cells #[] 43)) := (belD.alloc (Nat.le_refl _) _).alloc (by simp) _
  have eA : OwnOf tcells 6 43 (V.drew.alloc (.cells #[] 43)) V.heap.size (.slice (some ⟨V.heap.size, 0, none⟩) 0 0) [] := ownOf_empty V.drew V.heap.size (Nat.le_refl _)
  have eC : OwnOf tcells 6 43 ((V.drew.alloc (.cells #[] 43)).alloc X) V.heap.size (.slice (some ⟨V.heap.size, 0, none⟩) 0 0) [] := eA.alloc X
  have eF : OwnOf tcells 6 43 ((V.drew.alloc X).alloc (.cells #[] 43)) V.heap.size (.slice (some ⟨V.heap.size + 1, 0, none⟩) 0 0) [] := by
    have := ownOf_empty (enc := tcells) (K := 6) (T := 43) (V.drew.alloc X) V.heap.size (by simp)
    rwa [World.size_alloc] at this
  have rA := hrV.below belA (Nat.le_refl _)
  have rC := hrV.below belC (Nat.le_refl _)
  have rF := hrV.below belF (Nat.le_refl _)
  have FA : Hid (∀ w1, (V.drew.alloc (.cells #[] 43)).grownBy w1 (some V.heap.size) → BeAt w1 w.heap.size 0 b ∧ Below V.heap.size V w1) := fun w1 gr => by
    have hbb : Below V.heap.size V w1 := belA.grown gr (by simp) (fun k hk => by injection hk with hk; omega)
    exact ⟨(show BeAt V w.heap.size 0 b from ⟨v0, v1, v2⟩).below hbb (Nat.le_refl _), hbb⟩
  have FC : Hid (∀ w1, ((V.drew.alloc (.cells #[] 43)).alloc X).grownBy w1 (some V.heap.size) → RowOf tcells w1 (.slice (some ⟨V.heap.size + 1, 0, none⟩) 1 1) [tb] ∧ Below V.heap.size V w1) := fun w1 gr => by
    have h1 : RowOf tcells ((V.drew.alloc (.cells #[] 43)).alloc X) (.slice (some ⟨V.heap.size + 1, 0, none⟩) 1 1) [tb] := by rw [hX, htb]; exact rowK_one _ (⟨⟨⟨#[]⟩, 0, false⟩, b⟩ : Ti) _ (by simp)
    refine ⟨h1.same fun g hg => ?_, belC.grown gr (by simp; omega) (fun k hk => by injection hk with hk; omega)⟩
    have hg' : g = V.heap.size + 1 := (Option.some.inj hg).symm
    subst hg'
    exact gr.block _ (by simp) (fun h => by injection h with h; omega)
  have FF : Hid (∀ w1, ((V.drew.alloc X).alloc (.cells #[] 43)).grownBy w1 (some (V.heap.size + 1)) → RowOf tcells w1 (.slice (some ⟨V.heap.size, 0, none⟩) 1 1) [tb] ∧ Below V.heap.size V w1) := fun w1 gr => by
    have h0 : RowOf tcells (V.drew.alloc X) (.slice (some ⟨V.heap.size, 0, none⟩) 1 1) [tb] := by rw [hX, htb]; exact rowK_one V.drew (⟨⟨⟨#[]⟩, 0, false⟩, b⟩ : Ti) _ rfl
    have h1 : RowOf tcells ((V.drew.alloc X).alloc (.cells #[] 43)) (.slice (some ⟨V.heap.size, 0, none⟩) 1 1) [tb] := h0.below ((Below.refl _ _).alloc (Nat.le_refl _) _) (Nat.le_refl _)
    refine ⟨h1.same fun g hg => ?_, belF.grown gr (by simp; omega) (fun k hk => by injection hk with hk; omega)⟩
    have hg' : g = V.heap.size := (Option.some.inj hg).symm
    subst hg'
    exact gr.block _ (by simp; omega) (fun h => by injection h with h; omega)
  have RX : ∀ (W : World) n, n = W.heap.size → RowOf tcells (W.alloc (.cells #[.string ⟨#[]⟩, .int .i64 0, .bool false, .string b.ex, .string b.que, .string b.pat] 43)) (.slice (some ⟨n, 0, none⟩) 1 1) [tb] := fun W n hn => by rw [htb]; exact rowK_one W (⟨⟨⟨#[]⟩, 0, false⟩, b⟩ : Ti) n hn
  have p0 := fun o => cell_allocK (w := V.drew) o v0
  have p1 := fun o => cell_allocK (w := V.drew) o v1
  have p2 := fun o => cell_allocK (w := V.drew) o v2
  have q0 := fun o => cell_allocK (w := V) o v0
  have q1 := fun o => cell_allocK (w := V) o v1
  have q2 := fun o => cell_allocK (w := V) o v2
  have sb1 : ([] : List Ti).length + l.length ≤ maxLen := by unfold maxLen; simp; omega
  have sb2 : (([] : List Ti).length + l.length) * 80 ≤ 140737488355328 := by simp; omega
  subst hX
  have HTB : Hid _ := htb
  clear htb
  go_enter Tryz.func5, Tryz.ntmps5
  go_wp2
  clear fold
  go_cut [30] from 17 to 30 (fun u30 wx => ∃ g, u30 = .bool g ∧ (g = false → lb = true ∧ key.size ≤ 500) ∧ Below V.heap.size V wx)
  case first =>
    cases lb
    · first
      | (go_region_law (first
            | (rw [if_pos (by simp [Region.wanted])]; go_simp; refine Calls.mono (hLi _ w2 own2.rng) ?_; rintro e w3 ⟨rfl, b3⟩; dsimp only)
              | (refine step_append_rows (enc := tcells) rfl (.tmp 17) (.tmp 18) 22 rfl Tryz.underlying22 i0 _ 80 hi0 hz0 hzs hzb rfl V.heap.size (.slice (some ⟨V.heap.size, 0, none⟩) 0 0) (.slice va l.length vc) [] l (by first | (simp [Act.eval]; done) | simp [Act.eval, Act.put]) (by first | (simp [Act.eval]; done) | simp [Act.eval, Act.put]) eA rA sb1 sb2 (by simp) ?_; intro v1 w1 own1 gr1 nw1; obtain ⟨i1, b1⟩ := FA.out w1 gr1; obtain ⟨va1, vc1, hv1⟩ := own1.rng.slice; rw [List.nil_append] at hv1 own1; subst hv1; obtain ⟨g0, g1, g2⟩ := i1; simp only [Nat.zero_add] at g0 g1 g2; clear gr1 nw1)
              | (refine step_append_rows (enc := tcells) rfl (.tmp 17) (.tmp 18) 22 rfl Tryz.underlying22 i0 _ 80 hi0 hz0 hzs hzb rfl V.heap.size (.slice (some ⟨V.heap.size, 0, none⟩) 0 0) (.slice va l.length vc) [] l (by first | (simp [Act.eval]; done) | simp [Act.eval, Act.put]) (by first | (simp [Act.eval]; done) | simp [Act.eval, Act.put]) eC rC sb1 sb2 (by simp; omega) ?_; intro v1 w1 own1 gr1 nw1; obtain ⟨rx, b1⟩ := FC.out w1 gr1; obtain ⟨va1, vc1, hv1⟩ := own1.rng.slice; rw [List.nil_append] at hv1 own1; subst hv1; clear gr1 nw1)
              | (refine step_append_rows (enc := tcells) rfl (.tmp 17) (.tmp 18) 22 rfl Tryz.underlying22 i0 _ 80 hi0 hz0 hzs hzb rfl V.heap.size (.slice (some ⟨V.heap.size + 1, 0, none⟩) 0 0) (.slice va l.length vc) [] l (by first | (simp [Act.eval]; done) | simp [Act.eval, Act.put]) (by first | (simp [Act.eval]; done) | simp [Act.eval, Act.put]) eF rF sb1 sb2 (by simp; omega) ?_; intro v1 w1 own1 gr1 nw1; obtain ⟨rx, b1⟩ := FF.out w1 gr1; obtain ⟨va1, vc1, hv1⟩ := own1.rng.slice; rw [List.nil_append] at hv1 own1; subst hv1; clear gr1 nw1)
              | (refine step_append_rows (enc := tcells) rfl (.tmp 19) (.tmp 22) 22 rfl Tryz.underlying22 i0 _ 80 hi0 hz0 hzs hzb rfl V.heap.size (.slice va1 l.length vc1) _ l [tb] (by first | (simp [Act.eval]; done) | simp [Act.eval, Act.put]) rfl own1 rx (by unfold maxLen; simp; omega) (by simp; omega) b1.size ?_; intro v2 w2 own2 gr2 nw2; have HB : Hid (Below V.heap.size V w2) := own1.below gr2 b1 b1.size (Nat.le_refl _); obtain ⟨va2, vc2, hv2⟩ := own2.rng.slice; rw [List.length_append, List.length_singleton] at hv2; subst hv2; clear gr2 nw2)
              | (refine step_append_rows (enc := tcells) rfl (.tmp 19) (.tmp 22) 22 rfl Tryz.underlying22 i0 _ 80 hi0 hz0 hzs hzb rfl V.heap.size (.slice va1 l.length vc1) _ l [tb] (by first | (simp [Act.eval]; done) | simp [Act.eval, Act.put]) rfl (own1.alloc _) (RX _ _ rfl) (by unfold maxLen; simp; omega) (by simp; omega) (by have := b1.size; simp; omega) ?_; intro v2 w2 own2 gr2 nw2; have HB : Hid (Below V.heap.size V w2) := (own1.alloc _).below gr2 (b1.alloc b1.size _) (by have := b1.size; simp; omega) (Nat.le_refl _); obtain ⟨va2, vc2, hv2⟩ := own2.rng.slice; rw [List.length_append, List.length_singleton] at hv2; subst hv2; clear gr2 nw2)))
      | fail
      all_goals go_wp2
      all_goals go_meet
      all_goals exact ⟨true, rfl, (fun h => by cases h), Below.trans HB.out (b3.mono (Below.size HB.out))⟩
    · by_cases hk5 : 500 < key.size
      · have hk5' : (500 : Int) < (key.size : Int) := by omega
        first
        | (go_region_law (first
            | (rw [if_pos (by simp [Region.wanted])]; go_simp; refine Calls.mono (hLi _ w2 own2.rng) ?_; rintro e w3 ⟨rfl, b3⟩; dsimp only)
              | (refine step_append_rows (enc := tcells) rfl (.tmp 17) (.tmp 18) 22 rfl Tryz.underlying22 i0 _ 80 hi0 hz0 hzs hzb rfl V.heap.size (.slice (some ⟨V.heap.size, 0, none⟩) 0 0) (.slice va l.length vc) [] l (by first | (simp [Act.eval]; done) | simp [Act.eval, Act.put]) (by first | (simp [Act.eval]; done) | simp [Act.eval, Act.put]) eA rA sb1 sb2 (by simp) ?_; intro v1 w1 own1 gr1 nw1; obtain ⟨i1, b1⟩ := FA.out w1 gr1; obtain ⟨va1, vc1, hv1⟩ := own1.rng.slice; rw [List.nil_append] at hv1 own1; subst hv1; obtain ⟨g0, g1, g2⟩ := i1; simp only [Nat.zero_add] at g0 g1 g2; clear gr1 nw1)
              | (refine step_append_rows (enc := tcells) rfl (.tmp 17) (.tmp 18) 22 rfl Tryz.underlying22 i0 _ 80 hi0 hz0 hzs hzb rfl V.heap.size (.slice (some ⟨V.heap.size, 0, none⟩) 0 0) (.slice va l.length vc) [] l (by first | (simp [Act.eval]; done) | simp [Act.eval, Act.put]) (by first | (simp [Act.eval]; done) | simp [Act.eval, Act.put]) eC rC sb1 sb2 (by simp; omega) ?_; intro v1 w1 own1 gr1 nw1; obtain ⟨rx, b1⟩ := FC.out w1 gr1; obtain ⟨va1, vc1, hv1⟩ := own1.rng.slice; rw [List.nil_append] at hv1 own1; subst hv1; clear gr1 nw1)
              | (refine step_append_rows (enc := tcells) rfl (.tmp 17) (.tmp 18) 22 rfl Tryz.underlying22 i0 _ 80 hi0 hz0 hzs hzb rfl V.heap.size (.slice (some ⟨V.heap.size + 1, 0, none⟩) 0 0) (.slice va l.length vc) [] l (by first | (simp [Act.eval]; done) | simp [Act.eval, Act.put]) (by first | (simp [Act.eval]; done) | simp [Act.eval, Act.put]) eF rF sb1 sb2 (by simp; omega) ?_; intro v1 w1 own1 gr1 nw1; obtain ⟨rx, b1⟩ := FF.out w1 gr1; obtain ⟨va1, vc1, hv1⟩ := own1.rng.slice; rw [List.nil_append] at hv1 own1; subst hv1; clear gr1 nw1)
              | (refine step_append_rows (enc := tcells) rfl (.tmp 19) (.tmp 22) 22 rfl Tryz.underlying22 i0 _ 80 hi0 hz0 hzs hzb rfl V.heap.size (.slice va1 l.length vc1) _ l [tb] (by first | (simp [Act.eval]; done) | simp [Act.eval, Act.put]) rfl own1 rx (by unfold maxLen; simp; omega) (by simp; omega) b1.size ?_; intro v2 w2 own2 gr2 nw2; have HB : Hid (Below V.heap.size V w2) := own1.below gr2 b1 b1.size (Nat.le_refl _); obtain ⟨va2, vc2, hv2⟩ := own2.rng.slice; rw [List.length_append, List.length_singleton] at hv2; subst hv2; clear gr2 nw2)
              | (refine step_append_rows (enc := tcells) rfl (.tmp 19) (.tmp 22) 22 rfl Tryz.underlying22 i0 _ 80 hi0 hz0 hzs hzb rfl V.heap.size (.slice va1 l.length vc1) _ l [tb] (by first | (simp [Act.eval]; done) | simp [Act.eval, Act.put]) rfl (own1.alloc _) (RX _ _ rfl) (by unfold maxLen; simp; omega) (by simp; omega) (by have := b1.size; simp; omega) ?_; intro v2 w2 own2 gr2 nw2; have HB : Hid (Below V.heap.size V w2) := (own1.alloc _).below gr2 (b1.alloc b1.size _) (by have := b1.size; simp; omega) (Nat.le_refl _); obtain ⟨va2, vc2, hv2⟩ := own2.rng.slice; rw [List.length_append, List.length_singleton] at hv2; subst hv2; clear gr2 nw2)))
        | fail
        all_goals go_wp2
        all_goals go_meet
        all_goals exact ⟨true, rfl, (fun h => by cases h), Below.trans HB.out (b3.mono (Below.size HB.out))⟩
      · have hk5' : ¬ (500 : Int) < (key.size : Int) := by omega
        first
        | (go_region_law (first
            | (rw [if_pos (by simp [Region.wanted])]; go_simp; refine Calls.mono (hLi _ w2 own2.rng) ?_; rintro e w3 ⟨rfl, b3⟩; dsimp only)
              | (refine step_append_rows (enc := tcells) rfl (.tmp 17) (.tmp 18) 22 rfl Tryz.underlying22 i0 _ 80 hi0 hz0 hzs hzb rfl V.heap.size (.slice (some ⟨V.heap.size, 0, none⟩) 0 0) (.slice va l.length vc) [] l (by first | (simp [Act.eval]; done) | simp [Act.eval, Act.put]) (by first | (simp [Act.eval]; done) | simp [Act.eval, Act.put]) eA rA sb1 sb2 (by simp) ?_; intro v1 w1 own1 gr1 nw1; obtain ⟨i1, b1⟩ := FA.out w1 gr1; obtain ⟨va1, vc1, hv1⟩ := own1.rng.slice; rw [List.nil_append] at hv1 own1; subst hv1; obtain ⟨g0, g1, g2⟩ := i1; simp only [Nat.zero_add] at g0 g1 g2; clear gr1 nw1)
              | (refine step_append_rows (enc := tcells) rfl (.tmp 17) (.tmp 18) 22 rfl Tryz.underlying22 i0 _ 80 hi0 hz0 hzs hzb rfl V.heap.size (.slice (some ⟨V.heap.size, 0, none⟩) 0 0) (.slice va l.length vc) [] l (by first | (simp [Act.eval]; done) | simp [Act.eval, Act.put]) (by first | (simp [Act.eval]; done) | simp [Act.eval, Act.put]) eC rC sb1 sb2 (by simp; omega) ?_; intro v1 w1 own1 gr1 nw1; obtain ⟨rx, b1⟩ := FC.out w1 gr1; obtain ⟨va1, vc1, hv1⟩ := own1.rng.slice; rw [List.nil_append] at hv1 own1; subst hv1; clear gr1 nw1)
              | (refine step_append_rows (enc := tcells) rfl (.tmp 17) (.tmp 18) 22 rfl Tryz.underlying22 i0 _ 80 hi0 hz0 hzs hzb rfl V.heap.size (.slice (some ⟨V.heap.size + 1, 0, none⟩) 0 0) (.slice va l.length vc) [] l (by first | (simp [Act.eval]; done) | simp [Act.eval, Act.put]) (by first | (simp [Act.eval]; done) | simp [Act.eval, Act.put]) eF rF sb1 sb2 (by simp; omega) ?_; intro v1 w1 own1 gr1 nw1; obtain ⟨rx, b1⟩ := FF.out w1 gr1; obtain ⟨va1, vc1, hv1⟩ := own1.rng.slice; rw [List.nil_append] at hv1 own1; subst hv1; clear gr1 nw1)
              | (refine step_append_rows (enc := tcells) rfl (.tmp 19) (.tmp 22) 22 rfl Tryz.underlying22 i0 _ 80 hi0 hz0 hzs hzb rfl V.heap.size (.slice va1 l.length vc1) _ l [tb] (by first | (simp [Act.eval]; done) | simp [Act.eval, Act.put]) rfl own1 rx (by unfold maxLen; simp; omega) (by simp; omega) b1.size ?_; intro v2 w2 own2 gr2 nw2; have HB : Hid (Below V.heap.size V w2) := own1.below gr2 b1 b1.size (Nat.le_refl _); obtain ⟨va2, vc2, hv2⟩ := own2.rng.slice; rw [List.length_append, List.length_singleton] at hv2; subst hv2; clear gr2 nw2)
              | (refine step_append_rows (enc := tcells) rfl (.tmp 19) (.tmp 22) 22 rfl Tryz.underlying22 i0 _ 80 hi0 hz0 hzs hzb rfl V.heap.size (.slice va1 l.length vc1) _ l [tb] (by first | (simp [Act.eval]; done) | simp [Act.eval, Act.put]) rfl (own1.alloc _) (RX _ _ rfl) (by unfold maxLen; simp; omega) (by simp; omega) (by have := b1.size; simp; omega) ?_; intro v2 w2 own2 gr2 nw2; have HB : Hid (Below V.heap.size V w2) := (own1.alloc _).below gr2 (b1.alloc b1.size _) (by have := b1.size; simp; omega) (Nat.le_refl _); obtain ⟨va2, vc2, hv2⟩ := own2.rng.slice; rw [List.length_append, List.length_singleton] at hv2; subst hv2; clear gr2 nw2)))
        | fail
        all_goals go_wp2
        all_goals go_meet
        all_goals exact ⟨false, rfl, (fun _ => ⟨by trivial, by omega⟩), Below.trans HB.out (b3.mono (Below.size HB.out))⟩
  case rest =>
    obtain ⟨g, rfl, hg, bc⟩ := hcut
    clear FA FC FF RX rA rC rF eA eC eF belA belC belD belF p0 p1 p2 q0 q1 q2 sb1 sb2 hLi v0 v1 v2 hrV
    have HBW : Hid (Below w.heap.size w wc) := bV.trans (bc.mono bV.size)
    cases g
    rotate_left
    · go_wp2_with (go_at_call 7; refine (HL.out _).mono ?_; rintro e w4 ⟨rfl, b4⟩)
      go_ret
      exact ⟨rfl, HBW.out.trans (b4.mono HBW.out.size)⟩
    obtain ⟨hlb, hk500⟩ := hg rfl
    have l100 := HLB.out hlb
    have hLay := lay_any _ l wc (RowOf.below HRV.out bc (Nat.le_refl _)) f0 (by omega)
    clear hg hlb
    go_wp2_with fail
    refine hLay.mono ?_
    rintro e w3 ⟨pt, pr, Ft, Fr, rfl, D⟩
    have ok := D.ok1
    have hCp := copy_any pt Ft (layT l) w3 D.t
    clear hLay
    go_wp2_with fail
    refine hCp.mono ?_
    rintro e w4 ⟨pu, rfl, Fu, Tu, hFu, b4⟩
    have BV3 : Below V.heap.size V w3 := bc.trans (D.bel.mono bc.size)
    have BV4 : Below V.heap.size V w4 := BV3.trans (b4.mono BV3.size)
    obtain ⟨x0, x1, x2⟩ := HV.out w4 BV4
    have hfit : b.Fit := by obtain ⟨h1, h2, h3⟩ := hbf; unfold Bd.Fit maxLen; omega
    have hBi := bind_any pu Fu (layT l) b w4 Tu ok hfit
    have ok' := ok.bind hfit
    have Tt := D.t
    have hlt3 := D.t.lts
    generalize layT l = s at *
    clear hCp
    go_wp2_with fail
    refine hBi.mono ?_
    rintro e w5 ⟨rfl, Fu', Tu', m5⟩
    have Tt5 : T w5 pt Ft s := (Tt.kept b4).beside m5 (fun k hk ht => by have := hFu k hk; have := hlt3 k ht; omega)
    have BV5 : Below V.heap.size V w5 := m5.below (fun k hk => Nat.le_trans BV3.size (hFu k hk)) BV4 BV4.size
    have hEx := exchanges_any pt Ft s w5 Tt5 ok
    clear hBi x0 x1 x2
    go_wp2_with fail
    refine hEx.mono ?_
    rintro e w6 ⟨vX, rfl, ownX, b6⟩
    have BV6 : Below V.heap.size V w6 := BV5.trans (b6.mono BV5.size)
    obtain ⟨xa, xc, rfl⟩ := ownX.rng.slice
    have hXs := ownX.rng.exs
    have KT : Hid (∀ V', Below w6.heap.size w6 V' → T V' pt Ft s ∧ T V' pu Fu' (s.bind b).2 ∧ (V'.cell? ⟨w.heap.size, 0, none⟩ = some (.string b.ex) ∧ V'.cell? ⟨w.heap.size, 1, none⟩ = some (.string b.que) ∧ V'.cell? ⟨w.heap.size, 2, none⟩ = some (.string b.pat)) ∧ Below w.heap.size w V') := fun V' hV' =>
      ⟨(Tt5.kept b6).kept hV', (Tu'.kept b6).kept hV', HV.out V' (BV6.trans (hV'.mono BV6.size)), bV.trans ((BV6.trans (hV'.mono BV6.size)).mono bV.size)⟩
    have xgood : Hid (∀ x ∈ s.xs, x.name.size ≤ maxLen) := fun x hx => by have := good_short (ok.good x hx); unfold maxLen; omega
    have nx := ok.nx
    clear hEx ownX BV3 BV4 BV5 BV6 Tt Tt5 Tu Tu' m5 D b4 b6 hlt3 hFu bc
    go_wp2
    go_loopw [11, 12, 13, 14, 16, 47] (fun u11 u12 u13 u14 u16 u47 wr => ∃ k : Nat, u47 = .int .i64 k ∧ k ≤ s.xs.length ∧ Below w6.heap.size w6 wr) (fun u11 u12 u13 u14 u16 u47 wr => s.xs.length - (intOf u47).toNat)
    case atStart => exact ⟨0, rfl, Nat.zero_le _, Below.refl _ _⟩
    case round =>
      obtain ⟨k, rfl, hkl, hbr⟩ := hrel
      by_cases hlt2 : k < s.xs.length
      · have hlt : (k : Int) < (s.xs.length : Int) := by omega
        obtain ⟨eb, eo, rfl, hi⟩ := hXs k hlt2
        obtain ⟨e0, e1, e2⟩ := hi.below hbr (Nat.le_refl _)
        have hxn := xgood.out _ (List.getElem_mem hlt2)
        clear hXs hi
        generalize s.xs[k] = x at *
        obtain ⟨X1, foldX⟩ : ∃ X1, wr.alloc (.cells #[.string x.name, .int .i64 x.kind, .bool x.fed] 41) = X1 := ⟨_, rfl⟩
        have bX : Below w6.heap.size w6 X1 := by rw [← foldX]; exact hbr.alloc hbr.size _
        have y0 : X1.cell? ⟨wr.heap.size, 0, none⟩ = some (.string x.name) := by rw [← foldX]; exact cell_of_list (C := xcells x) (heap_alloc_new wr _) 0
        have hL1 := queuesT_length ok x.name key
        have hL2 := queuesT_length ok' x.name key
        have hne : Hid (¬ x.name = b.ex → queuesT (s.bind b).2 x.name key = queuesT s x.name key) := fun h => grows_other key h
        have heq : Hid (x.name = b.ex → ∃ f, Idx (queuesT s x.name key) (queuesT (s.bind b).2 x.name key) b.que f) := fun h => by rw [h]; exact grows_idx s b key
        have hQt : ∀ V', Below X1.heap.size X1 V' → Calls Tryz.prog 10 #[.pointer (some ⟨pt, 0, none⟩), .string x.name, .string key] V' fun r w' => ∃ a c, r = .returned (.slice a (queuesT s x.name key).length c) ∧ Row w' (.slice a (queuesT s x.name key).length c) (scells (queuesT s x.name key)) ∧ Below V'.heap.size V' w' := fun V' hV' => by
          refine (queues_any pt Ft s x.name key V' (KT.out V' (bX.trans (hV'.mono bX.size))).1 ok hxn hk).mono ?_
          rintro r w' ⟨v', rfl, h1, h2⟩
          obtain ⟨a, c, rfl⟩ := h1.sliceStrs
          exact ⟨a, c, rfl, h1, h2⟩
        have hQu : ∀ V', Below X1.heap.size X1 V' → Calls Tryz.prog 10 #[.pointer (some ⟨pu, 0, none⟩), .string x.name, .string key] V' fun r w' => ∃ a c, r = .returned (.slice a (queuesT (s.bind b).2 x.name key).length c) ∧ Row w' (.slice a (queuesT (s.bind b).2 x.name key).length c) (scells (queuesT (s.bind b).2 x.name key)) ∧ Below V'.heap.size V' w' := fun V' hV' => by
          refine (queues_any pu Fu' (s.bind b).2 x.name key V' (KT.out V' (bX.trans (hV'.mono bX.size))).2.1 ok' hxn hk).mono ?_
          rintro r w' ⟨v', rfl, h1, h2⟩
          obtain ⟨a, c, rfl⟩ := h1.sliceStrs
          exact ⟨a, c, rfl, h1, h2⟩
        generalize queuesT s x.name key = XQ at *
        generalize queuesT (s.bind b).2 x.name key = YQ at *
        have HBX : Hid _ := bX
        have hD0 : Below X1.heap.size X1 X1.drew := (Below.refl _ _).drew
        clear bX hbr
        go_wp2
        clear foldX e0 e1 e2
        go_cut [12, 13, 47] from 47 to 99 (fun s12 s13 s47 wx => ∃ a1 c1 a2 c2, s12 = .slice a1 XQ.length c1 ∧ s13 = .slice a2 YQ.length c2 ∧ s47 = .int .i64 k ∧ Row wx (.slice a1 XQ.length c1) (scells XQ) ∧ Row wx (.slice a2 YQ.length c2) (scells YQ) ∧ Below X1.heap.size X1 wx)
        case first =>
          go_region_held3 (fun w' => w'.cell? ⟨wr.heap.size, 0, none⟩ = some (.string x.name) ∧ Below X1.heap.size X1 w') (go_keep) (first
            | (go_at_call_of 10 (Value.pointer (some ⟨pt, 0, none⟩)); refine (hQt _ (by assumption)).mono ?_; rintro e wt ⟨at', ct, rfl, rt, bt⟩; have q0 := cellH bt (v := .string x.name) (by assumption); have q1 := keptX (w := X1) (by assumption) bt)
            | (go_at_call_of 10 (Value.pointer (some ⟨pu, 0, none⟩)); refine (hQu _ (by assumption)).mono ?_; rintro e wu ⟨au, cu, rfl, ru, bu⟩; have q2 := cellH bu (v := .string x.name) (by assumption); have q3 := keptX (w := X1) (by assumption) bu))
          all_goals go_wp2
          all_goals go_meet
          all_goals first
            | exact ⟨_, _, _, _, rfl, rfl, rfl, rt.below bu (Nat.le_refl _), ru, by assumption⟩
            | exact ⟨_, _, _, _, rfl, rfl, rfl, rt, ru.below bt (Nat.le_refl _), by assumption⟩
        case rest =>
          obtain ⟨a1, c1, a2, c2, rfl, rfl, rfl, R1, R2, bcc⟩ := hcut
          have bw6 : Below w6.heap.size w6 wc := Below.trans HBX.out (bcc.mono (Below.size HBX.out))
          obtain ⟨_, _, ⟨z0, z1, z2⟩, _⟩ := KT.out wc bw6
          have y0' := cellH bcc y0
          have hsd := same_dec x.name b.ex
          clear hQt hQu y0 hD0
          by_cases hx : x.name = b.ex
          · have hsd' : (x.name.toList == b.ex.toList) = true := by rw [hsd, decide_eq_true hx]
            obtain ⟨f, hf⟩ := heq.out hx
            have HF : Hid _ := hf
            have fz : f 0 = 0 := hf.zero
            clear hsd hx hf
            go_wp2
            go_loopw [14, 16, 72] (fun u14 u16 u72 wr2 => ∃ k2 : Nat, u72 = .int .i64 k2 ∧ k2 ≤ YQ.length ∧ u14 = .int .i64 (f k2) ∧ Below wc.heap.size wc wr2) (fun u14 u16 u72 wr2 => YQ.length - (intOf u72).toNat)
            case atStart => exact ⟨0, rfl, Nat.zero_le _, by rw [fz]; rfl, Below.refl _ _⟩
            case round =>
              obtain ⟨k2, rfl, hk2, rfl, hb2⟩ := hrel
              have R1' := R1.below hb2 (Nat.le_refl _)
              have R2' := R2.below hb2 (Nat.le_refl _)
              have u1 := cellH hb2 z1
              by_cases hlt3 : k2 < YQ.length
              · have hlt3' : (k2 : Int) < (YQ.length : Int) := by omega
                obtain ⟨rb, ro, rc, hv, _, _, hcell⟩ := R2'.atStrs (by omega)
                have hck := hcell k2 hlt3
                injection hv with hv1 _ hv3
                subst hv1 hv3
                have hst := Idx.step HF.out k2 hlt3
                have hfle := Idx.le HF.out k2
                clear hcell R2' R2
                generalize YQ[k2] = q at *
                rcases hst with ⟨h2, he, hn⟩ | ⟨he, hn, hno⟩
                · obtain ⟨sb, so, sc, hv, _, _, hcell⟩ := R1'.atStrs (by omega)
                  have hcx := hcell (f k2) h2
                  rw [he] at hcx
                  injection hv with hv1 _ hv3
                  subst hv1 hv3
                  have h2' : ((f k2 : Nat) : Int) < (XQ.length : Int) := by omega
                  have HN : Hid _ := hn
                  clear hcell R1' R1 he hn
                  generalize f k2 = fk at *
                  go_wp2
                  go_roundw
                  case rel => exact ⟨k2 + 1, by go_num, by omega, by rw [HN.out]; go_num, hb2⟩
                  case measure => simp [intOf]; omega
                · have HN : Hid _ := hn
                  have hq : (q.toList == b.que.toList) = true := by rw [same_dec, decide_eq_true he]
                  by_cases h2 : f k2 < XQ.length
                  · obtain ⟨sb, so, sc, hv, _, _, hcell⟩ := R1'.atStrs (by omega)
                    have hcx := hcell (f k2) h2
                    have hxq := hno h2
                    injection hv with hv1 _ hv3
                    subst hv1 hv3
                    have h2' : ((f k2 : Nat) : Int) < (XQ.length : Int) := by omega
                    generalize XQ[f k2] = xq at *
                    have hsx : (xq.toList == q.toList) = false := by rw [same_dec, decide_eq_false hxq]
                    clear hcell R1' R1 he hn hno hxq
                    generalize f k2 = fk at *
                    go_wp2
                    go_roundw
                    case rel => exact ⟨k2 + 1, by go_num, by omega, by rw [HN.out], hb2⟩
                    case measure => simp [intOf]; omega
                  · have h2' : ¬ ((f k2 : Nat) : Int) < (XQ.length : Int) := by omega
                    clear R1' R1 he hn hno
                    generalize f k2 = fk at *
                    go_wp2
                    go_roundw
                    case rel => exact ⟨k2 + 1, by go_num, by omega, by rw [HN.out], hb2⟩
                    case measure => simp [intOf]; omega
              · obtain rfl : k2 = YQ.length := by omega
                have hlast : f YQ.length = XQ.length := Idx.last HF.out
                have HB2 : Hid (Below w6.heap.size w6 wr) := bw6.trans (hb2.mono bw6.size)
                clear R1' R2' R1 R2 u1
                rw [hlast]
                go_wp2
                go_roundw
                case rel => exact ⟨k + 1, by go_num, by omega, HB2.out⟩
                case measure => simp [intOf]; omega
          · have hsd' : (x.name.toList == b.ex.toList) = false := by rw [hsd, decide_eq_false hx]
            have hyx := hne.out hx
            have hT := texts8_any wc _ _ XQ YQ R1 R2 (by omega) (by omega)
            rw [decide_eq_true hyx.symm] at hT
            clear hsd hx hyx R1 R2
            go_wp2_with fail
            refine hT.mono ?_
            rintro e w8 ⟨rfl, b8⟩
            have HB8 : Hid (Below w6.heap.size w6 w8) := bw6.trans (b8.mono bw6.size)
            go_wp2
            go_roundw
            case rel => exact ⟨k + 1, by go_num, by omega, HB8.out⟩
            case measure => simp [intOf]; omega
      · obtain rfl : k = s.xs.length := by omega
        have HB := (KT.out wr hbr).2.2.2
        clear hXs
        go_wp2_with fail
        refine (HL.out _).mono ?_
        rintro e w7 ⟨rfl, b7⟩
        go_wp2
        go_ret
        exact ⟨rfl, HB.trans (b7.mono HB.size)⟩
end Go.Proofs.YtlfehneojkfmjaaGreatDoor
