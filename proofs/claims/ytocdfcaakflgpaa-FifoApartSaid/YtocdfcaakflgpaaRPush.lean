/-
  THE DOCUMENT's Push, by its contract.
-/
import Derived.Test.YtocdfcaakflgpaaRDone
import Derived.Test.YtocdfcaakflgpaaRPut
import Derived.Deep.RegionHeld3
namespace Go.Proofs.Ytocdfcaakflgpaa
open Go.RowKit Go.Sort

/-- The row of those that are ready is a new one. -/
theorem rrdy_set {w W : World} {p : Nat} {vr vo v' : Value} {s : St} {l : List It} {F : Nat → Prop} (hq : RAt w p vr vo s) (hF : ∀ k, F k ↔ rfoot p vr vo k) (hl : ∀ k, F k → k < w.heap.size) (hW : Below w.heap.size w W) (own : Own8 W w.heap.size v' l) :
    ∃ F', R (W.setCell ⟨p, 2, none⟩ v') p F' { s with rdy := l } ∧ Moved w (W.setCell ⟨p, 2, none⟩ v') F F' := by
  have hp : p < w.heap.size := (Array.getElem?_eq_some_iff.1 hq.blk).1
  have hqW : RAt W p vr vo s := hq.same fun k hk => hW.block k (hl k ((hF k).2 hk))
  have hne := ref_row_not own hp
  refine ⟨rfoot p v' vo, ⟨v', vo, ⟨set4_2 v' hqW.blk, own.rng.same fun g hg => heap_setCell_other _ _ _ _ (fun he => hne (by rw [hg, he])), hqW.out.same fun g hg => heap_setCell_other _ _ _ _ (fun he => hq.no (by rw [hg, he])), hne, hq.no⟩, fun _ => Iff.rfl, ?_⟩, ?_⟩
  · rintro k (rfl | hk | hk)
    · rw [World.size_setCell]; exact Nat.lt_of_lt_of_le hp hW.size
    · rw [World.size_setCell]; exact (own.lt hk).2
    · rw [World.size_setCell]; exact Nat.lt_of_lt_of_le (hl k ((hF k).2 (.inr (.inr hk)))) hW.size
  · refine ⟨hW.os, hW.tape, hW.output, by rw [World.size_setCell]; exact hW.size, fun k hk hn => ?_, ?_⟩
    · rw [heap_setCell_other _ _ _ _ (fun h => hn ((hF k).2 (.inl h))), hW.block k hk]
    · rintro k (rfl | hk | hk)
      · exact .inl ((hF _).2 (.inl rfl))
      · exact .inr (own.lt hk).1
      · exact .inl ((hF k).2 (.inr (.inr hk)))
theorem rnext_set {w : World} {p : Nat} {F : Nat → Prop} {s : St} (h : R w p F s) (n : Nat) :
    R (w.setCell ⟨p, 1, none⟩ (.int .u64 (n : Int))) p F { s with next := n } ∧ Moved w (w.setCell ⟨p, 1, none⟩ (.int .u64 (n : Int))) F F := by
  obtain ⟨vr, vo, hq, hF, hl⟩ := h
  refine ⟨⟨vr, vo, ⟨set4_1 _ hq.blk, hq.rdy.same fun g hg => heap_setCell_other _ _ _ _ (fun he => hq.nr (by rw [hg, he])), hq.out.same fun g hg => heap_setCell_other _ _ _ _ (fun he => hq.no (by rw [hg, he])), hq.nr, hq.no⟩, hF, fun k hk => by rw [World.size_setCell]; exact hl k hk⟩, ⟨rfl, rfl, rfl, Nat.le_of_eq (World.size_setCell _ _ _).symm, fun k hk hn => heap_setCell_other _ _ _ _ (fun h => hn ((hF k).2 (.inl h))), fun k hk => .inl hk⟩⟩

theorem cell_set_o {w : World} {a b : Addr} {u v : Value} (h : w.cell? b = some v) (hne : a ≠ b) : (w.setCell a u).cell? b = some v := (show (w.setCell a u).cell? b = w.cell? b from by apply World.cell?_setCell_other; exact hne).trans h

set_option linter.unusedSimpArgs false
set_option maxRecDepth 20000 in
set_option maxHeartbeats 4000000 in
theorem rpush_any (p : Nat) (F : Nat → Prop) (s : St) (m : Msg) (w : World) (h : R w p F s) (ok : s.Ok) :
    Calls Try.prog 33 #[.pointer (some ⟨p, 0, none⟩), mv m] w fun e w' => e = .returned (.int .i64 (s.push m).1) ∧ ∃ F', R w' p F' (s.push m).2 ∧ Moved w w' F F' := by
  obtain ⟨W, fold⟩ : ∃ W, w.alloc (.cells #[.int .i64 m.o, .int .u64 m.s, .int .i64 m.hop, .string m.ex, .string m.key, .string m.body] 33) = W := ⟨_, rfl⟩
  have bW : Below w.heap.size w W := by rw [← fold]; exact below_alloc _ _
  have hmsg : W.cell? ⟨w.heap.size, 0, none⟩ = some (.int .i64 m.o) ∧ W.cell? ⟨w.heap.size, 1, none⟩ = some (.int .u64 m.s) ∧ W.cell? ⟨w.heap.size, 2, none⟩ = some (.int .i64 m.hop) ∧ W.cell? ⟨w.heap.size, 3, none⟩ = some (.string m.ex) ∧ W.cell? ⟨w.heap.size, 4, none⟩ = some (.string m.key) ∧ W.cell? ⟨w.heap.size, 5, none⟩ = some (.string m.body) := by
    rw [← fold]; simp [World.cell?_alloc_at]
  obtain ⟨m0, m1, m2, m3, m4, m5⟩ := hmsg
  have h0 := h.kept bW
  have HP0 : p < w.heap.size := h.at
  have HEnd : Hid (∀ V, Below W.heap.size W V → ∃ F', R V p F' s ∧ Moved w V F F') := fun V hV => ⟨F, h0.kept hV, .of_below (bW.trans (hV.mono bW.size))⟩
  obtain ⟨vr, vo, hq, hF, hl⟩ := h0
  obtain ⟨⟨c0, c1, c2, c3⟩, f0, f1, f2, f3⟩ := cells4 hq.blk
  have hpW : p < W.heap.size := World.block_lt_of_cell? _ _ c0
  have hwW : w.heap.size < W.heap.size := World.block_lt_of_cell? _ _ m0
  obtain ⟨a, cap, rfl⟩ := hq.rdy.slice
  obtain ⟨a2, cap2, rfl⟩ := hq.out.slice
  have hroom := ok.room
  have hm := ok.m
  have hnx := ok.n
  have hwr : IntKind.i64.wrap ((s.rdy.length : Int) + (s.out.length : Int)) = (s.rdy.length : Int) + (s.out.length : Int) := by rw [IntKind.wrap_i64]; omega
  have HQ : Hid (RAt W p (.slice a s.rdy.length cap) (.slice a2 s.out.length cap2) s ∧ (∀ k, F k ↔ rfoot p (.slice a s.rdy.length cap) (.slice a2 s.out.length cap2) k) ∧ ∀ k, F k → k < W.heap.size) := ⟨hq, hF, hl⟩
  have HK : Hid (∀ V, Below W.heap.size W V → (V.cell? ⟨w.heap.size, 0, none⟩ = some (.int .i64 m.o) ∧ V.cell? ⟨w.heap.size, 1, none⟩ = some (.int .u64 m.s) ∧ V.cell? ⟨w.heap.size, 2, none⟩ = some (.int .i64 m.hop) ∧ V.cell? ⟨w.heap.size, 3, none⟩ = some (.string m.ex) ∧ V.cell? ⟨w.heap.size, 4, none⟩ = some (.string m.key) ∧ V.cell? ⟨w.heap.size, 5, none⟩ = some (.string m.body)) ∧ V.cell? ⟨p, 1, none⟩ = some (.int .u64 (s.next : Int)) ∧ V.cell? ⟨p, 2, none⟩ = some (.slice a s.rdy.length cap) ∧ V.frozen? ⟨p, 1, none⟩ = false ∧ V.frozen? ⟨p, 2, none⟩ = false) := fun V hV => by
    obtain ⟨⟨_, k1, k2, _⟩, _, k3, k4, _⟩ := cells4 ((hV.block p hpW).trans HQ.out.1.blk)
    exact ⟨⟨(hV.cell (p := ⟨_, 0, none⟩) hwW).trans m0, (hV.cell (p := ⟨_, 1, none⟩) hwW).trans m1, (hV.cell (p := ⟨_, 2, none⟩) hwW).trans m2, (hV.cell (p := ⟨_, 3, none⟩) hwW).trans m3, (hV.cell (p := ⟨_, 4, none⟩) hwW).trans m4, (hV.cell (p := ⟨_, 5, none⟩) hwW).trans m5⟩, k1, k2, k3, k4⟩
  by_cases h1 : s.most ≤ s.rdy.length + s.out.length
  · have e : s.push m = (6, s) := by unfold St.push; rw [if_pos h1]
    rw [e]
    have h1' : (s.most : Int) ≤ (s.rdy.length : Int) + (s.out.length : Int) := by omega
    have hd : decide ((s.most : Int) ≤ (s.rdy.length : Int) + (s.out.length : Int)) = true := decide_eq_true h1'
    clear hq hF hl hroom hm hnx
    go_enter Try.func33, Try.ntmps33
    go_wp2
    go_quiet (fail)
    go_wp2
    go_ret
    exact ⟨rfl, HEnd.out _ ⟨rfl, rfl, rfl, Nat.le_refl _, fun _ _ => rfl⟩⟩
  have h1' : ¬ (s.most : Int) ≤ (s.rdy.length : Int) + (s.out.length : Int) := by omega
  have hd : decide ((s.most : Int) ≤ (s.rdy.length : Int) + (s.out.length : Int)) = false := decide_eq_false h1'
  by_cases h2 : s.next = 18446744073709551615
  · have e : s.push m = (11, s) := by unfold St.push; rw [if_neg h1, if_pos h2]
    rw [e]
    rw [h2] at c1
    clear hq hF hl hroom hm hnx h2
    go_enter Try.func33, Try.ntmps33
    go_wp2
    go_quiet (fail)
    go_wp2
    go_ret
    exact ⟨rfl, HEnd.out _ ⟨rfl, rfl, rfl, Nat.le_refl _, fun _ _ => rfl⟩⟩
  rw [push_ok m h1 h2]
  have h2' : ¬ ((s.next : Int) = 18446744073709551615) := by omega
  have hw : IntKind.u64.wrap ((s.next : Int) + 1) = ((s.next + 1 : Nat) : Int) := by rw [IntKind.wrap_u64]; omega
  have hlen : s.rdy.length ≤ 1000 := by omega
  obtain ⟨i0, hi0, hz0, hzs, hzb⟩ := itemInfo
  have sb1 : ([] : List It).length + s.rdy.length ≤ maxLen := by unfold maxLen; simp; omega
  have sb2 : (([] : List It).length + s.rdy.length) * 88 ≤ 140737488355328 := by simp; omega
  have HH1 : Hid (¬ s.most ≤ s.rdy.length + s.out.length) := h1
  clear hq hF hl hroom hm hnx h2
  go_enter Try.func33, Try.ntmps33
  go_wp2
  go_quiet (fail)
  go_wp2
  generalize hV : World.drewN W _ = V
  have BV : Below W.heap.size W V := by rw [← hV]; exact ⟨rfl, rfl, rfl, Nat.le_refl _, fun _ _ => rfl⟩
  have hVs : V.heap.size = W.heap.size := by rw [← hV]; rfl
  clear hV m0 m1 m2 m3 m4 m5 c0 c1 c2 c3 f0 f1 f2 f3 hwr h1 h1' hd
  obtain ⟨⟨m0, m1, m2, m3, m4, m5⟩, c1, c2, f1, f2⟩ := HK.out V BV
  have hrV : Rows V (.slice a s.rdy.length cap) s.rdy := HQ.out.1.rdy.below BV (Nat.le_refl _)
  obtain ⟨X, hX⟩ : ∃ X : Obj, X = .cells #[.int .u64 (s.next : Int), .int .i64 m.o, .int .u64 m.s, .int .i64 m.hop, .string m.ex, .string m.key, .string m.body, .bool false] 38 := ⟨_, rfl⟩
  have belD : Below V.heap.size V V.drew := (Below.refl _ _).drew
  have belA : Below V.heap.size V (V.drew.alloc (.cells #[] 38)) := belD.alloc (Nat.le_refl _) _
  have belC : Below V.heap.size V ((V.drew.alloc (.cells #[] 38)).alloc X) := belA.alloc (by simp) _
  have belF : Below V.heap.size V ((V.drew.alloc X).alloc (.cells #[] 38)) := (belD.alloc (Nat.le_refl _) _).alloc (by simp) _
  have eA : Own8 (V.drew.alloc (.cells #[] 38)) V.heap.size (.slice (some ⟨V.heap.size, 0, none⟩) 0 0) [] := ownOf_empty V.drew V.heap.size (Nat.le_refl _)
  have eC : Own8 ((V.drew.alloc (.cells #[] 38)).alloc X) V.heap.size (.slice (some ⟨V.heap.size, 0, none⟩) 0 0) [] := eA.alloc X
  have eF : Own8 ((V.drew.alloc X).alloc (.cells #[] 38)) V.heap.size (.slice (some ⟨V.heap.size + 1, 0, none⟩) 0 0) [] := by
    have := ownOf_empty (enc := icells) (K := 8) (T := 38) (V.drew.alloc X) V.heap.size (by simp)
    rwa [World.size_alloc] at this
  have rA : Rows _ (.slice a s.rdy.length cap) s.rdy := hrV.below belA (Nat.le_refl _)
  have rC : Rows _ (.slice a s.rdy.length cap) s.rdy := hrV.below belC (Nat.le_refl _)
  have rF : Rows _ (.slice a s.rdy.length cap) s.rdy := hrV.below belF (Nat.le_refl _)
  have HKV : Hid (∀ Y, Below V.heap.size V Y → Below W.heap.size W Y) := fun Y hY => BV.trans (hY.mono BV.size)
  have FA : Hid (∀ w1, (V.drew.alloc (.cells #[] 38)).grownBy w1 (some V.heap.size) → Below V.heap.size V w1) := fun w1 gr => belA.grown gr (by simp) (fun k hk => by injection hk with hk; omega)
  have FC : Hid (∀ w1, ((V.drew.alloc (.cells #[] 38)).alloc X).grownBy w1 (some V.heap.size) → Rows w1 (.slice (some ⟨V.heap.size + 1, 0, none⟩) 1 1) [⟨s.next, m, false⟩] ∧ Below V.heap.size V w1) := fun w1 gr => by
    have h1 : Rows ((V.drew.alloc (.cells #[] 38)).alloc X) (.slice (some ⟨V.heap.size + 1, 0, none⟩) 1 1) [⟨s.next, m, false⟩] := by rw [hX]; exact row_one _ (⟨s.next, m, false⟩ : It) _ (by simp)
    refine ⟨h1.same fun g hg => ?_, belC.grown gr (by simp; omega) (fun k hk => by injection hk with hk; omega)⟩
    have hg' : g = V.heap.size + 1 := (Option.some.inj hg).symm
    subst hg'
    exact gr.block _ (by simp) (fun h => by injection h with h; omega)
  have FF : Hid (∀ w1, ((V.drew.alloc X).alloc (.cells #[] 38)).grownBy w1 (some (V.heap.size + 1)) → Rows w1 (.slice (some ⟨V.heap.size, 0, none⟩) 1 1) [⟨s.next, m, false⟩] ∧ Below V.heap.size V w1) := fun w1 gr => by
    have h0 : Rows (V.drew.alloc X) (.slice (some ⟨V.heap.size, 0, none⟩) 1 1) [⟨s.next, m, false⟩] := by rw [hX]; exact row_one V.drew (⟨s.next, m, false⟩ : It) _ rfl
    have h1 : Rows ((V.drew.alloc X).alloc (.cells #[] 38)) (.slice (some ⟨V.heap.size, 0, none⟩) 1 1) [⟨s.next, m, false⟩] := h0.below (below_alloc _ _) (Nat.le_refl _)
    refine ⟨h1.same fun g hg => ?_, belF.grown gr (by simp; omega) (fun k hk => by injection hk with hk; omega)⟩
    have hg' : g = V.heap.size := (Option.some.inj hg).symm
    subst hg'
    exact gr.block _ (by simp; omega) (fun h => by injection h with h; omega)
  have HE : Hid (∀ Y v', Own8 Y V.heap.size v' (s.rdy ++ [⟨s.next, m, false⟩]) → Below V.heap.size V Y → ∃ F', R ((Y.setCell ⟨p, 2, none⟩ v').setCell ⟨p, 1, none⟩ (.int .u64 ((s.next : Int) + 1))) p F' { s with next := s.next + 1, rdy := s.rdy ++ [⟨s.next, m, false⟩] } ∧ Moved w ((Y.setCell ⟨p, 2, none⟩ v').setCell ⟨p, 1, none⟩ (.int .u64 ((s.next : Int) + 1))) F F') := fun Y v' own hY => by
    rw [hVs] at own
    obtain ⟨F', h1, h2⟩ := rrdy_set HQ.out.1 HQ.out.2.1 HQ.out.2.2 (HKV.out Y hY) own
    obtain ⟨h3, h4⟩ := rnext_set h1 (s.next + 1)
    exact ⟨F', h3, (Moved.of_below bW).trans (h2.trans h4)⟩
  have p0 := fun o => cell_alloc_r (W := V.drew) o m0
  have p1 := fun o => cell_alloc_r (W := V.drew) o m1
  have p2 := fun o => cell_alloc_r (W := V.drew) o m2
  have p3 := fun o => cell_alloc_r (W := V.drew) o m3
  have p4 := fun o => cell_alloc_r (W := V.drew) o m4
  have p5 := fun o => cell_alloc_r (W := V.drew) o m5
  have p6 := fun o => cell_alloc_r (W := V.drew) o c1
  have p7 := fun o => cell_alloc_r (W := V.drew) o c2
  have q0 := fun o => cell_alloc_r (W := V) o m0
  have q1 := fun o => cell_alloc_r (W := V) o m1
  have q2 := fun o => cell_alloc_r (W := V) o m2
  have q3 := fun o => cell_alloc_r (W := V) o m3
  have q4 := fun o => cell_alloc_r (W := V) o m4
  have q5 := fun o => cell_alloc_r (W := V) o m5
  have q6 := fun o => cell_alloc_r (W := V) o c1
  have q7 := fun o => cell_alloc_r (W := V) o c2
  have r0 := fun o o' => cell_alloc_r (W := V.alloc o) o' (q0 o)
  have s0 := fun o o' => cell_alloc_r (W := V.drew.alloc o) o' (p0 o)
  have r1 := fun o o' => cell_alloc_r (W := V.alloc o) o' (q1 o)
  have s1 := fun o o' => cell_alloc_r (W := V.drew.alloc o) o' (p1 o)
  have r2 := fun o o' => cell_alloc_r (W := V.alloc o) o' (q2 o)
  have s2 := fun o o' => cell_alloc_r (W := V.drew.alloc o) o' (p2 o)
  have r3 := fun o o' => cell_alloc_r (W := V.alloc o) o' (q3 o)
  have s3 := fun o o' => cell_alloc_r (W := V.drew.alloc o) o' (p3 o)
  have r4 := fun o o' => cell_alloc_r (W := V.alloc o) o' (q4 o)
  have s4 := fun o o' => cell_alloc_r (W := V.drew.alloc o) o' (p4 o)
  have r5 := fun o o' => cell_alloc_r (W := V.alloc o) o' (q5 o)
  have s5 := fun o o' => cell_alloc_r (W := V.drew.alloc o) o' (p5 o)
  have r6 := fun o o' => cell_alloc_r (W := V.alloc o) o' (q6 o)
  have s6 := fun o o' => cell_alloc_r (W := V.drew.alloc o) o' (p6 o)
  have r7 := fun o o' => cell_alloc_r (W := V.alloc o) o' (q7 o)
  have s7 := fun o o' => cell_alloc_r (W := V.drew.alloc o) o' (p7 o)
  have hpV : ¬ p = V.heap.size := by have := BV.size; omega
  have hwp : ¬ w.heap.size = p := by omega
  have NE0 : Hid ((⟨p, 2, none⟩ : Addr) ≠ ⟨w.heap.size, 0, none⟩) := fun he => by injection he with he; omega
  have NE1 : Hid ((⟨p, 2, none⟩ : Addr) ≠ ⟨w.heap.size, 1, none⟩) := fun he => by injection he with he; omega
  have NE2 : Hid ((⟨p, 2, none⟩ : Addr) ≠ ⟨w.heap.size, 2, none⟩) := fun he => by injection he with he; omega
  have NE3 : Hid ((⟨p, 2, none⟩ : Addr) ≠ ⟨w.heap.size, 3, none⟩) := fun he => by injection he with he; omega
  have NE4 : Hid ((⟨p, 2, none⟩ : Addr) ≠ ⟨w.heap.size, 4, none⟩) := fun he => by injection he with he; omega
  have NE5 : Hid ((⟨p, 2, none⟩ : Addr) ≠ ⟨w.heap.size, 5, none⟩) := fun he => by injection he with he; omega
  have NE6 : Hid ((⟨p, 2, none⟩ : Addr) ≠ ⟨p, 1, none⟩) := fun he => by injection he with _ he; omega
  have hwV : ¬ w.heap.size = V.heap.size := by have := BV.size; omega
  subst hX
  clear hVs hpW hwW hrV
  refine wp_region_noPanic ?_
  refine wp_region_held_drew (S := fun w' => w'.cell? ⟨w.heap.size, 0, none⟩ = some (.int .i64 m.o) ∧ w'.cell? ⟨w.heap.size, 1, none⟩ = some (.int .u64 m.s) ∧ w'.cell? ⟨w.heap.size, 2, none⟩ = some (.int .i64 m.hop) ∧ w'.cell? ⟨w.heap.size, 3, none⟩ = some (.string m.ex) ∧ w'.cell? ⟨w.heap.size, 4, none⟩ = some (.string m.key) ∧ w'.cell? ⟨w.heap.size, 5, none⟩ = some (.string m.body) ∧ w'.cell? ⟨p, 1, none⟩ = some (.int .u64 (s.next : Int))) (by kernel_rfl) ⟨m0, m1, m2, m3, m4, m5, c1⟩ (fun hHeld => ?_)
  refine wpAnyH_take (i := 0) (v := ?_) (by simp only [List.getElem?_toArray, List.getElem?_cons_succ, List.getElem?_cons_zero]; rfl) (by kernel_rfl) (by kernel_rfl) (by kernel_rfl) (fun _ _ _ h => h) (Or.inl ⟨by rfl, ?_⟩) (by assumption) ?_
  rotate_left
  · (intro w hSw; (try dsimp only at hSw); go_simp; try with_reducible rfl)
  try simp only [Act.put, List.setIfInBounds_toArray, List.set_cons_zero, List.set_cons_succ]
  refine wpAnyH_take (i := 2) (v := ?_) (by simp only [List.getElem?_toArray, List.getElem?_cons_succ, List.getElem?_cons_zero]; rfl) (by kernel_rfl) (by kernel_rfl) (by kernel_rfl) (fun _ _ _ h => h) (Or.inl ⟨by rfl, ?_⟩) (by assumption) ?_
  rotate_left
  · (intro w hSw; (try dsimp only at hSw); go_simp; try with_reducible rfl)
  try simp only [Act.put, List.setIfInBounds_toArray, List.set_cons_zero, List.set_cons_succ]
  refine wpAnyH_take (i := 3) (v := ?_) (by simp only [List.getElem?_toArray, List.getElem?_cons_succ, List.getElem?_cons_zero]; rfl) (by kernel_rfl) (by kernel_rfl) (by kernel_rfl) (fun _ _ _ h => h) (Or.inl ⟨by rfl, ?_⟩) (by assumption) ?_
  rotate_left
  · (intro w hSw; (try dsimp only at hSw); go_simp; try with_reducible rfl)
  try simp only [Act.put, List.setIfInBounds_toArray, List.set_cons_zero, List.set_cons_succ]
  refine wpAnyH_take (i := 4) (v := ?_) (by simp only [List.getElem?_toArray, List.getElem?_cons_succ, List.getElem?_cons_zero]; rfl) (by kernel_rfl) (by kernel_rfl) (by kernel_rfl) (fun _ _ _ h => h) (Or.inl ⟨by rfl, ?_⟩) (by assumption) ?_
  rotate_left
  · (intro w hSw; (try dsimp only at hSw); go_simp; try with_reducible rfl)
  try simp only [Act.put, List.setIfInBounds_toArray, List.set_cons_zero, List.set_cons_succ]
  refine wpAnyH_take (i := 7) (v := ?_) (by simp only [List.getElem?_toArray, List.getElem?_cons_succ, List.getElem?_cons_zero]; rfl) (by kernel_rfl) (by kernel_rfl) (by kernel_rfl) (fun _ _ _ h => h) (Or.inl ⟨by rfl, ?_⟩) (by assumption) ?_
  rotate_left
  · (intro w hSw; (try dsimp only at hSw); go_simp; try with_reducible rfl)
  try simp only [Act.put, List.setIfInBounds_toArray, List.set_cons_zero, List.set_cons_succ]
  refine wpAnyH_take (i := 8) (v := ?_) (by simp only [List.getElem?_toArray, List.getElem?_cons_succ, List.getElem?_cons_zero]; rfl) (by kernel_rfl) (by kernel_rfl) (by kernel_rfl) (fun _ _ _ h => h) (Or.inl ⟨by rfl, ?_⟩) (by assumption) ?_
  rotate_left
  · (intro w hSw; (try dsimp only at hSw); go_simp; try with_reducible rfl)
  try simp only [Act.put, List.setIfInBounds_toArray, List.set_cons_zero, List.set_cons_succ]
  refine wpAnyH_take (i := 9) (v := ?_) (by simp only [List.getElem?_toArray, List.getElem?_cons_succ, List.getElem?_cons_zero]; rfl) (by kernel_rfl) (by kernel_rfl) (by kernel_rfl) (fun _ _ _ h => h) (Or.inl ⟨by rfl, ?_⟩) (by assumption) ?_
  rotate_left
  · (intro w hSw; (try dsimp only at hSw); go_simp; try with_reducible rfl)
  try simp only [Act.put, List.setIfInBounds_toArray, List.set_cons_zero, List.set_cons_succ]
  refine wpAnyH_take (i := 10) (v := ?_) (by simp only [List.getElem?_toArray, List.getElem?_cons_succ, List.getElem?_cons_zero]; rfl) (by kernel_rfl) (by kernel_rfl) (by kernel_rfl) (fun _ _ _ h => h) (Or.inl ⟨by rfl, ?_⟩) (by assumption) ?_
  rotate_left
  · (intro w hSw; (try dsimp only at hSw); go_simp; try with_reducible rfl)
  try simp only [Act.put, List.setIfInBounds_toArray, List.set_cons_zero, List.set_cons_succ]
  refine wpAnyH_take (i := 11) (v := ?_) (by simp only [List.getElem?_toArray, List.getElem?_cons_succ, List.getElem?_cons_zero]; rfl) (by kernel_rfl) (by kernel_rfl) (by kernel_rfl) (fun _ _ _ h => h) (Or.inl ⟨by rfl, ?_⟩) (by assumption) ?_
  rotate_left
  · (intro w hSw; (try dsimp only at hSw); go_simp; try with_reducible rfl)
  try simp only [Act.put, List.setIfInBounds_toArray, List.set_cons_zero, List.set_cons_succ]
  refine wpAnyH_take (i := 12) (v := ?_) (by simp only [List.getElem?_toArray, List.getElem?_cons_succ, List.getElem?_cons_zero]; rfl) (by kernel_rfl) (by kernel_rfl) (by kernel_rfl) (fun _ _ _ h => h) (Or.inl ⟨by rfl, ?_⟩) (by assumption) ?_
  rotate_left
  · (intro w hSw; (try dsimp only at hSw); go_simp; try with_reducible rfl)
  try simp only [Act.put, List.setIfInBounds_toArray, List.set_cons_zero, List.set_cons_succ]
  refine wpAnyH_ready (rs := [1, 5, 13]) (by kernel_rfl) (by simp) ?_
  refine AllReadyH.cons rfl (fun K hK => ?_) ?_
  · skip
    go_simp
    (try dsimp only)
    refine hK.out _ _ (by (try dsimp only); go_keep) (fun hHeld => ?_)
    clear hK K
    try simp only [Act.put, List.setIfInBounds_toArray, List.set_cons_zero, List.set_cons_succ]
    refine wpAnyH_ready (rs := [5, 13]) (by kernel_rfl) (by simp) ?_
    refine AllReadyH.cons rfl (fun K hK => ?_) ?_
    · skip
      go_simp
      (try dsimp only)
      refine hK.out _ _ (by (try dsimp only); go_keep) (fun hHeld => ?_)
      clear hK K
      try simp only [Act.put, List.setIfInBounds_toArray, List.set_cons_zero, List.set_cons_succ]
      refine wpAnyH_ready (rs := [6, 13]) (by kernel_rfl) (by simp) ?_
      refine AllReadyH.cons rfl (fun K hK => ?_) ?_
      · skip
        first
        | (refine step_append_rows (enc := icells) rfl (.tmp 29) (.tmp 33) 47 rfl Try.underlying47 i0 _ 88 hi0 hz0 hzs hzb rfl V.heap.size (.slice (some ⟨V.heap.size, 0, none⟩) 0 0) (.slice a s.rdy.length cap) [] s.rdy (by simp [Act.eval]) (by simp [Act.eval]) eA rA sb1 sb2 (by simp) ?_; intro v1 w1 own1 gr1 nw1; have b1 := FA.out w1 gr1; obtain ⟨⟨g0, g1, g2, g3, g4, g5⟩, g6, g7, g8, g9⟩ := HK.out w1 (HKV.out w1 b1); have t0 := fun o => cell_alloc_r (W := w1) o g0; have t1 := fun o => cell_alloc_r (W := w1) o g1; have t2 := fun o => cell_alloc_r (W := w1) o g2; have t3 := fun o => cell_alloc_r (W := w1) o g3; have t4 := fun o => cell_alloc_r (W := w1) o g4; have t5 := fun o => cell_alloc_r (W := w1) o g5; have t6 := fun o => cell_alloc_r (W := w1) o g6; obtain ⟨va1, vc1, hv1⟩ := own1.rng.slice; rw [List.nil_append] at hv1 own1; subst hv1; clear gr1 nw1)
        | (refine step_append_rows (enc := icells) rfl (.tmp 29) (.tmp 33) 47 rfl Try.underlying47 i0 _ 88 hi0 hz0 hzs hzb rfl V.heap.size (.slice (some ⟨V.heap.size, 0, none⟩) 0 0) (.slice a s.rdy.length cap) [] s.rdy (by simp [Act.eval]) (by simp [Act.eval]) eC rC sb1 sb2 (by simp; omega) ?_; intro v1 w1 own1 gr1 nw1; obtain ⟨rx, b1⟩ := FC.out w1 gr1; obtain ⟨⟨g0, g1, g2, g3, g4, g5⟩, g6, g7, g8, g9⟩ := HK.out w1 (HKV.out w1 b1); have t0 := fun o => cell_alloc_r (W := w1) o g0; have t1 := fun o => cell_alloc_r (W := w1) o g1; have t2 := fun o => cell_alloc_r (W := w1) o g2; have t3 := fun o => cell_alloc_r (W := w1) o g3; have t4 := fun o => cell_alloc_r (W := w1) o g4; have t5 := fun o => cell_alloc_r (W := w1) o g5; have t6 := fun o => cell_alloc_r (W := w1) o g6; obtain ⟨va1, vc1, hv1⟩ := own1.rng.slice; rw [List.nil_append] at hv1 own1; subst hv1; clear gr1 nw1)
        | (refine step_append_rows (enc := icells) rfl (.tmp 29) (.tmp 33) 47 rfl Try.underlying47 i0 _ 88 hi0 hz0 hzs hzb rfl V.heap.size (.slice (some ⟨V.heap.size + 1, 0, none⟩) 0 0) (.slice a s.rdy.length cap) [] s.rdy (by simp [Act.eval]) (by simp [Act.eval]) eF rF sb1 sb2 (by simp; omega) ?_; intro v1 w1 own1 gr1 nw1; obtain ⟨rx, b1⟩ := FF.out w1 gr1; obtain ⟨⟨g0, g1, g2, g3, g4, g5⟩, g6, g7, g8, g9⟩ := HK.out w1 (HKV.out w1 b1); have t0 := fun o => cell_alloc_r (W := w1) o g0; have t1 := fun o => cell_alloc_r (W := w1) o g1; have t2 := fun o => cell_alloc_r (W := w1) o g2; have t3 := fun o => cell_alloc_r (W := w1) o g3; have t4 := fun o => cell_alloc_r (W := w1) o g4; have t5 := fun o => cell_alloc_r (W := w1) o g5; have t6 := fun o => cell_alloc_r (W := w1) o g6; obtain ⟨va1, vc1, hv1⟩ := own1.rng.slice; rw [List.nil_append] at hv1 own1; subst hv1; clear gr1 nw1)
        (try dsimp only)
        refine hK.out _ _ (by (try dsimp only); go_keep) (fun hHeld => ?_)
        clear hK K
        try simp only [Act.put, List.setIfInBounds_toArray, List.set_cons_zero, List.set_cons_succ]
        refine wpAnyH_ready (rs := [13]) (by kernel_rfl) (by simp) ?_
        refine AllReadyH.cons rfl (fun K hK => ?_) ?_
        · skip
          go_simp
          (try dsimp only)
          refine hK.out _ _ (by (try dsimp only); go_keep) (fun hHeld => ?_)
          clear hK K
          try simp only [Act.put, List.setIfInBounds_toArray, List.set_cons_zero, List.set_cons_succ]
          refine wpAnyH_ready (rs := [14]) (by kernel_rfl) (by simp) ?_
          refine AllReadyH.cons rfl (fun K hK => ?_) ?_
          · skip
            first
            | (refine step_append_rows (enc := icells) rfl (.tmp 34) (.tmp 41) 47 rfl Try.underlying47 i0 _ 88 hi0 hz0 hzs hzb rfl V.heap.size (.slice va1 s.rdy.length vc1) _ s.rdy [⟨s.next, m, false⟩] (by simp [Act.eval]) rfl own1 rx (by unfold maxLen; simp; omega) (by simp; omega) b1.size ?_; intro v2 w2 own2 gr2 nw2; have HB : Below V.heap.size V w2 := own1.below gr2 b1 b1.size (Nat.le_refl _); have HE' : Hid _ := HE.out w2 v2 own2 HB; obtain ⟨⟨k0, k1, k2, k3, k4, k5⟩, k6, k7, k8, k9⟩ := HK.out w2 (HKV.out w2 HB); have j0 := fun u => cell_set_o (a := ⟨p, 2, none⟩) (u := u) k0 NE0.out; have j1 := fun u => cell_set_o (a := ⟨p, 2, none⟩) (u := u) k1 NE1.out; have j2 := fun u => cell_set_o (a := ⟨p, 2, none⟩) (u := u) k2 NE2.out; have j3 := fun u => cell_set_o (a := ⟨p, 2, none⟩) (u := u) k3 NE3.out; have j4 := fun u => cell_set_o (a := ⟨p, 2, none⟩) (u := u) k4 NE4.out; have j5 := fun u => cell_set_o (a := ⟨p, 2, none⟩) (u := u) k5 NE5.out; have j6 := fun u => cell_set_o (a := ⟨p, 2, none⟩) (u := u) k6 NE6.out; obtain ⟨va2, vc2, hv2⟩ := own2.rng.slice; rw [List.length_append, List.length_singleton] at hv2; subst hv2; clear gr2 nw2 own2 HB own1 b1)
            | (refine step_append_rows (enc := icells) rfl (.tmp 34) (.tmp 41) 47 rfl Try.underlying47 i0 _ 88 hi0 hz0 hzs hzb rfl V.heap.size (.slice va1 s.rdy.length vc1) _ s.rdy [⟨s.next, m, false⟩] (by simp [Act.eval]) rfl (own1.alloc _) (row_one _ (⟨s.next, m, false⟩ : It) _ rfl) (by unfold maxLen; simp; omega) (by simp; omega) (by have := b1.size; simp; omega) ?_; intro v2 w2 own2 gr2 nw2; have HB : Below V.heap.size V w2 := (own1.alloc _).below gr2 (b1.alloc b1.size _) (by have := b1.size; simp; omega) (Nat.le_refl _); have HE' : Hid _ := HE.out w2 v2 own2 HB; obtain ⟨⟨k0, k1, k2, k3, k4, k5⟩, k6, k7, k8, k9⟩ := HK.out w2 (HKV.out w2 HB); have j0 := fun u => cell_set_o (a := ⟨p, 2, none⟩) (u := u) k0 NE0.out; have j1 := fun u => cell_set_o (a := ⟨p, 2, none⟩) (u := u) k1 NE1.out; have j2 := fun u => cell_set_o (a := ⟨p, 2, none⟩) (u := u) k2 NE2.out; have j3 := fun u => cell_set_o (a := ⟨p, 2, none⟩) (u := u) k3 NE3.out; have j4 := fun u => cell_set_o (a := ⟨p, 2, none⟩) (u := u) k4 NE4.out; have j5 := fun u => cell_set_o (a := ⟨p, 2, none⟩) (u := u) k5 NE5.out; have j6 := fun u => cell_set_o (a := ⟨p, 2, none⟩) (u := u) k6 NE6.out; obtain ⟨va2, vc2, hv2⟩ := own2.rng.slice; rw [List.length_append, List.length_singleton] at hv2; subst hv2; clear gr2 nw2 own2 HB own1 b1)
            (try dsimp only)
            refine hK.out _ _ (by (try dsimp only); go_keep) (fun hHeld => ?_)
            clear hK K
            try simp only [Act.put, List.setIfInBounds_toArray, List.set_cons_zero, List.set_cons_succ]
            refine wpAnyH_take (i := 15) (v := ?_) (by simp only [List.getElem?_toArray, List.getElem?_cons_succ, List.getElem?_cons_zero]; rfl) (by kernel_rfl) (by kernel_rfl) (by kernel_rfl) (fun _ _ _ h => h) (Or.inl ⟨by rfl, ?_⟩) (by assumption) ?_
            rotate_left
            · (intro w hSw; (try dsimp only at hSw); go_simp; try with_reducible rfl)
            try simp only [Act.put, List.setIfInBounds_toArray, List.set_cons_zero, List.set_cons_succ]
            refine wpAnyH_take (i := 16) (v := ?_) (by simp only [List.getElem?_toArray, List.getElem?_cons_succ, List.getElem?_cons_zero]; rfl) (by kernel_rfl) (by kernel_rfl) (by kernel_rfl) (fun _ _ _ h => h) (Or.inl ⟨by rfl, ?_⟩) (by assumption) ?_
            rotate_left
            · (intro w hSw; (try dsimp only at hSw); go_simp; try with_reducible rfl)
            try simp only [Act.put, List.setIfInBounds_toArray, List.set_cons_zero, List.set_cons_succ]
            refine wpAnyH_ready (rs := [17]) (by kernel_rfl) (by simp) ?_
            refine AllReadyH.cons rfl (fun K hK => ?_) ?_
            · skip
              go_simp
              (try dsimp only)
              refine hK.out _ _ (by (try dsimp only); go_keep) (fun hHeld => ?_)
              clear hK K
              try simp only [Act.put, List.setIfInBounds_toArray, List.set_cons_zero, List.set_cons_succ]
              refine wpAnyH_done (by kernel_rfl) ?_ _
              refine NoPanic.normal ?_
              go_wp2
              go_ret
              exact ⟨rfl, HE'.out⟩
            exact AllReadyH.nil
          exact AllReadyH.nil
        exact AllReadyH.nil
      refine AllReadyH.cons rfl (fun K hK => ?_) ?_
      · skip
        go_simp
        (try dsimp only)
        refine hK.out _ _ (by (try dsimp only); go_keep) (fun hHeld => ?_)
        clear hK K
        try simp only [Act.put, List.setIfInBounds_toArray, List.set_cons_zero, List.set_cons_succ]
        refine wpAnyH_ready (rs := [6]) (by kernel_rfl) (by simp) ?_
        refine AllReadyH.cons rfl (fun K hK => ?_) ?_
        · skip
          first
          | (refine step_append_rows (enc := icells) rfl (.tmp 29) (.tmp 33) 47 rfl Try.underlying47 i0 _ 88 hi0 hz0 hzs hzb rfl V.heap.size (.slice (some ⟨V.heap.size, 0, none⟩) 0 0) (.slice a s.rdy.length cap) [] s.rdy (by simp [Act.eval]) (by simp [Act.eval]) eA rA sb1 sb2 (by simp) ?_; intro v1 w1 own1 gr1 nw1; have b1 := FA.out w1 gr1; obtain ⟨⟨g0, g1, g2, g3, g4, g5⟩, g6, g7, g8, g9⟩ := HK.out w1 (HKV.out w1 b1); have t0 := fun o => cell_alloc_r (W := w1) o g0; have t1 := fun o => cell_alloc_r (W := w1) o g1; have t2 := fun o => cell_alloc_r (W := w1) o g2; have t3 := fun o => cell_alloc_r (W := w1) o g3; have t4 := fun o => cell_alloc_r (W := w1) o g4; have t5 := fun o => cell_alloc_r (W := w1) o g5; have t6 := fun o => cell_alloc_r (W := w1) o g6; obtain ⟨va1, vc1, hv1⟩ := own1.rng.slice; rw [List.nil_append] at hv1 own1; subst hv1; clear gr1 nw1)
          | (refine step_append_rows (enc := icells) rfl (.tmp 29) (.tmp 33) 47 rfl Try.underlying47 i0 _ 88 hi0 hz0 hzs hzb rfl V.heap.size (.slice (some ⟨V.heap.size, 0, none⟩) 0 0) (.slice a s.rdy.length cap) [] s.rdy (by simp [Act.eval]) (by simp [Act.eval]) eC rC sb1 sb2 (by simp; omega) ?_; intro v1 w1 own1 gr1 nw1; obtain ⟨rx, b1⟩ := FC.out w1 gr1; obtain ⟨⟨g0, g1, g2, g3, g4, g5⟩, g6, g7, g8, g9⟩ := HK.out w1 (HKV.out w1 b1); have t0 := fun o => cell_alloc_r (W := w1) o g0; have t1 := fun o => cell_alloc_r (W := w1) o g1; have t2 := fun o => cell_alloc_r (W := w1) o g2; have t3 := fun o => cell_alloc_r (W := w1) o g3; have t4 := fun o => cell_alloc_r (W := w1) o g4; have t5 := fun o => cell_alloc_r (W := w1) o g5; have t6 := fun o => cell_alloc_r (W := w1) o g6; obtain ⟨va1, vc1, hv1⟩ := own1.rng.slice; rw [List.nil_append] at hv1 own1; subst hv1; clear gr1 nw1)
          | (refine step_append_rows (enc := icells) rfl (.tmp 29) (.tmp 33) 47 rfl Try.underlying47 i0 _ 88 hi0 hz0 hzs hzb rfl V.heap.size (.slice (some ⟨V.heap.size + 1, 0, none⟩) 0 0) (.slice a s.rdy.length cap) [] s.rdy (by simp [Act.eval]) (by simp [Act.eval]) eF rF sb1 sb2 (by simp; omega) ?_; intro v1 w1 own1 gr1 nw1; obtain ⟨rx, b1⟩ := FF.out w1 gr1; obtain ⟨⟨g0, g1, g2, g3, g4, g5⟩, g6, g7, g8, g9⟩ := HK.out w1 (HKV.out w1 b1); have t0 := fun o => cell_alloc_r (W := w1) o g0; have t1 := fun o => cell_alloc_r (W := w1) o g1; have t2 := fun o => cell_alloc_r (W := w1) o g2; have t3 := fun o => cell_alloc_r (W := w1) o g3; have t4 := fun o => cell_alloc_r (W := w1) o g4; have t5 := fun o => cell_alloc_r (W := w1) o g5; have t6 := fun o => cell_alloc_r (W := w1) o g6; obtain ⟨va1, vc1, hv1⟩ := own1.rng.slice; rw [List.nil_append] at hv1 own1; subst hv1; clear gr1 nw1)
          (try dsimp only)
          refine hK.out _ _ (by (try dsimp only); go_keep) (fun hHeld => ?_)
          clear hK K
          try simp only [Act.put, List.setIfInBounds_toArray, List.set_cons_zero, List.set_cons_succ]
          refine wpAnyH_ready (rs := [14]) (by kernel_rfl) (by simp) ?_
          refine AllReadyH.cons rfl (fun K hK => ?_) ?_
          · skip
            first
            | (refine step_append_rows (enc := icells) rfl (.tmp 34) (.tmp 41) 47 rfl Try.underlying47 i0 _ 88 hi0 hz0 hzs hzb rfl V.heap.size (.slice va1 s.rdy.length vc1) _ s.rdy [⟨s.next, m, false⟩] (by simp [Act.eval]) rfl own1 rx (by unfold maxLen; simp; omega) (by simp; omega) b1.size ?_; intro v2 w2 own2 gr2 nw2; have HB : Below V.heap.size V w2 := own1.below gr2 b1 b1.size (Nat.le_refl _); have HE' : Hid _ := HE.out w2 v2 own2 HB; obtain ⟨⟨k0, k1, k2, k3, k4, k5⟩, k6, k7, k8, k9⟩ := HK.out w2 (HKV.out w2 HB); have j0 := fun u => cell_set_o (a := ⟨p, 2, none⟩) (u := u) k0 NE0.out; have j1 := fun u => cell_set_o (a := ⟨p, 2, none⟩) (u := u) k1 NE1.out; have j2 := fun u => cell_set_o (a := ⟨p, 2, none⟩) (u := u) k2 NE2.out; have j3 := fun u => cell_set_o (a := ⟨p, 2, none⟩) (u := u) k3 NE3.out; have j4 := fun u => cell_set_o (a := ⟨p, 2, none⟩) (u := u) k4 NE4.out; have j5 := fun u => cell_set_o (a := ⟨p, 2, none⟩) (u := u) k5 NE5.out; have j6 := fun u => cell_set_o (a := ⟨p, 2, none⟩) (u := u) k6 NE6.out; obtain ⟨va2, vc2, hv2⟩ := own2.rng.slice; rw [List.length_append, List.length_singleton] at hv2; subst hv2; clear gr2 nw2 own2 HB own1 b1)
            | (refine step_append_rows (enc := icells) rfl (.tmp 34) (.tmp 41) 47 rfl Try.underlying47 i0 _ 88 hi0 hz0 hzs hzb rfl V.heap.size (.slice va1 s.rdy.length vc1) _ s.rdy [⟨s.next, m, false⟩] (by simp [Act.eval]) rfl (own1.alloc _) (row_one _ (⟨s.next, m, false⟩ : It) _ rfl) (by unfold maxLen; simp; omega) (by simp; omega) (by have := b1.size; simp; omega) ?_; intro v2 w2 own2 gr2 nw2; have HB : Below V.heap.size V w2 := (own1.alloc _).below gr2 (b1.alloc b1.size _) (by have := b1.size; simp; omega) (Nat.le_refl _); have HE' : Hid _ := HE.out w2 v2 own2 HB; obtain ⟨⟨k0, k1, k2, k3, k4, k5⟩, k6, k7, k8, k9⟩ := HK.out w2 (HKV.out w2 HB); have j0 := fun u => cell_set_o (a := ⟨p, 2, none⟩) (u := u) k0 NE0.out; have j1 := fun u => cell_set_o (a := ⟨p, 2, none⟩) (u := u) k1 NE1.out; have j2 := fun u => cell_set_o (a := ⟨p, 2, none⟩) (u := u) k2 NE2.out; have j3 := fun u => cell_set_o (a := ⟨p, 2, none⟩) (u := u) k3 NE3.out; have j4 := fun u => cell_set_o (a := ⟨p, 2, none⟩) (u := u) k4 NE4.out; have j5 := fun u => cell_set_o (a := ⟨p, 2, none⟩) (u := u) k5 NE5.out; have j6 := fun u => cell_set_o (a := ⟨p, 2, none⟩) (u := u) k6 NE6.out; obtain ⟨va2, vc2, hv2⟩ := own2.rng.slice; rw [List.length_append, List.length_singleton] at hv2; subst hv2; clear gr2 nw2 own2 HB own1 b1)
            (try dsimp only)
            refine hK.out _ _ (by (try dsimp only); go_keep) (fun hHeld => ?_)
            clear hK K
            try simp only [Act.put, List.setIfInBounds_toArray, List.set_cons_zero, List.set_cons_succ]
            refine wpAnyH_take (i := 15) (v := ?_) (by simp only [List.getElem?_toArray, List.getElem?_cons_succ, List.getElem?_cons_zero]; rfl) (by kernel_rfl) (by kernel_rfl) (by kernel_rfl) (fun _ _ _ h => h) (Or.inl ⟨by rfl, ?_⟩) (by assumption) ?_
            rotate_left
            · (intro w hSw; (try dsimp only at hSw); go_simp; try with_reducible rfl)
            try simp only [Act.put, List.setIfInBounds_toArray, List.set_cons_zero, List.set_cons_succ]
            refine wpAnyH_take (i := 16) (v := ?_) (by simp only [List.getElem?_toArray, List.getElem?_cons_succ, List.getElem?_cons_zero]; rfl) (by kernel_rfl) (by kernel_rfl) (by kernel_rfl) (fun _ _ _ h => h) (Or.inl ⟨by rfl, ?_⟩) (by assumption) ?_
            rotate_left
            · (intro w hSw; (try dsimp only at hSw); go_simp; try with_reducible rfl)
            try simp only [Act.put, List.setIfInBounds_toArray, List.set_cons_zero, List.set_cons_succ]
            refine wpAnyH_ready (rs := [17]) (by kernel_rfl) (by simp) ?_
            refine AllReadyH.cons rfl (fun K hK => ?_) ?_
            · skip
              go_simp
              (try dsimp only)
              refine hK.out _ _ (by (try dsimp only); go_keep) (fun hHeld => ?_)
              clear hK K
              try simp only [Act.put, List.setIfInBounds_toArray, List.set_cons_zero, List.set_cons_succ]
              refine wpAnyH_done (by kernel_rfl) ?_ _
              refine NoPanic.normal ?_
              go_wp2
              go_ret
              exact ⟨rfl, HE'.out⟩
            exact AllReadyH.nil
          exact AllReadyH.nil
        exact AllReadyH.nil
      exact AllReadyH.nil
    refine AllReadyH.cons rfl (fun K hK => ?_) ?_
    · skip
      go_simp
      (try dsimp only)
      refine hK.out _ _ (by (try dsimp only); go_keep) (fun hHeld => ?_)
      clear hK K
      try simp only [Act.put, List.setIfInBounds_toArray, List.set_cons_zero, List.set_cons_succ]
      refine wpAnyH_ready (rs := [5]) (by kernel_rfl) (by simp) ?_
      refine AllReadyH.cons rfl (fun K hK => ?_) ?_
      · skip
        go_simp
        (try dsimp only)
        refine hK.out _ _ (by (try dsimp only); go_keep) (fun hHeld => ?_)
        clear hK K
        try simp only [Act.put, List.setIfInBounds_toArray, List.set_cons_zero, List.set_cons_succ]
        refine wpAnyH_ready (rs := [6]) (by kernel_rfl) (by simp) ?_
        refine AllReadyH.cons rfl (fun K hK => ?_) ?_
        · skip
          first
          | (refine step_append_rows (enc := icells) rfl (.tmp 29) (.tmp 33) 47 rfl Try.underlying47 i0 _ 88 hi0 hz0 hzs hzb rfl V.heap.size (.slice (some ⟨V.heap.size, 0, none⟩) 0 0) (.slice a s.rdy.length cap) [] s.rdy (by simp [Act.eval]) (by simp [Act.eval]) eA rA sb1 sb2 (by simp) ?_; intro v1 w1 own1 gr1 nw1; have b1 := FA.out w1 gr1; obtain ⟨⟨g0, g1, g2, g3, g4, g5⟩, g6, g7, g8, g9⟩ := HK.out w1 (HKV.out w1 b1); have t0 := fun o => cell_alloc_r (W := w1) o g0; have t1 := fun o => cell_alloc_r (W := w1) o g1; have t2 := fun o => cell_alloc_r (W := w1) o g2; have t3 := fun o => cell_alloc_r (W := w1) o g3; have t4 := fun o => cell_alloc_r (W := w1) o g4; have t5 := fun o => cell_alloc_r (W := w1) o g5; have t6 := fun o => cell_alloc_r (W := w1) o g6; obtain ⟨va1, vc1, hv1⟩ := own1.rng.slice; rw [List.nil_append] at hv1 own1; subst hv1; clear gr1 nw1)
          | (refine step_append_rows (enc := icells) rfl (.tmp 29) (.tmp 33) 47 rfl Try.underlying47 i0 _ 88 hi0 hz0 hzs hzb rfl V.heap.size (.slice (some ⟨V.heap.size, 0, none⟩) 0 0) (.slice a s.rdy.length cap) [] s.rdy (by simp [Act.eval]) (by simp [Act.eval]) eC rC sb1 sb2 (by simp; omega) ?_; intro v1 w1 own1 gr1 nw1; obtain ⟨rx, b1⟩ := FC.out w1 gr1; obtain ⟨⟨g0, g1, g2, g3, g4, g5⟩, g6, g7, g8, g9⟩ := HK.out w1 (HKV.out w1 b1); have t0 := fun o => cell_alloc_r (W := w1) o g0; have t1 := fun o => cell_alloc_r (W := w1) o g1; have t2 := fun o => cell_alloc_r (W := w1) o g2; have t3 := fun o => cell_alloc_r (W := w1) o g3; have t4 := fun o => cell_alloc_r (W := w1) o g4; have t5 := fun o => cell_alloc_r (W := w1) o g5; have t6 := fun o => cell_alloc_r (W := w1) o g6; obtain ⟨va1, vc1, hv1⟩ := own1.rng.slice; rw [List.nil_append] at hv1 own1; subst hv1; clear gr1 nw1)
          | (refine step_append_rows (enc := icells) rfl (.tmp 29) (.tmp 33) 47 rfl Try.underlying47 i0 _ 88 hi0 hz0 hzs hzb rfl V.heap.size (.slice (some ⟨V.heap.size + 1, 0, none⟩) 0 0) (.slice a s.rdy.length cap) [] s.rdy (by simp [Act.eval]) (by simp [Act.eval]) eF rF sb1 sb2 (by simp; omega) ?_; intro v1 w1 own1 gr1 nw1; obtain ⟨rx, b1⟩ := FF.out w1 gr1; obtain ⟨⟨g0, g1, g2, g3, g4, g5⟩, g6, g7, g8, g9⟩ := HK.out w1 (HKV.out w1 b1); have t0 := fun o => cell_alloc_r (W := w1) o g0; have t1 := fun o => cell_alloc_r (W := w1) o g1; have t2 := fun o => cell_alloc_r (W := w1) o g2; have t3 := fun o => cell_alloc_r (W := w1) o g3; have t4 := fun o => cell_alloc_r (W := w1) o g4; have t5 := fun o => cell_alloc_r (W := w1) o g5; have t6 := fun o => cell_alloc_r (W := w1) o g6; obtain ⟨va1, vc1, hv1⟩ := own1.rng.slice; rw [List.nil_append] at hv1 own1; subst hv1; clear gr1 nw1)
          (try dsimp only)
          refine hK.out _ _ (by (try dsimp only); go_keep) (fun hHeld => ?_)
          clear hK K
          try simp only [Act.put, List.setIfInBounds_toArray, List.set_cons_zero, List.set_cons_succ]
          refine wpAnyH_ready (rs := [14]) (by kernel_rfl) (by simp) ?_
          refine AllReadyH.cons rfl (fun K hK => ?_) ?_
          · skip
            first
            | (refine step_append_rows (enc := icells) rfl (.tmp 34) (.tmp 41) 47 rfl Try.underlying47 i0 _ 88 hi0 hz0 hzs hzb rfl V.heap.size (.slice va1 s.rdy.length vc1) _ s.rdy [⟨s.next, m, false⟩] (by simp [Act.eval]) rfl own1 rx (by unfold maxLen; simp; omega) (by simp; omega) b1.size ?_; intro v2 w2 own2 gr2 nw2; have HB : Below V.heap.size V w2 := own1.below gr2 b1 b1.size (Nat.le_refl _); have HE' : Hid _ := HE.out w2 v2 own2 HB; obtain ⟨⟨k0, k1, k2, k3, k4, k5⟩, k6, k7, k8, k9⟩ := HK.out w2 (HKV.out w2 HB); have j0 := fun u => cell_set_o (a := ⟨p, 2, none⟩) (u := u) k0 NE0.out; have j1 := fun u => cell_set_o (a := ⟨p, 2, none⟩) (u := u) k1 NE1.out; have j2 := fun u => cell_set_o (a := ⟨p, 2, none⟩) (u := u) k2 NE2.out; have j3 := fun u => cell_set_o (a := ⟨p, 2, none⟩) (u := u) k3 NE3.out; have j4 := fun u => cell_set_o (a := ⟨p, 2, none⟩) (u := u) k4 NE4.out; have j5 := fun u => cell_set_o (a := ⟨p, 2, none⟩) (u := u) k5 NE5.out; have j6 := fun u => cell_set_o (a := ⟨p, 2, none⟩) (u := u) k6 NE6.out; obtain ⟨va2, vc2, hv2⟩ := own2.rng.slice; rw [List.length_append, List.length_singleton] at hv2; subst hv2; clear gr2 nw2 own2 HB own1 b1)
            | (refine step_append_rows (enc := icells) rfl (.tmp 34) (.tmp 41) 47 rfl Try.underlying47 i0 _ 88 hi0 hz0 hzs hzb rfl V.heap.size (.slice va1 s.rdy.length vc1) _ s.rdy [⟨s.next, m, false⟩] (by simp [Act.eval]) rfl (own1.alloc _) (row_one _ (⟨s.next, m, false⟩ : It) _ rfl) (by unfold maxLen; simp; omega) (by simp; omega) (by have := b1.size; simp; omega) ?_; intro v2 w2 own2 gr2 nw2; have HB : Below V.heap.size V w2 := (own1.alloc _).below gr2 (b1.alloc b1.size _) (by have := b1.size; simp; omega) (Nat.le_refl _); have HE' : Hid _ := HE.out w2 v2 own2 HB; obtain ⟨⟨k0, k1, k2, k3, k4, k5⟩, k6, k7, k8, k9⟩ := HK.out w2 (HKV.out w2 HB); have j0 := fun u => cell_set_o (a := ⟨p, 2, none⟩) (u := u) k0 NE0.out; have j1 := fun u => cell_set_o (a := ⟨p, 2, none⟩) (u := u) k1 NE1.out; have j2 := fun u => cell_set_o (a := ⟨p, 2, none⟩) (u := u) k2 NE2.out; have j3 := fun u => cell_set_o (a := ⟨p, 2, none⟩) (u := u) k3 NE3.out; have j4 := fun u => cell_set_o (a := ⟨p, 2, none⟩) (u := u) k4 NE4.out; have j5 := fun u => cell_set_o (a := ⟨p, 2, none⟩) (u := u) k5 NE5.out; have j6 := fun u => cell_set_o (a := ⟨p, 2, none⟩) (u := u) k6 NE6.out; obtain ⟨va2, vc2, hv2⟩ := own2.rng.slice; rw [List.length_append, List.length_singleton] at hv2; subst hv2; clear gr2 nw2 own2 HB own1 b1)
            (try dsimp only)
            refine hK.out _ _ (by (try dsimp only); go_keep) (fun hHeld => ?_)
            clear hK K
            try simp only [Act.put, List.setIfInBounds_toArray, List.set_cons_zero, List.set_cons_succ]
            refine wpAnyH_take (i := 15) (v := ?_) (by simp only [List.getElem?_toArray, List.getElem?_cons_succ, List.getElem?_cons_zero]; rfl) (by kernel_rfl) (by kernel_rfl) (by kernel_rfl) (fun _ _ _ h => h) (Or.inl ⟨by rfl, ?_⟩) (by assumption) ?_
            rotate_left
            · (intro w hSw; (try dsimp only at hSw); go_simp; try with_reducible rfl)
            try simp only [Act.put, List.setIfInBounds_toArray, List.set_cons_zero, List.set_cons_succ]
            refine wpAnyH_take (i := 16) (v := ?_) (by simp only [List.getElem?_toArray, List.getElem?_cons_succ, List.getElem?_cons_zero]; rfl) (by kernel_rfl) (by kernel_rfl) (by kernel_rfl) (fun _ _ _ h => h) (Or.inl ⟨by rfl, ?_⟩) (by assumption) ?_
            rotate_left
            · (intro w hSw; (try dsimp only at hSw); go_simp; try with_reducible rfl)
            try simp only [Act.put, List.setIfInBounds_toArray, List.set_cons_zero, List.set_cons_succ]
            refine wpAnyH_ready (rs := [17]) (by kernel_rfl) (by simp) ?_
            refine AllReadyH.cons rfl (fun K hK => ?_) ?_
            · skip
              go_simp
              (try dsimp only)
              refine hK.out _ _ (by (try dsimp only); go_keep) (fun hHeld => ?_)
              clear hK K
              try simp only [Act.put, List.setIfInBounds_toArray, List.set_cons_zero, List.set_cons_succ]
              refine wpAnyH_done (by kernel_rfl) ?_ _
              refine NoPanic.normal ?_
              go_wp2
              go_ret
              exact ⟨rfl, HE'.out⟩
            exact AllReadyH.nil
          exact AllReadyH.nil
        exact AllReadyH.nil
      exact AllReadyH.nil
    exact AllReadyH.nil
  refine AllReadyH.cons rfl (fun K hK => ?_) ?_
  · skip
    go_simp
    (try dsimp only)
    refine hK.out _ _ (by (try dsimp only); go_keep) (fun hHeld => ?_)
    clear hK K
    try simp only [Act.put, List.setIfInBounds_toArray, List.set_cons_zero, List.set_cons_succ]
    refine wpAnyH_ready (rs := [1, 13]) (by kernel_rfl) (by simp) ?_
    refine AllReadyH.cons rfl (fun K hK => ?_) ?_
    · skip
      go_simp
      (try dsimp only)
      refine hK.out _ _ (by (try dsimp only); go_keep) (fun hHeld => ?_)
      clear hK K
      try simp only [Act.put, List.setIfInBounds_toArray, List.set_cons_zero, List.set_cons_succ]
      refine wpAnyH_ready (rs := [6, 13]) (by kernel_rfl) (by simp) ?_
      refine AllReadyH.cons rfl (fun K hK => ?_) ?_
      · skip
        first
        | (refine step_append_rows (enc := icells) rfl (.tmp 29) (.tmp 33) 47 rfl Try.underlying47 i0 _ 88 hi0 hz0 hzs hzb rfl V.heap.size (.slice (some ⟨V.heap.size, 0, none⟩) 0 0) (.slice a s.rdy.length cap) [] s.rdy (by simp [Act.eval]) (by simp [Act.eval]) eA rA sb1 sb2 (by simp) ?_; intro v1 w1 own1 gr1 nw1; have b1 := FA.out w1 gr1; obtain ⟨⟨g0, g1, g2, g3, g4, g5⟩, g6, g7, g8, g9⟩ := HK.out w1 (HKV.out w1 b1); have t0 := fun o => cell_alloc_r (W := w1) o g0; have t1 := fun o => cell_alloc_r (W := w1) o g1; have t2 := fun o => cell_alloc_r (W := w1) o g2; have t3 := fun o => cell_alloc_r (W := w1) o g3; have t4 := fun o => cell_alloc_r (W := w1) o g4; have t5 := fun o => cell_alloc_r (W := w1) o g5; have t6 := fun o => cell_alloc_r (W := w1) o g6; obtain ⟨va1, vc1, hv1⟩ := own1.rng.slice; rw [List.nil_append] at hv1 own1; subst hv1; clear gr1 nw1)
        | (refine step_append_rows (enc := icells) rfl (.tmp 29) (.tmp 33) 47 rfl Try.underlying47 i0 _ 88 hi0 hz0 hzs hzb rfl V.heap.size (.slice (some ⟨V.heap.size, 0, none⟩) 0 0) (.slice a s.rdy.length cap) [] s.rdy (by simp [Act.eval]) (by simp [Act.eval]) eC rC sb1 sb2 (by simp; omega) ?_; intro v1 w1 own1 gr1 nw1; obtain ⟨rx, b1⟩ := FC.out w1 gr1; obtain ⟨⟨g0, g1, g2, g3, g4, g5⟩, g6, g7, g8, g9⟩ := HK.out w1 (HKV.out w1 b1); have t0 := fun o => cell_alloc_r (W := w1) o g0; have t1 := fun o => cell_alloc_r (W := w1) o g1; have t2 := fun o => cell_alloc_r (W := w1) o g2; have t3 := fun o => cell_alloc_r (W := w1) o g3; have t4 := fun o => cell_alloc_r (W := w1) o g4; have t5 := fun o => cell_alloc_r (W := w1) o g5; have t6 := fun o => cell_alloc_r (W := w1) o g6; obtain ⟨va1, vc1, hv1⟩ := own1.rng.slice; rw [List.nil_append] at hv1 own1; subst hv1; clear gr1 nw1)
        | (refine step_append_rows (enc := icells) rfl (.tmp 29) (.tmp 33) 47 rfl Try.underlying47 i0 _ 88 hi0 hz0 hzs hzb rfl V.heap.size (.slice (some ⟨V.heap.size + 1, 0, none⟩) 0 0) (.slice a s.rdy.length cap) [] s.rdy (by simp [Act.eval]) (by simp [Act.eval]) eF rF sb1 sb2 (by simp; omega) ?_; intro v1 w1 own1 gr1 nw1; obtain ⟨rx, b1⟩ := FF.out w1 gr1; obtain ⟨⟨g0, g1, g2, g3, g4, g5⟩, g6, g7, g8, g9⟩ := HK.out w1 (HKV.out w1 b1); have t0 := fun o => cell_alloc_r (W := w1) o g0; have t1 := fun o => cell_alloc_r (W := w1) o g1; have t2 := fun o => cell_alloc_r (W := w1) o g2; have t3 := fun o => cell_alloc_r (W := w1) o g3; have t4 := fun o => cell_alloc_r (W := w1) o g4; have t5 := fun o => cell_alloc_r (W := w1) o g5; have t6 := fun o => cell_alloc_r (W := w1) o g6; obtain ⟨va1, vc1, hv1⟩ := own1.rng.slice; rw [List.nil_append] at hv1 own1; subst hv1; clear gr1 nw1)
        (try dsimp only)
        refine hK.out _ _ (by (try dsimp only); go_keep) (fun hHeld => ?_)
        clear hK K
        try simp only [Act.put, List.setIfInBounds_toArray, List.set_cons_zero, List.set_cons_succ]
        refine wpAnyH_ready (rs := [13]) (by kernel_rfl) (by simp) ?_
        refine AllReadyH.cons rfl (fun K hK => ?_) ?_
        · skip
          go_simp
          (try dsimp only)
          refine hK.out _ _ (by (try dsimp only); go_keep) (fun hHeld => ?_)
          clear hK K
          try simp only [Act.put, List.setIfInBounds_toArray, List.set_cons_zero, List.set_cons_succ]
          refine wpAnyH_ready (rs := [14]) (by kernel_rfl) (by simp) ?_
          refine AllReadyH.cons rfl (fun K hK => ?_) ?_
          · skip
            first
            | (refine step_append_rows (enc := icells) rfl (.tmp 34) (.tmp 41) 47 rfl Try.underlying47 i0 _ 88 hi0 hz0 hzs hzb rfl V.heap.size (.slice va1 s.rdy.length vc1) _ s.rdy [⟨s.next, m, false⟩] (by simp [Act.eval]) rfl own1 rx (by unfold maxLen; simp; omega) (by simp; omega) b1.size ?_; intro v2 w2 own2 gr2 nw2; have HB : Below V.heap.size V w2 := own1.below gr2 b1 b1.size (Nat.le_refl _); have HE' : Hid _ := HE.out w2 v2 own2 HB; obtain ⟨⟨k0, k1, k2, k3, k4, k5⟩, k6, k7, k8, k9⟩ := HK.out w2 (HKV.out w2 HB); have j0 := fun u => cell_set_o (a := ⟨p, 2, none⟩) (u := u) k0 NE0.out; have j1 := fun u => cell_set_o (a := ⟨p, 2, none⟩) (u := u) k1 NE1.out; have j2 := fun u => cell_set_o (a := ⟨p, 2, none⟩) (u := u) k2 NE2.out; have j3 := fun u => cell_set_o (a := ⟨p, 2, none⟩) (u := u) k3 NE3.out; have j4 := fun u => cell_set_o (a := ⟨p, 2, none⟩) (u := u) k4 NE4.out; have j5 := fun u => cell_set_o (a := ⟨p, 2, none⟩) (u := u) k5 NE5.out; have j6 := fun u => cell_set_o (a := ⟨p, 2, none⟩) (u := u) k6 NE6.out; obtain ⟨va2, vc2, hv2⟩ := own2.rng.slice; rw [List.length_append, List.length_singleton] at hv2; subst hv2; clear gr2 nw2 own2 HB own1 b1)
            | (refine step_append_rows (enc := icells) rfl (.tmp 34) (.tmp 41) 47 rfl Try.underlying47 i0 _ 88 hi0 hz0 hzs hzb rfl V.heap.size (.slice va1 s.rdy.length vc1) _ s.rdy [⟨s.next, m, false⟩] (by simp [Act.eval]) rfl (own1.alloc _) (row_one _ (⟨s.next, m, false⟩ : It) _ rfl) (by unfold maxLen; simp; omega) (by simp; omega) (by have := b1.size; simp; omega) ?_; intro v2 w2 own2 gr2 nw2; have HB : Below V.heap.size V w2 := (own1.alloc _).below gr2 (b1.alloc b1.size _) (by have := b1.size; simp; omega) (Nat.le_refl _); have HE' : Hid _ := HE.out w2 v2 own2 HB; obtain ⟨⟨k0, k1, k2, k3, k4, k5⟩, k6, k7, k8, k9⟩ := HK.out w2 (HKV.out w2 HB); have j0 := fun u => cell_set_o (a := ⟨p, 2, none⟩) (u := u) k0 NE0.out; have j1 := fun u => cell_set_o (a := ⟨p, 2, none⟩) (u := u) k1 NE1.out; have j2 := fun u => cell_set_o (a := ⟨p, 2, none⟩) (u := u) k2 NE2.out; have j3 := fun u => cell_set_o (a := ⟨p, 2, none⟩) (u := u) k3 NE3.out; have j4 := fun u => cell_set_o (a := ⟨p, 2, none⟩) (u := u) k4 NE4.out; have j5 := fun u => cell_set_o (a := ⟨p, 2, none⟩) (u := u) k5 NE5.out; have j6 := fun u => cell_set_o (a := ⟨p, 2, none⟩) (u := u) k6 NE6.out; obtain ⟨va2, vc2, hv2⟩ := own2.rng.slice; rw [List.length_append, List.length_singleton] at hv2; subst hv2; clear gr2 nw2 own2 HB own1 b1)
            (try dsimp only)
            refine hK.out _ _ (by (try dsimp only); go_keep) (fun hHeld => ?_)
            clear hK K
            try simp only [Act.put, List.setIfInBounds_toArray, List.set_cons_zero, List.set_cons_succ]
            refine wpAnyH_take (i := 15) (v := ?_) (by simp only [List.getElem?_toArray, List.getElem?_cons_succ, List.getElem?_cons_zero]; rfl) (by kernel_rfl) (by kernel_rfl) (by kernel_rfl) (fun _ _ _ h => h) (Or.inl ⟨by rfl, ?_⟩) (by assumption) ?_
            rotate_left
            · (intro w hSw; (try dsimp only at hSw); go_simp; try with_reducible rfl)
            try simp only [Act.put, List.setIfInBounds_toArray, List.set_cons_zero, List.set_cons_succ]
            refine wpAnyH_take (i := 16) (v := ?_) (by simp only [List.getElem?_toArray, List.getElem?_cons_succ, List.getElem?_cons_zero]; rfl) (by kernel_rfl) (by kernel_rfl) (by kernel_rfl) (fun _ _ _ h => h) (Or.inl ⟨by rfl, ?_⟩) (by assumption) ?_
            rotate_left
            · (intro w hSw; (try dsimp only at hSw); go_simp; try with_reducible rfl)
            try simp only [Act.put, List.setIfInBounds_toArray, List.set_cons_zero, List.set_cons_succ]
            refine wpAnyH_ready (rs := [17]) (by kernel_rfl) (by simp) ?_
            refine AllReadyH.cons rfl (fun K hK => ?_) ?_
            · skip
              go_simp
              (try dsimp only)
              refine hK.out _ _ (by (try dsimp only); go_keep) (fun hHeld => ?_)
              clear hK K
              try simp only [Act.put, List.setIfInBounds_toArray, List.set_cons_zero, List.set_cons_succ]
              refine wpAnyH_done (by kernel_rfl) ?_ _
              refine NoPanic.normal ?_
              go_wp2
              go_ret
              exact ⟨rfl, HE'.out⟩
            exact AllReadyH.nil
          exact AllReadyH.nil
        exact AllReadyH.nil
      refine AllReadyH.cons rfl (fun K hK => ?_) ?_
      · skip
        go_simp
        (try dsimp only)
        refine hK.out _ _ (by (try dsimp only); go_keep) (fun hHeld => ?_)
        clear hK K
        try simp only [Act.put, List.setIfInBounds_toArray, List.set_cons_zero, List.set_cons_succ]
        refine wpAnyH_ready (rs := [6]) (by kernel_rfl) (by simp) ?_
        refine AllReadyH.cons rfl (fun K hK => ?_) ?_
        · skip
          first
          | (refine step_append_rows (enc := icells) rfl (.tmp 29) (.tmp 33) 47 rfl Try.underlying47 i0 _ 88 hi0 hz0 hzs hzb rfl V.heap.size (.slice (some ⟨V.heap.size, 0, none⟩) 0 0) (.slice a s.rdy.length cap) [] s.rdy (by simp [Act.eval]) (by simp [Act.eval]) eA rA sb1 sb2 (by simp) ?_; intro v1 w1 own1 gr1 nw1; have b1 := FA.out w1 gr1; obtain ⟨⟨g0, g1, g2, g3, g4, g5⟩, g6, g7, g8, g9⟩ := HK.out w1 (HKV.out w1 b1); have t0 := fun o => cell_alloc_r (W := w1) o g0; have t1 := fun o => cell_alloc_r (W := w1) o g1; have t2 := fun o => cell_alloc_r (W := w1) o g2; have t3 := fun o => cell_alloc_r (W := w1) o g3; have t4 := fun o => cell_alloc_r (W := w1) o g4; have t5 := fun o => cell_alloc_r (W := w1) o g5; have t6 := fun o => cell_alloc_r (W := w1) o g6; obtain ⟨va1, vc1, hv1⟩ := own1.rng.slice; rw [List.nil_append] at hv1 own1; subst hv1; clear gr1 nw1)
          | (refine step_append_rows (enc := icells) rfl (.tmp 29) (.tmp 33) 47 rfl Try.underlying47 i0 _ 88 hi0 hz0 hzs hzb rfl V.heap.size (.slice (some ⟨V.heap.size, 0, none⟩) 0 0) (.slice a s.rdy.length cap) [] s.rdy (by simp [Act.eval]) (by simp [Act.eval]) eC rC sb1 sb2 (by simp; omega) ?_; intro v1 w1 own1 gr1 nw1; obtain ⟨rx, b1⟩ := FC.out w1 gr1; obtain ⟨⟨g0, g1, g2, g3, g4, g5⟩, g6, g7, g8, g9⟩ := HK.out w1 (HKV.out w1 b1); have t0 := fun o => cell_alloc_r (W := w1) o g0; have t1 := fun o => cell_alloc_r (W := w1) o g1; have t2 := fun o => cell_alloc_r (W := w1) o g2; have t3 := fun o => cell_alloc_r (W := w1) o g3; have t4 := fun o => cell_alloc_r (W := w1) o g4; have t5 := fun o => cell_alloc_r (W := w1) o g5; have t6 := fun o => cell_alloc_r (W := w1) o g6; obtain ⟨va1, vc1, hv1⟩ := own1.rng.slice; rw [List.nil_append] at hv1 own1; subst hv1; clear gr1 nw1)
          | (refine step_append_rows (enc := icells) rfl (.tmp 29) (.tmp 33) 47 rfl Try.underlying47 i0 _ 88 hi0 hz0 hzs hzb rfl V.heap.size (.slice (some ⟨V.heap.size + 1, 0, none⟩) 0 0) (.slice a s.rdy.length cap) [] s.rdy (by simp [Act.eval]) (by simp [Act.eval]) eF rF sb1 sb2 (by simp; omega) ?_; intro v1 w1 own1 gr1 nw1; obtain ⟨rx, b1⟩ := FF.out w1 gr1; obtain ⟨⟨g0, g1, g2, g3, g4, g5⟩, g6, g7, g8, g9⟩ := HK.out w1 (HKV.out w1 b1); have t0 := fun o => cell_alloc_r (W := w1) o g0; have t1 := fun o => cell_alloc_r (W := w1) o g1; have t2 := fun o => cell_alloc_r (W := w1) o g2; have t3 := fun o => cell_alloc_r (W := w1) o g3; have t4 := fun o => cell_alloc_r (W := w1) o g4; have t5 := fun o => cell_alloc_r (W := w1) o g5; have t6 := fun o => cell_alloc_r (W := w1) o g6; obtain ⟨va1, vc1, hv1⟩ := own1.rng.slice; rw [List.nil_append] at hv1 own1; subst hv1; clear gr1 nw1)
          (try dsimp only)
          refine hK.out _ _ (by (try dsimp only); go_keep) (fun hHeld => ?_)
          clear hK K
          try simp only [Act.put, List.setIfInBounds_toArray, List.set_cons_zero, List.set_cons_succ]
          refine wpAnyH_ready (rs := [14]) (by kernel_rfl) (by simp) ?_
          refine AllReadyH.cons rfl (fun K hK => ?_) ?_
          · skip
            first
            | (refine step_append_rows (enc := icells) rfl (.tmp 34) (.tmp 41) 47 rfl Try.underlying47 i0 _ 88 hi0 hz0 hzs hzb rfl V.heap.size (.slice va1 s.rdy.length vc1) _ s.rdy [⟨s.next, m, false⟩] (by simp [Act.eval]) rfl own1 rx (by unfold maxLen; simp; omega) (by simp; omega) b1.size ?_; intro v2 w2 own2 gr2 nw2; have HB : Below V.heap.size V w2 := own1.below gr2 b1 b1.size (Nat.le_refl _); have HE' : Hid _ := HE.out w2 v2 own2 HB; obtain ⟨⟨k0, k1, k2, k3, k4, k5⟩, k6, k7, k8, k9⟩ := HK.out w2 (HKV.out w2 HB); have j0 := fun u => cell_set_o (a := ⟨p, 2, none⟩) (u := u) k0 NE0.out; have j1 := fun u => cell_set_o (a := ⟨p, 2, none⟩) (u := u) k1 NE1.out; have j2 := fun u => cell_set_o (a := ⟨p, 2, none⟩) (u := u) k2 NE2.out; have j3 := fun u => cell_set_o (a := ⟨p, 2, none⟩) (u := u) k3 NE3.out; have j4 := fun u => cell_set_o (a := ⟨p, 2, none⟩) (u := u) k4 NE4.out; have j5 := fun u => cell_set_o (a := ⟨p, 2, none⟩) (u := u) k5 NE5.out; have j6 := fun u => cell_set_o (a := ⟨p, 2, none⟩) (u := u) k6 NE6.out; obtain ⟨va2, vc2, hv2⟩ := own2.rng.slice; rw [List.length_append, List.length_singleton] at hv2; subst hv2; clear gr2 nw2 own2 HB own1 b1)
            | (refine step_append_rows (enc := icells) rfl (.tmp 34) (.tmp 41) 47 rfl Try.underlying47 i0 _ 88 hi0 hz0 hzs hzb rfl V.heap.size (.slice va1 s.rdy.length vc1) _ s.rdy [⟨s.next, m, false⟩] (by simp [Act.eval]) rfl (own1.alloc _) (row_one _ (⟨s.next, m, false⟩ : It) _ rfl) (by unfold maxLen; simp; omega) (by simp; omega) (by have := b1.size; simp; omega) ?_; intro v2 w2 own2 gr2 nw2; have HB : Below V.heap.size V w2 := (own1.alloc _).below gr2 (b1.alloc b1.size _) (by have := b1.size; simp; omega) (Nat.le_refl _); have HE' : Hid _ := HE.out w2 v2 own2 HB; obtain ⟨⟨k0, k1, k2, k3, k4, k5⟩, k6, k7, k8, k9⟩ := HK.out w2 (HKV.out w2 HB); have j0 := fun u => cell_set_o (a := ⟨p, 2, none⟩) (u := u) k0 NE0.out; have j1 := fun u => cell_set_o (a := ⟨p, 2, none⟩) (u := u) k1 NE1.out; have j2 := fun u => cell_set_o (a := ⟨p, 2, none⟩) (u := u) k2 NE2.out; have j3 := fun u => cell_set_o (a := ⟨p, 2, none⟩) (u := u) k3 NE3.out; have j4 := fun u => cell_set_o (a := ⟨p, 2, none⟩) (u := u) k4 NE4.out; have j5 := fun u => cell_set_o (a := ⟨p, 2, none⟩) (u := u) k5 NE5.out; have j6 := fun u => cell_set_o (a := ⟨p, 2, none⟩) (u := u) k6 NE6.out; obtain ⟨va2, vc2, hv2⟩ := own2.rng.slice; rw [List.length_append, List.length_singleton] at hv2; subst hv2; clear gr2 nw2 own2 HB own1 b1)
            (try dsimp only)
            refine hK.out _ _ (by (try dsimp only); go_keep) (fun hHeld => ?_)
            clear hK K
            try simp only [Act.put, List.setIfInBounds_toArray, List.set_cons_zero, List.set_cons_succ]
            refine wpAnyH_take (i := 15) (v := ?_) (by simp only [List.getElem?_toArray, List.getElem?_cons_succ, List.getElem?_cons_zero]; rfl) (by kernel_rfl) (by kernel_rfl) (by kernel_rfl) (fun _ _ _ h => h) (Or.inl ⟨by rfl, ?_⟩) (by assumption) ?_
            rotate_left
            · (intro w hSw; (try dsimp only at hSw); go_simp; try with_reducible rfl)
            try simp only [Act.put, List.setIfInBounds_toArray, List.set_cons_zero, List.set_cons_succ]
            refine wpAnyH_take (i := 16) (v := ?_) (by simp only [List.getElem?_toArray, List.getElem?_cons_succ, List.getElem?_cons_zero]; rfl) (by kernel_rfl) (by kernel_rfl) (by kernel_rfl) (fun _ _ _ h => h) (Or.inl ⟨by rfl, ?_⟩) (by assumption) ?_
            rotate_left
            · (intro w hSw; (try dsimp only at hSw); go_simp; try with_reducible rfl)
            try simp only [Act.put, List.setIfInBounds_toArray, List.set_cons_zero, List.set_cons_succ]
            refine wpAnyH_ready (rs := [17]) (by kernel_rfl) (by simp) ?_
            refine AllReadyH.cons rfl (fun K hK => ?_) ?_
            · skip
              go_simp
              (try dsimp only)
              refine hK.out _ _ (by (try dsimp only); go_keep) (fun hHeld => ?_)
              clear hK K
              try simp only [Act.put, List.setIfInBounds_toArray, List.set_cons_zero, List.set_cons_succ]
              refine wpAnyH_done (by kernel_rfl) ?_ _
              refine NoPanic.normal ?_
              go_wp2
              go_ret
              exact ⟨rfl, HE'.out⟩
            exact AllReadyH.nil
          exact AllReadyH.nil
        exact AllReadyH.nil
      exact AllReadyH.nil
    refine AllReadyH.cons rfl (fun K hK => ?_) ?_
    · skip
      go_simp
      (try dsimp only)
      refine hK.out _ _ (by (try dsimp only); go_keep) (fun hHeld => ?_)
      clear hK K
      try simp only [Act.put, List.setIfInBounds_toArray, List.set_cons_zero, List.set_cons_succ]
      refine wpAnyH_ready (rs := [1]) (by kernel_rfl) (by simp) ?_
      refine AllReadyH.cons rfl (fun K hK => ?_) ?_
      · skip
        go_simp
        (try dsimp only)
        refine hK.out _ _ (by (try dsimp only); go_keep) (fun hHeld => ?_)
        clear hK K
        try simp only [Act.put, List.setIfInBounds_toArray, List.set_cons_zero, List.set_cons_succ]
        refine wpAnyH_ready (rs := [6]) (by kernel_rfl) (by simp) ?_
        refine AllReadyH.cons rfl (fun K hK => ?_) ?_
        · skip
          first
          | (refine step_append_rows (enc := icells) rfl (.tmp 29) (.tmp 33) 47 rfl Try.underlying47 i0 _ 88 hi0 hz0 hzs hzb rfl V.heap.size (.slice (some ⟨V.heap.size, 0, none⟩) 0 0) (.slice a s.rdy.length cap) [] s.rdy (by simp [Act.eval]) (by simp [Act.eval]) eA rA sb1 sb2 (by simp) ?_; intro v1 w1 own1 gr1 nw1; have b1 := FA.out w1 gr1; obtain ⟨⟨g0, g1, g2, g3, g4, g5⟩, g6, g7, g8, g9⟩ := HK.out w1 (HKV.out w1 b1); have t0 := fun o => cell_alloc_r (W := w1) o g0; have t1 := fun o => cell_alloc_r (W := w1) o g1; have t2 := fun o => cell_alloc_r (W := w1) o g2; have t3 := fun o => cell_alloc_r (W := w1) o g3; have t4 := fun o => cell_alloc_r (W := w1) o g4; have t5 := fun o => cell_alloc_r (W := w1) o g5; have t6 := fun o => cell_alloc_r (W := w1) o g6; obtain ⟨va1, vc1, hv1⟩ := own1.rng.slice; rw [List.nil_append] at hv1 own1; subst hv1; clear gr1 nw1)
          | (refine step_append_rows (enc := icells) rfl (.tmp 29) (.tmp 33) 47 rfl Try.underlying47 i0 _ 88 hi0 hz0 hzs hzb rfl V.heap.size (.slice (some ⟨V.heap.size, 0, none⟩) 0 0) (.slice a s.rdy.length cap) [] s.rdy (by simp [Act.eval]) (by simp [Act.eval]) eC rC sb1 sb2 (by simp; omega) ?_; intro v1 w1 own1 gr1 nw1; obtain ⟨rx, b1⟩ := FC.out w1 gr1; obtain ⟨⟨g0, g1, g2, g3, g4, g5⟩, g6, g7, g8, g9⟩ := HK.out w1 (HKV.out w1 b1); have t0 := fun o => cell_alloc_r (W := w1) o g0; have t1 := fun o => cell_alloc_r (W := w1) o g1; have t2 := fun o => cell_alloc_r (W := w1) o g2; have t3 := fun o => cell_alloc_r (W := w1) o g3; have t4 := fun o => cell_alloc_r (W := w1) o g4; have t5 := fun o => cell_alloc_r (W := w1) o g5; have t6 := fun o => cell_alloc_r (W := w1) o g6; obtain ⟨va1, vc1, hv1⟩ := own1.rng.slice; rw [List.nil_append] at hv1 own1; subst hv1; clear gr1 nw1)
          | (refine step_append_rows (enc := icells) rfl (.tmp 29) (.tmp 33) 47 rfl Try.underlying47 i0 _ 88 hi0 hz0 hzs hzb rfl V.heap.size (.slice (some ⟨V.heap.size + 1, 0, none⟩) 0 0) (.slice a s.rdy.length cap) [] s.rdy (by simp [Act.eval]) (by simp [Act.eval]) eF rF sb1 sb2 (by simp; omega) ?_; intro v1 w1 own1 gr1 nw1; obtain ⟨rx, b1⟩ := FF.out w1 gr1; obtain ⟨⟨g0, g1, g2, g3, g4, g5⟩, g6, g7, g8, g9⟩ := HK.out w1 (HKV.out w1 b1); have t0 := fun o => cell_alloc_r (W := w1) o g0; have t1 := fun o => cell_alloc_r (W := w1) o g1; have t2 := fun o => cell_alloc_r (W := w1) o g2; have t3 := fun o => cell_alloc_r (W := w1) o g3; have t4 := fun o => cell_alloc_r (W := w1) o g4; have t5 := fun o => cell_alloc_r (W := w1) o g5; have t6 := fun o => cell_alloc_r (W := w1) o g6; obtain ⟨va1, vc1, hv1⟩ := own1.rng.slice; rw [List.nil_append] at hv1 own1; subst hv1; clear gr1 nw1)
          (try dsimp only)
          refine hK.out _ _ (by (try dsimp only); go_keep) (fun hHeld => ?_)
          clear hK K
          try simp only [Act.put, List.setIfInBounds_toArray, List.set_cons_zero, List.set_cons_succ]
          refine wpAnyH_ready (rs := [14]) (by kernel_rfl) (by simp) ?_
          refine AllReadyH.cons rfl (fun K hK => ?_) ?_
          · skip
            first
            | (refine step_append_rows (enc := icells) rfl (.tmp 34) (.tmp 41) 47 rfl Try.underlying47 i0 _ 88 hi0 hz0 hzs hzb rfl V.heap.size (.slice va1 s.rdy.length vc1) _ s.rdy [⟨s.next, m, false⟩] (by simp [Act.eval]) rfl own1 rx (by unfold maxLen; simp; omega) (by simp; omega) b1.size ?_; intro v2 w2 own2 gr2 nw2; have HB : Below V.heap.size V w2 := own1.below gr2 b1 b1.size (Nat.le_refl _); have HE' : Hid _ := HE.out w2 v2 own2 HB; obtain ⟨⟨k0, k1, k2, k3, k4, k5⟩, k6, k7, k8, k9⟩ := HK.out w2 (HKV.out w2 HB); have j0 := fun u => cell_set_o (a := ⟨p, 2, none⟩) (u := u) k0 NE0.out; have j1 := fun u => cell_set_o (a := ⟨p, 2, none⟩) (u := u) k1 NE1.out; have j2 := fun u => cell_set_o (a := ⟨p, 2, none⟩) (u := u) k2 NE2.out; have j3 := fun u => cell_set_o (a := ⟨p, 2, none⟩) (u := u) k3 NE3.out; have j4 := fun u => cell_set_o (a := ⟨p, 2, none⟩) (u := u) k4 NE4.out; have j5 := fun u => cell_set_o (a := ⟨p, 2, none⟩) (u := u) k5 NE5.out; have j6 := fun u => cell_set_o (a := ⟨p, 2, none⟩) (u := u) k6 NE6.out; obtain ⟨va2, vc2, hv2⟩ := own2.rng.slice; rw [List.length_append, List.length_singleton] at hv2; subst hv2; clear gr2 nw2 own2 HB own1 b1)
            | (refine step_append_rows (enc := icells) rfl (.tmp 34) (.tmp 41) 47 rfl Try.underlying47 i0 _ 88 hi0 hz0 hzs hzb rfl V.heap.size (.slice va1 s.rdy.length vc1) _ s.rdy [⟨s.next, m, false⟩] (by simp [Act.eval]) rfl (own1.alloc _) (row_one _ (⟨s.next, m, false⟩ : It) _ rfl) (by unfold maxLen; simp; omega) (by simp; omega) (by have := b1.size; simp; omega) ?_; intro v2 w2 own2 gr2 nw2; have HB : Below V.heap.size V w2 := (own1.alloc _).below gr2 (b1.alloc b1.size _) (by have := b1.size; simp; omega) (Nat.le_refl _); have HE' : Hid _ := HE.out w2 v2 own2 HB; obtain ⟨⟨k0, k1, k2, k3, k4, k5⟩, k6, k7, k8, k9⟩ := HK.out w2 (HKV.out w2 HB); have j0 := fun u => cell_set_o (a := ⟨p, 2, none⟩) (u := u) k0 NE0.out; have j1 := fun u => cell_set_o (a := ⟨p, 2, none⟩) (u := u) k1 NE1.out; have j2 := fun u => cell_set_o (a := ⟨p, 2, none⟩) (u := u) k2 NE2.out; have j3 := fun u => cell_set_o (a := ⟨p, 2, none⟩) (u := u) k3 NE3.out; have j4 := fun u => cell_set_o (a := ⟨p, 2, none⟩) (u := u) k4 NE4.out; have j5 := fun u => cell_set_o (a := ⟨p, 2, none⟩) (u := u) k5 NE5.out; have j6 := fun u => cell_set_o (a := ⟨p, 2, none⟩) (u := u) k6 NE6.out; obtain ⟨va2, vc2, hv2⟩ := own2.rng.slice; rw [List.length_append, List.length_singleton] at hv2; subst hv2; clear gr2 nw2 own2 HB own1 b1)
            (try dsimp only)
            refine hK.out _ _ (by (try dsimp only); go_keep) (fun hHeld => ?_)
            clear hK K
            try simp only [Act.put, List.setIfInBounds_toArray, List.set_cons_zero, List.set_cons_succ]
            refine wpAnyH_take (i := 15) (v := ?_) (by simp only [List.getElem?_toArray, List.getElem?_cons_succ, List.getElem?_cons_zero]; rfl) (by kernel_rfl) (by kernel_rfl) (by kernel_rfl) (fun _ _ _ h => h) (Or.inl ⟨by rfl, ?_⟩) (by assumption) ?_
            rotate_left
            · (intro w hSw; (try dsimp only at hSw); go_simp; try with_reducible rfl)
            try simp only [Act.put, List.setIfInBounds_toArray, List.set_cons_zero, List.set_cons_succ]
            refine wpAnyH_take (i := 16) (v := ?_) (by simp only [List.getElem?_toArray, List.getElem?_cons_succ, List.getElem?_cons_zero]; rfl) (by kernel_rfl) (by kernel_rfl) (by kernel_rfl) (fun _ _ _ h => h) (Or.inl ⟨by rfl, ?_⟩) (by assumption) ?_
            rotate_left
            · (intro w hSw; (try dsimp only at hSw); go_simp; try with_reducible rfl)
            try simp only [Act.put, List.setIfInBounds_toArray, List.set_cons_zero, List.set_cons_succ]
            refine wpAnyH_ready (rs := [17]) (by kernel_rfl) (by simp) ?_
            refine AllReadyH.cons rfl (fun K hK => ?_) ?_
            · skip
              go_simp
              (try dsimp only)
              refine hK.out _ _ (by (try dsimp only); go_keep) (fun hHeld => ?_)
              clear hK K
              try simp only [Act.put, List.setIfInBounds_toArray, List.set_cons_zero, List.set_cons_succ]
              refine wpAnyH_done (by kernel_rfl) ?_ _
              refine NoPanic.normal ?_
              go_wp2
              go_ret
              exact ⟨rfl, HE'.out⟩
            exact AllReadyH.nil
          exact AllReadyH.nil
        exact AllReadyH.nil
      exact AllReadyH.nil
    exact AllReadyH.nil
  refine AllReadyH.cons rfl (fun K hK => ?_) ?_
  · skip
    go_simp
    (try dsimp only)
    refine hK.out _ _ (by (try dsimp only); go_keep) (fun hHeld => ?_)
    clear hK K
    try simp only [Act.put, List.setIfInBounds_toArray, List.set_cons_zero, List.set_cons_succ]
    refine wpAnyH_ready (rs := [1, 5]) (by kernel_rfl) (by simp) ?_
    refine AllReadyH.cons rfl (fun K hK => ?_) ?_
    · skip
      go_simp
      (try dsimp only)
      refine hK.out _ _ (by (try dsimp only); go_keep) (fun hHeld => ?_)
      clear hK K
      try simp only [Act.put, List.setIfInBounds_toArray, List.set_cons_zero, List.set_cons_succ]
      refine wpAnyH_ready (rs := [5]) (by kernel_rfl) (by simp) ?_
      refine AllReadyH.cons rfl (fun K hK => ?_) ?_
      · skip
        go_simp
        (try dsimp only)
        refine hK.out _ _ (by (try dsimp only); go_keep) (fun hHeld => ?_)
        clear hK K
        try simp only [Act.put, List.setIfInBounds_toArray, List.set_cons_zero, List.set_cons_succ]
        refine wpAnyH_ready (rs := [6]) (by kernel_rfl) (by simp) ?_
        refine AllReadyH.cons rfl (fun K hK => ?_) ?_
        · skip
          first
          | (refine step_append_rows (enc := icells) rfl (.tmp 29) (.tmp 33) 47 rfl Try.underlying47 i0 _ 88 hi0 hz0 hzs hzb rfl V.heap.size (.slice (some ⟨V.heap.size, 0, none⟩) 0 0) (.slice a s.rdy.length cap) [] s.rdy (by simp [Act.eval]) (by simp [Act.eval]) eA rA sb1 sb2 (by simp) ?_; intro v1 w1 own1 gr1 nw1; have b1 := FA.out w1 gr1; obtain ⟨⟨g0, g1, g2, g3, g4, g5⟩, g6, g7, g8, g9⟩ := HK.out w1 (HKV.out w1 b1); have t0 := fun o => cell_alloc_r (W := w1) o g0; have t1 := fun o => cell_alloc_r (W := w1) o g1; have t2 := fun o => cell_alloc_r (W := w1) o g2; have t3 := fun o => cell_alloc_r (W := w1) o g3; have t4 := fun o => cell_alloc_r (W := w1) o g4; have t5 := fun o => cell_alloc_r (W := w1) o g5; have t6 := fun o => cell_alloc_r (W := w1) o g6; obtain ⟨va1, vc1, hv1⟩ := own1.rng.slice; rw [List.nil_append] at hv1 own1; subst hv1; clear gr1 nw1)
          | (refine step_append_rows (enc := icells) rfl (.tmp 29) (.tmp 33) 47 rfl Try.underlying47 i0 _ 88 hi0 hz0 hzs hzb rfl V.heap.size (.slice (some ⟨V.heap.size, 0, none⟩) 0 0) (.slice a s.rdy.length cap) [] s.rdy (by simp [Act.eval]) (by simp [Act.eval]) eC rC sb1 sb2 (by simp; omega) ?_; intro v1 w1 own1 gr1 nw1; obtain ⟨rx, b1⟩ := FC.out w1 gr1; obtain ⟨⟨g0, g1, g2, g3, g4, g5⟩, g6, g7, g8, g9⟩ := HK.out w1 (HKV.out w1 b1); have t0 := fun o => cell_alloc_r (W := w1) o g0; have t1 := fun o => cell_alloc_r (W := w1) o g1; have t2 := fun o => cell_alloc_r (W := w1) o g2; have t3 := fun o => cell_alloc_r (W := w1) o g3; have t4 := fun o => cell_alloc_r (W := w1) o g4; have t5 := fun o => cell_alloc_r (W := w1) o g5; have t6 := fun o => cell_alloc_r (W := w1) o g6; obtain ⟨va1, vc1, hv1⟩ := own1.rng.slice; rw [List.nil_append] at hv1 own1; subst hv1; clear gr1 nw1)
          | (refine step_append_rows (enc := icells) rfl (.tmp 29) (.tmp 33) 47 rfl Try.underlying47 i0 _ 88 hi0 hz0 hzs hzb rfl V.heap.size (.slice (some ⟨V.heap.size + 1, 0, none⟩) 0 0) (.slice a s.rdy.length cap) [] s.rdy (by simp [Act.eval]) (by simp [Act.eval]) eF rF sb1 sb2 (by simp; omega) ?_; intro v1 w1 own1 gr1 nw1; obtain ⟨rx, b1⟩ := FF.out w1 gr1; obtain ⟨⟨g0, g1, g2, g3, g4, g5⟩, g6, g7, g8, g9⟩ := HK.out w1 (HKV.out w1 b1); have t0 := fun o => cell_alloc_r (W := w1) o g0; have t1 := fun o => cell_alloc_r (W := w1) o g1; have t2 := fun o => cell_alloc_r (W := w1) o g2; have t3 := fun o => cell_alloc_r (W := w1) o g3; have t4 := fun o => cell_alloc_r (W := w1) o g4; have t5 := fun o => cell_alloc_r (W := w1) o g5; have t6 := fun o => cell_alloc_r (W := w1) o g6; obtain ⟨va1, vc1, hv1⟩ := own1.rng.slice; rw [List.nil_append] at hv1 own1; subst hv1; clear gr1 nw1)
          (try dsimp only)
          refine hK.out _ _ (by (try dsimp only); go_keep) (fun hHeld => ?_)
          clear hK K
          try simp only [Act.put, List.setIfInBounds_toArray, List.set_cons_zero, List.set_cons_succ]
          refine wpAnyH_ready (rs := [14]) (by kernel_rfl) (by simp) ?_
          refine AllReadyH.cons rfl (fun K hK => ?_) ?_
          · skip
            first
            | (refine step_append_rows (enc := icells) rfl (.tmp 34) (.tmp 41) 47 rfl Try.underlying47 i0 _ 88 hi0 hz0 hzs hzb rfl V.heap.size (.slice va1 s.rdy.length vc1) _ s.rdy [⟨s.next, m, false⟩] (by simp [Act.eval]) rfl own1 rx (by unfold maxLen; simp; omega) (by simp; omega) b1.size ?_; intro v2 w2 own2 gr2 nw2; have HB : Below V.heap.size V w2 := own1.below gr2 b1 b1.size (Nat.le_refl _); have HE' : Hid _ := HE.out w2 v2 own2 HB; obtain ⟨⟨k0, k1, k2, k3, k4, k5⟩, k6, k7, k8, k9⟩ := HK.out w2 (HKV.out w2 HB); have j0 := fun u => cell_set_o (a := ⟨p, 2, none⟩) (u := u) k0 NE0.out; have j1 := fun u => cell_set_o (a := ⟨p, 2, none⟩) (u := u) k1 NE1.out; have j2 := fun u => cell_set_o (a := ⟨p, 2, none⟩) (u := u) k2 NE2.out; have j3 := fun u => cell_set_o (a := ⟨p, 2, none⟩) (u := u) k3 NE3.out; have j4 := fun u => cell_set_o (a := ⟨p, 2, none⟩) (u := u) k4 NE4.out; have j5 := fun u => cell_set_o (a := ⟨p, 2, none⟩) (u := u) k5 NE5.out; have j6 := fun u => cell_set_o (a := ⟨p, 2, none⟩) (u := u) k6 NE6.out; obtain ⟨va2, vc2, hv2⟩ := own2.rng.slice; rw [List.length_append, List.length_singleton] at hv2; subst hv2; clear gr2 nw2 own2 HB own1 b1)
            | (refine step_append_rows (enc := icells) rfl (.tmp 34) (.tmp 41) 47 rfl Try.underlying47 i0 _ 88 hi0 hz0 hzs hzb rfl V.heap.size (.slice va1 s.rdy.length vc1) _ s.rdy [⟨s.next, m, false⟩] (by simp [Act.eval]) rfl (own1.alloc _) (row_one _ (⟨s.next, m, false⟩ : It) _ rfl) (by unfold maxLen; simp; omega) (by simp; omega) (by have := b1.size; simp; omega) ?_; intro v2 w2 own2 gr2 nw2; have HB : Below V.heap.size V w2 := (own1.alloc _).below gr2 (b1.alloc b1.size _) (by have := b1.size; simp; omega) (Nat.le_refl _); have HE' : Hid _ := HE.out w2 v2 own2 HB; obtain ⟨⟨k0, k1, k2, k3, k4, k5⟩, k6, k7, k8, k9⟩ := HK.out w2 (HKV.out w2 HB); have j0 := fun u => cell_set_o (a := ⟨p, 2, none⟩) (u := u) k0 NE0.out; have j1 := fun u => cell_set_o (a := ⟨p, 2, none⟩) (u := u) k1 NE1.out; have j2 := fun u => cell_set_o (a := ⟨p, 2, none⟩) (u := u) k2 NE2.out; have j3 := fun u => cell_set_o (a := ⟨p, 2, none⟩) (u := u) k3 NE3.out; have j4 := fun u => cell_set_o (a := ⟨p, 2, none⟩) (u := u) k4 NE4.out; have j5 := fun u => cell_set_o (a := ⟨p, 2, none⟩) (u := u) k5 NE5.out; have j6 := fun u => cell_set_o (a := ⟨p, 2, none⟩) (u := u) k6 NE6.out; obtain ⟨va2, vc2, hv2⟩ := own2.rng.slice; rw [List.length_append, List.length_singleton] at hv2; subst hv2; clear gr2 nw2 own2 HB own1 b1)
            (try dsimp only)
            refine hK.out _ _ (by (try dsimp only); go_keep) (fun hHeld => ?_)
            clear hK K
            try simp only [Act.put, List.setIfInBounds_toArray, List.set_cons_zero, List.set_cons_succ]
            refine wpAnyH_take (i := 15) (v := ?_) (by simp only [List.getElem?_toArray, List.getElem?_cons_succ, List.getElem?_cons_zero]; rfl) (by kernel_rfl) (by kernel_rfl) (by kernel_rfl) (fun _ _ _ h => h) (Or.inl ⟨by rfl, ?_⟩) (by assumption) ?_
            rotate_left
            · (intro w hSw; (try dsimp only at hSw); go_simp; try with_reducible rfl)
            try simp only [Act.put, List.setIfInBounds_toArray, List.set_cons_zero, List.set_cons_succ]
            refine wpAnyH_take (i := 16) (v := ?_) (by simp only [List.getElem?_toArray, List.getElem?_cons_succ, List.getElem?_cons_zero]; rfl) (by kernel_rfl) (by kernel_rfl) (by kernel_rfl) (fun _ _ _ h => h) (Or.inl ⟨by rfl, ?_⟩) (by assumption) ?_
            rotate_left
            · (intro w hSw; (try dsimp only at hSw); go_simp; try with_reducible rfl)
            try simp only [Act.put, List.setIfInBounds_toArray, List.set_cons_zero, List.set_cons_succ]
            refine wpAnyH_ready (rs := [17]) (by kernel_rfl) (by simp) ?_
            refine AllReadyH.cons rfl (fun K hK => ?_) ?_
            · skip
              go_simp
              (try dsimp only)
              refine hK.out _ _ (by (try dsimp only); go_keep) (fun hHeld => ?_)
              clear hK K
              try simp only [Act.put, List.setIfInBounds_toArray, List.set_cons_zero, List.set_cons_succ]
              refine wpAnyH_done (by kernel_rfl) ?_ _
              refine NoPanic.normal ?_
              go_wp2
              go_ret
              exact ⟨rfl, HE'.out⟩
            exact AllReadyH.nil
          exact AllReadyH.nil
        exact AllReadyH.nil
      exact AllReadyH.nil
    refine AllReadyH.cons rfl (fun K hK => ?_) ?_
    · skip
      go_simp
      (try dsimp only)
      refine hK.out _ _ (by (try dsimp only); go_keep) (fun hHeld => ?_)
      clear hK K
      try simp only [Act.put, List.setIfInBounds_toArray, List.set_cons_zero, List.set_cons_succ]
      refine wpAnyH_ready (rs := [1]) (by kernel_rfl) (by simp) ?_
      refine AllReadyH.cons rfl (fun K hK => ?_) ?_
      · skip
        go_simp
        (try dsimp only)
        refine hK.out _ _ (by (try dsimp only); go_keep) (fun hHeld => ?_)
        clear hK K
        try simp only [Act.put, List.setIfInBounds_toArray, List.set_cons_zero, List.set_cons_succ]
        refine wpAnyH_ready (rs := [6]) (by kernel_rfl) (by simp) ?_
        refine AllReadyH.cons rfl (fun K hK => ?_) ?_
        · skip
          first
          | (refine step_append_rows (enc := icells) rfl (.tmp 29) (.tmp 33) 47 rfl Try.underlying47 i0 _ 88 hi0 hz0 hzs hzb rfl V.heap.size (.slice (some ⟨V.heap.size, 0, none⟩) 0 0) (.slice a s.rdy.length cap) [] s.rdy (by simp [Act.eval]) (by simp [Act.eval]) eA rA sb1 sb2 (by simp) ?_; intro v1 w1 own1 gr1 nw1; have b1 := FA.out w1 gr1; obtain ⟨⟨g0, g1, g2, g3, g4, g5⟩, g6, g7, g8, g9⟩ := HK.out w1 (HKV.out w1 b1); have t0 := fun o => cell_alloc_r (W := w1) o g0; have t1 := fun o => cell_alloc_r (W := w1) o g1; have t2 := fun o => cell_alloc_r (W := w1) o g2; have t3 := fun o => cell_alloc_r (W := w1) o g3; have t4 := fun o => cell_alloc_r (W := w1) o g4; have t5 := fun o => cell_alloc_r (W := w1) o g5; have t6 := fun o => cell_alloc_r (W := w1) o g6; obtain ⟨va1, vc1, hv1⟩ := own1.rng.slice; rw [List.nil_append] at hv1 own1; subst hv1; clear gr1 nw1)
          | (refine step_append_rows (enc := icells) rfl (.tmp 29) (.tmp 33) 47 rfl Try.underlying47 i0 _ 88 hi0 hz0 hzs hzb rfl V.heap.size (.slice (some ⟨V.heap.size, 0, none⟩) 0 0) (.slice a s.rdy.length cap) [] s.rdy (by simp [Act.eval]) (by simp [Act.eval]) eC rC sb1 sb2 (by simp; omega) ?_; intro v1 w1 own1 gr1 nw1; obtain ⟨rx, b1⟩ := FC.out w1 gr1; obtain ⟨⟨g0, g1, g2, g3, g4, g5⟩, g6, g7, g8, g9⟩ := HK.out w1 (HKV.out w1 b1); have t0 := fun o => cell_alloc_r (W := w1) o g0; have t1 := fun o => cell_alloc_r (W := w1) o g1; have t2 := fun o => cell_alloc_r (W := w1) o g2; have t3 := fun o => cell_alloc_r (W := w1) o g3; have t4 := fun o => cell_alloc_r (W := w1) o g4; have t5 := fun o => cell_alloc_r (W := w1) o g5; have t6 := fun o => cell_alloc_r (W := w1) o g6; obtain ⟨va1, vc1, hv1⟩ := own1.rng.slice; rw [List.nil_append] at hv1 own1; subst hv1; clear gr1 nw1)
          | (refine step_append_rows (enc := icells) rfl (.tmp 29) (.tmp 33) 47 rfl Try.underlying47 i0 _ 88 hi0 hz0 hzs hzb rfl V.heap.size (.slice (some ⟨V.heap.size + 1, 0, none⟩) 0 0) (.slice a s.rdy.length cap) [] s.rdy (by simp [Act.eval]) (by simp [Act.eval]) eF rF sb1 sb2 (by simp; omega) ?_; intro v1 w1 own1 gr1 nw1; obtain ⟨rx, b1⟩ := FF.out w1 gr1; obtain ⟨⟨g0, g1, g2, g3, g4, g5⟩, g6, g7, g8, g9⟩ := HK.out w1 (HKV.out w1 b1); have t0 := fun o => cell_alloc_r (W := w1) o g0; have t1 := fun o => cell_alloc_r (W := w1) o g1; have t2 := fun o => cell_alloc_r (W := w1) o g2; have t3 := fun o => cell_alloc_r (W := w1) o g3; have t4 := fun o => cell_alloc_r (W := w1) o g4; have t5 := fun o => cell_alloc_r (W := w1) o g5; have t6 := fun o => cell_alloc_r (W := w1) o g6; obtain ⟨va1, vc1, hv1⟩ := own1.rng.slice; rw [List.nil_append] at hv1 own1; subst hv1; clear gr1 nw1)
          (try dsimp only)
          refine hK.out _ _ (by (try dsimp only); go_keep) (fun hHeld => ?_)
          clear hK K
          try simp only [Act.put, List.setIfInBounds_toArray, List.set_cons_zero, List.set_cons_succ]
          refine wpAnyH_ready (rs := [14]) (by kernel_rfl) (by simp) ?_
          refine AllReadyH.cons rfl (fun K hK => ?_) ?_
          · skip
            first
            | (refine step_append_rows (enc := icells) rfl (.tmp 34) (.tmp 41) 47 rfl Try.underlying47 i0 _ 88 hi0 hz0 hzs hzb rfl V.heap.size (.slice va1 s.rdy.length vc1) _ s.rdy [⟨s.next, m, false⟩] (by simp [Act.eval]) rfl own1 rx (by unfold maxLen; simp; omega) (by simp; omega) b1.size ?_; intro v2 w2 own2 gr2 nw2; have HB : Below V.heap.size V w2 := own1.below gr2 b1 b1.size (Nat.le_refl _); have HE' : Hid _ := HE.out w2 v2 own2 HB; obtain ⟨⟨k0, k1, k2, k3, k4, k5⟩, k6, k7, k8, k9⟩ := HK.out w2 (HKV.out w2 HB); have j0 := fun u => cell_set_o (a := ⟨p, 2, none⟩) (u := u) k0 NE0.out; have j1 := fun u => cell_set_o (a := ⟨p, 2, none⟩) (u := u) k1 NE1.out; have j2 := fun u => cell_set_o (a := ⟨p, 2, none⟩) (u := u) k2 NE2.out; have j3 := fun u => cell_set_o (a := ⟨p, 2, none⟩) (u := u) k3 NE3.out; have j4 := fun u => cell_set_o (a := ⟨p, 2, none⟩) (u := u) k4 NE4.out; have j5 := fun u => cell_set_o (a := ⟨p, 2, none⟩) (u := u) k5 NE5.out; have j6 := fun u => cell_set_o (a := ⟨p, 2, none⟩) (u := u) k6 NE6.out; obtain ⟨va2, vc2, hv2⟩ := own2.rng.slice; rw [List.length_append, List.length_singleton] at hv2; subst hv2; clear gr2 nw2 own2 HB own1 b1)
            | (refine step_append_rows (enc := icells) rfl (.tmp 34) (.tmp 41) 47 rfl Try.underlying47 i0 _ 88 hi0 hz0 hzs hzb rfl V.heap.size (.slice va1 s.rdy.length vc1) _ s.rdy [⟨s.next, m, false⟩] (by simp [Act.eval]) rfl (own1.alloc _) (row_one _ (⟨s.next, m, false⟩ : It) _ rfl) (by unfold maxLen; simp; omega) (by simp; omega) (by have := b1.size; simp; omega) ?_; intro v2 w2 own2 gr2 nw2; have HB : Below V.heap.size V w2 := (own1.alloc _).below gr2 (b1.alloc b1.size _) (by have := b1.size; simp; omega) (Nat.le_refl _); have HE' : Hid _ := HE.out w2 v2 own2 HB; obtain ⟨⟨k0, k1, k2, k3, k4, k5⟩, k6, k7, k8, k9⟩ := HK.out w2 (HKV.out w2 HB); have j0 := fun u => cell_set_o (a := ⟨p, 2, none⟩) (u := u) k0 NE0.out; have j1 := fun u => cell_set_o (a := ⟨p, 2, none⟩) (u := u) k1 NE1.out; have j2 := fun u => cell_set_o (a := ⟨p, 2, none⟩) (u := u) k2 NE2.out; have j3 := fun u => cell_set_o (a := ⟨p, 2, none⟩) (u := u) k3 NE3.out; have j4 := fun u => cell_set_o (a := ⟨p, 2, none⟩) (u := u) k4 NE4.out; have j5 := fun u => cell_set_o (a := ⟨p, 2, none⟩) (u := u) k5 NE5.out; have j6 := fun u => cell_set_o (a := ⟨p, 2, none⟩) (u := u) k6 NE6.out; obtain ⟨va2, vc2, hv2⟩ := own2.rng.slice; rw [List.length_append, List.length_singleton] at hv2; subst hv2; clear gr2 nw2 own2 HB own1 b1)
            (try dsimp only)
            refine hK.out _ _ (by (try dsimp only); go_keep) (fun hHeld => ?_)
            clear hK K
            try simp only [Act.put, List.setIfInBounds_toArray, List.set_cons_zero, List.set_cons_succ]
            refine wpAnyH_take (i := 15) (v := ?_) (by simp only [List.getElem?_toArray, List.getElem?_cons_succ, List.getElem?_cons_zero]; rfl) (by kernel_rfl) (by kernel_rfl) (by kernel_rfl) (fun _ _ _ h => h) (Or.inl ⟨by rfl, ?_⟩) (by assumption) ?_
            rotate_left
            · (intro w hSw; (try dsimp only at hSw); go_simp; try with_reducible rfl)
            try simp only [Act.put, List.setIfInBounds_toArray, List.set_cons_zero, List.set_cons_succ]
            refine wpAnyH_take (i := 16) (v := ?_) (by simp only [List.getElem?_toArray, List.getElem?_cons_succ, List.getElem?_cons_zero]; rfl) (by kernel_rfl) (by kernel_rfl) (by kernel_rfl) (fun _ _ _ h => h) (Or.inl ⟨by rfl, ?_⟩) (by assumption) ?_
            rotate_left
            · (intro w hSw; (try dsimp only at hSw); go_simp; try with_reducible rfl)
            try simp only [Act.put, List.setIfInBounds_toArray, List.set_cons_zero, List.set_cons_succ]
            refine wpAnyH_ready (rs := [17]) (by kernel_rfl) (by simp) ?_
            refine AllReadyH.cons rfl (fun K hK => ?_) ?_
            · skip
              go_simp
              (try dsimp only)
              refine hK.out _ _ (by (try dsimp only); go_keep) (fun hHeld => ?_)
              clear hK K
              try simp only [Act.put, List.setIfInBounds_toArray, List.set_cons_zero, List.set_cons_succ]
              refine wpAnyH_done (by kernel_rfl) ?_ _
              refine NoPanic.normal ?_
              go_wp2
              go_ret
              exact ⟨rfl, HE'.out⟩
            exact AllReadyH.nil
          exact AllReadyH.nil
        exact AllReadyH.nil
      exact AllReadyH.nil
    exact AllReadyH.nil
  exact AllReadyH.nil
end Go.Proofs.Ytocdfcaakflgpaa
