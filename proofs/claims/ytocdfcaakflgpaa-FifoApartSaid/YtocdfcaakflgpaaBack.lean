/-
  PACKAGE fifo: Back, by its contract.
-/
import Derived.Test.YtocdfcaakflgpaaTake
namespace Go.Proofs.Ytocdfcaakflgpaa
open Go.RowKit Go.Sort

theorem back_none {s : St} {t : Nat} (h : findT s.out t = none) : s.back t = (10, s) := by unfold St.back; rw [h]
theorem back_some {s : St} {t : Nat} {x : It} (h : findT s.out t = some x) : s.back t = (0, { s with out := dropT s.out t, rdy := ins (mark x) s.rdy }) := by unfold St.back; rw [h]

set_option maxRecDepth 20000 in
set_option maxHeartbeats 4000000 in
theorem back_any (p : Nat) (F : Nat → Prop) (s : St) (t : Nat) (w : World) (h : Q w p F s) (ok : s.Ok) (ht : t < 18446744073709551616) :
    Calls Try.prog 23 #[.pointer (some ⟨p, 0, none⟩), .int .u64 (t : Int)] w fun e w' => e = .returned (.int .i64 (s.back t).1) ∧ ∃ F', Q w' p F' (s.back t).2 ∧ Moved w w' F F' := by
  have hT := take_any p F s t w h ok ht
  cases hf : findT s.out t with
  | none =>
    rw [hf, done_none hf] at hT
    rw [back_none hf]
    go_enter Try.func23, Try.ntmps23
    go_wp2_with fail
    refine hT.mono ?_
    rintro e w1 ⟨rfl, hq⟩
    go_wp2
    go_ret
    exact ⟨rfl, moved_below hq (below_alloc _ _)⟩
  | some x =>
    have ok1 := ok.done t
    rw [hf, done_some hf] at hT
    rw [done_some hf] at ok1
    rw [back_some hf]
    obtain ⟨hx, hxt⟩ := findT_some hf
    simp only [Option.getD_some] at hT
    have HS : Hid (∀ y ∈ s.rdy, y.tag ≠ (mark x).tag) := fun y hy => ok.ap y hy x hx
    have HXT : Hid (x.tag = t) := hxt
    clear hf hxt
    go_enter Try.func23, Try.ntmps23
    go_wp2_with fail
    refine hT.mono ?_
    rintro e w1 ⟨rfl, hq⟩
    obtain ⟨F1, ⟨v, b, hq1, hF1⟩, m1⟩ := hq
    have hlen : s.rdy.length ≤ 1000000 := by have := ok.room; have := ok.m; omega
    -- the item's block, marked
    obtain ⟨W, hW⟩ : ∃ W, W = w1.alloc (.cells #[.int .u64 (x.tag : Int), .int .i64 x.m.o, .int .u64 x.m.s, .int .i64 x.m.hop, .string x.m.ex, .string x.m.key, .string x.m.body, .bool true] 38) := ⟨_, rfl⟩
    have bel0 : Below w1.heap.size w1 W := by rw [hW]; exact below_alloc _ _
    have iW : ItAt W w1.heap.size 0 (mark x) := by rw [hW]; exact itAt_new w1 (mark x) _ rfl
    have hqW := hq1.after bel0
    obtain ⟨⟨c0, c1, c2, c3⟩, f0, f1, f2, f3⟩ := cells4 hqW.blk
    obtain ⟨va, vc, hv⟩ := hq1.rows.rng.slice
    subst hv
    have fold := hW.symm
    have HQ : Hid (QAt w1 p (.slice va s.rdy.length vc) b { s with out := dropT s.out t }) := hq1
    have hP : ∀ X : World, Below W.heap.size W X → Calls Try.prog 45 #[.slice va s.rdy.length vc, .int .u64 (t : Int)] X fun e w' => e = .returned (.int .i64 (lessT s.rdy x.tag : Nat)) ∧ Below X.heap.size X w' ∧ (Below W.heap.size W w' ∧ w'.cell? ⟨p, 2, none⟩ = some (.slice va s.rdy.length vc) ∧ (∀ o, (w'.alloc o).cell? ⟨p, 2, none⟩ = some (.slice va s.rdy.length vc)) ∧ ItAt w' w1.heap.size 0 (mark x)) := fun X hX => by
      rw [← HXT.out]
      refine (place_any _ s.rdy x.tag X ((hqW.rows.rng).below hX (Nat.le_refl _)) ok.r.le hlen).mono ?_
      rintro e w' ⟨rfl, hb⟩
      have hb' := hX.trans (hb.mono hX.size)
      have hc : w'.cell? ⟨p, 2, none⟩ = some (.slice va s.rdy.length vc) := (hb'.cell (p := ⟨p, 2, none⟩) hqW.lt).trans c2
      exact ⟨rfl, hb, hb', hc, fun o => cell_alloc_r o hc, iW.below hb' (Nat.le_refl _)⟩
    have hPA := hP W.drew (Below.refl _ _).drew
    have hPB := hP (W.drew.alloc (.cells #[.int .u64 (x.tag : Int), .int .i64 x.m.o, .int .u64 x.m.s, .int .i64 x.m.hop, .string x.m.ex, .string x.m.key, .string x.m.body, .bool true] 38)) ((Below.refl _ _).drew.alloc (Nat.le_refl _) _)
    have HJ : Hid (∀ w', Below (W.drew.alloc (.cells #[.int .u64 (x.tag : Int), .int .i64 x.m.o, .int .u64 x.m.s, .int .i64 x.m.hop, .string x.m.ex, .string x.m.key, .string x.m.body, .bool true] 38)).heap.size (W.drew.alloc (.cells #[.int .u64 (x.tag : Int), .int .i64 x.m.o, .int .u64 x.m.s, .int .i64 x.m.hop, .string x.m.ex, .string x.m.key, .string x.m.body, .bool true] 38)) w' → w'.heap[W.heap.size]? = some (.cells #[.int .u64 (x.tag : Int), .int .i64 x.m.o, .int .u64 x.m.s, .int .i64 x.m.hop, .string x.m.ex, .string x.m.key, .string x.m.body, .bool true] 38 (0, 0))) := fun w' hb => by
      rw [hb.block W.heap.size (by rw [World.size_alloc]; exact Nat.lt_succ_self _)]
      exact heap_alloc_new W.drew _
    clear hP
    have HI : Hid (∀ (X : World) (vb : Nat), Below W.heap.size W X → W.heap.size ≤ vb → X.heap[vb]? = some (.cells #[.int .u64 (x.tag : Int), .int .i64 x.m.o, .int .u64 x.m.s, .int .i64 x.m.hop, .string x.m.ex, .string x.m.key, .string x.m.body, .bool true] 38 (0, 0)) → Calls Try.prog 44 #[.slice va s.rdy.length vc, .int .i64 (lessT s.rdy x.tag : Nat), .slice (some ⟨vb, 0, none⟩) 1 1] X fun e w' =>
        ∃ va' vc', e = .returned (.slice va' (s.rdy.length + 1) vc') ∧ (w'.cell? ⟨p, 2, none⟩ = some (.slice va s.rdy.length vc) ∧ w'.frozen? ⟨p, 2, none⟩ = false ∧ Hid (∃ F', Q (w'.setCell ⟨p, 2, none⟩ (.slice va' (s.rdy.length + 1) vc')) p F' { s with out := dropT s.out t, rdy := ins (mark x) s.rdy } ∧ Moved w (w'.setCell ⟨p, 2, none⟩ (.slice va' (s.rdy.length + 1) vc')) F F'))) := fun X vb hX hvb hb => by
      have hqX := hqW.after hX
      refine (insert_any 0 vb (lessT s.rdy x.tag) (mark x) _ s.rdy X hqX.rows (lessT_le _ _) hlen (Nat.zero_le _) hb (fun he => by have := (hqW.rows.lt he).2; omega)).mono ?_
      rintro e w' ⟨v', rfl, own, gr, nw⟩
      have hlt := hqX.lt
      have hp' : w'.heap[p]? = X.heap[p]? := gr.block p hlt (fun h => hqX.ne_row h.symm)
      obtain ⟨⟨_, _, k2, _⟩, _, _, k4, _⟩ := cells4 (hp'.trans hqX.blk)
      obtain ⟨va', vc', hv'⟩ := own.rng.slice
      have hl : (s.rdy.take (lessT s.rdy x.tag) ++ mark x :: s.rdy.drop (lessT s.rdy x.tag)).length = s.rdy.length + 1 := length_ins (mark x) s.rdy
      rw [hl] at hv'
      subst hv'
      obtain ⟨q2, m2⟩ := row_set HQ.out (bel0.trans (hX.mono bel0.size)) own gr nw
      exact ⟨va', vc', rfl, k2, k4, foot p (.slice va' (s.rdy.length + 1) vc') b, ⟨_, _, q2, fun _ => Iff.rfl⟩, m1.trans (m2.to hF1)⟩
    have c2'' : ∀ o, (W.alloc o).cell? ⟨p, 2, none⟩ = some (.slice va s.rdy.length vc) := fun o => cell_alloc_r o c2
    have hpW : p < W.heap.size := hqW.lt
    have hpn : ¬ p = W.heap.size := Nat.ne_of_lt hqW.lt
    have c2' : ∀ o, (W.drew.alloc o).cell? ⟨p, 2, none⟩ = some (.slice va s.rdy.length vc) := fun o => cell_alloc_r (W := W.drew) o c2
    obtain ⟨y0, y1, y2, y3, y4, y5, y6, y7⟩ := iW
    simp only [Nat.zero_add, mark] at y0 y1 y2 y3 y4 y5 y6 y7
    clear hq1 hqW hW hT
    go_wp2
    go_region_with (first
      | (go_at_call 45; refine hPA.mono ?_; rintro e w2 ⟨rfl, _, b2, k2, k2', i2⟩; obtain ⟨x0, x1, x2, x3, x4, x5, x6, x7⟩ := i2; simp only [Nat.zero_add, mark] at x0 x1 x2 x3 x4 x5 x6 x7)
      | (go_at_call 45; refine hPB.mono ?_; rintro e w2 ⟨rfl, bB, b2, k2, k2', i2⟩; obtain ⟨x0, x1, x2, x3, x4, x5, x6, x7⟩ := i2; simp only [Nat.zero_add, mark] at x0 x1 x2 x3 x4 x5 x6 x7; have jA := HJ.out w2 bB; clear bB)
      | (go_at_call 44; with_reducible refine (HI.out w2 W.heap.size b2 (Nat.le_refl _) jA).mono ?_; rintro e w3 ⟨va', vc', rfl, k3, k4, HE⟩)
      | (go_at_call 44; with_reducible refine (HI.out _ w2.heap.size (b2.alloc b2.size _) b2.size (heap_alloc_new _ _)).mono ?_; rintro e w3 ⟨va', vc', rfl, k3, k4, HE⟩))
    all_goals go_wp2
    all_goals go_ret
    all_goals exact ⟨rfl, HE.out⟩
end Go.Proofs.Ytocdfcaakflgpaa
