/-
  RouteQueues, walked.
-/
import Derived.Test.YtlfehneojkfmjaaGreatDoorRQueues
namespace Go.Proofs.YtlfehneojkfmjaaGreatDoor
open Go.RowKit Go.Sort Go.Shelf

set_option maxRecDepth 20000 in
set_option maxHeartbeats 8000000 in
theorem queues_law (v0 : Value) (l : List Ti) (x key : ByteArray) (w : World) (h0 : RowOf tcells w v0 l) (f0 : ∀ a ∈ l, a.Fits) (hx : x.size ≤ maxLen) (hk : key.size ≤ maxLen) :
    Calls Tryz.prog 3 #[v0, .string x, .string key] w fun e w' => e = .returned (.bool true) ∧ Below w.heap.size w w' := by
  obtain ⟨a0, n0, c0, rfl⟩ : ∃ a n c, v0 = .slice a n c := by obtain ⟨a, c, h⟩ := h0.slice; exact ⟨a, _, c, h⟩
  have HL : Hid (∀ V, Calls Tryz.prog 7 #[] V fun e w' => e = .returned (.bool true) ∧ Below V.heap.size V w') := lives_any
  have l1 : x.size ≤ 9223372036854775807 := hx
  have l2 : key.size ≤ 9223372036854775807 := hk
  go_enter Tryz.func3, Tryz.ntmps3
  go_wp2_with fail
  refine (light_any _ l w h0 f0).mono ?_
  rintro e w1 ⟨r1, rfl, hl1, b1⟩
  cases r1
  · go_wp2_with (go_at_call 7; refine (HL.out _).mono ?_; rintro e w4 ⟨rfl, b4⟩)
    go_ret
    exact ⟨rfl, b1.trans (b4.mono b1.size)⟩
  have l100 := hl1 rfl
  have hLay := lay_any _ l w1 (h0.below b1 (Nat.le_refl _)) f0 (by omega)
  have HB1 : Hid _ := b1
  clear hl1 h0 b1
  go_wp2_with (first
    | (go_at_call 7; refine (HL.out _).mono ?_; rintro e w4 ⟨rfl, b4⟩)
    | (go_at_call 8; refine hLay.mono ?_; rintro e w2 ⟨pt, pr, Ft, Fr, rfl, D⟩))
  · go_ret
    exact ⟨rfl, Below.trans HB1.out (b4.mono (Below.size HB1.out))⟩
  have ok := D.ok1
  have hL1 := queuesT_length ok x key
  have hL2 := whoT_length ok x
  have hq1 := queues_any pt Ft (layT l) x key w2 D.t ok hx hk
  have HQ : Hid (∀ V, Two w1 V pt Ft (layT l) pr Fr (layT l) → Calls Tryz.prog 11 #[.pointer (some ⟨pr, 0, none⟩), .string x, .string key] V fun r w' => ∃ v', r = .returned v' ∧ Row w' v' (scells (queuesT (layT l) x key)) ∧ Below V.heap.size V w') := fun V hV => rqueues_any pr Fr (layT l) x key V hV.r hV.ok2 hk
  have HW : Hid (∀ V, Two w1 V pt Ft (layT l) pr Fr (layT l) → Calls Tryz.prog 12 #[.pointer (some ⟨pt, 0, none⟩), .string x] V fun r w' => ∃ v', r = .returned v' ∧ Row w' v' (scells (whoT (layT l) x)) ∧ Below V.heap.size V w') := fun V hV => who_any pt Ft (layT l) x V hV.t hV.ok1
  have HRW : Hid (∀ V, Two w1 V pt Ft (layT l) pr Fr (layT l) → Calls Tryz.prog 13 #[.pointer (some ⟨pr, 0, none⟩), .string x] V fun r w' => ∃ v', r = .returned v' ∧ Row w' v' (scells (whoT (layT l) x)) ∧ Below V.heap.size V w') := fun V hV => rwho_any pr Fr (layT l) x V hV.r hV.ok2
  generalize queuesT (layT l) x key = X at *
  generalize whoT (layT l) x = Y at *
  clear hLay
  go_wp2_with fail
  refine hq1.mono ?_
  rintro r w3 ⟨v3, rfl, r3, b3⟩
  obtain ⟨a3, n3, c3, rfl⟩ : ∃ a n c, v3 = .slice a n c := by obtain ⟨a, c, h⟩ := r3.slice; exact ⟨a, _, c, h⟩
  have D3 := D.below b3
  go_wp2_with fail
  refine (HQ.out w3 D3).mono ?_
  rintro r w4 ⟨v4, rfl, r4, b4⟩
  obtain ⟨a4, n4, c4, rfl⟩ : ∃ a n c, v4 = .slice a n c := by obtain ⟨a, c, h⟩ := r4.slice; exact ⟨a, _, c, h⟩
  have D4 := D3.below b4
  have hT := texts8_any w4 _ _ X X (r3.below b4 (Nat.le_refl _)) r4 (by omega) (by omega)
  rw [decide_eq_true rfl] at hT
  go_wp2_with fail
  refine hT.mono ?_
  rintro r w5 ⟨rfl, b5⟩
  have D5 := D4.below b5
  clear hT hq1 r3 r4
  go_wp2_with fail
  refine (HW.out w5 D5).mono ?_
  rintro r w6 ⟨v6, rfl, r6, b6⟩
  obtain ⟨a6, n6, c6, rfl⟩ : ∃ a n c, v6 = .slice a n c := by obtain ⟨a, c, h⟩ := r6.slice; exact ⟨a, _, c, h⟩
  have D6 := D5.below b6
  go_wp2_with fail
  refine (HRW.out w6 D6).mono ?_
  rintro r w7 ⟨v7, rfl, r7, b7⟩
  obtain ⟨a7, n7, c7, rfl⟩ : ∃ a n c, v7 = .slice a n c := by obtain ⟨a, c, h⟩ := r7.slice; exact ⟨a, _, c, h⟩
  have D7 := D6.below b7
  have hT := texts8_any w7 _ _ Y Y (r6.below b7 (Nat.le_refl _)) r7 (by omega) (by omega)
  rw [decide_eq_true rfl] at hT
  go_wp2_with fail
  refine hT.mono ?_
  rintro r w8 ⟨rfl, b8⟩
  have D8 := D7.below b8
  clear hT r6 r7
  go_wp2_with fail
  refine (HL.out _).mono ?_
  rintro r w9 ⟨rfl, b9⟩
  have D9 := D8.below b9
  go_wp2
  go_ret
  exact ⟨rfl, Below.trans HB1.out (D9.bel.mono (Below.size HB1.out))⟩
end Go.Proofs.YtlfehneojkfmjaaGreatDoor
