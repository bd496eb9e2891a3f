/-
  Queues, Who, by their contracts.
-/
import Derived.Test.YtlfehneojkfmjaaGreatDoorNamesL
import Derived.Laws.EntriesVeiled
namespace Go.Proofs.YtlfehneojkfmjaaGreatDoor
open Go.RowKit Go.Sort Go.Shelf

theorem FitV.func {w : World} {v : Value} {x : Ex} {key : ByteArray} (h : FitV w v x key) : ∃ f caps, v = .func (.func f) #[] caps := by
  rcases h with ⟨h, _⟩ | ⟨b, h, _⟩ | ⟨h, _⟩ | ⟨b, h, _⟩ <;> exact ⟨_, _, h⟩
theorem rise_que {s : Tb} (ok : s.Ok) (x : Ex) (e key : ByteArray) : ((s.bs.filter (qsel x e key)).map Bd.que).Pairwise fun a b => cmpS a b ≤ 0 := by
  rw [List.pairwise_map]
  have h1 : Ord cmpB (s.bs.filter (qsel x e key)) := ok.ob.filter _
  refine List.Pairwise.imp_of_mem (fun {a b} ha hb h => ?_) h1
  have ea : a.ex = e := by have := (List.mem_filter.1 ha).2; unfold qsel at this; simp at this; exact this.1
  have eb : b.ex = e := by have := (List.mem_filter.1 hb).2; unfold qsel at this; simp at this; exact this.1
  exact que_rise h (by rw [ea, eb])
theorem rise_ex {s : Tb} (ok : s.Ok) (p : Bd → Bool) : ((s.bs.filter p).map Bd.ex).Pairwise fun a b => cmpS a b ≤ 0 := by
  rw [List.pairwise_map]
  exact (ok.ob.filter p).imp fun h => ex_rise h

set_option maxRecDepth 20000 in
set_option maxHeartbeats 2000000 in
theorem queues_any (p : Nat) (F : Nat → Prop) (s : Tb) (e key : ByteArray) (w : World) (h : T w p F s) (ok : s.Ok) (he : e.size ≤ maxLen) (hk : key.size ≤ maxLen) :
    Calls Tryz.prog 10 #[.pointer (some ⟨p, 0, none⟩), .string e, .string key] w fun r w' => ∃ v', r = .returned v' ∧ Row w' v' (scells (queuesT s e key)) ∧ Below w.heap.size w w' := by
  obtain ⟨W, fold⟩ : ∃ W, w.alloc (.cells #[.string e] 9) = W := ⟨_, rfl⟩
  have bW : Below w.heap.size w W := by rw [← fold]; exact (Below.refl _ _).alloc (Nat.le_refl _) _
  have y0 : W.cell? ⟨w.heap.size, 0, none⟩ = some (.string e) := by rw [← fold]; exact cell_of_list (C := [.string e]) (heap_alloc_new w _) 0
  have hF := find_any p F s e W (h.kept bW) ok he
  have HT : Hid (∀ V, Below W.heap.size W V → T V p F s) := fun V hV => (h.kept bW).kept hV
  clear h
  cases hf : findX s.xs e with
  | none =>
    rw [hf] at hF
    have hq : queuesT s e key = [] := by unfold queuesT; rw [hf]
    rw [hq]
    go_enter Tryz.func10, Tryz.ntmps10
    go_wp2_with (go_at_call 23; refine hF.mono ?_; rintro r w1 ⟨rfl, b1⟩)
    go_ret
    exact ⟨_, rfl, .inl ⟨rfl, rfl⟩, (bW.trans (b1.mono bW.size)).alloc (Nat.le_trans bW.size b1.size) _⟩
  | some x =>
    rw [hf] at hF
    have hq : queuesT s e key = mkS ((s.bs.filter (qsel x e key)).map Bd.que) := by unfold queuesT; rw [hf]
    have hx : x.name.size ≤ maxLen := by
      have := good_short (ok.good x (findX_some hf).1)
      unfold maxLen; omega
    have hrise := rise_que ok x e key
    simp only [Option.getD_some, Option.isSome_some] at hF
    have HQ : Hid _ := hq
    clear hq
    go_enter Tryz.func10, Tryz.ntmps10
    go_wp2_with fail
    refine hF.mono ?_
    rintro r w1 ⟨rfl, b1⟩
    obtain ⟨X, foldX⟩ : ∃ X, w1.alloc (.cells #[.string x.name, .int .i64 x.kind, .bool x.fed] 41) = X := ⟨_, rfl⟩
    have bX : Below W.heap.size W X := by rw [← foldX]; exact b1.alloc b1.size _
    have x0 : X.cell? ⟨w1.heap.size, 0, none⟩ = some (.string x.name) := by rw [← foldX]; exact cell_of_list (C := xcells x) (heap_alloc_new w1 _) 0
    have x1 : X.cell? ⟨w1.heap.size, 1, none⟩ = some (.int .i64 x.kind) := by rw [← foldX]; exact cell_of_list (C := xcells x) (heap_alloc_new w1 _) 1
    have x2 : X.cell? ⟨w1.heap.size, 2, none⟩ = some (.bool x.fed) := by rw [← foldX]; exact cell_of_list (C := xcells x) (heap_alloc_new w1 _) 2
    go_wp2_with fail
    refine (fitting_any x key X hx hk).mono ?_
    rintro r w2 ⟨v, rfl, fv, b2⟩
    obtain ⟨f, caps, rfl⟩ := fv.func
    obtain ⟨Y, foldY⟩ : ∃ Y, w2.alloc (.cells #[.func (.func f) #[] caps] 59) = Y := ⟨_, rfl⟩
    have bY2 : Below w2.heap.size w2 Y := by rw [← foldY]; exact (Below.refl _ _).alloc (Nat.le_refl _) _
    have bY : Below W.heap.size W Y := (bX.trans (b2.mono bX.size)).trans (bY2.mono (Nat.le_trans bX.size b2.size))
    have f0 : Y.cell? ⟨w2.heap.size, 0, none⟩ = some (.func (.func f) #[] caps) := by rw [← foldY]; exact cell_of_list (C := [.func (.func f) #[] caps]) (heap_alloc_new w2 _) 0
    have z0 : Y.cell? ⟨w.heap.size, 0, none⟩ = some (.string e) := (bY.cell (p := ⟨w.heap.size, 0, none⟩) (World.block_lt_of_cell? _ _ y0)).trans y0
    have fvY := fv.below bY2 (Nat.le_refl _)
    have hN := names_any p F s 27 #[.pointer (some ⟨w.heap.size, 0, none⟩), .pointer (some ⟨w2.heap.size, 0, none⟩)] Bd.que (qsel x e key) Y (HT.out Y bY) ok (enters_of Tryz.func27 (by kernel_rfl) rfl)
      (fun V b hb hV => queues1_any b w.heap.size w2.heap.size e key x _ V hb hk ((hV.cell (p := ⟨w.heap.size, 0, none⟩) (World.block_lt_of_cell? _ _ z0)).trans z0) ((hV.cell (p := ⟨w2.heap.size, 0, none⟩) (World.block_lt_of_cell? _ _ f0)).trans f0) (fvY.below hV (Nat.le_refl _))) hrise
    rw [← HQ.out] at hN
    clear x0 x1 x2 y0 z0 f0 fvY fv foldX fold
    go_wp2_with fail
    refine hN.mono ?_
    rintro r w3 ⟨v3, rfl, row, b3⟩
    obtain ⟨ra, rc, rfl⟩ := row.sliceStrs
    go_wp2
    go_ret
    exact ⟨_, rfl, row, bW.trans ((bY.trans (b3.mono bY.size)).mono bW.size)⟩

set_option maxRecDepth 20000 in
set_option maxHeartbeats 2000000 in
theorem who_any (p : Nat) (F : Nat → Prop) (s : Tb) (q : ByteArray) (w : World) (h : T w p F s) (ok : s.Ok) :
    Calls Tryz.prog 12 #[.pointer (some ⟨p, 0, none⟩), .string q] w fun r w' => ∃ v', r = .returned v' ∧ Row w' v' (scells (whoT s q)) ∧ Below w.heap.size w w' := by
  obtain ⟨W, fold⟩ : ∃ W, w.alloc (.cells #[.string q] 9) = W := ⟨_, rfl⟩
  have bW : Below w.heap.size w W := by rw [← fold]; exact (Below.refl _ _).alloc (Nat.le_refl _) _
  have y0 : W.cell? ⟨w.heap.size, 0, none⟩ = some (.string q) := by rw [← fold]; exact cell_of_list (C := [.string q]) (heap_alloc_new w _) 0
  have hsel : (fun b : Bd => decide (b.que = q)) = fun b => b.que.toList == q.toList := by
    funext b
    rw [Bool.eq_iff_iff]
    simp only [decide_eq_true_eq, beq_iff_eq, ByteArray.toList_eq]
    exact ⟨fun h => by rw [h], arr_inj⟩
  have hN := names_any p F s 31 #[.pointer (some ⟨w.heap.size, 0, none⟩)] Bd.ex (fun b => decide (b.que = q)) W (h.kept bW) ok (enters_of Tryz.func31 (by kernel_rfl) rfl)
    (fun V b hb hV => by
      have := who1_any b w.heap.size q V ((hV.cell (p := ⟨w.heap.size, 0, none⟩) (World.block_lt_of_cell? _ _ y0)).trans y0)
      rw [show decide (b.que = q) = (b.que.toList == q.toList) from congrFun hsel b]
      exact this) (rise_ex ok _)
  have hN' : Calls Tryz.prog 25 #[.func (.func 26) #[.pointer (some ⟨p, 0, none⟩)] #[], .func (.func 31) #[] #[.pointer (some ⟨w.heap.size, 0, none⟩)]] W fun e w' => ∃ v', e = .returned v' ∧ Row w' v' (scells (whoT s q)) ∧ Below W.heap.size W w' := hN
  clear hN hsel h
  go_enter Tryz.func12, Tryz.ntmps12
  go_wp2_with fail
  refine hN'.mono ?_
  rintro r w3 ⟨v3, rfl, row, b3⟩
  obtain ⟨ra, rc, rfl⟩ := row.sliceStrs
  go_wp2
  go_ret
  exact ⟨_, rfl, row, bW.trans (b3.mono bW.size)⟩
end Go.Proofs.YtlfehneojkfmjaaGreatDoor
