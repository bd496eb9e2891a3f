/-
  THE DOCUMENT's Queues and Who, by their contracts.
-/
import Derived.Test.YtlfehneojkfmjaaGreatDoorRAdd
namespace Go.Proofs.YtlfehneojkfmjaaGreatDoor
open Go.RowKit Go.Sort Go.Shelf

/-- What is gathered of the first k bindings. -/
def gath (sel : Bd → Bool) (nm : Bd → ByteArray) (l : List Bd) : List ByteArray := mkS ((l.filter sel).map nm)
theorem gath_take {sel : Bd → Bool} {nm : Bd → ByteArray} {l : List Bd} {k : Nat} (h : k < l.length) : gath sel nm (l.take (k + 1)) = if sel l[k] = true then addS (nm l[k]) (gath sel nm (l.take k)) else gath sel nm (l.take k) := by
  unfold gath
  rw [List.take_succ_eq_append_getElem h, List.filter_append, List.map_append]
  by_cases hs : sel l[k] = true
  · rw [if_pos hs, show (List.filter sel [l[k]]).map nm = [nm l[k]] by simp [hs], mkS_snoc]
  · rw [if_neg hs, show (List.filter sel [l[k]]).map nm = [] by simp [hs], List.append_nil]
theorem gath_len (sel : Bd → Bool) (nm : Bd → ByteArray) (l : List Bd) (h : l.length ≤ 32) (k : Nat) : (gath sel nm (l.take k)).length ≤ 1000 := by
  unfold gath
  refine Nat.le_trans (mkS_length _) ?_
  rw [List.length_map]
  refine Nat.le_trans (List.length_filter_le _ _) ?_
  rw [List.length_take]
  omega
theorem gath_ord (sel : Bd → Bool) (nm : Bd → ByteArray) (l : List Bd) : Ord cmpS (gath sel nm l) := mkS_ord _

set_option maxRecDepth 20000 in
set_option maxHeartbeats 4000000 in
theorem rqueues_any (p : Nat) (F : Nat → Prop) (s : Tb) (e key : ByteArray) (w : World) (h : RT w p F s) (ok : s.Ok) (hk : key.size ≤ maxLen) :
    Calls Tryz.prog 11 #[.pointer (some ⟨p, 0, none⟩), .string e, .string key] w fun r w' => ∃ v', r = .returned v' ∧ Row w' v' (scells (queuesT s e key)) ∧ Below w.heap.size w w' := by
  have hFi := rfind_any p F s e w h (by have := ok.nx; omega)
  have hq : queuesT s e key = gath (fun b => (findX s.xs e).isSome && qsel ((findX s.xs e).getD zeroEx) e key b) Bd.que s.bs := by
    unfold queuesT gath
    cases findX s.xs e with
    | none => simp only [Option.isSome_none, Bool.false_and]; rw [List.filter_eq_nil_iff.2 (by simp)]; rfl
    | some x => simp
  have hxn : ((findX s.xs e).getD zeroEx).name.size ≤ maxLen := by
    cases hf : findX s.xs e with
    | none => show (0 : Nat) ≤ maxLen; omega
    | some x =>
      have := good_short (ok.good x (findX_some hf).1)
      show x.name.size ≤ maxLen
      unfold maxLen; omega
  rw [hq]
  clear hq
  generalize (findX s.xs e).getD zeroEx = x at *
  generalize (findX s.xs e).isSome = ob at *
  have hfit := ok.fit
  have nb := ok.nb
  go_enter Tryz.func11, Tryz.ntmps11
  go_wp2_with fail
  refine hFi.mono ?_
  rintro r w1 ⟨rfl, b1⟩
  obtain ⟨W, fold⟩ : ∃ W, w1.alloc (.cells #[.string x.name, .int .i64 x.kind, .bool x.fed] 41) = W := ⟨_, rfl⟩
  have bW : Below w.heap.size w W := by rw [← fold]; exact b1.alloc b1.size _
  have x0 : W.cell? ⟨w1.heap.size, 0, none⟩ = some (.string x.name) := by rw [← fold]; exact cell_of_list (C := xcells x) (heap_alloc_new w1 _) 0
  have x1 : W.cell? ⟨w1.heap.size, 1, none⟩ = some (.int .i64 x.kind) := by rw [← fold]; exact cell_of_list (C := xcells x) (heap_alloc_new w1 _) 1
  have x2 : W.cell? ⟨w1.heap.size, 2, none⟩ = some (.bool x.fed) := by rw [← fold]; exact cell_of_list (C := xcells x) (heap_alloc_new w1 _) 2
  have HX : Hid (∀ V, Below W.heap.size W V → V.cell? ⟨w1.heap.size, 0, none⟩ = some (.string x.name) ∧ V.cell? ⟨w1.heap.size, 1, none⟩ = some (.int .i64 x.kind) ∧ V.cell? ⟨w1.heap.size, 2, none⟩ = some (.bool x.fed)) := fun V hV => ⟨cellK hV x0, cellK hV x1, cellK hV x2⟩
  obtain ⟨vx, vb, hq, hF, hlt⟩ := h.kept bW
  obtain ⟨c0, c1⟩ := cells2 hq.blk
  obtain ⟨ax, cx, rfl⟩ := hq.b.slice
  have hB := hq.b.bds
  clear hq hF hlt h hFi x0 x1 x2 b1
  go_wp2
  clear fold c0 c1
  go_loopw [9, 11, 23] (fun u9 u11 u23 wr => ∃ k : Nat, u23 = .int .i64 k ∧ k ≤ s.bs.length ∧ Row wr u9 (scells (gath (fun b => ob && qsel x e key b) Bd.que (s.bs.take k))) ∧ Below W.heap.size W wr) (fun u9 u11 u23 wr => s.bs.length - (intOf u23).toNat)
  case atStart => exact ⟨0, rfl, Nat.zero_le _, .inl ⟨rfl, rfl⟩, Below.refl _ _⟩
  case round =>
    obtain ⟨k, rfl, hkl, hrow, hbr⟩ := hrel
    by_cases hlt2 : k < s.bs.length
    · have hlt : (k : Int) < (s.bs.length : Int) := by omega
      obtain ⟨eb, eo, rfl, hi⟩ := hB k hlt2
      obtain ⟨e0, e1, e2⟩ := hi.below hbr (Nat.le_refl _)
      have hfk := hfit _ (List.getElem_mem hlt2)
      have hgt := gath_take (sel := fun b => ob && qsel x e key b) (nm := Bd.que) hlt2
      have hgl := gath_len (fun b => ob && qsel x e key b) Bd.que s.bs nb k
      have hgo := gath_ord (fun b => ob && qsel x e key b) Bd.que (s.bs.take k)
      clear hB hi
      generalize s.bs[k] = b at *
      have hqs : qsel x e key b = ((b.ex.toList == e.toList) && fitsX x b.pat key) := by
        unfold qsel
        rw [same_dec]
      rw [hqs] at hgt
      generalize gath (fun b => ob && qsel x e key b) Bd.que (s.bs.take k) = G at *
      obtain ⟨X, foldX⟩ : ∃ X, wr.alloc (.cells #[.string b.ex, .string b.que, .string b.pat] 39) = X := ⟨_, rfl⟩
      have bX : Below W.heap.size W X := by rw [← foldX]; exact hbr.alloc hbr.size _
      have bX0 : Below wr.heap.size wr X := by rw [← foldX]; exact (Below.refl _ _).alloc (Nat.le_refl _) _
      have z0 : X.cell? ⟨wr.heap.size, 0, none⟩ = some (.string b.ex) := by rw [← foldX]; exact cell_of_list (C := bcells b) (heap_alloc_new wr _) 0
      have z1 : X.cell? ⟨wr.heap.size, 1, none⟩ = some (.string b.que) := by rw [← foldX]; exact cell_of_list (C := bcells b) (heap_alloc_new wr _) 1
      have z2 : X.cell? ⟨wr.heap.size, 2, none⟩ = some (.string b.pat) := by rw [← foldX]; exact cell_of_list (C := bcells b) (heap_alloc_new wr _) 2
      obtain ⟨t0, t1, t2⟩ := HX.out X bX
      obtain ⟨da, dn, dc, rfl⟩ : ∃ a n c, u9 = .slice a n c := by obtain ⟨a, c, h⟩ := hrow.slice; exact ⟨a, _, c, h⟩
      have rX := hrow.below bX0 (Nat.le_refl _)
      have hFs := rfits8_any x b.pat key X hxn hfk.2.2 hk
      have HBX : Hid _ := bX
      have HRX : Hid _ := rX
      clear hqs hrow rX bX bX0
      cases ob
      · have HG : Hid _ := hgt
        clear hgt
        go_wp2
        go_roundw
        case rel => exact ⟨k + 1, by go_num, by omega, by rw [HG.out]; exact HRX.out, HBX.out⟩
        case measure => simp [intOf]; omega
      cases hex : (b.ex.toList == e.toList)
      · rw [hex] at hgt
        have HG : Hid _ := hgt
        clear hgt
        go_wp2
        go_roundw
        case rel => exact ⟨k + 1, by go_num, by omega, by rw [HG.out]; exact HRX.out, HBX.out⟩
        case measure => simp [intOf]; omega
      rw [hex] at hgt
      generalize fitsX x b.pat key = fb at *
      go_wp2_with fail
      refine hFs.mono ?_
      rintro r w2 ⟨rfl, b2⟩
      have B2 : Below W.heap.size W w2 := Below.trans HBX.out (b2.mono (Below.size HBX.out))
      have r2 := Row.below HRX.out b2 (Nat.le_refl _)
      cases fb
      · have HG : Hid _ := hgt
        clear hgt
        go_wp2
        go_roundw
        case rel => exact ⟨k + 1, by go_num, by omega, by rw [HG.out]; exact r2, B2⟩
        case measure => simp [intOf]; omega
      · have y1 := cellK b2 z1
        have hA := radd_any _ G b.que w2 r2 hgl hgo
        have HG : Hid _ := hgt
        clear hgt z0 z1 z2 t0 t1 t2 foldX e0 e1 e2
        go_wp2_with fail
        refine hA.mono ?_
        rintro r w3 ⟨v3, rfl, r3, b3⟩
        obtain ⟨a3, n3, c3, rfl⟩ : ∃ a n c, v3 = .slice a n c := by obtain ⟨a, c, h⟩ := r3.slice; exact ⟨a, _, c, h⟩
        go_wp2
        go_roundw
        case rel => exact ⟨k + 1, by go_num, by omega, by rw [HG.out]; exact r3, B2.trans (b3.mono B2.size)⟩
        case measure => simp [intOf]; omega
    · obtain rfl : k = s.bs.length := by omega
      rw [List.take_length] at hrow
      obtain ⟨da, dn, dc, rfl⟩ : ∃ a n c, u9 = .slice a n c := by obtain ⟨a, c, h⟩ := hrow.slice; exact ⟨a, _, c, h⟩
      clear hB
      go_wp2
      go_ret
      exact ⟨_, rfl, hrow, bW.trans (hbr.mono bW.size)⟩

set_option maxRecDepth 20000 in
set_option maxHeartbeats 4000000 in
theorem rwho_any (p : Nat) (F : Nat → Prop) (s : Tb) (q : ByteArray) (w : World) (h : RT w p F s) (ok : s.Ok) :
    Calls Tryz.prog 13 #[.pointer (some ⟨p, 0, none⟩), .string q] w fun r w' => ∃ v', r = .returned v' ∧ Row w' v' (scells (whoT s q)) ∧ Below w.heap.size w w' := by
  have hq : whoT s q = gath (fun b => decide (b.que = q)) Bd.ex s.bs := rfl
  rw [hq]
  clear hq
  have nb := ok.nb
  obtain ⟨vx, vb, hq, hF, hlt⟩ := h
  obtain ⟨c0, c1⟩ := cells2 hq.blk
  obtain ⟨ax, cx, rfl⟩ := hq.b.slice
  have hB := hq.b.bds
  clear hq hF hlt
  go_enter Tryz.func13, Tryz.ntmps13
  go_wp2
  clear c0 c1
  go_loopw [5, 7, 13] (fun u5 u7 u13 wr => ∃ k : Nat, u13 = .int .i64 k ∧ k ≤ s.bs.length ∧ Row wr u5 (scells (gath (fun b => decide (b.que = q)) Bd.ex (s.bs.take k))) ∧ Below w.heap.size w wr) (fun u5 u7 u13 wr => s.bs.length - (intOf u13).toNat)
  case atStart => exact ⟨0, rfl, Nat.zero_le _, .inl ⟨rfl, rfl⟩, Below.refl _ _⟩
  case round =>
    obtain ⟨k, rfl, hkl, hrow, hbr⟩ := hrel
    by_cases hlt2 : k < s.bs.length
    · have hlt : (k : Int) < (s.bs.length : Int) := by omega
      obtain ⟨eb, eo, rfl, hi⟩ := hB k hlt2
      obtain ⟨e0, e1, e2⟩ := hi.below hbr (Nat.le_refl _)
      have hgt := gath_take (sel := fun b => decide (b.que = q)) (nm := Bd.ex) hlt2
      have hgl := gath_len (fun b => decide (b.que = q)) Bd.ex s.bs nb k
      have hgo := gath_ord (fun b => decide (b.que = q)) Bd.ex (s.bs.take k)
      clear hB hi
      generalize s.bs[k] = b at *
      have hsd := same_dec b.que q
      generalize gath (fun b => decide (b.que = q)) Bd.ex (s.bs.take k) = G at *
      obtain ⟨X, foldX⟩ : ∃ X, wr.alloc (.cells #[.string b.ex, .string b.que, .string b.pat] 39) = X := ⟨_, rfl⟩
      have bX : Below w.heap.size w X := by rw [← foldX]; exact hbr.alloc hbr.size _
      have bX0 : Below wr.heap.size wr X := by rw [← foldX]; exact (Below.refl _ _).alloc (Nat.le_refl _) _
      have z0 : X.cell? ⟨wr.heap.size, 0, none⟩ = some (.string b.ex) := by rw [← foldX]; exact cell_of_list (C := bcells b) (heap_alloc_new wr _) 0
      have z1 : X.cell? ⟨wr.heap.size, 1, none⟩ = some (.string b.que) := by rw [← foldX]; exact cell_of_list (C := bcells b) (heap_alloc_new wr _) 1
      have z2 : X.cell? ⟨wr.heap.size, 2, none⟩ = some (.string b.pat) := by rw [← foldX]; exact cell_of_list (C := bcells b) (heap_alloc_new wr _) 2
      obtain ⟨da, dn, dc, rfl⟩ : ∃ a n c, u5 = .slice a n c := by obtain ⟨a, c, h⟩ := hrow.slice; exact ⟨a, _, c, h⟩
      have rX := hrow.below bX0 (Nat.le_refl _)
      have HBX : Hid _ := bX
      have HRX : Hid _ := rX
      by_cases hbq : b.que = q
      · rw [decide_eq_true hbq] at hgt hsd
        have hA := radd_any _ G b.ex X rX hgl hgo
        have HG : Hid _ := hgt
        clear hgt hbq hrow rX bX bX0
        go_wp2_with fail
        refine hA.mono ?_
        rintro r w3 ⟨v3, rfl, r3, b3⟩
        obtain ⟨a3, n3, c3, rfl⟩ : ∃ a n c, v3 = .slice a n c := by obtain ⟨a, c, h⟩ := r3.slice; exact ⟨a, _, c, h⟩
        go_wp2
        go_roundw
        case rel => exact ⟨k + 1, by go_num, by omega, by rw [HG.out]; exact r3, Below.trans HBX.out (b3.mono (Below.size HBX.out))⟩
        case measure => simp [intOf]; omega
      · rw [decide_eq_false hbq] at hgt hsd
        have HG : Hid _ := hgt
        clear hgt hbq hrow rX bX bX0
        go_wp2
        go_roundw
        case rel => exact ⟨k + 1, by go_num, by omega, by rw [HG.out]; exact HRX.out, HBX.out⟩
        case measure => simp [intOf]; omega
    · obtain rfl : k = s.bs.length := by omega
      rw [List.take_length] at hrow
      obtain ⟨da, dn, dc, rfl⟩ : ∃ a n c, u5 = .slice a n c := by obtain ⟨a, c, h⟩ := hrow.slice; exact ⟨a, _, c, h⟩
      clear hB
      go_wp2
      go_ret
      exact ⟨_, rfl, hrow, hbr⟩
end Go.Proofs.YtlfehneojkfmjaaGreatDoor
