/-
  slices.IndexFunc and slices.DeleteFunc over packets, by a predicate that makes memory.
-/
import Derived.Test.YtdbgojmjjkidbaaGreatDoorJMend22
import Derived.Test.YtdbgojmjjkidbaaGreatDoorJLook22
namespace Go.Proofs.YtdbgojmjjkidbaaGreatDoor
open Go.RowKit Go.Maps Go.Sort K
set_option maxRecDepth 20000

/-- What a predicate answers, wherever no more than block gr has changed. -/
def AsksP (g : Nat) (lb : Array Value) (pd : Px → Bool) (X : List Px) (gr : Nat) (w : World) : Prop := ∀ x ∈ X, ∀ W, w.grownBy W (some gr) → Calls Tryz.prog g (#[pxv x] ++ lb) W fun e w' => e = .returned (.bool (pd x)) ∧ Below W.heap.size W w'
/-- Where the first one is. -/
def IdxQ (X : List Px) (pd : Px → Bool) (z : Int) : Prop := (∃ (i : Nat), z = (i : Int) ∧ ∃ h : i < X.length, pd X[i] = true ∧ ∀ y ∈ X.take i, pd y = false) ∨ (z = -1 ∧ ∀ y ∈ X, pd y = false)
theorem grown_below {w W V : World} {o : Option Nat} (h : w.grownBy W o) (b : Below W.heap.size W V) : w.grownBy V o :=
  ⟨b.os.trans h.os, b.tape.trans h.tape, b.output.trans h.output, Nat.le_trans h.size b.size, fun k hk hn => (b.block k (Nat.lt_of_lt_of_le hk h.size)).trans (h.block k hk hn)⟩
theorem grown_refl (w : World) (o : Option Nat) : w.grownBy w o := ⟨rfl, rfl, rfl, Nat.le_refl _, fun _ _ _ => rfl⟩
theorem grown_trans {a b c : World} {o : Option Nat} (h : a.grownBy b o) (k : b.grownBy c o) : a.grownBy c o :=
  ⟨k.os.trans h.os, k.tape.trans h.tape, k.output.trans h.output, Nat.le_trans h.size k.size, fun i hi hn => (k.block i (Nat.lt_of_lt_of_le hi h.size) hn).trans (h.block i hi hn)⟩
set_option maxHeartbeats 1000000 in
theorem idxQ_any (f : Nat) (lb : Array Value) (pd : Px → Bool) (X : List Px) (base g n c : Nat) (w : World) (eg : ∀ args w, (callFunc f args).run Tryz.prog w = .ok (.enter f args) w) (hr : OwnP w base (.slice (some ⟨g, 0, none⟩) n c) X) (hA : AsksP f lb pd X g w) :
    Calls Tryz.prog 71 #[.slice (some ⟨g, 0, none⟩) n c, .func (.func f) #[] lb] w fun e w' => ∃ z, e = .returned (.int .i64 z) ∧ IdxQ X pd z ∧ Below w.heap.size w w' := by
  have hn : X.length = n := by
    obtain ⟨_, _, hv⟩ := hr.rng.slice
    injection hv with _ hv _
    exact hv.symm
  have H0 : Hid (OwnP w base (.slice (some ⟨g, 0, none⟩) n c) X ∧ X.length = n ∧ AsksP f lb pd X g w) := ⟨hr, hn, hA⟩
  clear hr hn hA
  go_enter Tryz.func71, Tryz.ntmps71
  go_wp2
  go_loopg [5, 8] n (fun gg _ u8 wr => ∃ i : Nat, u8 = .int .i64 (i : Int) ∧ i ≤ n ∧ gg = n - i ∧ Hid (∀ y ∈ X.take i, pd y = false) ∧ Hid (Below w.heap.size w wr))
  case atStart => exact ⟨0, rfl, Nat.zero_le _, rfl, by show ∀ y ∈ X.take 0, _; simp, Below.refl _ _⟩
  case round =>
    obtain ⟨i, rfl, hi, rfl, HI, HB⟩ := hrel
    by_cases hlt : i < n
    · have hlt' : (i : Int) < (n : Int) := by omega
      have hil : i < X.length := by rw [H0.out.2.1]; exact hlt
      obtain ⟨c0, c1, hx3, hx4, hx5, hc1, hc2⟩ := OwnP.soft (OwnOf.kept H0.out.1 HB.out (Nat.le_refl _)) i hil
      have hi7 : i < 9223372036854775807 := by unfold maxLen at hc2; omega
      have gr : w.grownBy wr (some g) := grown_below (grown_refl w _) HB.out
      have hC := H0.out.2.2 X[i] (List.getElem_mem hil) wr gr
      have hP : Hid (∃ h : i < X.length, X[i] = X[i]) := ⟨hil, rfl⟩
      have HT : Hid (pd X[i] = false → ∀ y ∈ X.take (i + 1), pd y = false) := fun hp y hy => by
        rw [List.take_succ_eq_append_getElem hil] at hy
        rcases List.mem_append.1 hy with hy | hy
        · exact HI.out y hy
        · rw [List.mem_singleton.1 hy]; exact hp
      have HX : Hid (pd X[i] = true → IdxQ X pd (i : Int)) := fun hp => .inl ⟨i, rfl, hil, hp, HI.out⟩
      have H7 : Hid (i < 9223372036854775807) := hi7
      generalize pd X[i] = r at hC HT HX
      generalize X[i] = x at *
      clear hc1 hc2 hi7 hP gr hil hx3 hx4 hx5
      cases r
      · go_wp2_with (go_at_fn f; refine hC.mono ?_; rintro e w2 ⟨rfl, b2⟩; have HB2 : Hid (Below w.heap.size w w2) := HB.out.trans (b2.mono HB.out.size); clear hC b2)
        go_roundg (n - (i + 1))
        case measure => omega
        case rel => exact ⟨i + 1, congrArg (Value.int IntKind.i64) (by have := H7.out; unfold wrap64; omega), by omega, rfl, HT.out (by simp), HB2⟩
      · go_wp2_with (go_at_fn f; refine hC.mono ?_; rintro e w2 ⟨rfl, b2⟩; have HB2 : Hid (Below w.heap.size w w2) := HB.out.trans (b2.mono HB.out.size); clear hC b2)
        go_ret
        exact ⟨_, rfl, HX.out (by simp), HB2.out⟩
    · have hlt' : ¬ (i : Int) < (n : Int) := by omega
      obtain rfl : i = n := by omega
      have HF : Hid (∀ y ∈ X, pd y = false) := by
        have := HI.out
        rw [List.take_of_length_le (by rw [H0.out.2.1]; exact Nat.le_refl _)] at this
        exact this
      go_wp2
      go_ret
      exact ⟨_, rfl, .inr ⟨rfl, HF.out⟩, HB.out⟩
end Go.Proofs.YtdbgojmjjkidbaaGreatDoor

/-
  slices.DeleteFunc over packets: those stay of which the predicate says no, in their order.
-/
namespace Go.Proofs.YtdbgojmjjkidbaaGreatDoor
open Go.RowKit Go.Maps Go.Sort K
set_option maxRecDepth 20000

/-- How far the loop has come: of the first j those that stay are the first i. -/
structure DelM (w wr : World) (base g n c : Nat) (X M : List Px) (pd : Px → Bool) (i j : Nat) : Prop where
  own : OwnP wr base (.slice (some ⟨g, 0, none⟩) n c) M
  gr : w.grownBy wr (some g)
  len : M.length = n
  ij : i < j
  jn : j ≤ n
  done : M.take i = (X.take j).filter fun x => !pd x
  left : M.drop j = X.drop j
theorem DelM.next_out {w wr w2 : World} {base g n c : Nat} {X M : List Px} {pd : Px → Bool} {i j : Nat} (h : DelM w wr base g n c X M pd i j) (hx : X.length = n) (hj : j < n) (hp : pd (X[j]'(by omega)) = true) (b : Below wr.heap.size wr w2) : DelM w w2 base g n c X M pd i (j + 1) := by
  refine ⟨OwnOf.kept h.own b (Nat.le_refl _), grown_below h.gr b, h.len, by have := h.ij; omega, hj, ?_, ?_⟩
  · rw [List.take_succ_eq_append_getElem (by omega), List.filter_append, h.done]
    simp [hp]
  · rw [← List.drop_drop, ← List.drop_drop, h.left]
theorem DelM.head {w wr : World} {base g n c : Nat} {X M : List Px} {pd : Px → Bool} {i j : Nat} (h : DelM w wr base g n c X M pd i j) (hx : X.length = n) (hj : j < n) : M[j]'(by rw [h.len]; exact hj) = X[j]'(by omega) := by
  have h1 : (M.drop j)[0]? = (X.drop j)[0]? := by rw [h.left]
  rw [List.getElem?_drop, List.getElem?_drop, Nat.add_zero, List.getElem?_eq_getElem (by rw [h.len]; exact hj), List.getElem?_eq_getElem (by omega)] at h1
  injection h1
theorem DelM.next_in {w wr w2 : World} {base g n c : Nat} {X M : List Px} {pd : Px → Bool} {i j : Nat} (h : DelM w wr base g n c X M pd i j) (hx : X.length = n) (hj : j < n) (hp : pd (X[j]'(by omega)) = false) (b : Below wr.heap.size wr w2) :
    DelM w (put2 w2 g (i * 2) (X[j]'(by omega))) base g n c X (M.set i (X[j]'(by omega))) pd (i + 1) (j + 1) := by
  have hij := h.ij
  have hl := h.len
  refine ⟨OwnP.put (OwnOf.kept h.own b (Nat.le_refl _)) i (by omega) _, grown_trans (grown_below h.gr b) (put2_grown _ _ _ _), by rw [List.length_set]; exact hl, by omega, hj, ?_, ?_⟩
  · have e1 : (M.set i (X[j]'(by omega))).take (i + 1) = M.take i ++ [X[j]'(by omega)] := by
      rw [List.take_succ_eq_append_getElem (by rw [List.length_set]; omega), List.take_set_of_le (Nat.le_refl _)]
      congr 1
      rw [List.getElem_set_self]
    rw [e1, List.take_succ_eq_append_getElem (by omega), List.filter_append, h.done]
    simp [hp]
  · rw [List.drop_set, if_pos (by omega), ← List.drop_drop, ← List.drop_drop, h.left]
set_option maxHeartbeats 2000000 in
theorem delG_any (f : Nat) (lb : Array Value) (pd : Px → Bool) (X : List Px) (base g n c : Nat) (w : World) (eg : ∀ args w, (callFunc f args).run Tryz.prog w = .ok (.enter f args) w) (hr : OwnP w base (.slice (some ⟨g, 0, none⟩) n c) X) (hA : AsksP f lb pd X g w) :
    Calls Tryz.prog 47 #[.slice (some ⟨g, 0, none⟩) n c, .func (.func f) #[] lb] w fun e w' => ∃ m, e = .returned (.slice (some ⟨g, 0, none⟩) m c) ∧ OwnP w' base (.slice (some ⟨g, 0, none⟩) m c) (X.filter fun x => !pd x) ∧ w.grownBy w' (some g) := by
  have hn : X.length = n := by
    obtain ⟨_, _, hv⟩ := hr.rng.slice
    injection hv with _ hv _
    exact hv.symm
  have hI := idxQ_any f lb pd X base g n c w eg hr hA
  have hcm : c ≤ maxLen ∧ n ≤ c := by
    rcases OwnOf.split hr with ⟨h0, _⟩ | ⟨g', c', T, hv, _, _, h1, h2, _⟩
    · cases h0
    · injection hv with _ _ hv
      exact ⟨by rw [hv]; exact h2, by rw [hv, ← hn]; exact h1⟩
  have H0 : Hid (OwnP w base (.slice (some ⟨g, 0, none⟩) n c) X ∧ X.length = n ∧ AsksP f lb pd X g w ∧ c ≤ maxLen) := ⟨hr, hn, hA, hcm.1⟩
  have hnc := hcm.2
  clear hr hn hA hcm
  go_enter Tryz.func47, Tryz.ntmps47
  go_wp2_with fail
  refine hI.mono ?_
  rintro e w2 ⟨z, rfl, hz, b2⟩
  clear hI
  have own2 := OwnOf.kept H0.out.1 b2 (Nat.le_refl _)
  have gr2 : w.grownBy w2 (some g) := grown_below (grown_refl w _) b2
  rcases hz with ⟨i0, rfl, hi0, hp0, hf0⟩ | ⟨rfl, hf⟩
  rotate_left
  · have HE : Hid (OwnP w2 base (.slice (some ⟨g, 0, none⟩) n c) (X.filter fun x => !pd x) ∧ w.grownBy w2 (some g)) := by
      refine ⟨?_, gr2⟩
      rw [List.filter_eq_self.2 (fun y hy => by rw [hf y hy]; rfl)]
      exact own2
    clear own2 gr2 b2 hf
    go_wp2
    go_ret
    exact ⟨_, rfl, HE.out⟩
  · have hin : i0 < n := by rw [← H0.out.2.1]; exact hi0
    have hM : Hid (DelM w w2 base g n c X X pd i0 (i0 + 1)) := by
      refine ⟨own2, gr2, H0.out.2.1, by omega, hin, ?_, rfl⟩
      rw [List.take_succ_eq_append_getElem hi0, List.filter_append, List.filter_eq_self.2 (fun y hy => by rw [hf0 y hy]; rfl)]
      simp [hp0]
    have h7 : n ≤ 9223372036854775807 := by have := H0.out.2.2.2; unfold maxLen at this; omega
    have H7 : Hid (n ≤ 9223372036854775807 ∧ n ≤ c) := ⟨h7, hnc⟩
    have hw0 : IntKind.i64.wrap ((i0 : Int) + 1) = ((i0 + 1 : Nat) : Int) := by rw [IntKind.wrap_i64]; omega
    have hm1 : ¬ ((i0 : Int) = -1) := by omega
    clear own2 gr2 b2 hi0 hp0 hf0 h7
    go_wp2
    go_loopg [5, 6, 7] (n - (i0 + 1)) (fun gg u5 u6 _ wr => ∃ (i j : Nat) (M : List Px), u5 = .int .i64 (i : Int) ∧ u6 = .int .i64 (j : Int) ∧ j ≤ n ∧ gg = n - j ∧ Hid (DelM w wr base g n c X M pd i j))
    case atStart => exact ⟨i0, i0 + 1, X, rfl, congrArg (Value.int IntKind.i64) (show ((i0 : Int) + 1) = ((i0 + 1 : Nat) : Int) by omega), hin, rfl, hM⟩
    case round =>
      clear hM hw0 hm1 hin
      obtain ⟨i, j, M, rfl, rfl, hjn, rfl, HM⟩ := hrel
      by_cases hlt : j < n
      · have hlt' : (j : Int) < (n : Int) := by omega
        have hjx : j < X.length := by rw [H0.out.2.1]; exact hlt
        have hjm : j < M.length := by rw [HM.out.len]; exact hlt
        obtain ⟨c0, c1, hx3, hx4, hx5, hc1, hc2⟩ := OwnP.soft HM.out.own j hjm
        rw [HM.out.head H0.out.2.1 hlt] at c0 c1
        obtain ⟨W, fold⟩ : ∃ W, wr.alloc (.cells #[.slice none 0 0, .bool false] 81) = W := ⟨_, rfl⟩
        have xW : W.heap[wr.heap.size]? = some (.cells (pxcells ⟨none, 0, 0, false, []⟩).toArray 81 (0, 0)) := by rw [← fold]; exact heap_alloc_new wr _
        have bW : Below wr.heap.size wr W := by rw [← fold]; exact box_belowW _ _
        obtain ⟨V, fV⟩ : ∃ V, W.setRow wr.heap.size (pxcells X[j]).toArray = V := ⟨_, rfl⟩
        have bV : Below wr.heap.size wr V := by rw [← fV]; exact below_setRow bW (Nat.le_refl _) _
        have xV : V.heap[wr.heap.size]? = some (.cells (pxcells X[j]).toArray 81 (0, 0)) := by rw [← fV]; exact setRow_heap _ _ _ _ _ _ xW
        have HX : Hid (W.heap[wr.heap.size]? = some (.cells (pxcells ⟨none, 0, 0, false, []⟩).toArray 81 (0, 0)) ∧ Below wr.heap.size wr V) := ⟨xW, bV⟩
        have y0 : V.cell? ⟨wr.heap.size, 0, none⟩ = some (.slice X[j].a X[j].n X[j].c) := cell_of_list (C := pxcells X[j]) xV 0
        have y1 : V.cell? ⟨wr.heap.size, 1, none⟩ = some (.bool X[j].t) := cell_of_list (C := pxcells X[j]) xV 1
        have hC := H0.out.2.2.1 X[j] (List.getElem_mem hjx) V (grown_below HM.out.gr bV)
        have H9 : Hid (∀ w5, Below wr.heap.size wr w5 → pd X[j] = true → DelM w w5 base g n c X M pd i (j + 1)) := fun w5 b5 hp => HM.out.next_out H0.out.2.1 hlt hp b5
        have H8 : Hid (∀ w5, Below V.heap.size V w5 → w5.cell? ⟨wr.heap.size, 0, none⟩ = some (.slice X[j].a X[j].n X[j].c) ∧ w5.cell? ⟨wr.heap.size, 1, none⟩ = some (.bool X[j].t) ∧ ∃ y : Px, w5.cell? ⟨g, i * 2, none⟩ = some (.slice y.a y.n y.c) ∧ (∀ u, (w5.setCell ⟨g, i * 2, none⟩ u).cell? ⟨g, i * 2 + 1, none⟩ = some (.bool y.t)) ∧ w5.frozen? ⟨g, i * 2, none⟩ = false ∧ (∀ u, (w5.setCell ⟨g, i * 2, none⟩ u).frozen? ⟨g, i * 2 + 1, none⟩ = false) ∧
            (pd X[j] = false → DelM w (put2 w5 g (i * 2) X[j]) base g n c X (M.set i X[j]) pd (i + 1) (j + 1))) := fun w5 b5 => by
          have hl := (Array.getElem?_eq_some_iff.1 xV).1
          have b6 := keptW bV b5
          obtain ⟨k0, k1, k2, k3, _⟩ := OwnP.soft (OwnOf.kept HM.out.own b6 (Nat.le_refl _)) i (by have := HM.out.ij; omega)
          refine ⟨(b5.cell (p := ⟨wr.heap.size, 0, none⟩) hl).trans y0, (b5.cell (p := ⟨wr.heap.size, 1, none⟩) hl).trans y1, M[i]'(by have := HM.out.ij; omega), k0, fun u => ?_, k2, fun u => ?_, fun hp => HM.out.next_in H0.out.2.1 hlt hp b6⟩
          · rw [World.cell?_setCell_other _ _ _ _ (by intro h; injection h with _ h; omega)]
            exact k1
          · rw [World.frozen?_setCell]
            exact k3
        have hin2 : i < n := by have := HM.out.ij; omega
        have hin3 : (i : Int) < (n : Int) := by omega
        have H6 : Hid (j < n ∧ i < n ∧ i < j) := ⟨hlt, hin2, HM.out.ij⟩
        generalize pd X[j] = r at hC H9 H8
        generalize X[j] = x at *
        clear hx3 hx4 hx5 hc1 hc2 hjx hjm xW bW bV xV HM
        cases r
        · go_wp2_with (first
            | (refine wpList_store_row rfl 81 _ _ rfl wr.heap.size (pxcells x).toArray rfl rfl 81 (pxcells ⟨none, 0, 0, false, []⟩).toArray HX.out.1 pxInfo2 rfl (by simp [pxcells, Value.oneCell']) ?_; rw [fV])
            | (go_at_fn f; refine hC.mono ?_; rintro e w5 ⟨rfl, b5⟩; obtain ⟨k8, k9, y, k0, k1, k2, k3, hk4⟩ := H8.out w5 b5; have HK : Hid (DelM w _ base g n c X _ pd _ _) := hk4 (by simp); clear hC b5 hk4))
          go_roundg (n - (j + 1))
          case measure => omega
          case rel => exact ⟨i + 1, j + 1, _, congrArg (Value.int IntKind.i64) (by have := H7.out; have := H6.out; unfold wrap64; omega), congrArg (Value.int IntKind.i64) (by have := H7.out; have := H6.out; unfold wrap64; omega), H6.out.1, rfl, HK⟩
        · go_wp2_with (first
            | (refine wpList_store_row rfl 81 _ _ rfl wr.heap.size (pxcells x).toArray rfl rfl 81 (pxcells ⟨none, 0, 0, false, []⟩).toArray HX.out.1 pxInfo2 rfl (by simp [pxcells, Value.oneCell']) ?_; rw [fV])
            | (go_at_fn f; refine hC.mono ?_; rintro e w5 ⟨rfl, b5⟩; have HK : Hid (DelM w _ base g n c X _ pd _ _) := H9.out w5 (keptW HX.out.2 b5) (by simp); clear hC b5))
          go_roundg (n - (j + 1))
          case measure => omega
          case rel => exact ⟨i, j + 1, _, rfl, congrArg (Value.int IntKind.i64) (by have := H7.out; have := H6.out; unfold wrap64; omega), H6.out.1, rfl, HK⟩
      · have hlt' : ¬ (j : Int) < (n : Int) := by omega
        obtain rfl : j = n := by omega
        have hi := HM.out.ij
        have hMl := HM.out.len
        obtain ⟨T, hbg, hg, hT⟩ : ∃ T, base ≤ g ∧ wr.heap[g]? = some (.cells (cellsOf pxcells M ++ T).toArray 81 (0, 0)) ∧ T.length = c * 2 - M.length * 2 := by
          rcases OwnOf.split HM.out.own with ⟨h0, _⟩ | ⟨g', c', T, hv, hbg, hg, h1, h2, hT⟩
          · cases h0
          · injection hv with hv1 hv2 hv3
            injection hv1 with hv1
            injection hv1 with hv1 _ _
            subst hv1 hv3
            exact ⟨T, hbg, hg, hT⟩
        have hcl := cellsOf_length (enc := pxcells) (K := 2) M
        have hjc := H7.out.2
        have HG : Hid (wr.heap[g]? = some (.cells (cellsOf pxcells M ++ T).toArray 81 (0, 0)) ∧ (cellsOf pxcells M ++ T).length = c * 2 ∧ base ≤ g) := ⟨hg, by rw [List.length_append, hcl, hT]; omega, hbg⟩
        obtain ⟨cur, hcur⟩ : ∃ z, cellsOf pxcells M ++ T = z := ⟨_, rfl⟩
        have HT : Hid (cur.take (i * 2) = cellsOf pxcells (M.take i) ∧ (M.take i).length = i ∧ i < j ∧ j ≤ c) := by
          refine ⟨?_, by rw [List.length_take]; omega, hi, hjc⟩
          rw [← hcur, List.take_append_of_le_length (by omega), cellsOf_take]
        rw [hcur] at HG
        have hci : ¬ (c = i) := by omega
        have hij2 : i ≤ j := by omega
        have hij3 : (i : Int) ≤ (j : Int) := by omega
        clear hcur hcl hbg hg hT hMl hi hjc
        go_wp2_with (refine K.wpList_clearK (K := 2) rfl (.tmp 38) 67 rfl 81 Tryz.underlying67 _ Tryz.zeroValue81 rfl zero2 (some ⟨g, i * 2, none⟩) (j - i) (c - i) (by simp [Act.eval]) g (i * 2) _ 81 HG.out.1 (fun _ => rfl) (by rw [HG.out.2.1]; have := HT.out.2.2; omega) ?_; intro w6 zs hzs HG6 only6)
        go_ret
        refine ⟨i, rfl, ?_, grown_trans HM.out.gr only6.grown⟩
        have hsp : splice cur (i * 2) zs = cellsOf pxcells (M.take i) ++ (zs ++ cur.drop (i * 2 + zs.length)) := by
          unfold splice
          rw [HT.out.1]
        have hX : X.filter (fun x => !pd x) = M.take i := by
          rw [HM.out.done, List.take_of_length_le (by rw [H0.out.2.1]; exact Nat.le_refl _)]
        rw [hX]
        have h6 := HG6.out
        rw [hsp] at h6
        refine ownOf_mk HG.out.2.2 h6 HT.out.2.1.symm (by rw [HT.out.2.1]; have := HT.out.2.2; omega) H0.out.2.2.2 ?_
        rw [HT.out.2.1, List.length_append, List.length_drop, hzs, HG.out.2.1]
        have := HT.out.2.2
        omega
end Go.Proofs.YtdbgojmjjkidbaaGreatDoor
