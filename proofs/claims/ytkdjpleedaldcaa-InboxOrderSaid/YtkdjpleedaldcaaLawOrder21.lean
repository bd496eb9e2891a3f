/-
  THE WALK of InboxOrder.
-/
import Derived.Test.YtkdjpleedaldcaaOrder21
namespace Go.Proofs.Ytkdjpleedaldcaa
open Go.RowKit Go.Maps
set_option maxRecDepth 100000

set_option maxHeartbeats 4000000 in
theorem order_law (S : Nat) (v : Value) (l : List Nat) (w : World) (hS : S < 18446744073709551616) (hr : Row w v (hcells l)) (hf : ∀ n ∈ l, n < 65536) : Calls Try.prog 4 #[.int .u64 S, v] w fun e w' => e = .returned (.bool true) ∧ Below w.heap.size w w' := by
  obtain ⟨n, hn⟩ : ∃ n, n = S % 32 + 1 := ⟨_, rfl⟩
  have hn1 : 1 ≤ n := by omega
  have hn2 : n ≤ 32 := by omega
  have e1 : (1 : Int) + (S : Int) % 32 = n := by omega
  obtain ⟨va, vc, rfl⟩ := hr.slice
  rw [hcells_length] at hr ⊢
  obtain ⟨_, hcap, HA⟩ := hr.atNums
  have hcap2 : (l.length : Int) ≤ 9223372036854775807 := by unfold maxLen at hcap; omega
  have HAC : Hid _ := HA
  have HF : Hid _ := hf
  clear hr hf HA hn
  have hN := li_new (B := w.heap.size) (w0 := w) n hn1 hn2 (Below.refl _ w) (Nat.le_refl _)
  by_cases h300 : 300 < l.length
  · have h300' : (300 : Int) < (l.length : Int) := by omega
    go_enter Try.func4, Try.ntmps4
    go_wp2_with (first
      | (go_at_call 7; refine hN.mono ?_; rintro e x0 ⟨rfl, X0, _⟩)
      | (go_at_call 9; refine (lives_any _).mono ?_; rintro e x1 ⟨rfl, B1⟩))
    go_ret
    exact ⟨rfl, X0.bel.trans (B1.mono X0.size)⟩
  · have h300' : ¬ (300 : Int) < (l.length : Int) := by omega
    have hz := zeroB300
    go_enter Try.func4, Try.ntmps4
    go_wp2_with (go_at_call 7; refine hN.mono ?_; rintro e x0 ⟨rfl, X0, _⟩; obtain ⟨W, fold⟩ : ∃ W, x0.alloc (.cells (blank 300 (.bool false)) 50) = W := ⟨_, rfl⟩)
    clear e1 hN hz
    have X1 : L3 w.heap.size w W (w.heap.size + 1) x0.heap.size (newI n) := by
      have bW : Below x0.heap.size x0 W := by rw [← fold]; exact (Below.refl _ _).alloc (Nat.le_refl _) _
      refine ⟨X0.go bW, ?_, by have := X0.lt; omega, X0.size, own3_new hn1 hn2⟩
      have h1 : Arr W x0.heap.size 50 300 (fun _ => .bool false) := by rw [← fold]; exact heap_alloc_new x0 _
      exact h1.congr fun i _ => by rw [inI_new]
    have HX1 : Hid (L3 w.heap.size w W (w.heap.size + 1) x0.heap.size (newI n)) := X1
    clear X0 X1 fold
    generalize x0.heap.size = q at *
    generalize w.heap.size + 1 = p at *
    go_loopg [6, 9, 10, 11, 12, 32] l.length (fun g u6 u9 u10 u11 u12 u32 wr => ∃ (k : Nat) (m : Ib), u32 = .int .i64 k ∧ k ≤ l.length ∧ g = l.length - k ∧ u6 = .int .i64 m.n ∧ Hid (L3 w.heap.size w wr p q m ∧ (m.h 0).isSome = false))
    case atStart => exact ⟨0, _, rfl, Nat.zero_le _, rfl, rfl, HX1.out, rfl⟩
    case round =>
      obtain ⟨k, m, rfl, hk, rfl, rfl, hX⟩ := hrel
      clear HX1
      by_cases hlt2 : k < l.length
      · have hlt : (k : Int) < (l.length : Int) := by omega
        have hx := HF.out l[k] (List.getElem_mem hlt2)
        obtain ⟨b, off, rfl, hbp, c0⟩ := HAC.out k hlt2
        have bel := hX.out.1.X.bel
        replace c0 := (bel.cell (p := ⟨b, off + k, none⟩) hbp).trans c0
        generalize l[k] = x at *
        clear HAC bel
        obtain ⟨y, hy⟩ : ∃ y, y = x % 300 := ⟨_, rfl⟩
        have hy3 : y < 300 := by omega
        have hym : (x : Int) % 300 = (y : Int) := by omega
        have hyw : IntKind.u16.wrap (y : Int) = (y : Int) := by rw [IntKind.wrap_u16]; omega
        have HY : Hid (y < 300) := hy3
        clear hy
        have HX0 : Hid (L3 w.heap.size w wr p q m) := hX.out.1
        clear hX
        have HM : Hid (mayT m y = true → m.n ≤ y ∧ inI m y = false ∧ Own3 (takeM m y (msgM y)) ∧ (takeM m y (msgM y)).n = m.n ∧ ∀ j, inI (takeM m y (msgM y)) j = if j = y then true else inI m j) := fun h => by
          obtain ⟨h1, _, h2, _⟩ := own3_may HX0.out.own HY.out h
          obtain ⟨h3, h4⟩ := own3_put HX0.out.own HY.out h
          exact ⟨h1, h2, h3, (takeM_s m y _).2, h4⟩
        have HN0 : Hid (mayT m y = false → takeM m y (msgM y) = m) := fun h => takeM_no h
        go_upto_if 44 with (first
          | (go_at_call 24; refine (msg_any y _).mono ?_; rintro e w1 ⟨rfl, b1⟩; have X1 := HX0.out.go b1; have S1 := X1.X.take (num := y) (by omega) (msgM y); have HX1 : Hid _ := X1; clear X1)
          | (go_at_call 11; refine S1.mono ?_; rintro e w2 ⟨rfl, X2, s2⟩))
        have HX2 : Hid (Li w.heap.size w w2 p (takeM m y (msgM y)) ∧ Stay p w1 w2) := ⟨X2, s2⟩
        clear S1 X2 s2 HX0 c0
        go_cut [] from 36 to 55 (fun wx => ∃ m' : Ib, m'.n = m.n ∧ Hid (L3 w.heap.size w wx p q m'))
        case first =>
          cases hmy : mayT m y with
          | false =>
            have X2 := HX2.out.1
            rw [HN0.out hmy] at X2
            go_wp2_with fail
            go_meet
            exact ⟨m, rfl, X2, HX2.out.2.cells _ _ _ _ HX1.out.ne HX1.out.A, HX1.out.ne, HX1.out.low, HX1.out.own⟩
          | true =>
            obtain ⟨h1, h2, h3, h4, h5⟩ := HM.out hmy
            have h1' : ¬ (y : Int) < (m.n : Int) := by omega
            have hy3' : (y : Int) < 300 := by omega
            have H5 : Hid (Own3 (takeM m y (msgM y)) ∧ (takeM m y (msgM y)).n = m.n ∧ ∀ j, inI (takeM m y (msgM y)) j = if j = y then true else inI m j) := ⟨h3, h4, h5⟩
            clear h3 h4 h5 hmy HM HN0
            generalize takeM m y (msgM y) = m2 at *
            have hA : Arr w2 q 50 300 (fun j => .bool (inI m j)) := HX2.out.2.cells _ _ _ _ HX1.out.ne HX1.out.A
            have HA2 : Hid (Arr w2 q 50 300 (fun j => .bool (inI m j))) := hA
            have k0 := hA.cell hy3
            have k1 := hA.free y
            simp only [h2] at k0
            clear hA h2
            go_wp2_with fail
            go_meet
            refine ⟨m2, H5.out.2.1, HX2.out.1.set HX1.out.low HX1.out.ne HA2.out y (.bool true), ?_, HX1.out.ne, HX1.out.low, H5.out.1⟩
            exact (HA2.out.set y (.bool true)).congr fun i _ => by
              rw [H5.out.2.2 i]
              by_cases hi : i = y
              · rw [if_pos hi, if_pos hi]
              · rw [if_neg hi, if_neg hi]
        case rest =>
          obtain ⟨m2, hmn, hX2⟩ := hcut
          rw [← hmn]
          clear hmn hym hyw HY hy3 HM HN0 HX1 HX2
          go_wp2_with fail
          go_loopg [6, 11, 12] 301 (fun g u6 u11 u12 wv => ∃ (m : Ib), u6 = .int .i64 m.n ∧ 301 - m.n ≤ g ∧ Hid (L3 w.heap.size w wv p q m))
          case atStart => exact ⟨m2, rfl, by omega, hX2⟩
          case round =>
            obtain ⟨m, rfl, hg, hX⟩ := hrel
            clear hX2
            have hn3 := hX.out.own.n3
            have S1 := hX.out.X.head
            have HP := own3_pop hX.out.own
            cases hh : (m.h 0).isSome with
            | false =>
              rw [hh] at S1
              generalize (m.h 0).getD zM = y at *
              clear HP
              go_wp2_with fail
              refine S1.mono ?_
              rintro e w1 ⟨rfl, b1⟩
              clear S1
              obtain ⟨W2, fold2⟩ : ∃ W, w1.alloc (.cells #[.int .i64 0, .int .u64 0, .int .i64 0, .string ⟨#[]⟩, .string ⟨#[]⟩, .string ⟨#[]⟩] 33) = W := ⟨_, rfl⟩
              obtain ⟨hh2, HE1, HE2⟩ := box_set y fold2
              obtain ⟨V2, hV2⟩ : ∃ V, V = W2.setRow w1.heap.size (mcells y).toArray := ⟨_, rfl⟩
              rw [← hV2] at HE1 HE2
              have X2 := (hX.out.go b1).go HE1
              have hb2 : Below w1.heap.size w1 V2 := HE1
              have foldV := hV2.symm
              clear HE1 hV2
              go_wp2_with (refine wpList_store_row rfl 33 _ _ rfl w1.heap.size (mcells y).toArray rfl rfl 33 (mcells zM).toArray hh2 infoMs rfl (oneMs _) ?_; rw [foldV])
              clear foldV fold2 hh2
              go_roundg (l.length - (k + 1))
              case measure => omega
              case rel => exact ⟨k + 1, m, by go_num, by omega, rfl, rfl, X2, hh⟩
            | true =>
              obtain ⟨h1, h2, h3, h4, h5, h6⟩ := HP hh
              rw [hh, h2] at S1
              clear HP h2
              go_wp2_with fail
              refine S1.mono ?_
              rintro e w1 ⟨rfl, b1⟩
              clear S1
              obtain ⟨W2, fold2⟩ : ∃ W, w1.alloc (.cells #[.int .i64 0, .int .u64 0, .int .i64 0, .string ⟨#[]⟩, .string ⟨#[]⟩, .string ⟨#[]⟩] 33) = W := ⟨_, rfl⟩
              obtain ⟨hh2, HE1, HE2⟩ := box_set (msgM m.n) fold2
              obtain ⟨V2, hV2⟩ : ∃ V, V = W2.setRow w1.heap.size (mcells (msgM m.n)).toArray := ⟨_, rfl⟩
              rw [← hV2] at HE1 HE2
              have X2 := (hX.out.go b1).go HE1
              have hb2 : Below w1.heap.size w1 V2 := HE1
              have foldV := hV2.symm
              clear HE1 hV2
              go_wp2_with (refine wpList_store_row rfl 33 _ _ rfl w1.heap.size (mcells (msgM m.n)).toArray rfl rfl 33 (mcells zM).toArray hh2 infoMs rfl (oneMs _) ?_; rw [foldV])
              clear foldV fold2 hh2
              have k0 : V2.cell? ⟨w1.heap.size, 0, none⟩ = some (.int .i64 0) := cell_of_list21 HE2 0 rfl
              have k1 : V2.cell? ⟨w1.heap.size, 1, none⟩ = some (.int .u64 0) := cell_of_list21 HE2 1 rfl
              have k2 : V2.cell? ⟨w1.heap.size, 2, none⟩ = some (.int .i64 m.n) := cell_of_list21 HE2 2 rfl
              have k3 : V2.cell? ⟨w1.heap.size, 3, none⟩ = some (.string ⟨#[]⟩) := cell_of_list21 HE2 3 rfl
              have k4 : V2.cell? ⟨w1.heap.size, 4, none⟩ = some (.string ⟨#[]⟩) := cell_of_list21 HE2 4 rfl
              have k5 : V2.cell? ⟨w1.heap.size, 5, none⟩ = some (.string ⟨#[]⟩) := cell_of_list21 HE2 5 rfl
              have hA := X2.A.cell h1
              rw [h3] at hA
              have hmsg : ∀ X, Calls Try.prog 24 #[.int .i64 m.n] X fun e w' => e = .returned (.agg #[.int .i64 0, .int .u64 0, .int .i64 m.n, .string ⟨#[]⟩, .string ⟨#[]⟩, .string ⟨#[]⟩]) ∧ Below X.heap.size X w' := msg_any m.n
              have heq : ∀ X, (binOp .neq 33 (.agg #[.int .i64 0, .int .u64 0, .int .i64 m.n, .string ⟨#[]⟩, .string ⟨#[]⟩, .string ⟨#[]⟩]) (.agg #[.int .i64 0, .int .u64 0, .int .i64 m.n, .string ⟨#[]⟩, .string ⟨#[]⟩, .string ⟨#[]⟩])).run Try.prog X = .ok (.bool false) X := fun X => by
                have := run_neM (msgM m.n) (msgM m.n) X
                rw [decide_eq_true rfl] at this
                exact this
              have hgt := eqGuardM
              have h1' : ¬ (300 : Int) ≤ (m.n : Int) := by omega
              have h1n : (m.n : Int) < 300 := by omega
              have HV : Hid (L3 w.heap.size w V2 p q m) := X2
              have HX0 : Hid (L3 w.heap.size w wr p q m) := hX.out
              have HB1 : Hid (Below wr.heap.size wr w1) := b1
              have HM : Hid (Own3 (popM m) ∧ (popM m).n = m.n + 1 ∧ ∀ j, inI (popM m) j = inI m j) := ⟨h4, h5, h6⟩
              clear X2 h4 h5 h6 hX b1 hb2 HE2 h3
              have hpop : ∀ X, L3 w.heap.size w X p q m → Calls Try.prog 13 #[.pointer (some ⟨p, 0, none⟩)] X fun e w' => e = .returned (.bool true) ∧ Li w.heap.size w w' p (popM m) ∧ Stay p X w' := fun X h => by
                have := h.X.pop
                rw [hh] at this
                exact this
              have hmp : w1.heap.size ≠ p := by have := HX0.out.X.lt; have := HB1.out.size; show w1.heap.size ≠ p; omega
              have HK4 : Hid (∀ w4, ∀ {w3}, Stay p w3 w4 → (w3.cell? ⟨w1.heap.size, 0, none⟩ = some (.int .i64 0) ∧ w3.cell? ⟨w1.heap.size, 1, none⟩ = some (.int .u64 0) ∧ w3.cell? ⟨w1.heap.size, 2, none⟩ = some (.int .i64 m.n) ∧ w3.cell? ⟨w1.heap.size, 3, none⟩ = some (.string ⟨#[]⟩) ∧ w3.cell? ⟨w1.heap.size, 4, none⟩ = some (.string ⟨#[]⟩) ∧ w3.cell? ⟨w1.heap.size, 5, none⟩ = some (.string ⟨#[]⟩) ∧ w3.cell? ⟨q, m.n, none⟩ = some (.bool true)) → (w4.cell? ⟨w1.heap.size, 0, none⟩ = some (.int .i64 0) ∧ w4.cell? ⟨w1.heap.size, 1, none⟩ = some (.int .u64 0) ∧ w4.cell? ⟨w1.heap.size, 2, none⟩ = some (.int .i64 m.n) ∧ w4.cell? ⟨w1.heap.size, 3, none⟩ = some (.string ⟨#[]⟩) ∧ w4.cell? ⟨w1.heap.size, 4, none⟩ = some (.string ⟨#[]⟩) ∧ w4.cell? ⟨w1.heap.size, 5, none⟩ = some (.string ⟨#[]⟩) ∧ w4.cell? ⟨q, m.n, none⟩ = some (.bool true))) := fun w4 w3 st h => ⟨st.cell h.1 hmp, st.cell h.2.1 hmp, st.cell h.2.2.1 hmp, st.cell h.2.2.2.1 hmp, st.cell h.2.2.2.2.1 hmp, st.cell h.2.2.2.2.2.1 hmp, st.cell h.2.2.2.2.2.2 HX0.out.ne⟩
              -- R16
              refine wp_region_noPanic ?_
              refine wp_region_held_drew (S := fun w' => w'.cell? ⟨w1.heap.size, 0, none⟩ = some (.int .i64 0) ∧ w'.cell? ⟨w1.heap.size, 1, none⟩ = some (.int .u64 0) ∧ w'.cell? ⟨w1.heap.size, 2, none⟩ = some (.int .i64 m.n) ∧ w'.cell? ⟨w1.heap.size, 3, none⟩ = some (.string ⟨#[]⟩) ∧ w'.cell? ⟨w1.heap.size, 4, none⟩ = some (.string ⟨#[]⟩) ∧ w'.cell? ⟨w1.heap.size, 5, none⟩ = some (.string ⟨#[]⟩) ∧ w'.cell? ⟨q, m.n, none⟩ = some (.bool true)) (by kernel_rfl) (⟨k0, k1, k2, k3, k4, k5, hA⟩) (fun hHeld => ?_)
              refine wpAnyH_take (i := 0) (v := .agg #[.int .i64 0, .int .u64 0, .int .i64 m.n, .string ⟨#[]⟩, .string ⟨#[]⟩, .string ⟨#[]⟩]) (by simp only [List.getElem?_toArray, List.getElem?_cons_zero]; rfl) (by kernel_rfl) (by kernel_rfl) (by kernel_rfl) (fun _ _ _ h => h) (Or.inl ⟨by rfl, by intro wq hSq; obtain ⟨q0, q1, q2, q3, q4, q5, q6⟩ := hSq; go_simp; try with_reducible rfl⟩) (by assumption) ?_
              try simp only [Act.put, List.setIfInBounds_toArray, List.set_cons_zero, List.set_cons_succ]
              refine wpAnyH_take (i := 1) (v := ?_) (by simp only [List.getElem?_toArray, List.getElem?_cons_succ, List.getElem?_cons_zero]; rfl) (by kernel_rfl) (by kernel_rfl) (by kernel_rfl) (fun _ _ _ h => h) (Or.inl ⟨by rfl, ?_⟩) (by assumption) ?_
              rotate_left
              · (intro wq hSq; clear hSq; go_simp; try with_reducible rfl)
              try simp only [Act.put, List.setIfInBounds_toArray, List.set_cons_zero, List.set_cons_succ]
              refine wpAnyH_ready (rs := [2]) (by kernel_rfl) (by simp) ?_
              refine AllReadyH.cons rfl (fun K hK => ?_) AllReadyH.nil
              have HS2 : Hid _ := hHeld
              clear hHeld
              go_simp
              go_at_call 24
              refine (hmsg V2.drew).mono ?_
              rintro e w3 ⟨rfl, b3⟩
              have X3 : Hid (L3 w.heap.size w w3 p q m) := HV.out.go ((Below.refl _ V2).drew.trans b3)
              have HS3 : Hid (w3.cell? ⟨w1.heap.size, 0, none⟩ = some (.int .i64 0) ∧ w3.cell? ⟨w1.heap.size, 1, none⟩ = some (.int .u64 0) ∧ w3.cell? ⟨w1.heap.size, 2, none⟩ = some (.int .i64 m.n) ∧ w3.cell? ⟨w1.heap.size, 3, none⟩ = some (.string ⟨#[]⟩) ∧ w3.cell? ⟨w1.heap.size, 4, none⟩ = some (.string ⟨#[]⟩) ∧ w3.cell? ⟨w1.heap.size, 5, none⟩ = some (.string ⟨#[]⟩) ∧ w3.cell? ⟨q, m.n, none⟩ = some (.bool true)) := ⟨cell_on b3 k0, cell_on b3 k1, cell_on b3 k2, cell_on b3 k3, cell_on b3 k4, cell_on b3 k5, cell_on b3 hA⟩
              clear b3
              try dsimp only
              refine hK.out _ _ (HS3.out) (fun hHeld => ?_)
              clear hK K
              try simp only [Act.put, List.setIfInBounds_toArray, List.set_cons_zero, List.set_cons_succ]
              refine wpAnyH_take (i := 3) (v := .bool false) (by simp only [List.getElem?_toArray, List.getElem?_cons_succ, List.getElem?_cons_zero]; rfl) (by kernel_rfl) (by kernel_rfl) (by kernel_rfl) (fun _ _ _ h => h) (Or.inl ⟨by rfl, by intro wq hSq; clear hSq; go_simp; try with_reducible rfl⟩) (by assumption) ?_
              try simp only [Act.put, List.setIfInBounds_toArray, List.set_cons_zero, List.set_cons_succ]
              refine wpAnyH_take (i := 4) (v := ?_) (by simp only [List.getElem?_toArray, List.getElem?_cons_succ, List.getElem?_cons_zero]; rfl) (by kernel_rfl) (by kernel_rfl) (by kernel_rfl) (fun _ _ _ h => h) (Or.inl ⟨by rfl, ?_⟩) (by assumption) ?_
              rotate_left
              · (intro wq hSq; clear hSq; go_simp; try with_reducible rfl)
              try simp only [Act.put, List.setIfInBounds_toArray, List.set_cons_zero, List.set_cons_succ]
              refine wpAnyH_take (i := 5) (v := ?_) (by simp only [List.getElem?_toArray, List.getElem?_cons_succ, List.getElem?_cons_zero]; rfl) (by kernel_rfl) (by kernel_rfl) (by kernel_rfl) (fun _ _ _ h => h) (Or.inl ⟨by rfl, ?_⟩) (by assumption) ?_
              rotate_left
              · (intro wq hSq; clear hSq; go_simp; try with_reducible rfl)
              try simp only [Act.put, List.setIfInBounds_toArray, List.set_cons_zero, List.set_cons_succ]
              refine wpAnyH_take (i := 6) (v := .bool false) (by simp only [List.getElem?_toArray, List.getElem?_cons_succ, List.getElem?_cons_zero]; rfl) (by kernel_rfl) (by kernel_rfl) (by kernel_rfl) (fun _ _ _ h => h) (Or.inl ⟨by rfl, by intro wq hSq; clear hSq; go_simp; try with_reducible rfl⟩) (by assumption) ?_
              try simp only [Act.put, List.setIfInBounds_toArray, List.set_cons_zero, List.set_cons_succ]
              refine wpAnyH_take (i := 7) (v := ?_) (by simp only [List.getElem?_toArray, List.getElem?_cons_succ, List.getElem?_cons_zero]; rfl) (by kernel_rfl) (by kernel_rfl) (by kernel_rfl) (fun _ _ _ h => h) (Or.inl ⟨by rfl, ?_⟩) (by assumption) ?_
              rotate_left
              · (intro wq hSq; clear hSq; go_simp; try with_reducible rfl)
              try simp only [Act.put, List.setIfInBounds_toArray, List.set_cons_zero, List.set_cons_succ]
              refine wpAnyH_take (i := 8) (v := ?_) (by simp only [List.getElem?_toArray, List.getElem?_cons_succ, List.getElem?_cons_zero]; rfl) (by kernel_rfl) (by kernel_rfl) (by kernel_rfl) (fun _ _ _ h => h) (Or.inl ⟨by rfl, ?_⟩) (by assumption) ?_
              rotate_left
              · (intro wq hSq; clear hSq; go_simp; try with_reducible rfl)
              try simp only [Act.put, List.setIfInBounds_toArray, List.set_cons_zero, List.set_cons_succ]
              refine wpAnyH_take (i := 9) (v := ?_) (by simp only [List.getElem?_toArray, List.getElem?_cons_succ, List.getElem?_cons_zero]; rfl) (by kernel_rfl) (by kernel_rfl) (by kernel_rfl) (fun _ _ _ h => h) (Or.inl ⟨by rfl, ?_⟩) (by assumption) ?_
              rotate_left
              · (intro wq hSq; clear hSq; go_simp; try with_reducible rfl)
              try simp only [Act.put, List.setIfInBounds_toArray, List.set_cons_zero, List.set_cons_succ]
              refine wpAnyH_take (i := 10) (v := .pointer (some ⟨q, m.n, none⟩)) (by simp only [List.getElem?_toArray, List.getElem?_cons_succ, List.getElem?_cons_zero]; rfl) (by kernel_rfl) (by kernel_rfl) (by kernel_rfl) (fun _ _ _ h => h) (Or.inl ⟨by rfl, by intro wq hSq; clear hSq; go_simp; try with_reducible rfl⟩) (by assumption) ?_
              try simp only [Act.put, List.setIfInBounds_toArray, List.set_cons_zero, List.set_cons_succ]
              refine wpAnyH_take (i := 11) (v := .bool true) (by simp only [List.getElem?_toArray, List.getElem?_cons_succ, List.getElem?_cons_zero]; rfl) (by kernel_rfl) (by kernel_rfl) (by kernel_rfl) (fun _ _ _ h => h) (Or.inl ⟨by rfl, by intro wq hSq; obtain ⟨q0, q1, q2, q3, q4, q5, q6⟩ := hSq; go_simp; try with_reducible rfl⟩) (by assumption) ?_
              try simp only [Act.put, List.setIfInBounds_toArray, List.set_cons_zero, List.set_cons_succ]
              refine wpAnyH_take (i := 12) (v := .bool false) (by simp only [List.getElem?_toArray, List.getElem?_cons_succ, List.getElem?_cons_zero]; rfl) (by kernel_rfl) (by kernel_rfl) (by kernel_rfl) (fun _ _ _ h => h) (Or.inl ⟨by rfl, by intro wq hSq; clear hSq; go_simp; try with_reducible rfl⟩) (by assumption) ?_
              try simp only [Act.put, List.setIfInBounds_toArray, List.set_cons_zero, List.set_cons_succ]
              refine wpAnyH_take (i := 13) (v := ?_) (by simp only [List.getElem?_toArray, List.getElem?_cons_succ, List.getElem?_cons_zero]; rfl) (by kernel_rfl) (by kernel_rfl) (by kernel_rfl) (fun _ _ _ h => h) (Or.inl ⟨by rfl, ?_⟩) (by assumption) ?_
              rotate_left
              · (intro wq hSq; clear hSq; go_simp; try with_reducible rfl)
              try simp only [Act.put, List.setIfInBounds_toArray, List.set_cons_zero, List.set_cons_succ]
              refine wpAnyH_take (i := 14) (v := ?_) (by simp only [List.getElem?_toArray, List.getElem?_cons_succ, List.getElem?_cons_zero]; rfl) (by kernel_rfl) (by kernel_rfl) (by kernel_rfl) (fun _ _ _ h => h) (Or.inl ⟨by rfl, ?_⟩) (by assumption) ?_
              rotate_left
              · (intro wq hSq; clear hSq; go_simp; try with_reducible rfl)
              try simp only [Act.put, List.setIfInBounds_toArray, List.set_cons_zero, List.set_cons_succ]
              refine wpAnyH_take (i := 15) (v := ?_) (by simp only [List.getElem?_toArray, List.getElem?_cons_succ, List.getElem?_cons_zero]; rfl) (by kernel_rfl) (by kernel_rfl) (by kernel_rfl) (fun _ _ _ h => h) (Or.inl ⟨by rfl, ?_⟩) (by assumption) ?_
              rotate_left
              · (intro wq hSq; clear hSq; go_simp; try with_reducible rfl)
              try simp only [Act.put, List.setIfInBounds_toArray, List.set_cons_zero, List.set_cons_succ]
              refine wpAnyH_ready (rs := [16]) (by kernel_rfl) (by simp) ?_
              refine AllReadyH.cons rfl (fun K hK => ?_) AllReadyH.nil
              have HS16 : Hid _ := hHeld
              clear hHeld
              go_simp
              go_at_call 13
              refine (hpop w3 X3.out).mono ?_
              rintro e w4 ⟨rfl, X4, s4⟩
              try dsimp only
              refine hK.out _ _ (HK4.out w4 s4 HS3.out) (fun hHeld => ?_)
              clear hK K
              try simp only [Act.put, List.setIfInBounds_toArray, List.set_cons_zero, List.set_cons_succ]
              refine wpAnyH_take (i := 17) (v := .bool false) (by simp only [List.getElem?_toArray, List.getElem?_cons_succ, List.getElem?_cons_zero]; rfl) (by kernel_rfl) (by kernel_rfl) (by kernel_rfl) (fun _ _ _ h => h) (Or.inl ⟨by rfl, by intro wq hSq; clear hSq; go_simp; try with_reducible rfl⟩) (by assumption) ?_
              try simp only [Act.put, List.setIfInBounds_toArray, List.set_cons_zero, List.set_cons_succ]
              refine wpAnyH_take (i := 18) (v := ?_) (by simp only [List.getElem?_toArray, List.getElem?_cons_succ, List.getElem?_cons_zero]; rfl) (by kernel_rfl) (by kernel_rfl) (by kernel_rfl) (fun _ _ _ h => h) (Or.inl ⟨by rfl, ?_⟩) (by assumption) ?_
              rotate_left
              · (intro wq hSq; clear hSq; go_simp; try with_reducible rfl)
              try simp only [Act.put, List.setIfInBounds_toArray, List.set_cons_zero, List.set_cons_succ]
              refine wpAnyH_done (by kernel_rfl) ?_ _
              refine NoPanic.normal ?_
              -- ENDR16
              clear hmsg heq hgt hpop HK4 k0 k1 k2 k3 k4 k5 hA h1' HS3 hmp hHeld
              go_wp2
              go_roundg (301 - (m.n + 1))
              case measure => omega
              case rel =>
                refine ⟨popM m, by rw [HM.out.2.1]; go_num, by rw [HM.out.2.1]; omega, X4, ?_, X3.out.ne, X3.out.low, HM.out.1⟩
                have hA4 : Arr w4 q 50 300 (fun j => .bool (inI m j)) := s4.cells _ _ _ _ X3.out.ne X3.out.A
                exact hA4.congr fun i _ => by rw [HM.out.2.2 i]
      · obtain rfl : k = l.length := by omega
        have hh := hX.out.2
        have X1 := hX.out.1
        have hn3 := X1.own.n3
        have hE := own3_end hh
        have hA := X1.A
        have hN := X1.X.next
        have HL : Hid (Li w.heap.size w wr p m) := X1.X
        have HH : Hid (inI m m.n = false) := hE
        have HA3 : Hid (Arr wr q 50 300 (fun j => .bool (inI m j))) := hA
        clear HAC HF hX hh hE hA X1
        by_cases h3 : m.n = 300
        · have h3' : ((m.n : Int) == 300) = true := by simp; omega
          go_wp2_with (first
            | (go_at_call 23; refine hN.mono ?_; rintro e wr ⟨rfl, rfl⟩)
            | (go_at_call 9; refine (lives_any _).mono ?_; rintro e x1 ⟨rfl, B1⟩))
          go_ret
          exact ⟨rfl, HL.out.bel.trans (B1.mono HL.out.size)⟩
        · have h3' : ((m.n : Int) == 300) = false := by simp; omega
          have k0 := HA3.out.cell (i := m.n) (by omega)
          rw [HH.out] at k0
          have h3n : (m.n : Int) < 300 := by omega
          go_wp2_with (first
            | (go_at_call 23; refine hN.mono ?_; rintro e wr ⟨rfl, rfl⟩)
            | (go_at_call 9; refine (lives_any _).mono ?_; rintro e x1 ⟨rfl, B1⟩))
          go_ret
          exact ⟨rfl, HL.out.bel.trans (B1.mono HL.out.size)⟩
end Go.Proofs.Ytkdjpleedaldcaa
