/-
  PACKAGE seen: New, Has, Add, Put, by their contracts.
-/
import Derived.Test.YtnlllpgdhnmccaaOf
import Derived.Test.YtnlllpgdhnmccaaFrom
namespace Go.Proofs.Ytnlllpgdhnmccaa
open Go.RowKit Go.Sort

/-- An id, boxed. -/
theorem id_cells (w : World) (o : Int) (n : Nat) : (w.alloc (.cells #[.int .i64 o, .int .u64 (n : Int)] 25)).cell? ⟨w.heap.size, 0, none⟩ = some (.int .i64 o) ∧ (w.alloc (.cells #[.int .i64 o, .int .u64 (n : Int)] 25)).cell? ⟨w.heap.size, 1, none⟩ = some (.int .u64 (n : Int)) := by
  have := heap_alloc_new w (.cells #[.int .i64 o, .int .u64 (n : Int)] 25)
  exact ⟨(cells2 this).1, (cells2 this).2.1⟩
theorem setNil_add (n : Nat) (w : World) :
    Calls Try.prog 26 #[.pointer none, .int .u64 (n : Int)] w fun e w' => e = .returned (.bool false) ∧ w' = w := by
  go_enter Try.func26, Try.ntmps26
  go_wp2
  go_ret
  exact ⟨rfl, rfl⟩

set_option maxRecDepth 20000 in
set_option maxHeartbeats 2000000 in
theorem bhas_any (b : Value) (f : Nat → List (Nat × Nat)) (o : Int) (n : Nat) (w : World) (h : Told w b f) (hf : Apart 1 (ofF f o)) (hlen : (ofF f o).length ≤ 1000000) :
    Calls Try.prog 13 #[b, .agg #[.int .i64 o, .int .u64 (n : Int)]] w fun e w' => e = .returned (.bool (memB (ofF f o) n)) ∧ Below w.heap.size w w' := by
  obtain ⟨W, fold⟩ : ∃ W, w.alloc (.cells #[.int .i64 o, .int .u64 (n : Int)] 25) = W := ⟨_, rfl⟩
  have bW : Below w.heap.size w W := by rw [← fold]; exact (Below.refl _ _).alloc (Nat.le_refl _) _
  obtain ⟨e0, e1⟩ : W.cell? ⟨w.heap.size, 0, none⟩ = some (.int .i64 o) ∧ W.cell? ⟨w.heap.size, 1, none⟩ = some (.int .u64 (n : Int)) := by rw [← fold]; exact id_cells w o n
  have bD : Below w.heap.size w W.drew := bW.drew
  have hO := of_any b f o W.drew (h.below bD)
  have HH : Hid (∀ V s, Lies V s (ofF f o) → Calls Try.prog 33 #[s, .int .u64 (n : Int)] V fun e w' => e = .returned (.bool (memB (ofF f o) n)) ∧ Below V.heap.size V w') := fun V s hs => has_any s _ n V hs hf hlen
  generalize memB (ofF f o) n = r at HH ⊢
  generalize ofF f o = l at HH hO
  obtain ⟨q, rfl⟩ := h.ptr
  clear h hf hlen
  go_enter Try.func13, Try.ntmps13
  go_wp2
  go_region_held3 (fun w' => w'.cell? ⟨w.heap.size, 0, none⟩ = some (.int .i64 o) ∧ w'.cell? ⟨w.heap.size, 1, none⟩ = some (.int .u64 (n : Int))) (go_keep) (first
    | (go_at_call 25; refine hO.mono ?_; rintro e w3 ⟨s, rfl, hl, rfl⟩; obtain ⟨q2, rfl⟩ := hl.ptr)
    | (go_at_call 33; refine (HH.out _ _ hl).mono ?_; rintro e w4 ⟨rfl, b4⟩; have k0 := cell_on b4 e0; have k1 := cell_on b4 e1))
  all_goals go_wp2
  all_goals go_ret
  all_goals exact ⟨rfl, bD.trans (b4.mono bD.size)⟩

set_option maxRecDepth 20000 in
set_option maxHeartbeats 2000000 in
theorem badd_in (p i : Nat) (S : Nat → Nat) (v : Nat → Value) (f : Nat → List (Nat × Nat)) (o : Int) (n : Nat) (w : World) (h : BkAt w p S v f) (hi : i < 8) (ho : o = (i : Int) + 1) (hf : Fine (f i)) (hlen : (f i).length ≤ 100000) (hn : n < 18446744073709551616) :
    Calls Try.prog 10 #[ptrS p, .agg #[.int .i64 o, .int .u64 (n : Int)]] w fun e w' => e = .returned (.bool (newB (f i) n)) ∧ ∃ v', BkAt w' p S (putF v i v') (putF f i (addS (f i) n)) ∧ Moved w w' (footB p S v) (footB p S (putF v i v')) := by
  obtain ⟨W, fold⟩ : ∃ W, w.alloc (.cells #[.int .i64 o, .int .u64 (n : Int)] 25) = W := ⟨_, rfl⟩
  have bW : Below w.heap.size w W := by rw [← fold]; exact (Below.refl _ _).alloc (Nat.le_refl _) _
  obtain ⟨e0, e1⟩ : W.cell? ⟨w.heap.size, 0, none⟩ = some (.int .i64 o) ∧ W.cell? ⟨w.heap.size, 1, none⟩ = some (.int .u64 (n : Int)) := by rw [← fold]; exact id_cells w o n
  have bD : Below w.heap.size w W.drew := bW.drew
  have hBk : BkAt W.drew p S v f := h.same fun k hk => bD.block k (h.lts k hk)
  have hO : Calls Try.prog 25 #[.pointer (some ⟨p, 0, none⟩), .int .i64 o] W.drew (fun e w' => e = .returned (.pointer (some ⟨S i, 0, none⟩)) ∧ w' = W.drew) := of_ptr p i o _ W.drew hi ho hBk.blk
  have hA := add_any (S i) n (v i) (f i) W.drew (hBk.set i hi) hf.1 hf.2 hn hlen
  have HX : Hid (∀ w', Turned W.drew w' (S i) (v i) → w'.cell? ⟨w.heap.size, 0, none⟩ = some (.int .i64 o) ∧ w'.cell? ⟨w.heap.size, 1, none⟩ = some (.int .u64 (n : Int))) := fun w' t => by
    have hx : w'.heap[w.heap.size]? = W.drew.heap[w.heap.size]? := t.block _ (World.block_lt_of_cell? W _ e0) (fun e => by have := h.lts (S i) (.inr ⟨i, hi, .inl rfl⟩); omega) (fun e => by have := h.lts _ (.inr ⟨i, hi, .inr e⟩); omega)
    exact ⟨(World.cell?_of_block (a := ⟨w.heap.size, 0, none⟩) hx).trans e0, (World.cell?_of_block (a := ⟨w.heap.size, 1, none⟩) hx).trans e1⟩
  have hend : Hid (∀ w' v', SetAt w' (S i) v' (addS (f i) n) → Turned W.drew w' (S i) (v i) → NewOr W.drew (v i) v' → BkAt w' p S (putF v i v') (putF f i (addS (f i) n)) ∧ Moved w w' (footB p S v) (footB p S (putF v i v'))) := fun w' v' hs t nw =>
    ⟨hBk.add hi hs t nw, (Moved.of_below bD).trans (t.moved hi nw)⟩
  clear h hf hlen hBk hi ho hn bW
  generalize newB (f i) n = r at hA ⊢
  unfold ptrS at *
  go_enter Try.func10, Try.ntmps10
  go_wp2
  go_region_held3 (fun w' => w'.cell? ⟨w.heap.size, 0, none⟩ = some (.int .i64 o) ∧ w'.cell? ⟨w.heap.size, 1, none⟩ = some (.int .u64 (n : Int))) (go_keep) (first
    | (go_at_call 25; refine hO.mono ?_; rintro e w3 ⟨rfl, rfl⟩)
    | (go_at_call 26; refine hA.mono ?_; rintro e w4 ⟨rfl, v', s4, t4, nw⟩; have HE : Hid _ := hend.out w4 v' s4 t4 nw; obtain ⟨k0, k1⟩ := HX.out w4 t4; clear s4 t4 nw))
  all_goals go_wp2
  all_goals go_ret
  all_goals exact ⟨rfl, v', HE.out⟩
set_option maxRecDepth 20000 in
set_option maxHeartbeats 2000000 in
theorem badd_nil (b : Value) (o : Int) (n : Nat) (w : World) (hb : ∃ q, b = .pointer q) (h : ∀ V, Below w.heap.size w V → Calls Try.prog 25 #[b, .int .i64 o] V fun e w' => e = .returned (.pointer none) ∧ w' = V) :
    Calls Try.prog 10 #[b, .agg #[.int .i64 o, .int .u64 (n : Int)]] w fun e w' => e = .returned (.bool false) ∧ Below w.heap.size w w' := by
  obtain ⟨W, fold⟩ : ∃ W, w.alloc (.cells #[.int .i64 o, .int .u64 (n : Int)] 25) = W := ⟨_, rfl⟩
  have bW : Below w.heap.size w W := by rw [← fold]; exact (Below.refl _ _).alloc (Nat.le_refl _) _
  obtain ⟨e0, e1⟩ : W.cell? ⟨w.heap.size, 0, none⟩ = some (.int .i64 o) ∧ W.cell? ⟨w.heap.size, 1, none⟩ = some (.int .u64 (n : Int)) := by rw [← fold]; exact id_cells w o n
  have bD : Below w.heap.size w W.drew := bW.drew
  have hO := h W.drew bD
  have hA := setNil_add n W.drew
  obtain ⟨q, rfl⟩ := hb
  clear h
  go_enter Try.func10, Try.ntmps10
  go_wp2
  go_region_held3 (fun w' => w'.cell? ⟨w.heap.size, 0, none⟩ = some (.int .i64 o) ∧ w'.cell? ⟨w.heap.size, 1, none⟩ = some (.int .u64 (n : Int))) (go_keep) (first
    | (go_at_call 25; refine hO.mono ?_; rintro e w3 ⟨rfl, rfl⟩)
    | (go_at_call 26; refine hA.mono ?_; rintro e w4 ⟨rfl, rfl⟩))
  all_goals go_wp2
  all_goals go_ret
  all_goals exact ⟨rfl, bD⟩
theorem badd_any (p : Nat) (F : Nat → Prop) (f : Nat → List (Nat × Nat)) (o : Int) (n : Nat) (w : World) (h : Bk w p F f) (hf : FineF f) (hlen : LenF 100000 f) (hn : n < 18446744073709551616) :
    Calls Try.prog 10 #[ptrS p, .agg #[.int .i64 o, .int .u64 (n : Int)]] w fun e w' => e = .returned (.bool (freshF f o n)) ∧ ∃ F', Bk w' p F' (addF f o n) ∧ Moved w w' F F' := by
  obtain ⟨S, v, hb, hF⟩ := h
  have e : F = footB p S v := funext fun k => propext (hF k)
  subst e
  by_cases ho : 1 ≤ o ∧ o ≤ 8
  · obtain ⟨i, hi, he⟩ := known_at ho
    refine (badd_in p i S v f o n w hb hi he (hf i hi) (hlen i hi) hn).mono ?_
    rintro e w' ⟨rfl, v', h1, h2⟩
    exact ⟨ret_bool (freshF_in hi he).symm, _, ⟨S, _, by rw [addF_in hi he]; exact h1, fun _ => Iff.rfl⟩, h2⟩
  · refine (badd_nil _ o n w ⟨_, rfl⟩ fun V _ => of_none o _ V (.inr ⟨p, rfl⟩) (.inr ho)).mono ?_
    rintro e w' ⟨rfl, b⟩
    exact ⟨ret_bool (freshF_out ho).symm, _, ⟨S, v, by rw [addF_out ho]; exact hb.same fun k hk => b.block k (hb.lts k hk), fun _ => Iff.rfl⟩, .of_below b⟩

/-- What a Put says, and does. -/
def putE (o : Int) (l : List (Nat × Nat)) : Int := if 1 ≤ o ∧ o ≤ 8 then (if goodB 1 l = true then 0 else 7) else 2
def putS (f : Nat → List (Nat × Nat)) (o : Int) (l : List (Nat × Nat)) : Nat → List (Nat × Nat) := if (1 ≤ o ∧ o ≤ 8) ∧ goodB 1 l = true then putF f (o - 1).toNat l else f
theorem putS_in {f : Nat → List (Nat × Nat)} {o : Int} {i : Nat} {l : List (Nat × Nat)} (hi : i < 8) (h : o = (i : Int) + 1) (hg : goodB 1 l = true) : putS f o l = putF f i l := by
  subst h
  unfold putS
  rw [if_pos ⟨by omega, hg⟩, show ((i : Int) + 1 - 1).toNat = i by omega]
theorem BkAt.moved_put {w w1 : World} {p : Nat} {S : Nat → Nat} {v : Nat → Value} {i B : Nat} {v' : Value} (hi : i < 8) (b : Below w.heap.size w w1) (hfr : From0 w.heap.size B v') : Moved w (w1.setCell ⟨p, i, none⟩ (ptrS B)) (footB p S v) (footB p (putF S i B) (putF v i v')) := by
  refine ⟨b.os, b.tape, b.output, by simpa using b.size, fun k hk hn => ?_, ?_⟩
  · rw [Below.heap_setCell _ _ _ _ (fun e => hn (.inl e)), b.block k hk]
  · rintro k (rfl | ⟨j, hj, hk⟩)
    · exact .inl (.inl rfl)
    · by_cases e : j = i
      · subst e
        rw [putF_at, putF_at] at hk
        rcases hk with rfl | hk
        · exact .inr hfr.1
        · exact .inr (hfr.2 k hk)
      · rw [putF_ne _ _ e, putF_ne _ _ e] at hk
        exact .inl (.inr ⟨j, hj, hk⟩)

set_option maxRecDepth 20000 in
set_option maxHeartbeats 2000000 in
theorem bput_any (p : Nat) (F : Nat → Prop) (f : Nat → List (Nat × Nat)) (o : Int) (lv : Value) (l : List (Nat × Nat)) (w : World) (h : Bk w p F f) (hr : Rng w lv l) (hu : Upto 18446744073709551616 l) (hlen : l.length ≤ 1000000) :
    Calls Try.prog 15 #[ptrS p, .int .i64 o, lv] w fun e w' => e = .returned (.int .i64 (putE o l)) ∧ ∃ F', Bk w' p F' (putS f o l) ∧ Moved w w' F F' := by
  have hM := made_any p F f w h
  have hK := known_any o w
  have hF := from_any lv l w hr hu hlen
  obtain ⟨la, lc, rfl⟩ := hr.slice
  clear hr
  unfold ptrS at hM ⊢
  by_cases ho : 1 ≤ o ∧ o ≤ 8
  · rw [show knownB o = true from decide_eq_true ho] at hK
    have hE : Hid (putE o l = if goodB 1 l = true then 0 else 7) := if_pos ho
    obtain ⟨i, hi, he⟩ := known_at ho
    have hw : IntKind.i64.wrap (o - 1) = (i : Int) := by rw [IntKind.wrap_i64]; omega
    have hi' : (i : Int) < 8 := by omega
    have HI : Hid (goodB 1 l = true → putS f o l = putF f i l) := fun hg => putS_in hi he hg
    have HN : Hid (goodB 1 l = false → putS f o l = f) := fun hg => if_neg fun hh => by rw [hg] at hh; cases hh.2
    clear ho he
    go_enter Try.func15, Try.ntmps15
    go_wp2_with fail
    refine hM.mono ?_
    rintro e w ⟨rfl, rfl⟩
    go_wp2_with fail
    refine hK.mono ?_
    rintro e w ⟨rfl, rfl⟩
    go_wp2_with fail
    refine hF.mono ?_
    rintro e w1 ⟨b1, ⟨hg, B, v', rfl, hs, hfr⟩ | ⟨hg, rfl⟩⟩
    · obtain ⟨S, v, hb, hFk⟩ := h
      have e : F = footB p S v := funext fun k => propext (hFk k)
      subst e
      have hb1 : BkAt w1 p S v f := hb.same fun k hk => b1.block k (hb.lts k hk)
      have c0 : w1.cell? ⟨p, i, none⟩ = some (ptrS (S i)) := by rw [cell_of_list hb1.blk, fcells_get _ hi]
      have f0 : w1.frozen? ⟨p, i, none⟩ = false := by simp [World.frozen?, hb1.blk]
      have HE : Hid (BkAt (w1.setCell ⟨p, i, none⟩ (ptrS B)) p (putF S i B) (putF v i v') (putF f i l)) := hb1.put hi hs hfr fun k hk => hb.lts k hk
      have HM : Hid (Moved w (w1.setCell ⟨p, i, none⟩ (ptrS B)) (footB p S v) (footB p (putF S i B) (putF v i v'))) := BkAt.moved_put hi b1 hfr
      clear hb hb1 hs hfr hF
      unfold ptrS at *
      go_wp2
      go_ret
      exact ⟨ret_int (by rw [hE.out, if_pos hg]), _, ⟨_, _, by rw [HI.out hg]; exact HE.out, fun _ => Iff.rfl⟩, HM.out⟩
    · go_wp2
      go_ret
      exact ⟨ret_int (by rw [hE.out, hg]; rfl), _, by rw [HN.out hg]; exact h.kept b1, .of_below b1⟩
  · rw [show knownB o = false from decide_eq_false ho] at hK
    have hE : Hid (putE o l = 2) := if_neg ho
    have HN : Hid (putS f o l = f) := if_neg fun hh => ho hh.1
    go_enter Try.func15, Try.ntmps15
    go_wp2_with fail
    refine hM.mono ?_
    rintro e w ⟨rfl, rfl⟩
    go_wp2_with fail
    refine hK.mono ?_
    rintro e w ⟨rfl, rfl⟩
    go_wp2
    go_ret
    exact ⟨ret_int (by rw [hE.out]), _, by rw [HN.out]; exact h, .refl _ _⟩

/-- The book while New fills it. -/
structure Fill (w wr : World) (k : Nat) : Prop where
  blk : wr.heap[w.heap.size]? = some (.cells (fcells 8 fun j => if j < k then ptrS (w.heap.size + 1 + j) else .pointer none).toArray 50 (0, 0))
  size : wr.heap.size = w.heap.size + 1 + k
  set : ∀ j, j < k → wr.heap[w.heap.size + 1 + j]? = some (.cells #[.bool true, .slice none 0 0] 80 (0, 0))
  bel : Below w.heap.size w wr
theorem Fill.drew {w wr : World} {k : Nat} (h : Fill w wr k) : Fill w wr.drew k := ⟨h.blk, h.size, h.set, h.bel.drew⟩
theorem Fill.step {w wr : World} {k : Nat} (h : Fill w wr k) : Fill w ((wr.alloc (.cells #[.bool true, .slice none 0 0] 80)).setCell ⟨w.heap.size, k, none⟩ (.pointer (some ⟨wr.heap.size, 0, none⟩))) (k + 1) := by
  have hlt : w.heap.size < wr.heap.size := by have := h.size; omega
  have hb : (wr.alloc (.cells #[.bool true, .slice none 0 0] 80)).heap[w.heap.size]? = _ := (Below.heap_alloc wr _ _ hlt).trans h.blk
  refine ⟨?_, ?_, fun j hj => ?_, (h.bel.alloc h.bel.size _).setCell (p := ⟨w.heap.size, k, none⟩) (Nat.le_refl _) _⟩
  · rw [heap_fset hb, fcells_congr (t := fun j => if j < k + 1 then ptrS (w.heap.size + 1 + j) else .pointer none)]
    intro j _
    unfold putF
    by_cases e : j = k
    · subst e
      rw [if_pos rfl, if_pos (by omega), ← h.size]
      rfl
    · rw [if_neg e]
      show (if j < k then _ else _) = _
      by_cases e2 : j < k
      · rw [if_pos e2, if_pos (by omega)]
      · rw [if_neg e2, if_neg (by omega)]
  · simp [h.size]; omega
  · rw [Below.heap_setCell _ _ _ _ (show w.heap.size + 1 + j ≠ w.heap.size by omega)]
    by_cases e : j = k
    · subst e
      rw [← h.size]
      exact heap_alloc_new wr _
    · rw [Below.heap_alloc wr _ _ (by rw [h.size]; omega)]
      exact h.set j (by omega)
theorem Fill.done {w wr : World} (h : Fill w wr 8) : ∃ F, Bk wr w.heap.size F (fun _ => []) ∧ ∀ k, F k → w.heap.size ≤ k := by
  refine ⟨_, ⟨fun j => w.heap.size + 1 + j, fun _ => .slice none 0 0, ⟨?_, fun i hi => ⟨h.set i hi, own2_nil _ _⟩, fun i j _ _ e => by omega, fun i j _ _ _ g hg => by simp [Value.ownBlock] at hg⟩, fun _ => Iff.rfl⟩, ?_⟩
  · rw [h.blk, fcells_congr (t := fun i => ptrS (w.heap.size + 1 + i))]
    intro i hi
    rw [if_pos hi]
  · rintro k (rfl | ⟨i, hi, rfl | hk⟩)
    · exact Nat.le_refl _
    · show w.heap.size ≤ w.heap.size + 1 + i
      omega
    · simp [Value.ownBlock] at hk

set_option maxRecDepth 20000 in
set_option maxHeartbeats 2000000 in
theorem bnew_any (w : World) :
    Calls Try.prog 9 #[] w fun e w' => e = .returned (ptrS w.heap.size) ∧ ∃ F, Bk w' w.heap.size F (fun _ => []) ∧ (∀ k, F k → w.heap.size ≤ k) ∧ Below w.heap.size w w' := by
  obtain ⟨W, fold⟩ : ∃ W, w.alloc (.cells #[.pointer none, .pointer none, .pointer none, .pointer none, .pointer none, .pointer none, .pointer none, .pointer none] 50) = W := ⟨_, rfl⟩
  have H0 : Fill w W 0 := by
    rw [← fold]
    exact ⟨heap_alloc_new w _, by simp, fun j hj => absurd hj (Nat.not_lt_zero _), (Below.refl _ _).alloc (Nat.le_refl _) _⟩
  go_enter Try.func9, Try.ntmps9
  go_wp2
  clear fold
  go_loopw [5] (fun u5 wr => ∃ k : Nat, u5 = .int .i64 k ∧ k ≤ 8 ∧ Fill w wr k) (fun u5 _ => 8 - (intOf u5).toNat)
  case atStart => exact ⟨0, rfl, by omega, H0⟩
  case round =>
    obtain ⟨k, rfl, hk, HF⟩ := hrel
    clear H0
    by_cases hlt2 : k < 8
    · have hlt : (k : Int) < 8 := by omega
      have hp : w.heap.size < wr.heap.size := by have := HF.size; omega
      have c0 : wr.cell? ⟨w.heap.size, k, none⟩ = some (.pointer none) := by rw [cell_of_list HF.blk, fcells_get _ hlt2, if_neg (by omega)]
      have f0 : wr.frozen? ⟨w.heap.size, k, none⟩ = false := by simp [World.frozen?, HF.blk]
      have HS : Hid (Fill w ((wr.drew.alloc (.cells #[.bool true, .slice none 0 0] 80)).setCell ⟨w.heap.size, k, none⟩ (.pointer (some ⟨wr.drew.heap.size, 0, none⟩))) (k + 1)) := HF.drew.step
      have hN := new_any wr.drew
      have HC : Hid (∀ w3, w3 = wr.drew.alloc (.cells #[.bool true, .slice none 0 0] 80) → w3.cell? ⟨w.heap.size, k, none⟩ = some (.pointer none) ∧ w3.frozen? ⟨w.heap.size, k, none⟩ = false) := fun w3 e => by
        subst e
        exact ⟨(World.cell?_of_block (a := ⟨w.heap.size, k, none⟩) (Below.heap_alloc wr.drew _ _ hp)).trans c0, (World.frozen?_of_block (a := ⟨w.heap.size, k, none⟩) (Below.heap_alloc wr.drew _ _ hp)).trans f0⟩
      clear HF hp
      go_wp2
      go_region_held3 (fun w' => w'.frozen? ⟨w.heap.size, k, none⟩ = false) (go_keep) (first
        | (go_at_call 24; refine hN.mono ?_; rintro e w3 ⟨rfl, _, hw3⟩; obtain ⟨k0, k1⟩ := HC.out w3 hw3; have HW : Hid _ := hw3; clear hw3))
      all_goals go_wp2
      all_goals refine ⟨⟨k + 1, by go_num, by omega, ?_⟩, by simp [intOf]; omega⟩
      all_goals (rw [HW.out]; exact HS.out)
    · obtain rfl : k = 8 := by omega
      go_wp2
      go_ret
      obtain ⟨F, h1, h2⟩ := HF.done
      exact ⟨rfl, F, h1, h2, HF.bel⟩
end Go.Proofs.Ytnlllpgdhnmccaa
