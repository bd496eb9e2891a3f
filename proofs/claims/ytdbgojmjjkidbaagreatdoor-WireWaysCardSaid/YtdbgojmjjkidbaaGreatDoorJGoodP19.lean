/-
  Good of a packet, by its contract.
-/
import Derived.Test.YtdbgojmjjkidbaaGreatDoorJGood19
namespace Go.Proofs.YtdbgojmjjkidbaaGreatDoor
open Go.RowKit


/-- A packet in a box, what is left of it in another one, and an iterator over its kind's letters. -/
structure PIn (w wr : World) (b q : Nat) (p z : Pk) (s : ByteArray) (i pos : Nat) : Prop where
  x : wr.heap[b]? = some (.cells (pcells p).toArray 35 (0, 0))
  l : wr.heap[q]? = some (.cells (pcells z).toArray 35 (0, 0))
  it : wr.heap[i]? = some (.stringIter s pos)
  bel : Below w.heap.size w wr

theorem PIn.ne {w wr : World} {b q : Nat} {p z : Pk} {s : ByteArray} {i pos : Nat} (h : PIn w wr b q p z s i pos) : b ≠ i ∧ q ≠ i := by
  refine ⟨?_, ?_⟩
  · intro e
    have h1 := h.x
    rw [e, h.it] at h1
    cases h1
  · intro e
    have h1 := h.l
    rw [e, h.it] at h1
    cases h1

theorem PIn.next {w wr : World} {b q : Nat} {p z : Pk} {s : ByteArray} {i pos : Nat} (h : PIn w wr b q p z s i pos) (hi : w.heap.size ≤ i) : PIn w (wr.iterAt i s (pos + 1)) b q p z s i (pos + 1) :=
  ⟨(iterAt_other h.ne.1).trans h.x, (iterAt_other h.ne.2).trans h.l, Lib.iterAt_heap _ _ _ _ _ h.it, iterAt_below h.bel hi⟩

theorem PIn.go {w wr V : World} {b q : Nat} {p z z' : Pk} {s : ByteArray} {i pos : Nat} (h : PIn w wr b q p z s i pos) (hb : Bar q wr V) (hl : V.heap[q]? = some (.cells (pcells z').toArray 35 (0, 0))) (hbq : b ≠ q) (hq : w.heap.size ≤ q) : PIn w V b q p z' s i pos :=
  ⟨(hb.block b (Array.getElem?_eq_some_iff.1 h.x).1 hbq).trans h.x, hl, (hb.block i (Array.getElem?_eq_some_iff.1 h.it).1 (Ne.symm h.ne.2)).trans h.it, hb.below h.bel hq h.bel.size⟩

theorem letP_ascii {k : Int} : ∀ c ∈ txt (letP k), c.toNat < 128 := fun c hc => by
  rcases letP_mem c hc with rfl | rfl | rfl | rfl | rfl <;> decide

theorem goodP_of {p : Pk} (h1 : inB p.fr 1 8 = true) (h2 : inB p.dest 1 8 = true) (h3 : (p.fr == p.dest) = false) : goodP p = kindB p := by
  have h3' : decide (p.fr = p.dest) = false := by simpa using h3
  unfold goodP
  rw [h1, h2, h3']
  rfl

set_option maxRecDepth 20000 in
set_option maxHeartbeats 4000000 in
theorem goodP_any (p : Pk) (w : World) (hK : PKinds w) (hp : p.m.Fits) : Calls Tryz.prog 33 #[pv p] w fun e w' => e = .returned (.bool (goodP p)) ∧ Below w.heap.size w w' := by
  obtain ⟨W, fold⟩ : ∃ W, w.alloc (.cells #[.int .i64 p.kind, .int .i64 p.fr, .int .i64 p.dest, .int .u64 p.ep, .int .u16 p.num, .int .u64 p.mask, .int .i64 p.m.origin, .int .u64 p.m.seq, .int .i64 p.m.hop, .string p.m.ex, .string p.m.key, .string p.m.body] 35) = W := ⟨_, rfl⟩
  have b0 : Below w.heap.size w W := by rw [← fold]; exact box_below w _
  have x0 : W.heap[w.heap.size]? = some (.cells (pcells p).toArray 35 (0, 0)) := by rw [← fold]; exact heap_alloc_new w _
  have y0 : W.cell? ⟨w.heap.size, 0, none⟩ = some (.int .i64 p.kind) := box_at x0 rfl
  have hL := rowOf_any p.kind W (hK.below b0)
  have HA : Hid p.m.Fits := hp
  clear hp hK
  go_enter Tryz.func33, Tryz.ntmps33
  go_wp2_with fail
  try rw [fold]
  refine hL.mono ?_
  rintro e V ⟨rfl, b1⟩
  clear hL
  have x1 := (b1.block _ (Array.getElem?_eq_some_iff.1 x0).1).trans x0
  have bV : Below w.heap.size w V := keptW b0 b1
  clear y0 x0 b1 b0
  cases hk : isK p.kind with
  | false =>
    have HF : Hid (goodP p = false) := by
      show goodP p = false
      unfold goodP
      rw [kindB_eq, hk]
      simp
    have HX : Hid (Below w.heap.size w (V.alloc (.cells #[.int .i64 0, .string ⟨#[]⟩, .string ⟨#[]⟩] 99))) := keptW bV (box_below V _)
    rw [show rowP p.kind = [.int .i64 0, .string ⟨#[]⟩, .string ⟨#[]⟩] by unfold rowP; rw [hk]; rfl]
    go_wp2
    go_ret
    exact ⟨by rw [HF.out]; rfl, HX.out⟩
  | true =>
    rw [show rowP p.kind = [.int .i64 p.kind, .string (nameP p.kind), .string (letP p.kind)] by unfold rowP; rw [hk]; rfl]
    have HK : Hid (isK p.kind = true) := hk
    obtain ⟨s, hs⟩ : ∃ z, letP p.kind = z := ⟨_, rfl⟩
    obtain ⟨nm, hnm⟩ : ∃ z, nameP p.kind = z := ⟨_, rfl⟩
    have HS : Hid (letP p.kind = s) := hs
    rw [hs, hnm]
    clear hk hs hnm
    obtain ⟨V1, fold1⟩ : ∃ X, V.alloc (.cells #[.int .i64 p.kind, .string nm, .string s] 99) = X := ⟨_, rfl⟩
    have b1 : Below V.heap.size V V1 := by rw [← fold1]; exact box_below V _
    have r1 : V1.heap[V.heap.size]? = some (.cells [.int .i64 p.kind, .string nm, .string s].toArray 99 (0, 0)) := by rw [← fold1]; exact heap_alloc_new V _
    have x2 := (b1.block _ (Array.getElem?_eq_some_iff.1 x1).1).trans x1
    obtain ⟨y0, y1, y2, y3, y4, y5, y6, y7, y8, y9, y10, y11⟩ := cells12 x2
    have HX : Hid (Below w.heap.size w V1 ∧ V1.heap[V.heap.size]? = some (.cells [.int .i64 p.kind, .string nm, .string s].toArray 99 (0, 0)) ∧ V1.heap[w.heap.size]? = some (.cells (pcells p).toArray 35 (0, 0)) ∧ V.heap.size < V1.heap.size ∧ w.heap.size < V.heap.size) := ⟨keptW bV b1, r1, x2, (Array.getElem?_eq_some_iff.1 r1).1, (Array.getElem?_eq_some_iff.1 x1).1⟩
    clear x1 bV b1 r1 x2
    cases h1 : inB p.fr 1 8
    · have HF : Hid (goodP p = false) := by show goodP p = false; unfold goodP; rw [h1]; simp
      go_wp2_with (go_at_call 57; refine (isSite_any _ _).mono ?_; rintro e u ⟨rfl, rfl⟩)
      go_ret
      exact ⟨by rw [HF.out]; rfl, HX.out.1⟩
    cases h2 : inB p.dest 1 8
    · have HF : Hid (goodP p = false) := by show goodP p = false; unfold goodP; rw [h2]; simp
      go_wp2_with (go_at_call 57; refine (isSite_any _ _).mono ?_; rintro e u ⟨rfl, rfl⟩)
      go_ret
      exact ⟨by rw [HF.out]; rfl, HX.out.1⟩
    cases h3 : (p.fr == p.dest)
    rotate_left
    · have HF : Hid (goodP p = false) := by
        show goodP p = false
        have : decide (p.fr = p.dest) = true := by simpa using h3
        unfold goodP; rw [this]; simp
      go_wp2_with (go_at_call 57; refine (isSite_any _ _).mono ?_; rintro e u ⟨rfl, rfl⟩)
      go_ret
      exact ⟨by rw [HF.out]; rfl, HX.out.1⟩
    have HG : Hid (goodP p = kindB p) := goodP_of h1 h2 h3
    obtain ⟨V2, fold2⟩ : ∃ X, V1.alloc (.cells #[.int .i64 0, .int .i64 0, .int .i64 0, .int .u64 0, .int .u16 0, .int .u64 0, .int .i64 0, .int .u64 0, .int .i64 0, .string ⟨#[]⟩, .string ⟨#[]⟩, .string ⟨#[]⟩] 35) = X := ⟨_, rfl⟩
    have b2 : Below V1.heap.size V1 V2 := by rw [← fold2]; exact box_below V1 _
    have l2 : V2.heap[V1.heap.size]? = some (.cells (pcells nilP).toArray 35 (0, 0)) := by rw [← fold2]; exact heap_alloc_new V1 _
    obtain ⟨V3, fold3⟩ : ∃ X, V2.setRow V1.heap.size (pcells p).toArray = X := ⟨_, rfl⟩
    have b3 : Below V1.heap.size V1 V3 := by rw [← fold3]; exact below_setRow b2 (Nat.le_refl _) _
    have l3 : V3.heap[V1.heap.size]? = some (.cells (pcells p).toArray 35 (0, 0)) := by rw [← fold3]; exact setRow_heap _ _ _ _ _ _ l2
    have HX3 : Hid (Below w.heap.size w V3 ∧ V3.heap[V.heap.size]? = some (.cells [.int .i64 p.kind, .string nm, .string s].toArray 99 (0, 0)) ∧ V3.heap[w.heap.size]? = some (.cells (pcells p).toArray 35 (0, 0)) ∧ V.heap.size < V1.heap.size ∧ w.heap.size < V.heap.size ∧ V3.heap[V1.heap.size]? = some (.cells (pcells p).toArray 35 (0, 0))) := ⟨keptW HX.out.1 b3, (b3.block _ HX.out.2.2.2.1).trans HX.out.2.1, (b3.block _ (by have := HX.out.2.2.2; omega)).trans HX.out.2.2.1, HX.out.2.2.2.1, HX.out.2.2.2.2, l3⟩
    have HL2 : Hid (V2.heap[V1.heap.size]? = some (.cells (pcells nilP).toArray 35 (0, 0))) := l2
    have f3 := fun j => box_free l3 j
    obtain ⟨z0, z1, z2, z3, z4, z5, z6, z7, z8, z9, z10, z11⟩ := cells12 l3
    obtain ⟨V4, fold4⟩ : ∃ X, ((V3.setCell ⟨V1.heap.size, 0, none⟩ (.int .i64 0)).setCell ⟨V1.heap.size, 1, none⟩ (.int .i64 0)).setCell ⟨V1.heap.size, 2, none⟩ (.int .i64 0) = X := ⟨_, rfl⟩
    have b4 : Bar V1.heap.size V3 V4 := by rw [← fold4]; exact ((Bar.set _ V3 0 _).trans (Bar.set _ _ 1 _)).trans (Bar.set _ _ 2 _)
    have l4 : V4.heap[V1.heap.size]? = some (.cells (pcells (leftP p)).toArray 35 (0, 0)) := by rw [← fold4]; exact set_list (set_list (set_list l3 _) _) _
    have r4 := (b4.block V.heap.size (by have := b3.size; have := HX.out.2.2.2; omega) (by have := HX.out.2.2.2; omega)).trans HX3.out.2.1
    have x4 := (b4.block w.heap.size (by have := b3.size; have := HX.out.2.2.2; omega) (by have := HX.out.2.2.2; omega)).trans HX3.out.2.2.1
    have k4 : V4.cell? ⟨V.heap.size, 2, none⟩ = some (.string s) := box_at r4 rfl
    have B4 : Below w.heap.size w V4 := b4.below HX3.out.1 (by have := HX.out.2.2.2; omega) HX3.out.1.size
    obtain ⟨i, hi⟩ : ∃ z, V4.heap.size = z := ⟨_, rfl⟩
    have bI := box_below V4 (.stringIter s 0)
    have HI : Hid (PIn w (V4.iter s 0) w.heap.size V1.heap.size p (leftP p) s i 0 ∧ w.heap.size ≤ i ∧ w.heap.size ≤ V1.heap.size ∧ w.heap.size ≠ V1.heap.size) := ⟨⟨(bI.block _ (Array.getElem?_eq_some_iff.1 x4).1).trans x4, (bI.block _ (Array.getElem?_eq_some_iff.1 l4).1).trans l4, by rw [← hi]; exact heap_alloc_new V4 _, keptW B4 bI⟩, by rw [← hi]; exact B4.size, by have := HX.out.2.2.2; omega, by have := HX.out.2.2.2; omega⟩
    clear b2 l2 b3 l3 b4 l4 r4 x4 B4 bI
    go_wp2_with (first | (go_at_call 57; refine (isSite_any _ _).mono ?_; rintro e V1 ⟨rfl, rfl⟩) | refine wpList_load_row rfl 35 _ rfl w.heap.size rfl 35 (pcells p).toArray (0, 0) _ HX.out.2.2.1 Tryz.underlying35 rfl info12 ?_ | refine wpList_store_row rfl 35 _ _ rfl V1.heap.size (pcells p).toArray rfl rfl 35 (pcells nilP).toArray HL2.out info12 rfl (one12 p) ?_)
    go_loopg [8] s.size (fun g u8 wr => ∃ (pos : Nat) (z : Pk), pos ≤ s.size ∧ g = s.size - pos ∧ Hid (PIn w wr w.heap.size V1.heap.size p z s i pos ∧ ((txt s).take pos).all (fitP p) = true ∧ z = ((txt s).take pos).foldl wipeP (leftP p)))
    case atStart => exact ⟨0, leftP p, Nat.zero_le _, rfl, HI.out.1, rfl, rfl⟩
    case round =>
      obtain ⟨pos, z, hpos, rfl, HR⟩ := hrel
      by_cases hlt : pos < s.size
      · have hlt2 : pos < (txt s).length := by rw [txt_length]; exact hlt
        obtain ⟨c, hc⟩ : ∃ z, s[pos]'hlt = z := ⟨_, rfl⟩
        have hget : (txt s)[pos]'hlt2 = c := by rw [← hc]; exact Array.getElem_toList (xs := s.data) hlt
        have hmem : c ∈ txt s := by rw [← hget]; exact List.getElem_mem hlt2
        have hc8 : (s[pos]'hlt).toNat < 128 := by rw [hc]; have := hmem; rw [← HS.out] at this; exact letP_ascii _ this
        have hnx := fun ty => Lib.run_next_ascii_at (P := Tryz.prog) wr i s pos ty HR.out.1.it hlt hc8
        obtain ⟨W1, hW1⟩ : ∃ z, wr.iterAt i s (pos + 1) = z := ⟨_, rfl⟩
        have H1 := HR.out.1.next HI.out.2.1
        rw [hW1] at H1 hnx
        rw [hc] at hnx
        have HT : Hid (((txt s).take (pos + 1)).all (fitP p) = fitP p c ∧ wipeP z c = ((txt s).take (pos + 1)).foldl wipeP (leftP p)) := by
          refine ⟨?_, ?_⟩
          · rw [List.take_succ_eq_append_getElem hlt2, List.all_append, hget, HR.out.2.1]
            simp
          · rw [List.take_succ_eq_append_getElem hlt2, List.foldl_append, hget, ← HR.out.2.2]
            rfl
        have hF := takeP_any p z c (letP_mem c (by rw [HS.out]; exact hmem)) V1.heap.size w.heap.size W1 H1.l H1.x HI.out.2.2.2 HA.out
        have HN : Hid (PIn w W1 w.heap.size V1.heap.size p z s i (pos + 1) ∧ c ∈ txt s) := ⟨H1, hmem⟩
        clear H1 HR hW1 hc hget hc8 hlt2 hmem
        go_wp2_with fail
        refine hF.mono ?_
        rintro e V5 ⟨rfl, hl5, b5⟩
        have HB : Hid (PIn w V5 w.heap.size V1.heap.size p (wipeP z c) s i (pos + 1)) := HN.out.1.go b5 hl5 HI.out.2.2.2 HI.out.2.2.1
        clear hF b5 hl5
        cases hf : fitP p c
        · have HF : Hid (goodP p = false) := by
            show goodP p = false
            have : (txt s).all (fitP p) = false := by rw [List.all_eq_false]; exact ⟨c, HN.out.2, by rw [hf]; simp⟩
            rw [HG.out, kindB_eq, HS.out, this]
            simp
          clear hf
          go_wp2
          go_ret
          exact ⟨by rw [HF.out]; rfl, HB.out.bel⟩
        · have HF : Hid (fitP p c = true) := hf
          clear hf
          go_wp2
          go_roundg (s.size - (pos + 1))
          case measure => omega
          case rel => exact ⟨pos + 1, wipeP z c, by omega, rfl, HB.out, by rw [HT.out.1]; exact HF.out, HT.out.2⟩
      · have hnx := fun ty => Lib.run_next_end_at (P := Tryz.prog) wr i s pos ty HR.out.1.it hlt
        have HF : Hid (goodP p = decide (z = nilP)) := by
          show _ = _
          have h1 := HR.out.2.1
          have h2 := HR.out.2.2
          rw [List.take_of_length_le (by rw [txt_length]; omega)] at h1 h2
          rw [HG.out, kindB_eq, HK.out, HS.out, h1, ← h2]
          rfl
        have HN : Hid (PIn w wr w.heap.size V1.heap.size p z s i pos) := HR.out.1
        clear HR
        have heqA : ∀ X : World, (binOp .eql 35 (.agg (pcells z).toArray) (.agg #[.int .i64 0, .int .i64 0, .int .i64 0, .int .u64 0, .int .u16 0, .int .u64 0, .int .i64 0, .int .u64 0, .int .i64 0, .string ⟨#[]⟩, .string ⟨#[]⟩, .string ⟨#[]⟩])).run Tryz.prog X = .ok (.bool (decide (z = nilP))) X := fun X => run_eqP z nilP X
        have hgA := eqGuardP
        go_wp2_with (refine wpList_load_row rfl 35 _ rfl V1.heap.size rfl 35 (pcells z).toArray (0, 0) _ HN.out.l Tryz.underlying35 rfl info12 ?_)
        go_ret
        exact ⟨by rw [HF.out]; rfl, HN.out.bel⟩

end Go.Proofs.YtdbgojmjjkidbaaGreatDoor
