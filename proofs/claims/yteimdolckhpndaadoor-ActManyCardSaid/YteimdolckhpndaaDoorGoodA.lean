/-
  Good, by its contract.
-/
import Derived.Test.YteimdolckhpndaaDoorOnly2
import Derived.Test.YteimdolckhpndaaDoorRMsgs
import Derived.Test.YteimdolckhpndaaDoorEq13
import Derived.Deep.RegionLaw
import Derived.Deep.RegionWith
namespace Go.Proofs.YteimdolckhpndaaDoor
open Go.RowKit

theorem lettersL_ascii {k : Int} {l : List UInt8} (h : lettersL k = some l) : ∀ c ∈ l, c.toNat < 128 := by
  unfold lettersL at h
  have st : ∀ (i : Int) (x : List UInt8) (o : Option (List UInt8)), (∀ c ∈ x, c.toNat < 128) → (if k = i then some x else o) = some l → (∀ c ∈ l, c.toNat < 128) ∨ o = some l := by
    intro i x o hx he
    by_cases hk : k = i
    · rw [if_pos hk] at he
      obtain rfl := Option.some.inj he
      exact .inl hx
    · rw [if_neg hk] at he
      exact .inr he
  rcases st _ _ _ (by decide) h with h | h
  · exact h
  rcases st _ _ _ (by decide) h with h | h
  · exact h
  rcases st _ _ _ (by decide) h with h | h
  · exact h
  rcases st _ _ _ (by decide) h with h | h
  · exact h
  rcases st _ _ _ (by decide) h with h | h
  · exact h
  rcases st _ _ _ (by decide) h with h | h
  · exact h
  rcases st _ _ _ (by decide) h with h | h
  · exact h
  rcases st _ _ _ (by decide) h with h | h
  · exact h
  rcases st _ _ _ (by decide) h with h | h
  · exact h
  rcases st _ _ _ (by decide) h with h | h
  · exact h
  rcases st _ _ _ (by decide) h with h | h
  · exact h
  rcases st _ _ _ (by decide) h with h | h
  · exact h
  exact absurd h (by simp)
theorem lettersS_txt {k : Int} {l : List UInt8} (h : lettersL k = some l) : txt (lettersS k) = l := by
  unfold lettersS
  rw [h]
  simp [txt]
/-- The cells of an act in a box. -/
theorem cells17 {w : World} {p : Nat} {t : TypeId} {a : Ax} (h : w.heap[p]? = some (.cells (xcells a).toArray t (0, 0))) : w.cell? ⟨p, 0, none⟩ = some (.int .i64 a.kind) ∧ w.cell? ⟨p, 1, none⟩ = some (.string a.name) ∧ w.cell? ⟨p, 2, none⟩ = some (.int .i64 a.n) ∧ w.cell? ⟨p, 3, none⟩ = some (.int .u64 a.tag) ∧ w.cell? ⟨p, 4, none⟩ = some (.int .i64 a.to) ∧ w.cell? ⟨p, 5, none⟩ = some (.string a.xn) ∧ w.cell? ⟨p, 6, none⟩ = some (.int .i64 a.xk) ∧ w.cell? ⟨p, 7, none⟩ = some (.bool a.xf) ∧ w.cell? ⟨p, 8, none⟩ = some (.string a.be) ∧ w.cell? ⟨p, 9, none⟩ = some (.string a.bq) ∧ w.cell? ⟨p, 10, none⟩ = some (.string a.bp) ∧ w.cell? ⟨p, 11, none⟩ = some (.int .i64 a.m.origin) ∧ w.cell? ⟨p, 12, none⟩ = some (.int .u64 a.m.seq) ∧ w.cell? ⟨p, 13, none⟩ = some (.int .i64 a.m.hop) ∧ w.cell? ⟨p, 14, none⟩ = some (.string a.m.ex) ∧ w.cell? ⟨p, 15, none⟩ = some (.string a.m.key) ∧ w.cell? ⟨p, 16, none⟩ = some (.string a.m.body) :=
  ⟨box_at h rfl, box_at h rfl, box_at h rfl, box_at h rfl, box_at h rfl, box_at h rfl, box_at h rfl, box_at h rfl, box_at h rfl, box_at h rfl, box_at h rfl, box_at h rfl, box_at h rfl, box_at h rfl, box_at h rfl, box_at h rfl, box_at h rfl⟩
/-- An act in a box, and an iterator over its letters. -/
structure BoxIn (w wr : World) (p : Nat) (a : Ax) (s : ByteArray) (q pos : Nat) : Prop where
  x : wr.heap[p]? = some (.cells (xcells a).toArray 32 (0, 0))
  it : wr.heap[q]? = some (.stringIter s pos)
  bel : Below w.heap.size w wr
theorem box_iter {w V : World} {p : Nat} {a : Ax} (s : ByteArray) (hx : V.heap[p]? = some (.cells (xcells a).toArray 32 (0, 0))) (hb : Below w.heap.size w V) : BoxIn w (V.iter s 0) p a s V.heap.size 0 := by
  have hl := (Array.getElem?_eq_some_iff.1 hx).1
  have b1 := box_below V (.stringIter s 0)
  exact ⟨(b1.block p hl).trans hx, heap_alloc_new V _, keptW hb b1⟩
theorem iterAt_other {w : World} {q : Nat} {s : ByteArray} {pos k : Nat} (hk : k ≠ q) : (w.iterAt q s pos).heap[k]? = w.heap[k]? := by
  unfold World.iterAt
  simp only
  rw [Array.getElem?_setIfInBounds_ne (fun e => hk e.symm)]
theorem iterAt_below {w0 w : World} {n q : Nat} {s : ByteArray} {pos : Nat} (hb : Below n w0 w) (hq : n ≤ q) : Below n w0 (w.iterAt q s pos) :=
  ⟨hb.os, hb.tape, hb.output, by simp [World.iterAt]; exact hb.size, fun k hk => (iterAt_other (by omega)).trans (hb.block k hk)⟩
theorem BoxIn.next {w wr : World} {p : Nat} {a : Ax} {s : ByteArray} {q pos : Nat} (h : BoxIn w wr p a s q pos) (hq : w.heap.size ≤ q) : BoxIn w (wr.iterAt q s (pos + 1)) p a s q (pos + 1) := by
  have hne : p ≠ q := by
    intro e
    have h1 := h.x
    rw [e, h.it] at h1
    cases h1
  exact ⟨(iterAt_other hne).trans h.x, Lib.iterAt_heap _ _ _ _ _ h.it, iterAt_below h.bel hq⟩
theorem BoxIn.kept {w wr V : World} {p : Nat} {a : Ax} {s : ByteArray} {q pos : Nat} (h : BoxIn w wr p a s q pos) (hb : Below wr.heap.size wr V) : BoxIn w V p a s q pos :=
  ⟨(hb.block p (Array.getElem?_eq_some_iff.1 h.x).1).trans h.x, (hb.block q (Array.getElem?_eq_some_iff.1 h.it).1).trans h.it, keptW h.bel hb⟩
set_option maxRecDepth 20000 in
set_option maxHeartbeats 4000000 in
theorem goodA_any (a : Ax) (w : World) (hK : Kinds w) (ha : a.Fits) : Calls Tryd.prog 10 #[av a] w fun e w' => e = .returned (.bool (goodA a)) ∧ Below w.heap.size w w' := by
  obtain ⟨W, fold⟩ : ∃ W, w.alloc (.cells #[.int .i64 a.kind, .string a.name, .int .i64 a.n, .int .u64 a.tag, .int .i64 a.to, .string a.xn, .int .i64 a.xk, .bool a.xf, .string a.be, .string a.bq, .string a.bp, .int .i64 a.m.origin, .int .u64 a.m.seq, .int .i64 a.m.hop, .string a.m.ex, .string a.m.key, .string a.m.body] 32) = W := ⟨_, rfl⟩
  have b0 : Below w.heap.size w W := by rw [← fold]; exact box_below w _
  have x0 : W.heap[w.heap.size]? = some (.cells (xcells a).toArray 32 (0, 0)) := by rw [← fold]; exact heap_alloc_new w _
  have y0 : W.cell? ⟨w.heap.size, 0, none⟩ = some (.int .i64 a.kind) := box_at x0 rfl
  have hL := lettersOf_any a.kind W (hK.below b0)
  have HA : Hid a.Fits := ha
  clear ha hK
  go_enter Tryd.func10, Tryd.ntmps10
  go_wp2_with fail
  try rw [fold]
  refine hL.mono ?_
  rintro e V ⟨rfl, b1⟩
  clear hL
  have x1 := (b1.block _ (Array.getElem?_eq_some_iff.1 x0).1).trans x0
  have bV : Below w.heap.size w V := keptW b0 b1
  clear y0 x0 b1 b0
  cases hl : lettersL a.kind with
  | none =>
    go_wp2
    go_ret
    exact ⟨by unfold goodA; rw [hl]; rfl, bV⟩
  | some l =>
    obtain ⟨s, hs⟩ : ∃ z, lettersS a.kind = z := ⟨_, rfl⟩
    have hst : txt s = l := by rw [← hs]; exact lettersS_txt hl
    have HL : Hid (goodA a = (l.all (fitsA a) && decide (a = onlyL a l)) ∧ txt s = l ∧ ∀ c ∈ l, c.toNat < 128) := ⟨by unfold goodA; rw [hl], hst, lettersL_ascii hl⟩
    have HI : Hid (BoxIn w (V.iter s 0) w.heap.size a s V.heap.size 0 ∧ w.heap.size ≤ V.heap.size) := ⟨box_iter s x1 bV, bV.size⟩
    rw [hs]
    clear hl hst x1 bV
    obtain ⟨q, hq⟩ : ∃ z, V.heap.size = z := ⟨_, rfl⟩
    rw [hq] at HI
    go_wp2
    try rw [hq]
    go_loopg [6] s.size (fun g u6 wr => ∃ pos : Nat, pos ≤ s.size ∧ g = s.size - pos ∧ Hid (BoxIn w wr w.heap.size a s q pos ∧ ((txt s).take pos).all (fitsA a) = true))
    case atStart => exact ⟨0, Nat.zero_le _, rfl, HI.out.1, rfl⟩
    case round =>
      obtain ⟨pos, hpos, rfl, HR⟩ := hrel
      have HQ : Hid (w.heap.size ≤ q) := HI.out.2
      clear HI
      by_cases hlt : pos < s.size
      · have hlt2 : pos < (txt s).length := by rw [txt_length]; exact hlt
        obtain ⟨c, hc⟩ : ∃ z, s[pos]'hlt = z := ⟨_, rfl⟩
        have hget : (txt s)[pos]'hlt2 = c := by rw [← hc]; exact Array.getElem_toList (xs := s.data) hlt
        have hc8 : (s[pos]'hlt).toNat < 128 := by rw [hc, ← hget]; exact HL.out.2.2 _ (by rw [← HL.out.2.1]; exact List.getElem_mem hlt2)
        have hnx := fun ty => Lib.run_next_ascii_at (P := Tryd.prog) wr q s pos ty HR.out.1.it hlt hc8
        obtain ⟨W1, hW1⟩ : ∃ z, wr.iterAt q s (pos + 1) = z := ⟨_, rfl⟩
        have H1 := HR.out.1.next HQ.out
        rw [hW1] at H1 hnx
        rw [hc] at hnx
        have HT : Hid (((txt s).take (pos + 1)).all (fitsA a) = fitsA a c) := by
          show _ = _
          rw [List.take_succ_eq_append_getElem hlt2, List.all_append, hget, HR.out.2]
          simp
        have HM : Hid (c ∈ txt s) := by rw [← hget]; exact List.getElem_mem hlt2
        have hF := fitsA_any a c W1 HA.out
        have HN : Hid (BoxIn w W1 w.heap.size a s q (pos + 1)) := H1
        clear H1 HR hW1 hc hget hc8 hlt2
        go_wp2_with (refine wpList_load_row rfl 32 _ rfl w.heap.size rfl 32 (xcells a).toArray (0, 0) _ HN.out.x Tryd.underlying32 rfl info17 ?_)
        refine hF.mono ?_
        rintro e V2 ⟨rfl, b2⟩
        have HB : Hid (BoxIn w V2 w.heap.size a s q (pos + 1)) := HN.out.kept b2
        clear hF b2
        cases hf : fitsA a c
        · have HF : Hid (goodA a = false) := by
            show goodA a = false
            rw [HL.out.1, ← HL.out.2.1]
            rw [Bool.and_eq_false_iff]
            exact .inl (by rw [List.all_eq_false]; exact ⟨c, HM.out, by rw [hf]; simp⟩)
          clear hf
          go_wp2
          go_ret
          exact ⟨by rw [HF.out]; rfl, HB.out.bel⟩
        · have HF : Hid (fitsA a c = true) := hf
          clear hf
          go_wp2
          go_roundg (s.size - (pos + 1))
          case measure => omega
          case rel => exact ⟨pos + 1, by omega, rfl, HB.out, by rw [HT.out]; exact HF.out⟩
      · have hnx := fun ty => Lib.run_next_end_at (P := Tryd.prog) wr q s pos ty HR.out.1.it hlt
        have HF : Hid (goodA a = decide (a = onlyL a l)) := by
          show _ = _
          have h1 := HR.out.2
          rw [List.take_of_length_le (by rw [txt_length]; omega), HL.out.2.1] at h1
          rw [HL.out.1, h1, Bool.true_and]
        have hO := fun X => only_any a s X (by rw [HL.out.2.1]; exact HL.out.2.2)
        rw [HL.out.2.1] at hO
        have HN : Hid (BoxIn w wr w.heap.size a s q pos) := HR.out.1
        clear HR
        have heqA := fun X => run_eqA a (onlyL a l) X
        have hgA := eqGuardA
        go_wp2
        obtain ⟨y0, y1, y2, y3, y4, y5, y6, y7, y8, y9, y10, y11, y12, y13, y14, y15, y16⟩ := cells17 HN.out.x
        first
        | (go_region_law (rw [if_pos (by simp [Region.wanted])]; go_simp; refine Calls.mono (hO _) ?_; rintro e u ⟨rfl, bu⟩; have HV : Hid (BoxIn w u w.heap.size a s q pos) := HN.out.kept (Below.trans (by first | exact Below.refl _ _ | exact drew_below _ | exact drewN_below _ _) bu); obtain ⟨z0, z1, z2, z3, z4, z5, z6, z7, z8, z9, z10, z11, z12, z13, z14, z15, z16⟩ := cells17 HV.out.x; dsimp only))
        | fail
        all_goals go_wp2
        all_goals go_ret
        all_goals exact ⟨by rw [HF.out]; rfl, HV.out.bel⟩
end Go.Proofs.YteimdolckhpndaaDoor
