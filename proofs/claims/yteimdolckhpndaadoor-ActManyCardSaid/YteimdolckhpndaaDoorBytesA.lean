/-
  Bytes, by its contract.
-/
import Derived.Test.YteimdolckhpndaaDoorPutA
namespace Go.Proofs.YteimdolckhpndaaDoor
open Go.RowKit

theorem Owns.cellsAt {w : World} {base k : Nat} {v : Value} {bs : List UInt8} (h : Owns w base 5 v bs) (hk : v.ownBlock = some k) : ∃ cur fr, w.heap[k]? = some (.cells cur 5 fr) := by
  rcases h.2 with ⟨rfl, _⟩ | ⟨g, cap, cur, rfl, hbg, hg, rest⟩
  · simp [Value.ownBlock] at hk
  · simp [Value.ownBlock] at hk
    subst hk
    exact ⟨_, _, hg⟩
theorem Owns.lo {w : World} {base k : Nat} {v : Value} {bs : List UInt8} (h : Owns w base 5 v bs) (hk : v.ownBlock = some k) : base ≤ k := by
  rcases h.2 with ⟨rfl, _⟩ | ⟨g, cap, cur, rfl, hbg, hg, rest⟩
  · simp [Value.ownBlock] at hk
  · simp [Value.ownBlock] at hk
    subst hk
    exact hbg
/-- An act in a box and an iterator, beside bytes that grow. -/
theorem BoxIn.grown {w wr V : World} {p : Nat} {a : Ax} {s : ByteArray} {q pos base : Nat} {v : Value} {bs : List UInt8} (h : BoxIn w wr p a s q pos) (ho : Owns wr base 5 v bs) (hb : w.heap.size ≤ base) (hB : base ≤ wr.heap.size) (hg : wr.grownBy V v.ownBlock) : BoxIn w V p a s q pos := by
  refine ⟨?_, ?_, ?_⟩
  · refine (hg.block p (Array.getElem?_eq_some_iff.1 h.x).1 (fun e => ?_)).trans h.x
    obtain ⟨cur, fr, hc⟩ := ho.cellsAt e.symm
    rw [h.x] at hc
    injection hc with hc
    injection hc with _ h2
    exact absurd h2 (by decide)
  · refine (hg.block q (Array.getElem?_eq_some_iff.1 h.it).1 (fun e => ?_)).trans h.it
    obtain ⟨cur, fr, hc⟩ := ho.cellsAt e.symm
    rw [h.it] at hc
    injection hc with hc
    cases hc
  · exact (Owns.below ho hg (h.bel.mono (Nat.le_refl _) |> fun t => (Below.refl _ _ : Below base wr wr)) hB).mono hb |> fun b => h.bel.trans b
theorem Owns.iterAt {w : World} {base q : Nat} {v : Value} {bs : List UInt8} {s : ByteArray} {pos pos' : Nat} (h : Owns w base 5 v bs) (hq : w.heap[q]? = some (.stringIter s pos)) : Owns (w.iterAt q s pos') base 5 v bs := by
  refine ⟨h.1, ?_⟩
  rcases h.2 with hn | ⟨g, cap, cur, hv, hbg, hg, rest⟩
  · exact .inl hn
  · refine .inr ⟨g, cap, cur, hv, hbg, ?_, rest⟩
    rw [iterAt_other (fun e => by rw [e, hq] at hg; cases hg)]
    exact hg
theorem flat_take {a : Ax} {l : List UInt8} (h : l.all (fitsA a) = true) (hl : l.length ≤ 2) (pos : Nat) : ((l.take pos).flatMap (putS a)).length ≤ 592 := by
  have h1 : (l.take pos).all (fitsA a) = true := by
    rw [List.all_eq_true] at h ⊢
    exact fun x hx => h x (List.mem_of_mem_take hx)
  have h2 := flat_len h1
  have h3 : (l.take pos).length ≤ 2 := by rw [List.length_take]; omega
  omega
set_option maxRecDepth 20000 in
set_option maxHeartbeats 4000000 in
theorem bytesA_any (a : Ax) (w : World) (ht : Tab w) (hK : Kinds w) (ha : a.Fits) :
    Calls Tryd.prog 15 #[av a] w (PutPost w.heap.size (.slice none 0 0) w (bytesA a)) := by
  obtain ⟨W, fold⟩ : ∃ W, w.alloc (.cells #[.int .i64 a.kind, .string a.name, .int .i64 a.n, .int .u64 a.tag, .int .i64 a.to, .string a.xn, .int .i64 a.xk, .bool a.xf, .string a.be, .string a.bq, .string a.bp, .int .i64 a.m.origin, .int .u64 a.m.seq, .int .i64 a.m.hop, .string a.m.ex, .string a.m.key, .string a.m.body] 32) = W := ⟨_, rfl⟩
  have b0 : Below w.heap.size w W := by rw [← fold]; exact box_below w _
  have x0 : W.heap[w.heap.size]? = some (.cells (xcells a).toArray 32 (0, 0)) := by rw [← fold]; exact heap_alloc_new w _
  have hG := goodA_any a W (hK.below b0) ha
  have HH : Hid (W.heap[w.heap.size]? = some (.cells (xcells a).toArray 32 (0, 0)) ∧ Tab W ∧ Kinds W ∧ a.Fits ∧ Below w.heap.size w W) := ⟨x0, ht.below b0 ht.pos, hK.below b0, ha, b0⟩
  have TP : Hid (1 < w.heap.size) := ht.pos
  clear ht hK ha b0 x0
  go_enter Tryd.func15, Tryd.ntmps15
  go_wp2_with (refine wpList_load_row rfl 32 _ rfl w.heap.size rfl 32 (xcells a).toArray (0, 0) _ HH.out.1 Tryd.underlying32 rfl info17 ?_)
  try rw [fold]
  refine hG.mono ?_
  rintro e V1 ⟨rfl, b1⟩
  clear hG
  have H1 : Hid (V1.heap[w.heap.size]? = some (.cells (xcells a).toArray 32 (0, 0)) ∧ Tab V1 ∧ Kinds V1 ∧ Below w.heap.size w V1) := ⟨(b1.block _ (Array.getElem?_eq_some_iff.1 HH.out.1).1).trans HH.out.1, HH.out.2.1.below b1 HH.out.2.1.pos, HH.out.2.2.1.below b1, keptW HH.out.2.2.2.2 b1⟩
  have y0 : V1.cell? ⟨w.heap.size, 0, none⟩ = some (.int .i64 a.kind) := box_at H1.out.1 rfl
  clear b1
  cases hg : goodA a
  · have HB : Hid (bytesA a = []) := bytesA_none hg
    clear hg
    go_wp2
    go_ret
    rw [HB.out]
    exact ⟨_, rfl, World.ownsRow_nil _ _ _ _, grown_of H1.out.2.2.2 _, H1.out.2.2.2.size⟩
  · obtain ⟨l, hl, hf, ho, hb⟩ := goodA_tells hg
    have HL : Hid (lettersL a.kind = some l ∧ l.all (fitsA a) = true ∧ bytesA a = putL 1 (u64 a.kind) ++ l.flatMap (putS a) ∧ l.length ≤ 2) := ⟨hl, hf, hb, (lettersL_kind hl).2⟩
    have hLt := lettersOf_any a.kind V1 H1.out.2.2.1
    rw [hl] at hLt
    clear hg hl hf hb ho
    go_wp2_with fail
    refine hLt.mono ?_
    rintro e V2 ⟨rfl, b2⟩
    clear hLt
    have H2 : Hid (V2.heap[w.heap.size]? = some (.cells (xcells a).toArray 32 (0, 0)) ∧ Tab V2 ∧ Below w.heap.size w V2) := ⟨(b2.block _ (Array.getElem?_eq_some_iff.1 H1.out.1).1).trans H1.out.1, H1.out.2.1.below b2 H1.out.2.1.pos, keptW H1.out.2.2.2 b2⟩
    have y1 : V2.cell? ⟨w.heap.size, 0, none⟩ = some (.int .i64 a.kind) := box_at H2.out.1 rfl
    clear b2 y0
    have cw := wrap_u64 a.kind
    obtain ⟨kk, hkk⟩ : ∃ z, u64 a.kind = z := ⟨_, rfl⟩
    have lk : kk < 18446744073709551616 := by rw [← hkk]; exact u64_lt _
    have HK : Hid (u64 a.kind = kk) := hkk
    rw [hkk] at cw
    clear hkk
    have hP := put_good (.slice none 0 0) [] 1 kk V2 H2.out.2.1 (.inl ⟨rfl, rfl⟩) (by simp) (by decide) lk
    obtain ⟨s, hs⟩ : ∃ z, lettersS a.kind = z := ⟨_, rfl⟩
    rw [hs]
    have hst : txt s = l := by rw [← hs]; exact lettersS_txt HL.out.1
    have HS : Hid (txt s = l ∧ (∀ c ∈ l, c.toNat < 128) ∧ ∀ c ∈ l, c ∈ lettersAll) := ⟨hst, lettersL_ascii HL.out.1, lettersL_in HL.out.1⟩
    clear hs hst lk
    go_wp2_with fail
    refine hP.mono ?_
    rintro e V3 ⟨v3, rfl, o3, b3⟩
    clear hP
    have x3 := (b3.block _ (Array.getElem?_eq_some_iff.1 H2.out.1).1).trans H2.out.1
    have t3 := H2.out.2.1.below b3 H2.out.2.1.pos
    have b4 := box_below V3 (.stringIter s 0)
    have HI : Hid (BoxIn w (V3.iter s 0) w.heap.size a s V3.heap.size 0 ∧ Owns (V3.iter s 0) V2.heap.size 5 v3 (putL 1 kk) ∧ V2.heap.size ≤ (V3.iter s 0).heap.size ∧ Tab (V3.iter s 0) ∧ w.heap.size ≤ V3.heap.size ∧ w.heap.size ≤ V2.heap.size) := ⟨box_iter s x3 (keptW H2.out.2.2 b3), by have h := Owns.kept o3 b4 (Nat.le_refl _); rw [List.nil_append] at h; exact h, Nat.le_trans b3.size b4.size, t3.below b4 t3.pos, (keptW H2.out.2.2 b3).size, H2.out.2.2.size⟩
    clear o3 b3 x3 t3 b4 y1
    obtain ⟨q, hq⟩ : ∃ z, V3.heap.size = z := ⟨_, rfl⟩
    rw [hq] at HI
    obtain ⟨base, hbase⟩ : ∃ z, V2.heap.size = z := ⟨_, rfl⟩
    rw [hbase] at HI
    clear hbase
    go_wp2
    try rw [hq]
    go_loopg [5, 7] s.size (fun g u5 u7 wr => ∃ pos : Nat, pos ≤ s.size ∧ g = s.size - pos ∧ Hid (BoxIn w wr w.heap.size a s q pos ∧ Owns wr base 5 u5 (putL 1 kk ++ ((txt s).take pos).flatMap (putS a)) ∧ base ≤ wr.heap.size ∧ Tab wr))
    case atStart => exact ⟨0, Nat.zero_le _, rfl, HI.out.1, by simpa using HI.out.2.1, HI.out.2.2.1, HI.out.2.2.2.1⟩
    case round =>
      obtain ⟨pos, hpos, rfl, HR⟩ := hrel
      have HQ : Hid (w.heap.size ≤ q ∧ w.heap.size ≤ base) := ⟨HI.out.2.2.2.2.1, HI.out.2.2.2.2.2⟩
      clear HI
      by_cases hlt : pos < s.size
      · have hlt2 : pos < (txt s).length := by rw [txt_length]; exact hlt
        obtain ⟨c, hc⟩ : ∃ z, s[pos]'hlt = z := ⟨_, rfl⟩
        have hget : (txt s)[pos]'hlt2 = c := by rw [← hc]; exact Array.getElem_toList (xs := s.data) hlt
        have hcm : c ∈ l := by rw [← HS.out.1, ← hget]; exact List.getElem_mem hlt2
        have hc8 : (s[pos]'hlt).toNat < 128 := by rw [hc]; exact HS.out.2.1 c hcm
        have hnx := fun ty => Lib.run_next_ascii_at (P := Tryd.prog) wr q s pos ty HR.out.1.it hlt hc8
        obtain ⟨W1, hW1⟩ : ∃ z, wr.iterAt q s (pos + 1) = z := ⟨_, rfl⟩
        have H1' := HR.out.1.next HQ.out.1
        have oW := HR.out.2.1.iterAt (pos' := pos + 1) HR.out.1.it
        have tW : Tab (wr.iterAt q s (pos + 1)) := fun i u hi => (World.cell?_of_block (w := wr) (a := ⟨1, i, none⟩) (iterAt_other (fun e => by
          have h0 := HR.out.2.2.2 0 (.int .i64 1) rfl
          have h1 := HR.out.1.it
          rw [← e] at h1
          simp only [World.cell?] at h0
          rw [h1] at h0
          simp at h0))).trans (HR.out.2.2.2 i u hi)
        have zW : base ≤ (wr.iterAt q s (pos + 1)).heap.size := by simp [World.iterAt]; exact HR.out.2.2.1
        rw [hW1] at H1' hnx oW tW zW
        rw [hc] at hnx
        obtain ⟨B, hB⟩ : ∃ z, putL 1 kk ++ ((txt s).take pos).flatMap (putS a) = z := ⟨_, rfl⟩
        have HT : Hid (putL 1 kk ++ ((txt s).take (pos + 1)).flatMap (putS a) = B ++ putS a c) := by
          show _ = _
          rw [← hB, List.take_succ_eq_append_getElem hlt2, hget, List.flatMap_append, List.append_assoc]
          simp
        have hBl : B.length ≤ 10000 := by
          have := flat_take HL.out.2.1 HL.out.2.2.2 pos
          rw [← hB, List.length_append, putL_length, HS.out.1]
          omega
        rw [hB] at oW
        have hfc : fitsA a c = true := List.all_eq_true.1 HL.out.2.1 c hcm
        have hPut := putA_any u5 B base a c (HS.out.2.2 c hcm) W1 tW oW zW hBl HH.out.2.2.2.1 hfc
        have HN : Hid (BoxIn w W1 w.heap.size a s q (pos + 1) ∧ Owns W1 base 5 u5 B ∧ base ≤ W1.heap.size ∧ Tab W1) := ⟨H1', oW, zW, tW⟩
        obtain ⟨ua, uc, hu⟩ := oW.holds.slice
        clear H1' HR hW1 hc hget hc8 hlt2 hcm hB hBl hfc oW tW zW
        obtain ⟨un, hun⟩ : ∃ z, B.length = z := ⟨_, rfl⟩
        rw [hun] at hu
        subst hu
        clear hun
        go_wp2_with (refine wpList_load_row rfl 32 _ rfl w.heap.size rfl 32 (xcells a).toArray (0, 0) _ HN.out.1.x Tryd.underlying32 rfl info17 ?_)
        refine hPut.mono ?_
        rintro e V4 ⟨v4, rfl, o4, g4, z4⟩
        have BX := HN.out.1.grown HN.out.2.1 HQ.out.2 HN.out.2.2.1 g4
        have HB4 : Hid (BoxIn w V4 w.heap.size a s q (pos + 1) ∧ Owns V4 base 5 v4 (B ++ putS a c) ∧ base ≤ V4.heap.size ∧ Tab V4) := ⟨BX, o4, z4, fun i u hi => (World.cell?_of_block (w := W1) (a := ⟨1, i, none⟩) (g4.block _ (World.block_lt_of_cell? W1 _ (HN.out.2.2.2 i u hi)) (fun e => by
          have h1 : base ≤ 1 := HN.out.2.1.lo e.symm
          have h4 := HQ.out.2
          have h5 : 1 < w.heap.size := TP.out
          omega))).trans (HN.out.2.2.2 i u hi)⟩
        clear hPut o4 g4 z4 BX
        go_wp2
        go_roundg (s.size - (pos + 1))
        case measure => omega
        case rel => exact ⟨pos + 1, by omega, rfl, HB4.out.1, by rw [HT.out]; exact HB4.out.2.1, HB4.out.2.2.1, HB4.out.2.2.2⟩
      · have hnx := fun ty => Lib.run_next_end_at (P := Tryd.prog) wr q s pos ty HR.out.1.it hlt
        have HF : Hid (Owns wr base 5 u5 (bytesA a)) := by
          have h1 := HR.out.2.1
          rw [List.take_of_length_le (by rw [txt_length]; omega), HS.out.1, ← HK.out, ← HL.out.2.2.1] at h1
          exact h1
        have HN : Hid (Below w.heap.size w wr) := HR.out.1.bel
        clear HR
        go_wp2
        go_ret
        exact ⟨_, rfl, HF.out.mono HQ.out.2, grown_of HN.out _, HN.out.size⟩
end Go.Proofs.YteimdolckhpndaaDoor
