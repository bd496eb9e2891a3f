/-
  THE READER READS AN ACT, by its contract.
-/
import Derived.Test.YteimdolckhpndaaDoorTakeMsg
import Derived.Test.YteimdolckhpndaaDoorRdCall
namespace Go.Proofs.YteimdolckhpndaaDoor
open Go.RowKit

theorem tk_in (c : UInt8) : tk c = 74 ∨ tk c = 75 ∨ tk c = 76 ∨ tk c = 77 ∨ tk c = 78 ∨ tk c = 79 ∨ tk c = 80 := by
  unfold tk
  repeat' split
  all_goals simp
/-- Every letter's method reads into an act. -/
theorem take_any (c : UInt8) (hc : c ∈ lettersAll) (p q : Nat) (s : Option (List UInt8)) (z : Ax) (w : World) (ht : Tab w) (hr : Rd 77 w p s) (hq : w.heap[q]? = some (.cells (xcells z).toArray 32 (0, 0))) (hz : z.Fits) (hpq : q ≠ p) :
    Calls Tryd.prog (tk c) #[.pointer (some ⟨p, 0, none⟩), .pointer (some ⟨q, 0, none⟩)] w (TakePost 77 p q s (takeP z c) w) := by
  simp only [lettersAll, List.mem_cons, List.not_mem_nil, or_false] at hc
  rcases hc with rfl | rfl | rfl | rfl | rfl | rfl | rfl | rfl
  · exact takeName_any p q s z w ht hr hq hz hpq
  · exact takeN_any p q s z w ht hr hq hz hpq
  · rw [take_nn]; exact takeN_any p q s z w ht hr hq hz hpq
  · exact takeTag_any p q s z w ht hr hq hz hpq
  · exact takeTo_any p q s z w ht hr hq hz hpq
  · exact takeExchange_any p q s z w ht hr hq hz hpq
  · exact takeBinding_any p q s z w ht hr hq hz hpq
  · exact takeMessage_any p q s z w ht hr hq hz hpq
/-- A reader, an act in the box q, a result's box r, the iterator j. -/
structure ActIn (w U : World) (p r q j : Nat) (s : Option (List UInt8)) (z : Ax) (b : ByteArray) (pos : Nat) : Prop where
  tab : Tab U
  rd : Rd 77 U p s
  hr : U.heap[r]? = some (.cells (xcells (zA 0)).toArray 32 (0, 0))
  hq : U.heap[q]? = some (.cells (xcells z).toArray 32 (0, 0))
  it : U.heap[j]? = some (.stringIter b pos)
  fits : z.Fits
  bar : Bar p w U
  rp : r ≠ p
  qp : q ≠ p
  jp : j ≠ p
  rq : r ≠ q
  jq : j ≠ q
  wr : w.heap.size ≤ r
  wq : w.heap.size ≤ q
  wj : w.heap.size ≤ j
  wt : 1 < w.heap.size
theorem ActIn.next {w U : World} {p r q j : Nat} {s : Option (List UInt8)} {z : Ax} {b : ByteArray} {pos : Nat} (h : ActIn w U p r q j s z b pos) : ActIn w (U.iterAt j b (pos + 1)) p r q j s z b (pos + 1) := by
  have hb : Bar j U (U.iterAt j b (pos + 1)) := ⟨rfl, rfl, rfl, by simp [World.iterAt], fun k _ hk => iterAt_other hk⟩
  have hrj : r ≠ j := by
    intro e
    have h1 := h.hr
    rw [e, h.it] at h1
    cases h1
  have hrd : Rd 77 (U.iterAt j b (pos + 1)) p s := by
    have hl := h.rd.lt
    obtain ⟨a, n, c, tn, l, blk, hh, hs⟩ := h.rd
    refine ⟨a, n, c, tn, l, (iterAt_other (Ne.symm h.jp)).trans blk, ?_, hs⟩
    rcases hh with h' | ⟨ad, cap, hv, h1, h2, h3⟩
    · exact .inl h'
    · refine .inr ⟨ad, cap, hv, h1, h2, fun i u hi => ?_⟩
      have hc := h3 i u hi
      have hne : (ad.add i).block ≠ j := by
        intro e
        simp only [World.cell?] at hc
        rw [e, h.it] at hc
        simp at hc
      rw [World.cell?_of_block (w := U) (a := ad.add i) (hb.block _ (World.block_lt_of_cell? U _ (h3 i u hi)) hne)]
      exact h3 i u hi
  have htab : Tab (U.iterAt j b (pos + 1)) := fun i u hi => (World.cell?_of_block (w := U) (a := ⟨1, i, none⟩) (iterAt_other (by have := h.wj; have := h.wt; show 1 ≠ j; omega))).trans (h.tab i u hi)
  refine ⟨htab, hrd, (iterAt_other hrj).trans h.hr, (iterAt_other (Ne.symm h.jq)).trans h.hq, Lib.iterAt_heap _ _ _ _ _ h.it, h.fits, ?_, h.rp, h.qp, h.jp, h.rq, h.jq, h.wr, h.wq, h.wj, h.wt⟩
  exact ⟨h.bar.os, h.bar.tape, h.bar.output, by simp [World.iterAt]; exact h.bar.size, fun k hk hp => (iterAt_other (by have := h.wj; omega)).trans (h.bar.block k hk hp)⟩
theorem ActIn.take {w U V : World} {p r q j : Nat} {s s' : Option (List UInt8)} {z z' : Ax} {b : ByteArray} {pos : Nat} (h : ActIn w U p r q j s z b pos) (hr : Rd 77 V p s') (hz : z'.Fits) (hq : V.heap[q]? = some (.cells (xcells z').toArray 32 (0, 0))) (hb : Bar2 p q U V) : ActIn w V p r q j s' z' b pos :=
  ⟨h.tab.two h.rd hb (by have := h.wq; have := h.wt; omega), hr, (hb.block r (Array.getElem?_eq_some_iff.1 h.hr).1 h.rp h.rq).trans h.hr, hq, (hb.block j (Array.getElem?_eq_some_iff.1 h.it).1 h.jp h.jq).trans h.it, hz, (h.bar.two.trans hb).one h.wq, h.rp, h.qp, h.jp, h.rq, h.jq, h.wr, h.wq, h.wj, h.wt⟩
theorem setRow_other (w : World) (g : Nat) (cs : Array Value) (k : Nat) (h : k ≠ g) : (w.setRow g cs).heap[k]? = w.heap[k]? := by
  simp only [World.setRow, Array.getElem?_modify]
  rw [if_neg (fun e => h e.symm)]
/-- How what reads an act ends. -/
def ActPost (T : TypeId) (p : Nat) (s : Option (List UInt8)) (w : World) (e : Ending) (w' : World) : Prop :=
  ∃ (z : Ax) (s' : Option (List UInt8)), e = .returned (av z) ∧ z.Fits ∧ Aft s actP z s' ∧ Rd T w' p s' ∧ Bar p w w'
theorem zA_fits (k : Nat) (h : k < 65536) : (zA (k : Int)).Fits := by
  refine ⟨⟨?_, ?_⟩, Nat.zero_le _, by simp [zA], by simp [zA], by simp [zA], Nat.zero_le _, by simp [zA], Nat.zero_le _, Nat.zero_le _, Nat.zero_le _, ⟨by simp [zA, zM], by simp [zA, zM], by simp [zA, zM], Nat.zero_le _, Nat.zero_le _, Nat.zero_le _⟩⟩
  · show _ ≤ (k : Int); omega
  · show (k : Int) < _; omega
theorem lettersS_get (k : Int) : txt (lettersS k) = (lettersL k).getD [] := by simp [lettersS, txt]
set_option maxRecDepth 20000 in
set_option maxHeartbeats 4000000 in
theorem act_any (p : Nat) (s : Option (List UInt8)) (w : World) (ht : Tab w) (hK : Kinds w) (hr : Rd 77 w p s) :
    Calls Tryd.prog 43 #[.pointer (some ⟨p, 0, none⟩)] w (ActPost 77 p s w) := by
  obtain ⟨W, fold⟩ : ∃ W, w.alloc (.cells #[.int .i64 0, .string ⟨#[]⟩, .int .i64 0, .int .u64 0, .int .i64 0, .string ⟨#[]⟩, .int .i64 0, .bool false, .string ⟨#[]⟩, .string ⟨#[]⟩, .string ⟨#[]⟩, .int .i64 0, .int .u64 0, .int .i64 0, .string ⟨#[]⟩, .string ⟨#[]⟩, .string ⟨#[]⟩] 32) = W := ⟨_, rfl⟩
  have b0 : Below w.heap.size w W := by rw [← fold]; exact box_below w _
  have x0 : W.heap[w.heap.size]? = some (.cells (xcells (zA 0)).toArray 32 (0, 0)) := by rw [← fold]; exact heap_alloc_new w _
  have hlt := hr.lt
  have hC := num1_any p s W (ht.below b0 ht.pos) (hr.kept b0)
  have H0 : Hid (Tab W ∧ Rd 77 W p s ∧ W.heap[w.heap.size]? = some (.cells (xcells (zA 0)).toArray 32 (0, 0)) ∧ Bar p w W ∧ w.heap.size ≠ p ∧ Kinds W ∧ 1 < w.heap.size) := ⟨ht.below b0 ht.pos, hr.kept b0, x0, Bar.of b0, by omega, hK.below b0, ht.pos⟩
  clear ht hr b0 x0 hlt hK
  go_enter Tryd.func43, Tryd.ntmps43
  go_wp2_with fail
  try rw [fold]
  refine hC.mono ?_
  rintro e w1 ⟨t1, s1, rfl, n1, a1, r1, b1⟩
  clear hC
  have wr1 := wrap_num n1 (by decide)
  have H1 : Hid (Tab w1 ∧ Rd 77 w1 p s1 ∧ w1.heap[w.heap.size]? = some (.cells (xcells (zA 0)).toArray 32 (0, 0)) ∧ Bar p w w1 ∧ w.heap.size ≠ p ∧ Kinds w1 ∧ 1 < w.heap.size) := ⟨H0.out.1.bar H0.out.2.1 b1, r1, b1.box H0.out.2.2.1 H0.out.2.2.2.2.1, H0.out.2.2.2.1.trans b1, H0.out.2.2.2.2.1, H0.out.2.2.2.2.2.1.bar H0.out.2.1 b1, H0.out.2.2.2.2.2.2⟩
  have N1 : Hid (t1 < 256 ^ 1) := n1
  have A1 : Hid (Aft s (numP 1) t1 s1) := a1
  clear n1 a1 r1 b1
  obtain ⟨U, foldU⟩ : ∃ U, w1.alloc (.cells #[.int .i64 (t1 : Int), .string ⟨#[]⟩, .int .i64 0, .int .u64 0, .int .i64 0, .string ⟨#[]⟩, .int .i64 0, .bool false, .string ⟨#[]⟩, .string ⟨#[]⟩, .string ⟨#[]⟩, .int .i64 0, .int .u64 0, .int .i64 0, .string ⟨#[]⟩, .string ⟨#[]⟩, .string ⟨#[]⟩] 32) = U := ⟨_, rfl⟩
  have bU : Below w1.heap.size w1 U := by rw [← foldU]; exact box_below w1 _
  have xU : U.heap[w1.heap.size]? = some (.cells (xcells (zA t1)).toArray 32 (0, 0)) := by rw [← foldU]; exact heap_alloc_new w1 _
  have hL := lettersOf_any (t1 : Int) U (H1.out.2.2.2.2.2.1.below bU)
  have y0 : U.cell? ⟨w1.heap.size, 0, none⟩ = some (.int .i64 (t1 : Int)) := box_at xU rfl
  have H2 : Hid (Tab U ∧ Rd 77 U p s1 ∧ U.heap[w.heap.size]? = some (.cells (xcells (zA 0)).toArray 32 (0, 0)) ∧ Bar p w U ∧ U.heap[w1.heap.size]? = some (.cells (xcells (zA t1)).toArray 32 (0, 0)) ∧ w1.heap.size < U.heap.size ∧ p < w1.heap.size ∧ w.heap.size < w1.heap.size) := ⟨H1.out.1.below bU H1.out.1.pos, H1.out.2.1.kept bU, (bU.block _ (Array.getElem?_eq_some_iff.1 H1.out.2.2.1).1).trans H1.out.2.2.1, H1.out.2.2.2.1.trans (Bar.of bU), xU, (Array.getElem?_eq_some_iff.1 xU).1, H1.out.2.1.lt, (Array.getElem?_eq_some_iff.1 H1.out.2.2.1).1⟩
  have HU : Hid _ := foldU
  clear bU xU foldU y0
  go_wp2_with fail
  rw [HU.out]
  obtain ⟨q, hq⟩ : ∃ z, w1.heap.size = z := ⟨_, rfl⟩
  rw [hq] at H2 ⊢
  refine hL.mono ?_
  rintro e V ⟨rfl, b2⟩
  clear hL
  obtain ⟨b, hb⟩ : ∃ z, lettersS (t1 : Int) = z := ⟨_, rfl⟩
  have hbt : txt b = (lettersL (t1 : Int)).getD [] := by rw [← hb]; exact lettersS_get _
  have hbi : ∀ c ∈ txt b, c ∈ lettersAll ∧ c.toNat < 128 := by
    rw [hbt]
    cases hl : lettersL (t1 : Int) with
    | none => intro c hc; simp at hc
    | some l => exact fun c hc => ⟨lettersL_in hl c hc, lettersL_ascii hl c hc⟩
  have b3 := box_below V (.stringIter b 0)
  have bb : Below U.heap.size U (V.iter b 0) := keptW b2 b3
  have hjs : U.heap.size ≤ V.heap.size := b2.size
  have HI : Hid (ActIn w (V.iter b 0) p w.heap.size q V.heap.size s1 (zA t1) b 0) :=
    ⟨H2.out.1.below bb H2.out.1.pos, H2.out.2.1.kept bb, (bb.block _ (Array.getElem?_eq_some_iff.1 H2.out.2.2.1).1).trans H2.out.2.2.1, (bb.block _ H2.out.2.2.2.2.2.1).trans H2.out.2.2.2.2.1, heap_alloc_new V _, zA_fits t1 (num_le N1.out (by decide)), H2.out.2.2.2.1.trans (Bar.of bb), H1.out.2.2.2.2.1, by have := H2.out.2.2.2.2.2.2.1; omega, by have := H2.out.2.1.lt; omega, by have := H2.out.2.2.2.2.2.2.2; omega, by have := H2.out.2.2.2.2.2.1; omega, Nat.le_refl _, by have := H2.out.2.2.2.2.2.2.2; omega, by have h1 := H2.out.2.2.2.2.2.1; have h2 := H2.out.2.2.2.2.2.2.2; omega, H1.out.2.2.2.2.2.2⟩
  obtain ⟨j, hj⟩ : ∃ z, V.heap.size = z := ⟨_, rfl⟩
  rw [hj] at HI
  have HL : Hid (txt b = (lettersL (t1 : Int)).getD [] ∧ ∀ c ∈ txt b, c ∈ lettersAll ∧ c.toNat < 128) := ⟨hbt, hbi⟩
  clear hbt hbi b2 b3 bb hjs
  rw [hb]
  go_wp2
  try rw [hj]
  go_loopg [7, 8] b.size (fun g u7 u8 wr => ∃ (pos : Nat) (z : Ax) (s' : Option (List UInt8)), pos ≤ b.size ∧ g = b.size - pos ∧ Hid (ActIn w wr p w.heap.size q j s' z b pos ∧ Aft s1 (takesP ((txt b).take pos) (zA t1)) z s'))
  case atStart => exact ⟨0, zA t1, s1, Nat.zero_le _, rfl, HI.out, aft_pure _ _⟩
  case round =>
    obtain ⟨pos, z, s', hpos, rfl, HR⟩ := hrel
    clear HI
    by_cases hlt : pos < b.size
    · have hlt2 : pos < (txt b).length := by rw [txt_length]; exact hlt
      obtain ⟨c, hc⟩ : ∃ z, b[pos]'hlt = z := ⟨_, rfl⟩
      have hget : (txt b)[pos]'hlt2 = c := by rw [← hc]; exact Array.getElem_toList (xs := b.data) hlt
      have hcm : c ∈ txt b := by rw [← hget]; exact List.getElem_mem hlt2
      have hc8 : (b[pos]'hlt).toNat < 128 := by rw [hc]; exact (HL.out.2 c hcm).2
      have hnx := fun ty => Lib.run_next_ascii_at (P := Tryd.prog) wr j b pos ty HR.out.1.it hlt hc8
      obtain ⟨W1, hW1⟩ : ∃ z, wr.iterAt j b (pos + 1) = z := ⟨_, rfl⟩
      have H1' := HR.out.1.next
      rw [hW1] at H1' hnx
      rw [hc] at hnx
      have HT : Hid (∀ z' s2, Aft s' (takeP z c) z' s2 → Aft s1 (takesP ((txt b).take (pos + 1)) (zA t1)) z' s2) := fun z' s2 h => by
        rw [List.take_succ_eq_append_getElem hlt2, hget, takesP_snoc]
        exact HR.out.2.bind h
      have hcall := call_any p c (HL.out.2 c hcm).1 W1
      have htake := take_any c (HL.out.2 c hcm).1 p q s' z W1 H1'.tab H1'.rd H1'.hq H1'.fits H1'.qp
      have HN : Hid (ActIn w W1 p w.heap.size q j s' z b (pos + 1)) := H1'
      have hf7 := tk_in c
      obtain ⟨f, hf⟩ : ∃ z, tk c = z := ⟨_, rfl⟩
      rw [hf] at hcall htake hf7
      clear H1' HR hW1 hc hget hc8 hlt2 hcm hf
      go_wp2_with fail
      refine hcall.mono ?_
      rintro e W1 ⟨rfl, rfl⟩
      clear hcall
      rcases hf7 with rfl | rfl | rfl | rfl | rfl | rfl | rfl
      · go_wp2_with fail
        refine htake.mono ?_
        rintro e V2 ⟨z', s2, rfl, fz, af, rd, hqz, bar⟩
        have HB : Hid (ActIn w V2 p w.heap.size q j s2 z' b (pos + 1) ∧ Aft s' (takeP z c) z' s2) := ⟨HN.out.take rd fz hqz bar, af⟩
        clear htake fz af rd hqz bar
        go_wp2
        go_roundg (b.size - (pos + 1))
        case measure => omega
        case rel => exact ⟨pos + 1, z', s2, by omega, rfl, HB.out.1, HT.out _ _ HB.out.2⟩
      · go_wp2_with fail
        refine htake.mono ?_
        rintro e V2 ⟨z', s2, rfl, fz, af, rd, hqz, bar⟩
        have HB : Hid (ActIn w V2 p w.heap.size q j s2 z' b (pos + 1) ∧ Aft s' (takeP z c) z' s2) := ⟨HN.out.take rd fz hqz bar, af⟩
        clear htake fz af rd hqz bar
        go_wp2
        go_roundg (b.size - (pos + 1))
        case measure => omega
        case rel => exact ⟨pos + 1, z', s2, by omega, rfl, HB.out.1, HT.out _ _ HB.out.2⟩
      · go_wp2_with fail
        refine htake.mono ?_
        rintro e V2 ⟨z', s2, rfl, fz, af, rd, hqz, bar⟩
        have HB : Hid (ActIn w V2 p w.heap.size q j s2 z' b (pos + 1) ∧ Aft s' (takeP z c) z' s2) := ⟨HN.out.take rd fz hqz bar, af⟩
        clear htake fz af rd hqz bar
        go_wp2
        go_roundg (b.size - (pos + 1))
        case measure => omega
        case rel => exact ⟨pos + 1, z', s2, by omega, rfl, HB.out.1, HT.out _ _ HB.out.2⟩
      · go_wp2_with fail
        refine htake.mono ?_
        rintro e V2 ⟨z', s2, rfl, fz, af, rd, hqz, bar⟩
        have HB : Hid (ActIn w V2 p w.heap.size q j s2 z' b (pos + 1) ∧ Aft s' (takeP z c) z' s2) := ⟨HN.out.take rd fz hqz bar, af⟩
        clear htake fz af rd hqz bar
        go_wp2
        go_roundg (b.size - (pos + 1))
        case measure => omega
        case rel => exact ⟨pos + 1, z', s2, by omega, rfl, HB.out.1, HT.out _ _ HB.out.2⟩
      · go_wp2_with fail
        refine htake.mono ?_
        rintro e V2 ⟨z', s2, rfl, fz, af, rd, hqz, bar⟩
        have HB : Hid (ActIn w V2 p w.heap.size q j s2 z' b (pos + 1) ∧ Aft s' (takeP z c) z' s2) := ⟨HN.out.take rd fz hqz bar, af⟩
        clear htake fz af rd hqz bar
        go_wp2
        go_roundg (b.size - (pos + 1))
        case measure => omega
        case rel => exact ⟨pos + 1, z', s2, by omega, rfl, HB.out.1, HT.out _ _ HB.out.2⟩
      · go_wp2_with fail
        refine htake.mono ?_
        rintro e V2 ⟨z', s2, rfl, fz, af, rd, hqz, bar⟩
        have HB : Hid (ActIn w V2 p w.heap.size q j s2 z' b (pos + 1) ∧ Aft s' (takeP z c) z' s2) := ⟨HN.out.take rd fz hqz bar, af⟩
        clear htake fz af rd hqz bar
        go_wp2
        go_roundg (b.size - (pos + 1))
        case measure => omega
        case rel => exact ⟨pos + 1, z', s2, by omega, rfl, HB.out.1, HT.out _ _ HB.out.2⟩
      · go_wp2_with fail
        refine htake.mono ?_
        rintro e V2 ⟨z', s2, rfl, fz, af, rd, hqz, bar⟩
        have HB : Hid (ActIn w V2 p w.heap.size q j s2 z' b (pos + 1) ∧ Aft s' (takeP z c) z' s2) := ⟨HN.out.take rd fz hqz bar, af⟩
        clear htake fz af rd hqz bar
        go_wp2
        go_roundg (b.size - (pos + 1))
        case measure => omega
        case rel => exact ⟨pos + 1, z', s2, by omega, rfl, HB.out.1, HT.out _ _ HB.out.2⟩
    · have hnx := fun ty => Lib.run_next_end_at (P := Tryd.prog) wr j b pos ty HR.out.1.it hlt
      have HF : Hid (Aft s actP z s') := by
        have h1 := HR.out.2
        rw [List.take_of_length_le (by rw [txt_length]; omega), HL.out.1] at h1
        exact A1.out.bind (Q := fun k : Nat => takesP ((lettersL (k : Int)).getD []) (zA (k : Int))) h1
      have HN : Hid (ActIn w wr p w.heap.size q j s' z b pos) := HR.out.1
      clear HR
      go_wp2_with (first | refine wpList_load_row rfl 32 _ rfl q rfl 32 (xcells z).toArray (0, 0) _ HN.out.hq Tryd.underlying32 rfl info17 ?_ | refine wpList_store_row rfl 32 _ _ rfl w.heap.size (xcells z).toArray rfl rfl 32 (xcells (zA 0)).toArray HN.out.hr info17 rfl (one17 z) ?_)
      refine bodyPost_ret (results_cell_row rfl _ _ w.heap.size 32 (xcells z).toArray (0, 0) _ rfl (setRow_heap _ _ _ _ _ _ HN.out.hr) Tryd.underlying32 rfl info17) rfl ?_
      refine ⟨z, s', rfl, HN.out.fits, HF.out, HN.out.rd.only HN.out.hr (noBytes_act _) (Ne.symm HN.out.rp) (fun k _ hk => setRow_other _ _ _ _ hk), ?_⟩
      exact ⟨HN.out.bar.os, HN.out.bar.tape, HN.out.bar.output, by rw [size_setRow]; exact HN.out.bar.size, fun k hk hp => (setRow_other _ _ _ _ (by omega)).trans (HN.out.bar.block k hk hp)⟩
end Go.Proofs.YteimdolckhpndaaDoor
