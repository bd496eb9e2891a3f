/-
  The document's ReadMany, by its contract.
-/
import Derived.Test.YteimdolckhpndaaDoorJLists13
import Derived.Test.YteimdolckhpndaaDoorRRead
import Derived.Test.YteimdolckhpndaaDoorLives13
import Derived.Test.YteimdolckhpndaaDoorRGoodA
import Derived.Deep.RegionHeld3
import Derived.Test.YteimdolckhpndaaDoorRRdReadM
namespace Go.Proofs.YteimdolckhpndaaDoor
open Go.RowKit

/-- '[]byte(s)': a new row that holds the text's bytes. -/
theorem run_bytes_txt (w : World) (s : ByteArray) (hs : s.size < 65536) : ∃ cap W', (convert 9 37 (.string s)).run Tryd.prog w = .ok (.slice (some ⟨w.heap.size, 0, none⟩) s.size cap) W' ∧ Holds W' (.slice (some ⟨w.heap.size, 0, none⟩) s.size cap) (txt s) ∧ Below w.heap.size w W' := by
  refine ⟨_, _, run_bytes_of_string w 9 37 5 s Tryd.underlying9 Tryd.underlying37 Tryd.underlying5, ?_, ?_⟩
  · refine .inr ⟨⟨w.heap.size, 0, none⟩, _, by rw [txt_length], by rw [txt_length]; exact grownCap_ge _ _ _ _, grownCap_le_maxLen _ _ _ _ (by unfold maxLen; omega), fun j u hj => ?_⟩
    have hlt : j < s.data.size := by
      have := (List.getElem?_eq_some_iff.1 hj).1
      rw [bcells_length, txt_length] at this
      exact this
    have hb := bytesRow_at s (grownCap w s.size 0 5) j hlt
    have hu : u = .int .u8 (s.data[j].toNat : Int) := by
      have : (bcells (txt s))[j]? = some (.int .u8 (s.data[j].toNat : Int)) := by
        simp only [bcells, txt, List.getElem?_map, Array.getElem?_toList, Array.getElem?_eq_getElem hlt, Option.map_some]
      rw [this] at hj
      exact (Option.some.inj hj).symm
    rw [hu]
    have hx : (w.drew.alloc (.cells (bytesRow s (grownCap w s.size 0 5)) 5 ((bytesRow s (grownCap w s.size 0 5)).size, (bytesRow s (grownCap w s.size 0 5)).size + 1))).heap[w.heap.size]? = some (.cells (bytesRow s (grownCap w s.size 0 5)) 5 ((bytesRow s (grownCap w s.size 0 5)).size, (bytesRow s (grownCap w s.size 0 5)).size + 1)) := heap_alloc_new w.drew _
    simp only [Addr.add_lit, Nat.zero_add, World.cell?]
    rw [hx]
    exact hb
  · exact (drew_below w).trans (box_below w.drew _)
theorem Aft.piece {s s2 : Option (List UInt8)} {t : ByteArray} (h : Aft s textP t s2) : Aft s pieceP (txt t) s2 := by
  cases s with
  | none => exact h
  | some b =>
    unfold Aft at h ⊢
    rw [Option.bind_some] at h ⊢
    unfold textP bindP at h
    cases hp : pieceP b with
    | none => rw [hp] at h; exact h
    | some r =>
      rw [hp] at h
      simp only [Option.bind_some, pureP] at h
      refine ⟨?_, h.2⟩
      rw [h.1, txt_str]
theorem Aft.torn {α : Type} {s : Option (List UInt8)} {P : Prs α} {x : α} (h : Aft s P x none) : s.bind P = none := by
  unfold Aft at h
  cases hb : s.bind P with
  | none => rfl
  | some r => rw [hb] at h; exact absurd h.2 (by simp)
set_option maxRecDepth 20000 in
set_option maxHeartbeats 8000000 in
theorem rreadL_any (v : Value) (bs : List UInt8) (w : World) (ht : Tab w) (hK : Kinds w) (hv : Holds w v bs) (hl : bs.length ≤ 100000) :
    Calls Tryd.prog 24 #[v] w (ManyPost w bs) := by
  obtain ⟨U, fold⟩ : ∃ U, w.alloc (.cells #[v, .bool false] 81) = U := ⟨_, rfl⟩
  have bU : Below w.heap.size w U := by rw [← fold]; exact box_below w _
  have rU : Rd 81 U w.heap.size (some bs) := by rw [← fold]; exact rd_new _ w v bs hv hl
  have hsU : U.heap.size = w.heap.size + 1 := by rw [← fold]; exact World.size_alloc _ _
  have hC := rnum2_any w.heap.size (some bs) U rU
  have HM : Hid (MIn 81 w U w.heap.size (some bs) (.slice none 0 0) []) := ⟨ht.below bU ht.pos, hK.below bU, rU, K.ownOf_nil _ _, bU, Nat.le_refl _, ht.pos, hK.pos⟩
  obtain ⟨va, vc, rfl⟩ := hv.slice
  clear ht hK hv hl bU rU hsU
  go_enter Tryd.func24, Tryd.ntmps24
  go_wp2_with fail
  try rw [fold]
  refine hC.mono ?_
  rintro e w1 ⟨n, s1, rfl, hn, haft, hr1, bar1⟩
  clear hC
  have hn6 : n < 65536 := num_le hn (by decide)
  have H1 : Hid (MIn 81 w w1 w.heap.size s1 (.slice none 0 0) [] ∧ Aft (some bs) (numP 2) n s1 ∧ n < 65536) := ⟨HM.out.bar hr1 bar1, haft, hn6⟩
  clear hn haft hr1 bar1 HM hn6
  have wn := wrap_small H1.out.2.2
  go_wp2
  go_loopg [6, 7, 8, 9] n (fun g u6 u7 u8 u9 wr => ∃ i : Nat, u7 = .int .i64 (i : Int) ∧ i ≤ n ∧ g = n - i ∧ Hid (∃ s' l, MIn 81 w wr w.heap.size s' u6 l ∧ Aft s1 (itemsP i) l s' ∧ l.length = i))
  case atStart => exact ⟨0, rfl, Nat.zero_le _, rfl, s1, [], H1.out.1, aft_pure _ _, rfl⟩
  case round =>
    obtain ⟨i, rfl, hi, rfl, HI⟩ := hrel
    by_cases hlt : i < n
    · have hlt' : (i : Int) < (n : Int) := by omega
      obtain ⟨s', l, hM, hA, hL⟩ := HI.out
      have hC := rtextR_any w.heap.size s' wr hM.rd
      have H2 : Hid (MIn 81 w wr w.heap.size s' u6 l ∧ Aft s1 (itemsP i) l s' ∧ l.length = i) := ⟨hM, hA, hL⟩
      obtain ⟨a0, m0, c0, tn, l0, blk, _, _, hs', _⟩ := hM.rd
      have c1 : wr.cell? ⟨w.heap.size, 1, none⟩ = some (.bool tn) := by simp only [World.cell?]; rw [blk]; rfl
      have k0 : wr.cell? ⟨w.heap.size, 0, none⟩ = some (.slice a0 m0 c0) := by simp only [World.cell?]; rw [blk]; rfl
      clear hM hA hL HI blk
      cases tn
      rotate_left
      · have HR : Hid (readL bs = none) := readL_torn H1.out.2.1 (by omega : i ≤ n) (Aft.torn (by have h := H2.out.2.1; rw [hs'] at h; exact h))
        clear hC hs'
        go_wp2
        go_ret2
        exact many_none HR.out H2.out.1.bel
      clear hs'
      go_wp2_with fail
      refine hC.mono ?_
      rintro e V0 ⟨t, s2, rfl, hts, haft, hr2, bar2⟩
      clear hC c1 k0
      have H30 : Hid (MIn 81 w V0 w.heap.size s2 u6 l ∧ Aft s' pieceP (txt t) s2) := ⟨H2.out.1.bar hr2 bar2, haft.piece⟩
      clear hr2 bar2 haft
      obtain ⟨cap, V1, hcv, hq, bv⟩ := run_bytes_txt V0 t hts
      have H3 : Hid (MIn 81 w V1 w.heap.size s2 u6 l ∧ Aft s' pieceP (txt t) s2) := ⟨H30.out.1.go bv, H30.out.2⟩
      have hC := rread_any _ (txt t) V1 hq (by rw [txt_length]; omega)
      clear hq bv H30 hts
      obtain ⟨q, hqq⟩ : ∃ q, txt t = q := ⟨_, rfl⟩
      rw [hqq] at hC H3
      clear hqq
      cases ho : readA q with
      | none =>
        rw [ho] at hC
        have HR : Hid (readL bs = none) := readL_torn H1.out.2.1 (by omega : i + 1 ≤ n) (items_none H2.out.2.1 H3.out.2 ho)
        clear ho
        have hC : Calls Tryd.prog 20 #[.slice (some ⟨V0.heap.size, 0, none⟩) t.size cap] V1 fun e w' => e = .returned (.tuple #[av (zA 0), .int .i64 7]) ∧ Below V1.heap.size V1 w' := hC
        go_wp2_with fail
        refine hC.mono ?_
        rintro e V2 ⟨rfl, b2⟩
        clear hC
        have H4 : Hid (MIn 81 w V2 w.heap.size s2 u6 l) := H3.out.1.go b2
        clear b2
        obtain ⟨X0, foldX⟩ : ∃ X, V2.alloc (.cells #[.int .i64 0, .string ⟨#[]⟩, .int .i64 0, .int .u64 0, .int .i64 0, .string ⟨#[]⟩, .int .i64 0, .bool false, .string ⟨#[]⟩, .string ⟨#[]⟩, .string ⟨#[]⟩, .int .i64 0, .int .u64 0, .int .i64 0, .string ⟨#[]⟩, .string ⟨#[]⟩, .string ⟨#[]⟩] 32) = X := ⟨_, rfl⟩
        have zX : X0.heap[V2.heap.size]? = some (.cells (xcells (zA 0)).toArray 32 (0, 0)) := by rw [← foldX]; exact heap_alloc_new V2 _
        have bX0 : Below V2.heap.size V2 X0 := by rw [← foldX]; exact box_below V2 _
        have HB : Hid (Below w.heap.size w (X0.setRow V2.heap.size (xcells (zA 0)).toArray) ∧ X0.heap[V2.heap.size]? = some (.cells (xcells (zA 0)).toArray 32 (0, 0))) := ⟨keptW H4.out.bel (below_setRow bX0 (Nat.le_refl _) _), zX⟩
        clear zX bX0
        go_wp2_with (refine wpList_store_row rfl 32 _ _ rfl V2.heap.size (xcells (zA 0)).toArray rfl rfl 32 (xcells (zA 0)).toArray HB.out.2 info17 rfl (one17 _) ?_)
        go_ret2
        exact many_none HR.out HB.out.1
      | some z =>
        rw [ho] at hC
        have HA2 : Hid (Aft s1 (itemsP (i + 1)) (l ++ [z]) s2) := items_some H2.out.2.1 H3.out.2 ho
        clear ho
        have hC : Calls Tryd.prog 20 #[.slice (some ⟨V0.heap.size, 0, none⟩) t.size cap] V1 fun e w' => e = .returned (.tuple #[av z, .int .i64 0]) ∧ Below V1.heap.size V1 w' := hC
        go_wp2_with fail
        refine hC.mono ?_
        rintro e V2 ⟨rfl, b2⟩
        clear hC
        have H4 : Hid (MIn 81 w V2 w.heap.size s2 u6 l) := H3.out.1.go b2
        clear b2
        obtain ⟨X0, foldX⟩ : ∃ X, V2.alloc (.cells #[.int .i64 0, .string ⟨#[]⟩, .int .i64 0, .int .u64 0, .int .i64 0, .string ⟨#[]⟩, .int .i64 0, .bool false, .string ⟨#[]⟩, .string ⟨#[]⟩, .string ⟨#[]⟩, .int .i64 0, .int .u64 0, .int .i64 0, .string ⟨#[]⟩, .string ⟨#[]⟩, .string ⟨#[]⟩] 32) = X := ⟨_, rfl⟩
        have zX : X0.heap[V2.heap.size]? = some (.cells (xcells (zA 0)).toArray 32 (0, 0)) := by rw [← foldX]; exact heap_alloc_new V2 _
        have bX0 : Below V2.heap.size V2 X0 := by rw [← foldX]; exact box_below V2 _
        obtain ⟨X1, foldX1⟩ : ∃ X, X0.setRow V2.heap.size (xcells z).toArray = X := ⟨_, rfl⟩
        have bX1 : Below V2.heap.size V2 X1 := by rw [← foldX1]; exact below_setRow bX0 (Nat.le_refl _) _
        have xX1 : X1.heap[V2.heap.size]? = some (.cells (xcells z).toArray 32 (0, 0)) := by rw [← foldX1]; exact setRow_heap _ _ _ _ _ _ zX
        obtain ⟨Y, foldY⟩ : ∃ X, X1.alloc (.cells #[.int .i64 z.kind, .string z.name, .int .i64 z.n, .int .u64 z.tag, .int .i64 z.to, .string z.xn, .int .i64 z.xk, .bool z.xf, .string z.be, .string z.bq, .string z.bp, .int .i64 z.m.origin, .int .u64 z.m.seq, .int .i64 z.m.hop, .string z.m.ex, .string z.m.key, .string z.m.body] 32) = X := ⟨_, rfl⟩
        have bY : Below X1.heap.size X1 Y := by rw [← foldY]; exact box_below X1 _
        have rY : K.RowOf xcells Y (.slice (some ⟨X1.heap.size, 0, none⟩) 1 1) [z] := by rw [← foldY]; exact K.row_one X1 z _ rfl
        have HB : Hid (MIn 81 w Y w.heap.size s2 u6 l ∧ X0.heap[V2.heap.size]? = some (.cells (xcells (zA 0)).toArray 32 (0, 0)) ∧ X1.heap[V2.heap.size]? = some (.cells (xcells z).toArray 32 (0, 0)) ∧ K.RowOf xcells Y (.slice (some ⟨X1.heap.size, 0, none⟩) 1 1) [z] ∧ X0.setRow V2.heap.size (xcells z).toArray = X1 ∧ X1.alloc (.cells #[.int .i64 z.kind, .string z.name, .int .i64 z.n, .int .u64 z.tag, .int .i64 z.to, .string z.xn, .int .i64 z.xk, .bool z.xf, .string z.be, .string z.bq, .string z.bp, .int .i64 z.m.origin, .int .u64 z.m.seq, .int .i64 z.m.hop, .string z.m.ex, .string z.m.key, .string z.m.body] 32) = Y) := ⟨(H4.out.go bX1).go bY, zX, xX1, rY, foldX1, foldY⟩
        obtain ⟨ii, hii, hzz, hss, hbb⟩ := actInfo
        have hz17 : (av (zA 0)).cells.size = 17 := rfl
        have hpl : w.heap.size + 1 ≤ Y.heap.size := by have := HB.out.1.rd.lt; omega
        have HN : Hid (l.length = i ∧ i < 65536 ∧ w.heap.size + 1 ≤ Y.heap.size) := ⟨H2.out.2.2, by have := H1.out.2.2; omega, hpl⟩
        clear zX bX0 bX1 xX1 bY rY hpl
        go_wp2_with (first
          | refine wpList_store_row rfl 32 _ _ rfl V2.heap.size (xcells z).toArray rfl rfl 32 (xcells (zA 0)).toArray HB.out.2.1 info17 rfl (one17 _) ?_
          | refine wpList_load_row rfl 32 _ rfl V2.heap.size rfl 32 #[.int .i64 z.kind, .string z.name, .int .i64 z.n, .int .u64 z.tag, .int .i64 z.to, .string z.xn, .int .i64 z.xk, .bool z.xf, .string z.be, .string z.bq, .string z.bp, .int .i64 z.m.origin, .int .u64 z.m.seq, .int .i64 z.m.hop, .string z.m.ex, .string z.m.key, .string z.m.body] (0, 0) _ (by first | exact HB.out.2.2.1 | (rw [HB.out.2.2.2.2.1]; exact HB.out.2.2.1)) Tryd.underlying32 rfl info17 ?_
          | (at_builtin; refine K.wpList_append_rows (enc := xcells) rfl (.tmp 37) (.tmp 39) 49 rfl Tryd.underlying49 ii (av (zA 0)) 200 hii hzz hss hbb hz17 (w.heap.size + 1) _ _ l [z] rfl rfl (by first | exact HB.out.1.own | (rw [foldY]; exact HB.out.1.own)) (by first | exact HB.out.2.2.2.1 | (rw [foldY]; exact HB.out.2.2.2.1)) (by have := HN.out; unfold maxLen; show l.length + 1 ≤ _; omega) (by have := HN.out; show (l.length + 1) * 200 ≤ _; omega) (by first | exact HN.out.2.2 | (rw [foldY]; exact HN.out.2.2)) ?_; intro v5 w5 o5 g5 n5; have P5 : Hid (MIn 81 w w5 w.heap.size s2 v5 (l ++ [z])) := HB.out.1.put o5 (by first | exact g5 | (rw [foldY] at g5; exact g5)); clear o5 g5 n5))

        go_wp2
        go_roundg (n - (i + 1))
        case measure => omega
        case rel => exact ⟨i + 1, congrArg (Value.int IntKind.i64) (by have := HN.out; unfold wrap64; omega), by omega, rfl, s2, l ++ [z], P5.out, HA2.out, by rw [List.length_append, HN.out.1]; rfl⟩
    · have hlt' : ¬ (i : Int) < (n : Int) := by omega
      obtain rfl : i = n := by omega
      obtain ⟨s', l, hM, hA, hL⟩ := HI.out
      have HF : Hid (readL bs = if s' = some [] ∧ l.length ≤ 60000 then some l else none) := readL_aft H1.out.2.1 hA
      have HN : Hid (MIn 81 w wr w.heap.size s' u6 l ∧ l.length = i) := ⟨hM, hL⟩
      obtain ⟨a0, m0, c0, tn, l0, blk, hh0, _, hs', _⟩ := hM.rd
      obtain rfl : m0 = l0.length := by obtain ⟨_, _, hv⟩ := hh0.slice; injection hv
      have c1 : wr.cell? ⟨w.heap.size, 1, none⟩ = some (.bool tn) := by simp only [World.cell?]; rw [blk]; rfl
      have k0 : wr.cell? ⟨w.heap.size, 0, none⟩ = some (.slice a0 l0.length c0) := by simp only [World.cell?]; rw [blk]; rfl
      have HS : Hid (s' = left tn l0) := hs'
      clear hM hA hL HI hs' blk hh0
      by_cases hb : tn = false ∧ l0.length = 0 ∧ i ≤ 60000
      · obtain ⟨rfl, hz, hbig⟩ := hb
        have HR : Hid (readL bs = some l) := by
          show readL bs = some l
          rw [HF.out, if_pos ⟨by rw [HS.out]; show some l0 = _; rw [List.eq_nil_of_length_eq_zero hz], by rw [HN.out.2]; exact hbig⟩]
        have hbig' : ¬ (60000 : Int) < (i : Int) := by omega
        obtain rfl : l0 = [] := List.eq_nil_of_length_eq_zero hz
        have k0 : wr.cell? ⟨w.heap.size, 0, none⟩ = some (.slice a0 0 c0) := k0
        clear hz hbig HF
        go_wp2
        go_ret2
        exact ⟨u6, by rw [HR.out]; rfl, by rw [HR.out]; exact HN.out.1.own.mono (Nat.le_succ _), HN.out.1.bel⟩
      · have HR : Hid (readL bs = none) := by
          show readL bs = none
          rw [HF.out, if_neg]
          rintro ⟨h1, h2⟩
          rw [HS.out] at h1
          cases tn
          · refine hb ⟨rfl, ?_, by rw [← HN.out.2]; exact h2⟩
            have : some l0 = some ([] : List UInt8) := h1
            injection this with h; rw [h]; rfl
          · exact absurd h1 (by simp [left])
        clear HF HS
        cases tn
        · obtain ⟨k, hk⟩ : ∃ k, l0.length = k := ⟨_, rfl⟩
          rw [hk] at k0 hb
          clear hk
          by_cases hk0 : (0 : Int) < (k : Int)
          · clear hb
            go_wp2
            go_ret2
            exact many_none HR.out HN.out.1.bel
          · obtain rfl : k = 0 := by omega
            have hbig' : (60000 : Int) < (i : Int) := by
              have : ¬ i ≤ 60000 := fun h => hb ⟨rfl, rfl, h⟩
              omega
            clear hb
            go_wp2
            go_ret2
            exact many_none HR.out HN.out.1.bel
        · clear hb
          go_wp2
          go_ret2
          exact many_none HR.out HN.out.1.bel
end Go.Proofs.YteimdolckhpndaaDoor

/-
  ActReads' law.
-/
namespace Go.Proofs.YteimdolckhpndaaDoor
open Go.RowKit

/-- What the law holds on its way: bytes, tables, boxes of acts and messages. -/
structure Hand (w U : World) (v : Value) (bs : List UInt8) (A : List (Nat × Ax)) (M : List (Nat × Ms)) : Prop where
  bel : Below w.heap.size w U
  tab : Tab U
  kinds : Kinds U
  hv : Holds U v bs
  xs : ∀ p ∈ A, U.heap[p.1]? = some (.cells (xcells p.2).toArray 32 (0, 0))
  ms : ∀ p ∈ M, U.heap[p.1]? = some (.cells (mcells p.2).toArray 30 (0, 0))
theorem Hand.go {w U V : World} {v : Value} {bs : List UInt8} {A : List (Nat × Ax)} {M : List (Nat × Ms)} (h : Hand w U v bs A M) (b : Below U.heap.size U V) : Hand w V v bs A M :=
  ⟨keptW h.bel b, h.tab.below b h.tab.pos, h.kinds.below b, h.hv.below b (Nat.le_refl _), fun p hp => (b.block _ (Array.getElem?_eq_some_iff.1 (h.xs p hp)).1).trans (h.xs p hp), fun p hp => (b.block _ (Array.getElem?_eq_some_iff.1 (h.ms p hp)).1).trans (h.ms p hp)⟩
theorem Hand.act {w U : World} {v : Value} {bs : List UInt8} {A : List (Nat × Ax)} {M : List (Nat × Ms)} (h : Hand w U v bs A M) {g : Nat} {a : Ax} (hg : U.heap[g]? = some (.cells (xcells a).toArray 32 (0, 0))) : Hand w U v bs ((g, a) :: A) M :=
  ⟨h.bel, h.tab, h.kinds, h.hv, fun p hp => by rcases List.mem_cons.1 hp with rfl | hp; exact hg; exact h.xs p hp, h.ms⟩
theorem Hand.msg {w U : World} {v : Value} {bs : List UInt8} {A : List (Nat × Ax)} {M : List (Nat × Ms)} (h : Hand w U v bs A M) {g : Nat} {a : Ms} (hg : U.heap[g]? = some (.cells (mcells a).toArray 30 (0, 0))) : Hand w U v bs A ((g, a) :: M) :=
  ⟨h.bel, h.tab, h.kinds, h.hv, h.xs, fun p hp => by rcases List.mem_cons.1 hp with rfl | hp; exact hg; exact h.ms p hp⟩
/-- Two rows, an act that stands in both, and the tables. -/
structure Duo2 (w U : World) (b o b' o' : Nat) (x y : Value) (l : List Ax) (z : Ax) : Prop where
  bel : Below w.heap.size w U
  row : K.RowOf xcells U x l
  row2 : K.RowOf xcells U y l
  tab : Tab U
  kinds : Kinds U
  cv : ∀ q u, (xcells z)[q]? = some u → U.cell? ⟨b, o + q, none⟩ = some u
  cx : ∀ q u, (xcells z)[q]? = some u → U.cell? ⟨b', o' + q, none⟩ = some u
theorem Duo2.drew {w U : World} {b o b' o' : Nat} {x y : Value} {l : List Ax} {z : Ax} (h : Duo2 w U b o b' o' x y l z) : Duo2 w U.drew b o b' o' x y l z :=
  ⟨keptW h.bel (drew_below U), h.row.below (drew_below U) (Nat.le_refl _), h.row2.below (drew_below U) (Nat.le_refl _), h.tab.below (drew_below U) h.tab.pos, h.kinds.below (drew_below U), fun q u hq => cell_on (drew_below U) (h.cv q u hq), fun q u hq => cell_on (drew_below U) (h.cx q u hq)⟩
set_option maxRecDepth 20000 in
set_option maxHeartbeats 8000000 in
theorem reads_law (v : Value) (bs : List UInt8) (w : World) (ht : Tab w) (hK : Kinds w) (hv : Holds w v bs) :
    Calls Tryd.prog 4 #[v] w fun e w' => e = .returned (.bool true) ∧ Below w.heap.size w w' := by
  have H0 : Hid (Hand w w v bs [] []) := ⟨Below.refl _ _, ht, hK, hv, (fun _ h => (by cases h)), (fun _ h => (by cases h))⟩
  obtain ⟨va, vc, rfl⟩ := hv.slice
  obtain ⟨n, hn⟩ : ∃ z, bs.length = z := ⟨_, rfl⟩
  rw [hn] at H0 ⊢
  have HL : Hid (bs.length = n) := hn
  have hL := lives_any w ht hK
  clear hv ht hK hn
  go_enter Tryd.func4, Tryd.ntmps4
  by_cases hbig : (5000 : Int) < (n : Int)
  · go_wp2_with fail
    refine hL.mono ?_
    rintro e V2 ⟨rfl, b2⟩
    have HE : Hid (Below w.heap.size w V2) := b2
    clear hL b2
    go_wp2
    go_ret
    exact ⟨rfl, HE.out⟩
  clear hL
  have HN : Hid (bs.length ≤ 100000) := by show bs.length ≤ 100000; rw [HL.out]; omega
  obtain ⟨za, hza⟩ : ∃ z, actOf (readA bs) = z := ⟨_, rfl⟩
  obtain ⟨er, her⟩ : ∃ z, errOf (readA bs) = z := ⟨_, rfl⟩
  obtain ⟨zm, hzm⟩ : ∃ z, msgOf (readM bs) = z := ⟨_, rfl⟩
  obtain ⟨sz, hsz⟩ : ∃ z, sizeOf' (readM bs) = z := ⟨_, rfl⟩
  have HZ : Hid (actOf (readA bs) = za ∧ errOf (readA bs) = er ∧ msgOf (readM bs) = zm ∧ sizeOf' (readM bs) = sz) := ⟨hza, her, hzm, hsz⟩
  clear hza her hzm hsz
  have hC := read_any _ bs w H0.out.tab H0.out.kinds H0.out.hv HN.out
  rw [HZ.out.1, HZ.out.2.1] at hC
  go_wp2_with fail
  refine hC.mono ?_
  rintro e V1 ⟨rfl, b⟩
  clear hC
  have HH : Hid (Hand w V1 (.slice va n vc) bs [] []) := H0.out.go b
  clear b
  obtain ⟨X0, fold0⟩ : ∃ X, V1.alloc (.cells #[.int .i64 0, .string ⟨#[]⟩, .int .i64 0, .int .u64 0, .int .i64 0, .string ⟨#[]⟩, .int .i64 0, .bool false, .string ⟨#[]⟩, .string ⟨#[]⟩, .string ⟨#[]⟩, .int .i64 0, .int .u64 0, .int .i64 0, .string ⟨#[]⟩, .string ⟨#[]⟩, .string ⟨#[]⟩] 32) = X := ⟨_, rfl⟩
  have zX : X0.heap[V1.heap.size]? = some (.cells (xcells (zA 0)).toArray 32 (0, 0)) := by rw [← fold0]; exact heap_alloc_new V1 _
  have bX0 : Below V1.heap.size V1 X0 := by rw [← fold0]; exact box_below V1 _
  obtain ⟨X1, foldX0⟩ : ∃ X, X0.setRow V1.heap.size (xcells za).toArray = X := ⟨_, rfl⟩
  have bX : Below V1.heap.size V1 X1 := by rw [← foldX0]; exact below_setRow bX0 (Nat.le_refl _) _
  have xX : X1.heap[V1.heap.size]? = some (.cells (xcells za).toArray 32 (0, 0)) := by rw [← foldX0]; exact setRow_heap _ _ _ _ _ _ zX
  have ZX0 : Hid (X0.heap[V1.heap.size]? = some (.cells (xcells (zA 0)).toArray 32 (0, 0))) := zX
  have H1 : Hid (Hand w X1 (.slice va n vc) bs [(V1.heap.size, za)] []) := (HH.out.go bX).act xX
  clear zX bX0 bX xX HH H0
  have hC := rread_any _ bs X1 H1.out.hv HN.out
  rw [HZ.out.1, HZ.out.2.1] at hC
  go_wp2_with (refine wpList_store_row rfl 32 _ _ rfl V1.heap.size (xcells za).toArray rfl rfl 32 (xcells (zA 0)).toArray ZX0.out info17 rfl (one17 _) ?_)
  try rw [foldX0]
  refine hC.mono ?_
  rintro e V2 ⟨rfl, b⟩
  clear hC
  have HH : Hid (Hand w V2 (.slice va n vc) bs [(V1.heap.size, za)] []) := H1.out.go b
  clear b
  obtain ⟨X0, fold0⟩ : ∃ X, V2.alloc (.cells #[.int .i64 0, .string ⟨#[]⟩, .int .i64 0, .int .u64 0, .int .i64 0, .string ⟨#[]⟩, .int .i64 0, .bool false, .string ⟨#[]⟩, .string ⟨#[]⟩, .string ⟨#[]⟩, .int .i64 0, .int .u64 0, .int .i64 0, .string ⟨#[]⟩, .string ⟨#[]⟩, .string ⟨#[]⟩] 32) = X := ⟨_, rfl⟩
  have zX : X0.heap[V2.heap.size]? = some (.cells (xcells (zA 0)).toArray 32 (0, 0)) := by rw [← fold0]; exact heap_alloc_new V2 _
  have bX0 : Below V2.heap.size V2 X0 := by rw [← fold0]; exact box_below V2 _
  obtain ⟨X2, foldX1⟩ : ∃ X, X0.setRow V2.heap.size (xcells za).toArray = X := ⟨_, rfl⟩
  have bX : Below V2.heap.size V2 X2 := by rw [← foldX1]; exact below_setRow bX0 (Nat.le_refl _) _
  have xX : X2.heap[V2.heap.size]? = some (.cells (xcells za).toArray 32 (0, 0)) := by rw [← foldX1]; exact setRow_heap _ _ _ _ _ _ zX
  have ZX1 : Hid (X0.heap[V2.heap.size]? = some (.cells (xcells (zA 0)).toArray 32 (0, 0))) := zX
  have H2 : Hid (Hand w X2 (.slice va n vc) bs [(V2.heap.size, za), (V1.heap.size, za)] []) := (HH.out.go bX).act xX
  clear zX bX0 bX xX HH H1
  have hC := readM_any _ bs X2 H2.out.tab H2.out.hv HN.out
  rw [HZ.out.2.2.1, HZ.out.2.2.2] at hC
  go_wp2_with (refine wpList_store_row rfl 32 _ _ rfl V2.heap.size (xcells za).toArray rfl rfl 32 (xcells (zA 0)).toArray ZX1.out info17 rfl (one17 _) ?_)
  try rw [foldX1]
  refine hC.mono ?_
  rintro e V3 ⟨rfl, b⟩
  clear hC
  have HH : Hid (Hand w V3 (.slice va n vc) bs [(V2.heap.size, za), (V1.heap.size, za)] []) := H2.out.go b
  clear b
  obtain ⟨X0, fold0⟩ : ∃ X, V3.alloc (.cells #[.int .i64 0, .int .u64 0, .int .i64 0, .string ⟨#[]⟩, .string ⟨#[]⟩, .string ⟨#[]⟩] 30) = X := ⟨_, rfl⟩
  have zX : X0.heap[V3.heap.size]? = some (.cells (mcells zM).toArray 30 (0, 0)) := by rw [← fold0]; exact heap_alloc_new V3 _
  have bX0 : Below V3.heap.size V3 X0 := by rw [← fold0]; exact box_below V3 _
  obtain ⟨X3, foldX2⟩ : ∃ X, X0.setRow V3.heap.size (mcells zm).toArray = X := ⟨_, rfl⟩
  have bX : Below V3.heap.size V3 X3 := by rw [← foldX2]; exact below_setRow bX0 (Nat.le_refl _) _
  have xX : X3.heap[V3.heap.size]? = some (.cells (mcells zm).toArray 30 (0, 0)) := by rw [← foldX2]; exact setRow_heap _ _ _ _ _ _ zX
  have ZX2 : Hid (X0.heap[V3.heap.size]? = some (.cells (mcells zM).toArray 30 (0, 0))) := zX
  have H3 : Hid (Hand w X3 (.slice va n vc) bs [(V2.heap.size, za), (V1.heap.size, za)] [(V3.heap.size, zm)]) := (HH.out.go bX).msg xX
  clear zX bX0 bX xX HH H2
  have hC := rreadM_any _ bs X3 H3.out.hv HN.out
  rw [HZ.out.2.2.1, HZ.out.2.2.2] at hC
  go_wp2_with (refine wpList_store_row rfl 30 _ _ rfl V3.heap.size (mcells zm).toArray rfl rfl 30 (mcells zM).toArray ZX2.out info6 rfl (one6 _) ?_)
  try rw [foldX2]
  refine hC.mono ?_
  rintro e V4 ⟨rfl, b⟩
  clear hC
  have HH : Hid (Hand w V4 (.slice va n vc) bs [(V2.heap.size, za), (V1.heap.size, za)] [(V3.heap.size, zm)]) := H3.out.go b
  clear b
  obtain ⟨X0, fold0⟩ : ∃ X, V4.alloc (.cells #[.int .i64 0, .int .u64 0, .int .i64 0, .string ⟨#[]⟩, .string ⟨#[]⟩, .string ⟨#[]⟩] 30) = X := ⟨_, rfl⟩
  have zX : X0.heap[V4.heap.size]? = some (.cells (mcells zM).toArray 30 (0, 0)) := by rw [← fold0]; exact heap_alloc_new V4 _
  have bX0 : Below V4.heap.size V4 X0 := by rw [← fold0]; exact box_below V4 _
  obtain ⟨X4, foldX3⟩ : ∃ X, X0.setRow V4.heap.size (mcells zm).toArray = X := ⟨_, rfl⟩
  have bX : Below V4.heap.size V4 X4 := by rw [← foldX3]; exact below_setRow bX0 (Nat.le_refl _) _
  have xX : X4.heap[V4.heap.size]? = some (.cells (mcells zm).toArray 30 (0, 0)) := by rw [← foldX3]; exact setRow_heap _ _ _ _ _ _ zX
  have ZX3 : Hid (X0.heap[V4.heap.size]? = some (.cells (mcells zM).toArray 30 (0, 0))) := zX
  have H4 : Hid (Hand w X4 (.slice va n vc) bs [(V2.heap.size, za), (V1.heap.size, za)] [(V4.heap.size, zm), (V3.heap.size, zm)]) := (HH.out.go bX).msg xX
  clear zX bX0 bX xX HH H3
  have hC := readL_any _ bs X4 H4.out.tab H4.out.kinds H4.out.hv HN.out
  obtain ⟨l, hl⟩ : ∃ z, (readL bs).getD [] = z := ⟨_, rfl⟩
  obtain ⟨eg, heg⟩ : ∃ z, errOf (readL bs) = z := ⟨_, rfl⟩
  have HQ : Hid ((readL bs).getD [] = l ∧ errOf (readL bs) = eg) := ⟨hl, heg⟩
  clear hl heg
  go_wp2_with (refine wpList_store_row rfl 30 _ _ rfl V4.heap.size (mcells zm).toArray rfl rfl 30 (mcells zM).toArray ZX3.out info6 rfl (one6 _) ?_)
  try rw [foldX3]
  refine hC.mono ?_
  rintro e V5 ⟨v5, rfl, o5, b5⟩
  clear hC
  rw [HQ.out.1] at o5
  rw [HQ.out.2]
  have H5 : Hid (Hand w V5 (.slice va n vc) bs [(V2.heap.size, za), (V1.heap.size, za)] [(V4.heap.size, zm), (V3.heap.size, zm)] ∧ OwnA V5 X4.heap.size v5 l) := ⟨H4.out.go b5, o5⟩
  obtain ⟨xa, xc, hv5⟩ := o5.rng.slice
  obtain ⟨xn, hxn⟩ : ∃ q, l.length = q := ⟨_, rfl⟩
  rw [hxn] at hv5
  subst hv5
  have HX : Hid (l.length = xn) := hxn
  clear o5 b5 hxn H4
  have hC := rreadL_any _ bs V5 H5.out.1.tab H5.out.1.kinds H5.out.1.hv HN.out
  go_wp2_with fail
  refine hC.mono ?_
  rintro e V6 ⟨v6, rfl, o6, b6⟩
  clear hC
  rw [HQ.out.1] at o6
  rw [HQ.out.2]
  have H6 : Hid (Hand w V6 (.slice va n vc) bs [(V2.heap.size, za), (V1.heap.size, za)] [(V4.heap.size, zm), (V3.heap.size, zm)] ∧ K.RowOf xcells V6 (.slice xa xn xc) l ∧ K.RowOf xcells V6 v6 l) := ⟨H5.out.1.go b6, (H5.out.2.kept b6 (Nat.le_refl _)).rng, o6.rng⟩
  obtain ⟨ya, yc, hv6⟩ := o6.rng.slice
  rw [HX.out] at hv6
  subst hv6
  clear o6 b6 H5
  have heqA := fun X => run_neA za za X
  rw [show decide (za = za) = true from decide_eq_true rfl] at heqA
  have hgA := eqGuardA
  have heqM := fun X => run_neM zm zm X
  rw [show decide (zm = zm) = true from decide_eq_true rfl] at heqM
  have hgM := eqGuardM
  have HP : Hid (V6.heap[V1.heap.size]? = some (.cells (xcells za).toArray 32 (0, 0)) ∧ V6.heap[V2.heap.size]? = some (.cells (xcells za).toArray 32 (0, 0)) ∧ V6.heap[V3.heap.size]? = some (.cells (mcells zm).toArray 30 (0, 0)) ∧ V6.heap[V4.heap.size]? = some (.cells (mcells zm).toArray 30 (0, 0))) := ⟨H6.out.1.xs (V1.heap.size, za) (by simp), H6.out.1.xs (V2.heap.size, za) (by simp), H6.out.1.ms (V3.heap.size, zm) (by simp), H6.out.1.ms (V4.heap.size, zm) (by simp)⟩
  go_wp2_with (first
    | refine wpList_load_row rfl 32 _ rfl V1.heap.size rfl 32 #[.int .i64 za.kind, .string za.name, .int .i64 za.n, .int .u64 za.tag, .int .i64 za.to, .string za.xn, .int .i64 za.xk, .bool za.xf, .string za.be, .string za.bq, .string za.bp, .int .i64 za.m.origin, .int .u64 za.m.seq, .int .i64 za.m.hop, .string za.m.ex, .string za.m.key, .string za.m.body] (0, 0) _ HP.out.1 Tryd.underlying32 rfl info17 ?_
    | refine wpList_load_row rfl 32 _ rfl V2.heap.size rfl 32 #[.int .i64 za.kind, .string za.name, .int .i64 za.n, .int .u64 za.tag, .int .i64 za.to, .string za.xn, .int .i64 za.xk, .bool za.xf, .string za.be, .string za.bq, .string za.bp, .int .i64 za.m.origin, .int .u64 za.m.seq, .int .i64 za.m.hop, .string za.m.ex, .string za.m.key, .string za.m.body] (0, 0) _ HP.out.2.1 Tryd.underlying32 rfl info17 ?_
    | refine wpList_load_rowG (by rfl) 30 _ rfl V3.heap.size rfl 30 #[.int .i64 zm.origin, .int .u64 zm.seq, .int .i64 zm.hop, .string zm.ex, .string zm.key, .string zm.body] (0, 0) _ HP.out.2.2.1 Tryd.underlying30 rfl info6 ?_
    | refine wpList_load_rowG (by rfl) 30 _ rfl V4.heap.size rfl 30 #[.int .i64 zm.origin, .int .u64 zm.seq, .int .i64 zm.hop, .string zm.ex, .string zm.key, .string zm.body] (0, 0) _ HP.out.2.2.2 Tryd.underlying30 rfl info6 ?_)
  clear heqA hgA heqM hgM HP
  have hL : Hid (∀ V, Below w.heap.size w V → Tab V ∧ Kinds V → Calls Tryd.prog 9 #[] V fun e w' => e = .returned (.bool true) ∧ Below V.heap.size V w') := fun V hV h => lives_any V h.1 h.2
  have H7 : Hid (Below w.heap.size w V6 ∧ K.RowOf xcells V6 (.slice xa xn xc) l ∧ K.RowOf xcells V6 (.slice ya xn yc) l ∧ Tab V6 ∧ Kinds V6) := ⟨H6.out.1.bel, H6.out.2.1, H6.out.2.2, H6.out.1.tab, H6.out.1.kinds⟩
  clear H6
  go_loopg [15, 82] xn (fun g u15 u82 wr => ∃ j : Nat, u82 = .int .i64 (j : Int) ∧ j ≤ xn ∧ g = xn - j ∧ Hid (Below w.heap.size w wr ∧ K.RowOf xcells wr (.slice xa xn xc) l ∧ K.RowOf xcells wr (.slice ya xn yc) l ∧ Tab wr ∧ Kinds wr))
  case atStart => exact ⟨0, rfl, Nat.zero_le _, rfl, H7.out⟩
  case round =>
    obtain ⟨j, rfl, hj, rfl, HJ⟩ := hrel
    by_cases hjn : j < xn
    · have hjn' : (j : Int) < (xn : Int) := by omega
      have hjl : j < l.length := by rw [HX.out]; exact hjn
      obtain ⟨b, off, cap, hxa, hc1, hc2, hcells⟩ := HJ.out.2.1.at (by omega)
      have HM : Hid (j < 9223372036854775807) := by show j < 9223372036854775807; unfold maxLen at hc2; omega
      clear hc1 hc2
      obtain ⟨b', off', cap', hya, _, _, hcells'⟩ := HJ.out.2.2.1.at (by omega)
      rw [HX.out] at hxa hya
      injection hxa with hxa1 hxa0 hxa2
      injection hya with hya1 hya0 hya2
      subst hxa1 hxa2 hya1 hya2
      obtain ⟨z, hz⟩ : ∃ z, l[j] = z := ⟨_, rfl⟩
      have HC : Hid ((∀ q u, (xcells z)[q]? = some u → wr.cell? ⟨b, off + j * 17 + q, none⟩ = some u) ∧ (∀ q u, (xcells z)[q]? = some u → wr.cell? ⟨b', off' + j * 17 + q, none⟩ = some u)) := by
        refine ⟨fun q u hq => ?_, fun q u hq => ?_⟩
        · have hj17 : q < 17 := by have := (List.getElem?_eq_some_iff.1 hq).1; simpa [xcells] using this
          exact K.row_cell hcells j hjl q hj17 u (by rw [hz]; exact hq)
        · have hj17 : q < 17 := by have := (List.getElem?_eq_some_iff.1 hq).1; simpa [xcells] using this
          exact K.row_cell hcells' j hjl q hj17 u (by rw [hz]; exact hq)
      clear hcells hcells' hxa0 hya0 hz
      have HD : Hid (Duo2 w wr b (off + j * 17) b' (off' + j * 17) (.slice (some ⟨b, off, none⟩) xn xc) (.slice (some ⟨b', off', none⟩) xn yc) l z) := ⟨HJ.out.1, HJ.out.2.1, HJ.out.2.2.1, HJ.out.2.2.2.1, HJ.out.2.2.2.2, HC.out.1, HC.out.2⟩
      clear HC
      have heqA : ∀ X, (binOp .neq 32 (av z) (av z)).run Tryd.prog X = .ok (.bool false) X := fun X => by rw [run_neA, decide_eq_true rfl]; rfl
      go_wp2
      refine wp_region_noPanic ?_
      refine wp_region_held_drew (S := fun U => Duo2 w U b (off + j * 17) b' (off' + j * 17) (.slice (some ⟨b, off, none⟩) xn xc) (.slice (some ⟨b', off', none⟩) xn yc) l z) (by kernel_rfl) (HD.out.drew) (fun hHeld => ?_)
      refine wpAnyH_take (i := 0) (v := .slice (some ⟨b, off, none⟩) xn xc) (by simp only [List.getElem?_toArray, List.getElem?_cons_zero]; rfl) (by kernel_rfl) (by kernel_rfl) (by kernel_rfl) (fun _ _ _ h => h) (Or.inl ⟨by rfl, ?_⟩) (by assumption) ?_
      · (intro wq hSq; clear hSq; go_simp; try with_reducible rfl)
      try simp only [Act.put, List.setIfInBounds_toArray, List.set_cons_zero, List.set_cons_succ]
      refine wpAnyH_take (i := 1) (v := .int .i64 (j : Int)) (by simp only [List.getElem?_toArray, List.getElem?_cons_succ, List.getElem?_cons_zero]; rfl) (by kernel_rfl) (by kernel_rfl) (by kernel_rfl) (fun _ _ _ h => h) (Or.inl ⟨by rfl, ?_⟩) (by assumption) ?_
      · (intro wq hSq; clear hSq; go_simp; try with_reducible rfl)
      try simp only [Act.put, List.setIfInBounds_toArray, List.set_cons_zero, List.set_cons_succ]
      refine wpAnyH_take (i := 2) (v := .pointer (some ⟨b, off + j * 17, none⟩)) (by simp only [List.getElem?_toArray, List.getElem?_cons_succ, List.getElem?_cons_zero]; rfl) (by kernel_rfl) (by kernel_rfl) (by kernel_rfl) (fun _ _ _ h => h) (Or.inl ⟨by rfl, ?_⟩) (by assumption) ?_
      · (intro wq hSq; clear hSq; go_simp; try with_reducible rfl)
      try simp only [Act.put, List.setIfInBounds_toArray, List.set_cons_zero, List.set_cons_succ]
      refine wpAnyH_take (i := 3) (v := av z) (by simp only [List.getElem?_toArray, List.getElem?_cons_succ, List.getElem?_cons_zero]; rfl) (by kernel_rfl) (by kernel_rfl) (by kernel_rfl) (fun _ _ _ h => h) (Or.inl ⟨by rfl, fun w h => exec_load_off 32 _ rfl b (off + j * 17) rfl (xcells z) _ h.cv Tryd.underlying32 rfl info17⟩) (by assumption) ?_
      try simp only [Act.put, List.setIfInBounds_toArray, List.set_cons_zero, List.set_cons_succ]
      refine wpAnyH_take (i := 4) (v := .slice (some ⟨b', off', none⟩) xn yc) (by simp only [List.getElem?_toArray, List.getElem?_cons_succ, List.getElem?_cons_zero]; rfl) (by kernel_rfl) (by kernel_rfl) (by kernel_rfl) (fun _ _ _ h => h) (Or.inl ⟨by rfl, ?_⟩) (by assumption) ?_
      · (intro wq hSq; clear hSq; go_simp; try with_reducible rfl)
      try simp only [Act.put, List.setIfInBounds_toArray, List.set_cons_zero, List.set_cons_succ]
      refine wpAnyH_take (i := 5) (v := .int .i64 (j : Int)) (by simp only [List.getElem?_toArray, List.getElem?_cons_succ, List.getElem?_cons_zero]; rfl) (by kernel_rfl) (by kernel_rfl) (by kernel_rfl) (fun _ _ _ h => h) (Or.inl ⟨by rfl, ?_⟩) (by assumption) ?_
      · (intro wq hSq; clear hSq; go_simp; try with_reducible rfl)
      try simp only [Act.put, List.setIfInBounds_toArray, List.set_cons_zero, List.set_cons_succ]
      refine wpAnyH_take (i := 6) (v := .pointer (some ⟨b', off' + j * 17, none⟩)) (by simp only [List.getElem?_toArray, List.getElem?_cons_succ, List.getElem?_cons_zero]; rfl) (by kernel_rfl) (by kernel_rfl) (by kernel_rfl) (fun _ _ _ h => h) (Or.inl ⟨by rfl, ?_⟩) (by assumption) ?_
      · (intro wq hSq; clear hSq; go_simp; try with_reducible rfl)
      try simp only [Act.put, List.setIfInBounds_toArray, List.set_cons_zero, List.set_cons_succ]
      refine wpAnyH_take (i := 7) (v := av z) (by simp only [List.getElem?_toArray, List.getElem?_cons_succ, List.getElem?_cons_zero]; rfl) (by kernel_rfl) (by kernel_rfl) (by kernel_rfl) (fun _ _ _ h => h) (Or.inl ⟨by rfl, fun w h => exec_load_off 32 _ rfl b' (off' + j * 17) rfl (xcells z) _ h.cx Tryd.underlying32 rfl info17⟩) (by assumption) ?_
      try simp only [Act.put, List.setIfInBounds_toArray, List.set_cons_zero, List.set_cons_succ]
      refine wpAnyH_take (i := 8) (v := .bool false) (by simp only [List.getElem?_toArray, List.getElem?_cons_succ, List.getElem?_cons_zero]; rfl) (by kernel_rfl) (by kernel_rfl) (by kernel_rfl) (fun _ _ _ h => h) (Or.inl ⟨by rfl, ?_⟩) (by assumption) ?_
      · (intro wq hSq; clear hSq; go_simp; try with_reducible rfl)
      try simp only [Act.put, List.setIfInBounds_toArray, List.set_cons_zero, List.set_cons_succ]
      refine wpAnyH_done (by kernel_rfl) ?_ _
      refine NoPanic.normal ?_
      have HE : Hid _ := hHeld
      clear hHeld HD heqA
      go_wp2
      go_roundg (xn - (j + 1))
      case measure => omega
      case rel => exact ⟨j + 1, congrArg (Value.int IntKind.i64) (by have := HM.out; unfold wrap64; omega), by omega, rfl, HE.out.bel, HE.out.row, HE.out.row2, HE.out.tab, HE.out.kinds⟩
    · obtain rfl : j = xn := by omega
      have hjn' : ¬ (j : Int) < (j : Int) := by omega
      have hC := hL.out wr HJ.out.1 HJ.out.2.2.2
      go_wp2_with fail
      refine hC.mono ?_
      rintro e V7 ⟨rfl, b7⟩
      have HE : Hid (Below w.heap.size w V7) := keptW HJ.out.1 b7
      clear hC b7
      go_wp2
      go_ret
      exact ⟨rfl, HE.out⟩
end Go.Proofs.YteimdolckhpndaaDoor
