/-
  ROWS OF ACTS beside a reader.
-/
import Derived.Test.YteimdolckhpndaaDoorRdRead
import Derived.Test.YteimdolckhpndaaDoorSlabs
import Derived.Test.YteimdolckhpndaaDoorBytesA
namespace Go.Proofs.YteimdolckhpndaaDoor
open Go.RowKit

instance encA : K.Enc xcells 17 := ⟨fun _ => rfl, fun a u hu => by simp [xcells] at hu; rcases hu with rfl | rfl | rfl | rfl | rfl | rfl | rfl | rfl | rfl | rfl | rfl | rfl | rfl | rfl | rfl | rfl | rfl <;> rfl, by decide⟩
abbrev OwnA (w : World) (base : Nat) (v : Value) (l : List Ax) : Prop := K.OwnOf xcells 17 32 w base v l
theorem actInfo : ∃ i, Tryd.prog.info? 32 = some i ∧ i.zero = some (av (zA 0)) ∧ i.size = 17 ∧ i.bytes = 200 := by
  have hinfo : (Tryd.prog.info? 32).map (fun i => (i.zero, i.size, i.bytes)) = some (some (av (zA 0)), 17, 200) := by kernel_rfl
  cases h : Tryd.prog.info? 32 with
  | none => rw [h] at hinfo; simp at hinfo
  | some i =>
    rw [h] at hinfo
    simp only [Option.map_some, Option.some.injEq, Prod.mk.injEq] at hinfo
    exact ⟨i, rfl, hinfo.1, hinfo.2.1, hinfo.2.2⟩
/-- A reader stays as it is, if all up to its own block does. -/
theorem Rd.upto {T : TypeId} {w V : World} {p : Nat} {s : Option (List UInt8)} (h : Rd T w p s) (hV : ∀ k, k ≤ p → V.heap[k]? = w.heap[k]?) : Rd T V p s := by
  obtain ⟨a, n, c, tn, l, blk, hh, hl, hs, lo⟩ := h
  refine ⟨a, n, c, tn, l, (hV p (Nat.le_refl _)).trans blk, ?_, hl, hs, lo⟩
  rcases hh with h | ⟨ad, cap, hv, h1, h2, h3⟩
  · exact .inl h
  · refine .inr ⟨ad, cap, hv, h1, h2, fun j u hj => ?_⟩
    have hc := h3 j u hj
    have hp : 0 < l.length := by
      have := (List.getElem?_eq_some_iff.1 hj).1
      rw [bcells_length] at this
      omega
    injection hv with ha
    have hb := lo hp ad ha
    rw [World.cell?_of_block (w := w) (a := ad.add j) (hV _ (by rw [Addr.block_add]; omega))]
    exact hc
/-- A reader and a row of acts. -/
structure MIn (T : TypeId) (w U : World) (p : Nat) (s : Option (List UInt8)) (v : Value) (l : List Ax) : Prop where
  tab : Tab U
  kinds : Kinds U
  rd : Rd T U p s
  own : OwnA U (p + 1) v l
  bel : Below w.heap.size w U
  wp : w.heap.size ≤ p
  wt : 1 < w.heap.size
  wk : 0 < w.heap.size
theorem MIn.bar {T : TypeId} {w U V : World} {p : Nat} {s s' : Option (List UInt8)} {v : Value} {l : List Ax} (h : MIn T w U p s v l) (hr : Rd T V p s') (hb : Bar p U V) : MIn T w V p s' v l :=
  ⟨h.tab.bar h.rd hb, h.kinds.bar h.rd hb, hr, h.own.same fun g hg => hb.block g (h.own.lt hg).2 (by have := (h.own.lt hg).1; omega), hb.below h.bel h.wp h.bel.size, h.wp, h.wt, h.wk⟩
theorem MIn.go {T : TypeId} {w U V : World} {p : Nat} {s : Option (List UInt8)} {v : Value} {l : List Ax} (h : MIn T w U p s v l) (hb : Below U.heap.size U V) : MIn T w V p s v l :=
  ⟨h.tab.below hb h.tab.pos, h.kinds.below hb, h.rd.kept hb, h.own.kept hb (Nat.le_refl _), keptW h.bel hb, h.wp, h.wt, h.wk⟩
theorem MIn.put {T : TypeId} {w U V : World} {p : Nat} {s : Option (List UInt8)} {v v' : Value} {l l' : List Ax} (h : MIn T w U p s v l) (ho : OwnA V (p + 1) v' l') (hg : U.grownBy V v.ownBlock) : MIn T w V p s v' l' := by
  have hp := h.rd.lt
  have hV : ∀ k, k ≤ p → V.heap[k]? = U.heap[k]? := fun k hk => hg.block k (by omega) (fun e => by have := (h.own.lt e.symm).1; omega)
  have hw := h.wp
  refine ⟨fun j u hj => ?_, fun j u hj => ?_, h.rd.upto hV, ho, ?_, h.wp, h.wt, h.wk⟩
  · exact (World.cell?_of_block (w := U) (a := ⟨1, j, none⟩) (hV _ (by have := h.wt; show 1 ≤ p; omega))).trans (h.tab j u hj)
  · exact (World.cell?_of_block (w := U) (a := ⟨0, j, none⟩) (hV _ (by have := h.wk; show 0 ≤ p; omega))).trans (h.kinds j u hj)
  · exact h.bel.trans ⟨hg.os, hg.tape, hg.output, hg.size, fun k hk => hV k (by omega)⟩
/-- How ReadMany ends. -/
def ManyPost (w : World) (bs : List UInt8) (e : Ending) (w' : World) : Prop := ∃ v', e = .returned (.tuple #[v', .int .i64 (errOf (readL bs))]) ∧ OwnA w' w.heap.size v' ((readL bs).getD []) ∧ Below w.heap.size w w'
theorem many_none {w w' : World} {bs : List UInt8} (h : readL bs = none) (hb : Below w.heap.size w w') : ManyPost w bs (.returned (.tuple #[.slice none 0 0, .int .i64 7])) w' :=
  ⟨.slice none 0 0, by rw [h]; rfl, by rw [h]; exact K.ownOf_nil w' _, hb⟩
theorem readL_big {bs : List UInt8} {n : Nat} {s : Option (List UInt8)} (h : Aft (some bs) (numP 2) n s) (hn : 60000 < n) : readL bs = none := by
  unfold readL manyP bindP
  unfold Aft at h
  rw [Option.bind_some] at h
  cases hp : numP 2 bs with
  | none => rfl
  | some r =>
    rw [hp] at h
    obtain ⟨h1, _⟩ := h
    simp only [Option.bind_some]
    rw [← h1]
    cases hq : itemsP n r.2 with
    | none => rfl
    | some q =>
      obtain ⟨l, t⟩ := q
      have := itemsP_len n r.2 l t hq
      cases t with
      | nil => simp only; rw [if_neg (by omega)]
      | cons c t => rfl
/-- An item is none: so is all. -/
theorem readL_torn {bs : List UInt8} {n i : Nat} {s0 : Option (List UInt8)} (h0 : Aft (some bs) (numP 2) n s0) (hi : i ≤ n) (h : s0.bind (itemsP i) = none) : readL bs = none := by
  have h2 := itemsP_torn i s0 h (n - i)
  rw [show i + (n - i) = n by omega] at h2
  have h3 : Aft s0 (itemsP n) [] none := by unfold Aft; rw [h2]
  rw [readL_aft h0 h3, if_neg (by simp)]
theorem items_none {s0 s s2 : Option (List UInt8)} {i : Nat} {l : List Ax} {q : List UInt8} (h : Aft s0 (itemsP i) l s) (hp : Aft s pieceP q s2) (hq : readA q = none) : s0.bind (itemsP (i + 1)) = none := by
  have h1 : Aft s itemP (zA 0) none := by
    have h2 : Aft s2 (ofP (readA q)) (zA 0) none := by
      rw [hq]
      unfold Aft
      cases s2 <;> rfl
    exact Aft.bind (Q := fun p => ofP (readA p)) hp h2
  have h3 : Aft s0 (itemsP (i + 1)) (l ++ [zA 0]) none := Aft.bind (Q := fun l => bindP itemP fun a => pureP (l ++ [a])) h (Aft.out (fun a => l ++ [a]) h1)
  unfold Aft at h3
  cases hb : s0.bind (itemsP (i + 1)) with
  | none => rfl
  | some r => rw [hb] at h3; exact absurd h3.2 (by simp)
theorem items_some {s0 s s2 : Option (List UInt8)} {i : Nat} {l : List Ax} {q : List UInt8} {z : Ax} (h : Aft s0 (itemsP i) l s) (hp : Aft s pieceP q s2) (hq : readA q = some z) : Aft s0 (itemsP (i + 1)) (l ++ [z]) s2 := by
  have h1 : Aft s itemP z s2 := by
    have h2 : Aft s2 (ofP (readA q)) z s2 := by rw [hq]; exact aft_pure s2 z
    exact Aft.bind (Q := fun p => ofP (readA p)) hp h2
  exact Aft.bind (Q := fun l => bindP itemP fun a => pureP (l ++ [a])) h (Aft.out (fun a => l ++ [a]) h1)
end Go.Proofs.YteimdolckhpndaaDoor

/-
  ReadMany, by its contract.
-/
namespace Go.Proofs.YteimdolckhpndaaDoor
open Go.RowKit

set_option maxRecDepth 20000 in
set_option maxHeartbeats 8000000 in
theorem readL_any (v : Value) (bs : List UInt8) (w : World) (ht : Tab w) (hK : Kinds w) (hv : Holds w v bs) (hl : bs.length ≤ 100000) :
    Calls Tryd.prog 23 #[v] w (ManyPost w bs) := by
  obtain ⟨U, fold⟩ : ∃ U, w.alloc (.cells #[v, .bool false] 77) = U := ⟨_, rfl⟩
  have bU : Below w.heap.size w U := by rw [← fold]; exact box_below w _
  have rU : Rd 77 U w.heap.size (some bs) := by rw [← fold]; exact rd_new _ w v bs hv hl
  have hsU : U.heap.size = w.heap.size + 1 := by rw [← fold]; exact World.size_alloc _ _
  have hC := num2_any w.heap.size (some bs) U (ht.below bU ht.pos) rU
  have HM : Hid (MIn 77 w U w.heap.size (some bs) (.slice none 0 0) []) := ⟨ht.below bU ht.pos, hK.below bU, rU, K.ownOf_nil _ _, bU, Nat.le_refl _, ht.pos, hK.pos⟩
  obtain ⟨va, vc, rfl⟩ := hv.slice
  clear ht hK hv hl bU rU hsU
  go_enter Tryd.func23, Tryd.ntmps23
  go_wp2_with fail
  try rw [fold]
  refine hC.mono ?_
  rintro e w1 ⟨n, s1, rfl, hn, haft, hr1, bar1⟩
  clear hC
  have hn6 : n < 65536 := num_le hn (by decide)
  have H1 : Hid (MIn 77 w w1 w.heap.size s1 (.slice none 0 0) [] ∧ Aft (some bs) (numP 2) n s1 ∧ n < 65536) := ⟨HM.out.bar hr1 bar1, haft, hn6⟩
  clear hn haft hr1 bar1 HM hn6
  by_cases hbig : (60000 : Int) < (n : Int)
  · have HR : Hid (readL bs = none) := readL_big H1.out.2.1 (by omega)
    go_wp2
    go_ret2
    exact many_none HR.out H1.out.1.bel
  go_wp2
  go_loopg [6, 7, 8, 17] n (fun g u6 u7 u8 u17 wr => ∃ i : Nat, u17 = .int .u64 (i : Int) ∧ i ≤ n ∧ g = n - i ∧ Hid (∃ s' l, MIn 77 w wr w.heap.size s' u6 l ∧ Aft s1 (itemsP i) l s' ∧ l.length = i))
  case atStart => exact ⟨0, rfl, Nat.zero_le _, rfl, s1, [], H1.out.1, aft_pure _ _, rfl⟩
  case round =>
    obtain ⟨i, rfl, hi, rfl, HI⟩ := hrel
    by_cases hlt : i < n
    · have hlt' : (i : Int) < (n : Int) := by omega
      obtain ⟨s', l, hM, hA, hL⟩ := HI.out
      have hC := piece_any w.heap.size s' wr hM.tab hM.rd
      have H2 : Hid (MIn 77 w wr w.heap.size s' u6 l ∧ Aft s1 (itemsP i) l s' ∧ l.length = i) := ⟨hM, hA, hL⟩
      clear hM hA hL HI
      go_wp2_with fail
      refine hC.mono ?_
      rintro e V1 ⟨vq, q, s2, rfl, hq, hql, hlo, haft, hr2, bar2⟩
      clear hC hlo
      have H3 : Hid (MIn 77 w V1 w.heap.size s2 u6 l ∧ Aft s' pieceP q s2) := ⟨H2.out.1.bar hr2 bar2, haft⟩
      have hC := read_any vq q V1 H3.out.1.tab H3.out.1.kinds hq (by omega)
      obtain ⟨qa, qc, hvq⟩ := hq.slice
      obtain ⟨qn, hqn⟩ : ∃ z, q.length = z := ⟨_, rfl⟩
      rw [hqn] at hvq
      subst hvq
      clear hql haft hr2 bar2 hq hqn
      cases ho : readA q with
      | none =>
        rw [ho] at hC
        have HR : Hid (readL bs = none) := readL_torn H1.out.2.1 (by omega : i + 1 ≤ n) (items_none H2.out.2.1 H3.out.2 ho)
        clear ho
        have hC : Calls Tryd.prog 19 #[.slice qa qn qc] V1 fun e w' => e = .returned (.tuple #[av (zA 0), .int .i64 7]) ∧ Below V1.heap.size V1 w' := hC
        go_wp2_with fail
        refine hC.mono ?_
        rintro e V2 ⟨rfl, b2⟩
        clear hC
        have H4 : Hid (MIn 77 w V2 w.heap.size s2 u6 l) := H3.out.1.go b2
        clear b2
        obtain ⟨X0, foldX⟩ : ∃ X, V2.alloc (.cells #[.int .i64 0, .string ⟨#[]⟩, .int .i64 0, .int .u64 0, .int .i64 0, .string ⟨#[]⟩, .int .i64 0, .bool false, .string ⟨#[]⟩, .string ⟨#[]⟩, .string ⟨#[]⟩, .int .i64 0, .int .u64 0, .int .i64 0, .string ⟨#[]⟩, .string ⟨#[]⟩, .string ⟨#[]⟩] 32) = X := ⟨_, rfl⟩
        have zX : X0.heap[V2.heap.size]? = some (.cells (xcells (zA 0)).toArray 32 (0, 0)) := by rw [← foldX]; exact heap_alloc_new V2 _
        have bX0 : Below V2.heap.size V2 X0 := by rw [← foldX]; exact box_below V2 _
        have HB : Hid (Below w.heap.size w (X0.setRow V2.heap.size (xcells (zA 0)).toArray) ∧ X0.heap[V2.heap.size]? = some (.cells (xcells (zA 0)).toArray 32 (0, 0))) := ⟨keptW H4.out.bel (below_setRow bX0 (Nat.le_refl _) _), zX⟩
        clear zX bX0
        go_wp2_with (refine wpList_store_row rfl 32 _ _ rfl V2.heap.size (xcells (zA 0)).toArray rfl rfl 32 (xcells (zA 0)).toArray HB.out.2 info17 rfl (one17 _) ?_)
        go_ret2
        exact many_none HR.out HB.out.1
      | some z =>
        rw [ho] at hC
        have HA2 : Hid (Aft s1 (itemsP (i + 1)) (l ++ [z]) s2) := items_some H2.out.2.1 H3.out.2 ho
        clear ho
        have hC : Calls Tryd.prog 19 #[.slice qa qn qc] V1 fun e w' => e = .returned (.tuple #[av z, .int .i64 0]) ∧ Below V1.heap.size V1 w' := hC
        go_wp2_with fail
        refine hC.mono ?_
        rintro e V2 ⟨rfl, b2⟩
        clear hC
        have H4 : Hid (MIn 77 w V2 w.heap.size s2 u6 l) := H3.out.1.go b2
        clear b2
        obtain ⟨X0, foldX⟩ : ∃ X, V2.alloc (.cells #[.int .i64 0, .string ⟨#[]⟩, .int .i64 0, .int .u64 0, .int .i64 0, .string ⟨#[]⟩, .int .i64 0, .bool false, .string ⟨#[]⟩, .string ⟨#[]⟩, .string ⟨#[]⟩, .int .i64 0, .int .u64 0, .int .i64 0, .string ⟨#[]⟩, .string ⟨#[]⟩, .string ⟨#[]⟩] 32) = X := ⟨_, rfl⟩
        have zX : X0.heap[V2.heap.size]? = some (.cells (xcells (zA 0)).toArray 32 (0, 0)) := by rw [← foldX]; exact heap_alloc_new V2 _
        have bX0 : Below V2.heap.size V2 X0 := by rw [← foldX]; exact box_below V2 _
        obtain ⟨X1, foldX1⟩ : ∃ X, X0.setRow V2.heap.size (xcells z).toArray = X := ⟨_, rfl⟩
        have bX1 : Below V2.heap.size V2 X1 := by rw [← foldX1]; exact below_setRow bX0 (Nat.le_refl _) _
        have xX1 : X1.heap[V2.heap.size]? = some (.cells (xcells z).toArray 32 (0, 0)) := by rw [← foldX1]; exact setRow_heap _ _ _ _ _ _ zX
        obtain ⟨Y, foldY⟩ : ∃ X, X1.alloc (.cells #[.int .i64 z.kind, .string z.name, .int .i64 z.n, .int .u64 z.tag, .int .i64 z.to, .string z.xn, .int .i64 z.xk, .bool z.xf, .string z.be, .string z.bq, .string z.bp, .int .i64 z.m.origin, .int .u64 z.m.seq, .int .i64 z.m.hop, .string z.m.ex, .string z.m.key, .string z.m.body] 32) = X := ⟨_, rfl⟩
        have bY : Below X1.heap.size X1 Y := by rw [← foldY]; exact box_below X1 _
        have rY : K.RowOf xcells Y (.slice (some ⟨X1.heap.size, 0, none⟩) 1 1) [z] := by rw [← foldY]; exact K.row_one X1 z _ rfl
        have HB : Hid (MIn 77 w Y w.heap.size s2 u6 l ∧ X0.heap[V2.heap.size]? = some (.cells (xcells (zA 0)).toArray 32 (0, 0)) ∧ X1.heap[V2.heap.size]? = some (.cells (xcells z).toArray 32 (0, 0)) ∧ K.RowOf xcells Y (.slice (some ⟨X1.heap.size, 0, none⟩) 1 1) [z] ∧ X0.setRow V2.heap.size (xcells z).toArray = X1 ∧ X1.alloc (.cells #[.int .i64 z.kind, .string z.name, .int .i64 z.n, .int .u64 z.tag, .int .i64 z.to, .string z.xn, .int .i64 z.xk, .bool z.xf, .string z.be, .string z.bq, .string z.bp, .int .i64 z.m.origin, .int .u64 z.m.seq, .int .i64 z.m.hop, .string z.m.ex, .string z.m.key, .string z.m.body] 32) = Y) := ⟨(H4.out.go bX1).go bY, zX, xX1, rY, foldX1, foldY⟩
        obtain ⟨ii, hii, hzz, hss, hbb⟩ := actInfo
        have hz17 : (av (zA 0)).cells.size = 17 := rfl
        have hpl : w.heap.size + 1 ≤ Y.heap.size := by have := HB.out.1.rd.lt; omega
        have HN : Hid (l.length = i ∧ i < 65536 ∧ w.heap.size + 1 ≤ Y.heap.size) := ⟨H2.out.2.2, by have := H1.out.2.2; omega, hpl⟩
        clear zX bX0 bX1 xX1 bY rY hpl
        go_wp2_with (first
          | refine wpList_store_row rfl 32 _ _ rfl V2.heap.size (xcells z).toArray rfl rfl 32 (xcells (zA 0)).toArray HB.out.2.1 info17 rfl (one17 _) ?_
          | refine wpList_load_row rfl 32 _ rfl V2.heap.size rfl 32 #[.int .i64 z.kind, .string z.name, .int .i64 z.n, .int .u64 z.tag, .int .i64 z.to, .string z.xn, .int .i64 z.xk, .bool z.xf, .string z.be, .string z.bq, .string z.bp, .int .i64 z.m.origin, .int .u64 z.m.seq, .int .i64 z.m.hop, .string z.m.ex, .string z.m.key, .string z.m.body] (0, 0) _ (by first | exact HB.out.2.2.1 | (rw [HB.out.2.2.2.2.1]; exact HB.out.2.2.1)) Tryd.underlying32 rfl info17 ?_
          | (at_builtin; refine K.wpList_append_rows (enc := xcells) rfl (.tmp 28) (.tmp 30) 49 rfl Tryd.underlying49 ii (av (zA 0)) 200 hii hzz hss hbb hz17 (w.heap.size + 1) _ _ l [z] rfl rfl (by first | exact HB.out.1.own | (rw [foldY]; exact HB.out.1.own)) (by first | exact HB.out.2.2.2.1 | (rw [foldY]; exact HB.out.2.2.2.1)) (by have := HN.out; unfold maxLen; show l.length + 1 ≤ _; omega) (by have := HN.out; show (l.length + 1) * 200 ≤ _; omega) (by first | exact HN.out.2.2 | (rw [foldY]; exact HN.out.2.2)) ?_; intro v5 w5 o5 g5 n5; have P5 : Hid (MIn 77 w w5 w.heap.size s2 v5 (l ++ [z])) := HB.out.1.put o5 (by first | exact g5 | (rw [foldY] at g5; exact g5)); clear o5 g5 n5))
        have wi : IntKind.u64.wrap ((i : Int) + 1) = ((i + 1 : Nat) : Int) := by have := HN.out; rw [IntKind.wrap_u64]; omega
        go_wp2
        go_roundg (n - (i + 1))
        case measure => omega
        case rel => exact ⟨i + 1, rfl, by omega, rfl, s2, l ++ [z], P5.out, HA2.out, by rw [List.length_append, HN.out.1]; rfl⟩
    · have hlt' : ¬ (i : Int) < (n : Int) := by omega
      obtain rfl : i = n := by omega
      obtain ⟨s', l, hM, hA, hL⟩ := HI.out
      have hC := ended_any w.heap.size s' wr hM.rd
      have HF : Hid (readL bs = if s' = some [] ∧ l.length ≤ 60000 then some l else none) := readL_aft H1.out.2.1 hA
      have HN : Hid (MIn 77 w wr w.heap.size s' u6 l ∧ l.length ≤ 60000) := ⟨hM, by omega⟩
      clear hM hA hL HI
      go_wp2_with fail
      refine hC.mono ?_
      rintro e wr ⟨rfl, rfl⟩
      clear hC
      cases hd : decide (s' = some [])
      · have h1 : ¬ s' = some [] := of_decide_eq_false hd
        have HR : Hid (readL bs = none) := by
          show readL bs = none
          rw [HF.out, if_neg (fun h => h1 h.1)]
        clear hd h1
        go_wp2
        go_ret2
        exact many_none HR.out HN.out.1.bel
      · have h1 : s' = some [] := of_decide_eq_true hd
        have HR : Hid (readL bs = some l) := by
          show readL bs = some l
          rw [HF.out, if_pos ⟨h1, HN.out.2⟩]
        clear hd h1
        go_wp2
        go_ret2
        exact ⟨u6, by rw [HR.out]; rfl, by rw [HR.out]; exact HN.out.1.own.mono (Nat.le_succ _), HN.out.1.bel⟩
end Go.Proofs.YteimdolckhpndaaDoor

/-
  act.Many, by its contract.
-/
namespace Go.Proofs.YteimdolckhpndaaDoor
open Go.RowKit

theorem exec_load_off {P : Program} {o : Oper} {a : Act} {w : World} (ty : TypeId) (x : Operand) (ho : o.op = .load ty x)
    (g off : Nat) (hx : a.eval x = .pointer (some ⟨g, off, none⟩)) (cs : List Value) (d : TypeDesc) (hc : ∀ j u, cs[j]? = some u → w.cell? ⟨g, off + j, none⟩ = some u)
    (hu : P.underlying ty = some d) (hd : (match d with | .struct _ | .array _ _ => true | _ => false) = true) (hi : (P.info? ty).map (·.size) = some cs.length) :
    (execOp a.eval o).run P w = .ok (.value (.agg cs.toArray)) w := by
  have hl : (loadCells ⟨g, off, none⟩ cs.length).run P w = .ok cs.toArray w :=
    run_loadCells_list (P := P) w ⟨g, off, none⟩ cs (fun j v hv => by
      have hadd : (⟨g, off, none⟩ : Addr).add j = ⟨g, off + j, none⟩ := by unfold Addr.add; split <;> simp_all
      rw [hadd]
      exact hc j v hv)
  have hlv : (loadVar ty ⟨g, off, none⟩).run P w = .ok (.agg cs.toArray) w := by
    cases hq : P.info? ty with
    | none => simp [hq] at hi
    | some i =>
      have hs : i.size = cs.length := by simpa [hq] using hi
      have hagg : (isAgg ty).run P w = .ok true w := by
        unfold isAgg
        rw [Sem.run_bind, run_underlying hu w]
        cases d <;> simp_all
      simp [loadVar, Sem.run_bind, hagg, sizeOf, typeInfo, hq, hs, hl]
  unfold execOp
  simp only [ho, hx, Instr.loadAt, Instr.sureAddr, Sem.run_bind, Sem.run_pure, Result.andThen_ok, hlv]
theorem wpList_load_off {P : Program} {ops : Array Oper} {rest : List Oper} {o : Oper} {a : Act} {w : World} {Q : Exit → Act → World → Prop} (hgd : o.guard = none) (ty : TypeId) (x : Operand) (ho : o.op = .load ty x)
    (g off : Nat) (hx : a.eval x = .pointer (some ⟨g, off, none⟩)) (cs : List Value) (d : TypeDesc) (hc : ∀ j u, cs[j]? = some u → w.cell? ⟨g, off + j, none⟩ = some u)
    (hu : P.underlying ty = some d) (hd : (match d with | .struct _ | .array _ _ => true | _ => false) = true) (hi : (P.info? ty).map (·.size) = some cs.length)
    (h : wpList P ops Q rest (a.put o.dst (.agg cs.toArray)) w) : wpList P ops Q (o :: rest) a w :=
  wpList_plain hgd fun _ hK => by
    unfold Oper.wp
    rw [exec_load_off ty x ho g off hx cs d hc hu hd hi]
    exact hK _ _ h
theorem grown_none {w w' : World} (g : w.grownBy w' none) : Below w.heap.size w w' := ⟨g.os, g.tape, g.output, g.size, fun k hk => g.block k hk (by simp)⟩
theorem items_len (l : List Ax) (h : l.all goodA = true) : (l.flatMap itemL).length ≤ 602 * l.length := by
  induction l with
  | nil => simp
  | cons a t ih =>
    rw [List.all_cons, Bool.and_eq_true] at h
    have h1 := bytesA_len h.1
    have h2 := ih h.2
    rw [List.flatMap_cons, List.length_append, List.length_cons]
    have h3 : (itemL a).length = 2 + (bytesA a).length := by unfold itemL; rw [List.length_append, putL_length]
    omega
theorem take_more {l : List Ax} {i : Nat} (h : i < l.length) : (l.take (i + 1)).flatMap itemL = (l.take i).flatMap itemL ++ itemL l[i] := by
  rw [List.take_succ_eq_append_getElem h, List.flatMap_append]
  simp
theorem take_all {l : List Ax} {i : Nat} (h : i < l.length) (h1 : (l.take i).all goodA = true) (h2 : goodA l[i] = true) : (l.take (i + 1)).all goodA = true := by
  rw [List.take_succ_eq_append_getElem h, List.all_append, h1]
  simp [h2]
theorem manyL_none {l : List Ax} {i : Nat} (h : i < l.length) (h2 : goodA l[i] = false) : manyL l = [] := by
  unfold manyL
  rw [if_neg]
  intro hh
  have := List.all_eq_true.1 hh.2 l[i] (List.getElem_mem h)
  rw [h2] at this
  cases this
theorem manyL_all {l : List Ax} (h : l.length ≤ 60000) (h2 : l.all goodA = true) : manyL l = putL 2 l.length ++ l.flatMap itemL := by
  unfold manyL
  rw [if_pos ⟨h, h2⟩]
theorem many_step {w wr V w5 : World} {u x v : Value} {A B C : List UInt8} (h1 : Owns V w.heap.size 5 u A) (h2 : Owns V wr.heap.size 5 x B) (h3 : Below w.heap.size w V) (h4 : ∀ k, u.ownBlock = some k → k < wr.heap.size) (o : Owns w5 w.heap.size 5 v C) (g : V.grownBy w5 u.ownBlock) :
    Owns w5 w.heap.size 5 v C ∧ Owns w5 wr.heap.size 5 x B ∧ Below w.heap.size w w5 := by
  refine ⟨o, World.ownsRow.kept h2 g ?_, Owns.below h1 g h3 h3.size⟩
  cases hx : x.ownBlock with
  | none => exact .inl rfl
  | some q =>
    refine .inr fun e => ?_
    have := h4 q e.symm
    have := (World.ownsRow.lt h2 q hx).1
    omega
set_option maxRecDepth 20000 in
set_option maxHeartbeats 8000000 in
theorem manyL_any (v : Value) (l : List Ax) (w : World) (ht : Tab w) (hK : Kinds w) (hv : K.RowOf xcells w v l) (hl : l.length ≤ 1000) (hf : ∀ a ∈ l, a.Fits) :
    Calls Tryd.prog 25 #[v] w (PutPost w.heap.size (.slice none 0 0) w (manyL l)) := by
  have HV : Hid (K.RowOf xcells w v l ∧ (∀ a ∈ l, a.Fits) ∧ Kinds w ∧ Tab w) := ⟨hv, hf, hK, ht⟩
  have hP := put_good (.slice none 0 0) [] 2 l.length w ht (.inl ⟨rfl, rfl⟩) (by simp) (by decide) (by omega)
  obtain ⟨va, vc, rfl⟩ := hv.slice
  obtain ⟨n, hn⟩ : ∃ z, l.length = z := ⟨_, rfl⟩
  rw [hn] at HV hP ⊢
  have HL : Hid (l.length = n) := hn
  clear hv hf ht hK
  rw [hn] at hl
  clear hn
  have hsm : ¬ (60000 : Int) < (n : Int) := by omega
  have cw : IntKind.u64.wrap (n : Int) = (n : Int) := by rw [IntKind.wrap_u64]; omega
  go_enter Tryd.func25, Tryd.ntmps25
  go_wp2_with fail
  refine hP.mono ?_
  rintro e V1 ⟨v1, rfl, o1, b1⟩
  clear hP
  have HS : Hid (Owns V1 w.heap.size 5 v1 (putL 2 n) ∧ Below w.heap.size w V1) := ⟨o1, b1⟩
  clear o1 b1
  go_wp2
  go_loopg [3, 16] n (fun g u3 u16 wr => ∃ i : Nat, u16 = .int .i64 (i : Int) ∧ i ≤ n ∧ g = n - i ∧ Hid (Owns wr w.heap.size 5 u3 (putL 2 n ++ (l.take i).flatMap itemL) ∧ Below w.heap.size w wr ∧ (l.take i).all goodA = true))
  case atStart => exact ⟨0, rfl, Nat.zero_le _, rfl, by simpa using HS.out.1, HS.out.2, rfl⟩
  case round =>
    obtain ⟨i, rfl, hi, rfl, HI⟩ := hrel
    by_cases hlt : i < n
    · have hlt' : (i : Int) < (n : Int) := by omega
      have hil : i < l.length := by rw [HL.out]; exact hlt
      have RW := HV.out.1.below HI.out.2.1 (Nat.le_refl _)
      obtain ⟨b, off, cap, hva, hcap, hmax, hcells⟩ := RW.at (by omega)
      rw [HL.out] at hva
      injection hva with hva1 hva0 hva2
      subst hva1 hva2
      obtain ⟨z, hz⟩ : ∃ z, l[i] = z := ⟨_, rfl⟩
      have HC : Hid (∀ j u, (xcells z)[j]? = some u → wr.cell? ⟨b, off + i * 17 + j, none⟩ = some u) := fun j u hj => by
        have hj17 : j < 17 := by have := (List.getElem?_eq_some_iff.1 hj).1; simpa [xcells] using this
        exact K.row_cell hcells i hil j hj17 u (by rw [hz]; exact hj)
      have HZ : Hid (l[i]'hil = z) := hz
      have HF : Hid (z.Fits) := by show z.Fits; rw [← hz]; exact HV.out.2.1 _ (List.getElem_mem hil)
      obtain ⟨X0, foldX⟩ : ∃ X, wr.alloc (.cells #[.int .i64 0, .string ⟨#[]⟩, .int .i64 0, .int .u64 0, .int .i64 0, .string ⟨#[]⟩, .int .i64 0, .bool false, .string ⟨#[]⟩, .string ⟨#[]⟩, .string ⟨#[]⟩, .int .i64 0, .int .u64 0, .int .i64 0, .string ⟨#[]⟩, .string ⟨#[]⟩, .string ⟨#[]⟩] 32) = X := ⟨_, rfl⟩
      have zX : X0.heap[wr.heap.size]? = some (.cells (xcells (zA 0)).toArray 32 (0, 0)) := by rw [← foldX]; exact heap_alloc_new wr _
      have bX0 : Below wr.heap.size wr X0 := by rw [← foldX]; exact box_below wr _
      obtain ⟨X1, foldX1⟩ : ∃ X, X0.setRow wr.heap.size (xcells z).toArray = X := ⟨_, rfl⟩
      have bX1 : Below wr.heap.size wr X1 := by rw [← foldX1]; exact below_setRow bX0 (Nat.le_refl _) _
      have xX1 : X1.heap[wr.heap.size]? = some (.cells (xcells z).toArray 32 (0, 0)) := by rw [← foldX1]; exact setRow_heap _ _ _ _ _ _ zX
      have HX : Hid (X0.heap[wr.heap.size]? = some (.cells (xcells (zA 0)).toArray 32 (0, 0)) ∧ X1.heap[wr.heap.size]? = some (.cells (xcells z).toArray 32 (0, 0)) ∧ X0.setRow wr.heap.size (xcells z).toArray = X1 ∧ Below wr.heap.size wr X1 ∧ (∀ j u, (xcells z)[j]? = some u → X0.cell? ⟨b, off + i * 17 + j, none⟩ = some u)) := ⟨zX, xX1, foldX1, bX1, fun j u hj => cell_on bX0 (HC.out j u hj)⟩
      have bw1 := keptW HI.out.2.1 bX1
      have t1 := HV.out.2.2.2.below bw1 HV.out.2.2.2.pos
      have hB := bytesA_any z X1 t1 (HV.out.2.2.1.below bw1) HF.out
      clear hcells hva0 hcap hmax RW hz t1 zX bX0 xX1 bX1 bw1
      go_wp2_with (first
        | refine wpList_load_off rfl 32 _ rfl b (off + i * 17) rfl (xcells z) _ (by first | exact HC.out | exact HX.out.2.2.2.2 | (rw [foldX]; exact HX.out.2.2.2.2)) Tryd.underlying32 rfl info17 ?_
        | refine wpList_store_row rfl 32 _ _ rfl wr.heap.size (xcells z).toArray rfl rfl 32 (xcells (zA 0)).toArray HX.out.1 info17 rfl (one17 _) ?_
        | refine wpList_load_row rfl 32 _ rfl wr.heap.size rfl 32 (xcells z).toArray (0, 0) _ (by first | exact HX.out.2.1 | (rw [HX.out.2.2.1]; exact HX.out.2.1)) Tryd.underlying32 rfl info17 ?_)
      try rw [foldX1]
      refine hB.mono ?_
      rintro e V2 ⟨v2, rfl, o2, g2, z2⟩
      clear hB HC
      have b2 : Below wr.heap.size wr V2 := keptW HX.out.2.2.2.1 (grown_none g2)
      have p2 := Owns.mono o2 HX.out.2.2.2.1.size
      have H2 : Hid (Owns V2 w.heap.size 5 u3 (putL 2 n ++ (l.take i).flatMap itemL) ∧ Owns V2 wr.heap.size 5 v2 (bytesA z) ∧ Below w.heap.size w V2 ∧ wr.heap.size ≤ V2.heap.size ∧ (∀ k, u3.ownBlock = some k → k < wr.heap.size)) := ⟨HI.out.1.kept b2 (Nat.le_refl _), p2, keptW HI.out.2.1 b2, b2.size, fun k hk => (World.ownsRow.lt HI.out.1 k hk).2⟩
      have hG2 : Hid ((l.take i).all goodA = true) := HI.out.2.2
      obtain ⟨qa, qc, hv2⟩ := o2.holds.slice
      obtain ⟨k, hk⟩ : ∃ q, (bytesA z).length = q := ⟨_, rfl⟩
      rw [hk] at hv2
      subst hv2
      have HK : Hid ((bytesA z).length = k) := hk
      clear o2 p2 g2 z2 b2 hk HI
      cases hg : goodA z
      · have hk0 : k = 0 := by rw [← HK.out, bytesA_none hg]; rfl
        have HM : Hid (manyL l = []) := manyL_none hil (by rw [HZ.out]; exact hg)
        subst hk0
        clear hg
        go_wp2
        go_ret
        rw [HM.out]
        exact ⟨_, rfl, World.ownsRow_nil _ _ _ _, grown_of H2.out.2.2.1 _, H2.out.2.2.1.size⟩
      · have hk1 : 1 ≤ k ∧ k ≤ 600 := by rw [← HK.out]; exact bytesA_len hg
        have HG : Hid ((l.take (i + 1)).all goodA = true) := take_all hil hG2.out (by rw [HZ.out]; exact hg)
        have HT : Hid ((l.take (i + 1)).flatMap itemL = (l.take i).flatMap itemL ++ itemL z) := by
          have h := take_more hil
          rw [HZ.out] at h
          exact h
        have HS2 : Hid (((l.take i).flatMap itemL).length ≤ 602000) := by
          have h := items_len _ hG2.out
          have h2 : (l.take i).length ≤ i := by rw [List.length_take]; omega
          show _ ≤ _
          omega
        clear hg hG2
        have t2 := HV.out.2.2.2.below H2.out.2.2.1 HV.out.2.2.2.pos
        have hP := put_good (.slice none 0 0) [] 2 k V2 t2 (.inl ⟨rfl, rfl⟩) (by simp) (by decide) (by omega)
        have hk0 : ¬ (k : Int) = 0 := by omega
        have cw2 : IntKind.u64.wrap (k : Int) = (k : Int) := by rw [IntKind.wrap_u64]; omega
        clear t2
        go_wp2_with fail
        refine hP.mono ?_
        rintro e V3 ⟨v3, rfl, o3, b3⟩
        clear hP
        have H3 : Hid (Owns V3 w.heap.size 5 u3 (putL 2 n ++ (l.take i).flatMap itemL) ∧ Owns V3 wr.heap.size 5 (.slice qa k qc) (bytesA z) ∧ Below w.heap.size w V3 ∧ Owns V3 V2.heap.size 5 v3 (putL 2 k)) := ⟨H2.out.1.kept b3 (Nat.le_refl _), H2.out.2.1.kept b3 (Nat.le_refl _), keptW H2.out.2.2.1 b3, o3⟩
        clear o3 b3
        go_wp2_with (first
          | (at_builtin; refine wpList_append_bytesG rfl _ _ 37 5 bigU8 rfl w.heap.size _ _ _ _ rfl rfl H3.out.1 H3.out.2.2.2.holds (by have := HS2.out; rw [List.length_append, putL_length, putL_length]; omega) H3.out.2.2.1.size ?_; intro v5 w5 o5 g5 z5; have H5 : Hid (Owns w5 w.heap.size 5 v5 (putL 2 n ++ (l.take i).flatMap itemL ++ putL 2 k) ∧ Owns w5 wr.heap.size 5 (.slice qa k qc) (bytesA z) ∧ Below w.heap.size w w5) := many_step H3.out.1 H3.out.2.1 H3.out.2.2.1 H2.out.2.2.2.2 o5 g5; clear o5 g5 z5)
          | (at_builtin; refine wpList_append_bytesG rfl _ _ 37 5 bigU8 rfl w.heap.size _ _ _ _ rfl rfl H5.out.1 H5.out.2.1.holds (by have := HS2.out; rw [List.length_append, List.length_append, putL_length, putL_length, HK.out]; omega) H5.out.2.2.size ?_; intro v6 w6 o6 g6 z6; have H6 : Hid (Owns w6 w.heap.size 5 v6 (putL 2 n ++ (l.take i).flatMap itemL ++ putL 2 k ++ bytesA z) ∧ Below w.heap.size w w6) := ⟨o6, Owns.below H5.out.1 g6 H5.out.2.2 H5.out.2.2.size⟩; clear o6 g6 z6))
        go_roundg (n - (i + 1))
        case measure => omega
        case rel =>
          refine ⟨i + 1, by go_num, by omega, rfl, ?_, H6.out.2, HG.out⟩
          rw [HT.out]
          unfold itemL
          rw [HK.out, ← List.append_assoc, ← List.append_assoc]
          exact H6.out.1
    · obtain rfl : i = n := by omega
      have hlt' : ¬ (i : Int) < (i : Int) := by omega
      have HF : Hid (Owns wr w.heap.size 5 u3 (manyL l) ∧ Below w.heap.size w wr) := by
        have h1 := HI.out.1
        have h2 := HI.out.2.2
        rw [List.take_of_length_le (by rw [HL.out]; exact Nat.le_refl _)] at h1 h2
        refine ⟨?_, HI.out.2.1⟩
        rw [manyL_all (by rw [HL.out]; omega) h2, HL.out]
        exact h1
      clear HI
      go_wp2
      go_ret
      exact ⟨_, rfl, HF.out.1, grown_of HF.out.2 _, HF.out.2.size⟩
end Go.Proofs.YteimdolckhpndaaDoor
