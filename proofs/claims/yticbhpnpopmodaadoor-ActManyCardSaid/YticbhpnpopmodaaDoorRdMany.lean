/-
  ReadMany, by its contract.
-/
import Derived.Test.YticbhpnpopmodaaDoorLists13
namespace Go.Proofs.YticbhpnpopmodaaDoor
open Go.RowKit

set_option maxRecDepth 20000 in
set_option maxHeartbeats 8000000 in
theorem readL_any (v : Value) (bs : List UInt8) (w : World) (ht : Tab w) (hK : Kinds w) (hv : Holds w v bs) (hl : bs.length ≤ 100000) :
    Calls Tryd.prog 23 #[v] w (ManyPost w bs) := by
  obtain ⟨U, fold⟩ : ∃ U, w.alloc (.cells #[v, .bool false] 77) = U := ⟨_, rfl⟩
  have bU : Below w.heap.size w U := by rw [← fold]; exact box_below w _
  have rU : Rd 77 U w.heap.size (some bs) := by rw [← fold]; exact rd_new _ w v bs hv hl
  have hsU : U.heap.size = w.heap.size + 1 := by rw [← fold]; exact World.size_alloc _ _
  have hC := num2_any w.heap.size (some bs) U (ht.below bU ht.pos) rU
  have HM : Hid (MIn 77 w U w.heap.size (some bs) (.slice none 0 0) []) := ⟨ht.below bU ht.pos, hK.below bU, rU, K.ownOf_nil _ _, bU, Nat.le_refl _, ht.pos, hK.pos⟩
  obtain ⟨va, vc, rfl⟩ := hv.slice
  clear ht hK hv hl bU rU hsU
  go_enter Tryd.func23, Tryd.ntmps23
  go_wp2_with fail
  try rw [fold]
  refine hC.mono ?_
  rintro e w1 ⟨n, s1, rfl, hn, haft, hr1, bar1⟩
  clear hC
  have hn6 : n < 65536 := num_le hn (by decide)
  have H1 : Hid (MIn 77 w w1 w.heap.size s1 (.slice none 0 0) [] ∧ Aft (some bs) (numP 2) n s1 ∧ n < 65536) := ⟨HM.out.bar hr1 bar1, haft, hn6⟩
  clear hn haft hr1 bar1 HM hn6
  by_cases hbig : (60000 : Int) < (n : Int)
  · have HR : Hid (readL bs = none) := readL_big H1.out.2.1 (by omega)
    go_wp2
    go_ret2
    exact many_none HR.out H1.out.1.bel
  go_wp2
  go_loopg [6, 7, 8, 17] n (fun g u6 u7 u8 u17 wr => ∃ i : Nat, u17 = .int .u64 (i : Int) ∧ i ≤ n ∧ g = n - i ∧ Hid (∃ s' l, MIn 77 w wr w.heap.size s' u6 l ∧ Aft s1 (itemsP i) l s' ∧ l.length = i))
  case atStart => exact ⟨0, rfl, Nat.zero_le _, rfl, s1, [], H1.out.1, aft_pure _ _, rfl⟩
  case round =>
    obtain ⟨i, rfl, hi, rfl, HI⟩ := hrel
    by_cases hlt : i < n
    · have hlt' : (i : Int) < (n : Int) := by omega
      obtain ⟨s', l, hM, hA, hL⟩ := HI.out
      have hC := piece_any w.heap.size s' wr hM.tab hM.rd
      have H2 : Hid (MIn 77 w wr w.heap.size s' u6 l ∧ Aft s1 (itemsP i) l s' ∧ l.length = i) := ⟨hM, hA, hL⟩
      clear hM hA hL HI
      go_wp2_with fail
      refine hC.mono ?_
      rintro e V1 ⟨vq, q, s2, rfl, hq, hql, hlo, haft, hr2, bar2⟩
      clear hC hlo
      have H3 : Hid (MIn 77 w V1 w.heap.size s2 u6 l ∧ Aft s' pieceP q s2) := ⟨H2.out.1.bar hr2 bar2, haft⟩
      have hC := read_any vq q V1 H3.out.1.tab H3.out.1.kinds hq (by omega)
      obtain ⟨qa, qc, hvq⟩ := hq.slice
      obtain ⟨qn, hqn⟩ : ∃ z, q.length = z := ⟨_, rfl⟩
      rw [hqn] at hvq
      subst hvq
      clear hql haft hr2 bar2 hq hqn
      cases ho : readA q with
      | none =>
        rw [ho] at hC
        have HR : Hid (readL bs = none) := readL_torn H1.out.2.1 (by omega : i + 1 ≤ n) (items_none H2.out.2.1 H3.out.2 ho)
        clear ho
        have hC : Calls Tryd.prog 19 #[.slice qa qn qc] V1 fun e w' => e = .returned (.tuple #[av (zA 0), .int .i64 7]) ∧ Below V1.heap.size V1 w' := hC
        go_wp2_with fail
        refine hC.mono ?_
        rintro e V2 ⟨rfl, b2⟩
        clear hC
        have H4 : Hid (MIn 77 w V2 w.heap.size s2 u6 l) := H3.out.1.go b2
        clear b2
        obtain ⟨X0, foldX⟩ : ∃ X, V2.alloc (.cells #[.int .i64 0, .string ⟨#[]⟩, .int .i64 0, .int .u64 0, .int .i64 0, .string ⟨#[]⟩, .int .i64 0, .bool false, .string ⟨#[]⟩, .string ⟨#[]⟩, .string ⟨#[]⟩, .int .i64 0, .int .u64 0, .int .i64 0, .string ⟨#[]⟩, .string ⟨#[]⟩, .string ⟨#[]⟩] 32) = X := ⟨_, rfl⟩
        have zX : X0.heap[V2.heap.size]? = some (.cells (xcells (zA 0)).toArray 32 (0, 0)) := by rw [← foldX]; exact heap_alloc_new V2 _
        have bX0 : Below V2.heap.size V2 X0 := by rw [← foldX]; exact box_below V2 _
        have HB : Hid (Below w.heap.size w (X0.setRow V2.heap.size (xcells (zA 0)).toArray) ∧ X0.heap[V2.heap.size]? = some (.cells (xcells (zA 0)).toArray 32 (0, 0))) := ⟨keptW H4.out.bel (below_setRow bX0 (Nat.le_refl _) _), zX⟩
        clear zX bX0
        go_wp2_with (refine wpList_store_row rfl 32 _ _ rfl V2.heap.size (xcells (zA 0)).toArray rfl rfl 32 (xcells (zA 0)).toArray HB.out.2 info17 rfl (one17 _) ?_)
        go_ret2
        exact many_none HR.out HB.out.1
      | some z =>
        rw [ho] at hC
        have HA2 : Hid (Aft s1 (itemsP (i + 1)) (l ++ [z]) s2) := items_some H2.out.2.1 H3.out.2 ho
        clear ho
        have hC : Calls Tryd.prog 19 #[.slice qa qn qc] V1 fun e w' => e = .returned (.tuple #[av z, .int .i64 0]) ∧ Below V1.heap.size V1 w' := hC
        go_wp2_with fail
        refine hC.mono ?_
        rintro e V2 ⟨rfl, b2⟩
        clear hC
        have H4 : Hid (MIn 77 w V2 w.heap.size s2 u6 l) := H3.out.1.go b2
        clear b2
        obtain ⟨X0, foldX⟩ : ∃ X, V2.alloc (.cells #[.int .i64 0, .string ⟨#[]⟩, .int .i64 0, .int .u64 0, .int .i64 0, .string ⟨#[]⟩, .int .i64 0, .bool false, .string ⟨#[]⟩, .string ⟨#[]⟩, .string ⟨#[]⟩, .int .i64 0, .int .u64 0, .int .i64 0, .string ⟨#[]⟩, .string ⟨#[]⟩, .string ⟨#[]⟩] 32) = X := ⟨_, rfl⟩
        have zX : X0.heap[V2.heap.size]? = some (.cells (xcells (zA 0)).toArray 32 (0, 0)) := by rw [← foldX]; exact heap_alloc_new V2 _
        have bX0 : Below V2.heap.size V2 X0 := by rw [← foldX]; exact box_below V2 _
        obtain ⟨X1, foldX1⟩ : ∃ X, X0.setRow V2.heap.size (xcells z).toArray = X := ⟨_, rfl⟩
        have bX1 : Below V2.heap.size V2 X1 := by rw [← foldX1]; exact below_setRow bX0 (Nat.le_refl _) _
        have xX1 : X1.heap[V2.heap.size]? = some (.cells (xcells z).toArray 32 (0, 0)) := by rw [← foldX1]; exact setRow_heap _ _ _ _ _ _ zX
        obtain ⟨Y, foldY⟩ : ∃ X, X1.alloc (.cells #[.int .i64 z.kind, .string z.name, .int .i64 z.n, .int .u64 z.tag, .int .i64 z.to, .string z.xn, .int .i64 z.xk, .bool z.xf, .string z.be, .string z.bq, .string z.bp, .int .i64 z.m.origin, .int .u64 z.m.seq, .int .i64 z.m.hop, .string z.m.ex, .string z.m.key, .string z.m.body] 32) = X := ⟨_, rfl⟩
        have bY : Below X1.heap.size X1 Y := by rw [← foldY]; exact box_below X1 _
        have rY : K.RowOf xcells Y (.slice (some ⟨X1.heap.size, 0, none⟩) 1 1) [z] := by rw [← foldY]; exact K.row_one X1 z _ rfl
        have HB : Hid (MIn 77 w Y w.heap.size s2 u6 l ∧ X0.heap[V2.heap.size]? = some (.cells (xcells (zA 0)).toArray 32 (0, 0)) ∧ X1.heap[V2.heap.size]? = some (.cells (xcells z).toArray 32 (0, 0)) ∧ K.RowOf xcells Y (.slice (some ⟨X1.heap.size, 0, none⟩) 1 1) [z] ∧ X0.setRow V2.heap.size (xcells z).toArray = X1 ∧ X1.alloc (.cells #[.int .i64 z.kind, .string z.name, .int .i64 z.n, .int .u64 z.tag, .int .i64 z.to, .string z.xn, .int .i64 z.xk, .bool z.xf, .string z.be, .string z.bq, .string z.bp, .int .i64 z.m.origin, .int .u64 z.m.seq, .int .i64 z.m.hop, .string z.m.ex, .string z.m.key, .string z.m.body] 32) = Y) := ⟨(H4.out.go bX1).go bY, zX, xX1, rY, foldX1, foldY⟩
        obtain ⟨ii, hii, hzz, hss, hbb⟩ := actInfo
        have hz17 : (av (zA 0)).cells.size = 17 := rfl
        have hpl : w.heap.size + 1 ≤ Y.heap.size := by have := HB.out.1.rd.lt; omega
        have HN : Hid (l.length = i ∧ i < 65536 ∧ w.heap.size + 1 ≤ Y.heap.size) := ⟨H2.out.2.2, by have := H1.out.2.2; omega, hpl⟩
        clear zX bX0 bX1 xX1 bY rY hpl
        go_wp2_with (first
          | refine wpList_store_row rfl 32 _ _ rfl V2.heap.size (xcells z).toArray rfl rfl 32 (xcells (zA 0)).toArray HB.out.2.1 info17 rfl (one17 _) ?_
          | refine wpList_load_row rfl 32 _ rfl V2.heap.size rfl 32 #[.int .i64 z.kind, .string z.name, .int .i64 z.n, .int .u64 z.tag, .int .i64 z.to, .string z.xn, .int .i64 z.xk, .bool z.xf, .string z.be, .string z.bq, .string z.bp, .int .i64 z.m.origin, .int .u64 z.m.seq, .int .i64 z.m.hop, .string z.m.ex, .string z.m.key, .string z.m.body] (0, 0) _ (by first | exact HB.out.2.2.1 | (rw [HB.out.2.2.2.2.1]; exact HB.out.2.2.1)) Tryd.underlying32 rfl info17 ?_
          | (at_builtin; refine K.wpList_append_rows (enc := xcells) rfl (.tmp 28) (.tmp 30) 49 rfl Tryd.underlying49 ii (av (zA 0)) 200 hii hzz hss hbb hz17 (w.heap.size + 1) _ _ l [z] rfl rfl (by first | exact HB.out.1.own | (rw [foldY]; exact HB.out.1.own)) (by first | exact HB.out.2.2.2.1 | (rw [foldY]; exact HB.out.2.2.2.1)) (by have := HN.out; unfold maxLen; show l.length + 1 ≤ _; omega) (by have := HN.out; show (l.length + 1) * 200 ≤ _; omega) (by first | exact HN.out.2.2 | (rw [foldY]; exact HN.out.2.2)) ?_; intro v5 w5 o5 g5 n5; have P5 : Hid (MIn 77 w w5 w.heap.size s2 v5 (l ++ [z])) := HB.out.1.put o5 (by first | exact g5 | (rw [foldY] at g5; exact g5)); clear o5 g5 n5))
        have wi : IntKind.u64.wrap ((i : Int) + 1) = ((i + 1 : Nat) : Int) := by have := HN.out; rw [IntKind.wrap_u64]; omega
        go_wp2
        go_roundg (n - (i + 1))
        case measure => omega
        case rel => exact ⟨i + 1, rfl, by omega, rfl, s2, l ++ [z], P5.out, HA2.out, by rw [List.length_append, HN.out.1]; rfl⟩
    · have hlt' : ¬ (i : Int) < (n : Int) := by omega
      obtain rfl : i = n := by omega
      obtain ⟨s', l, hM, hA, hL⟩ := HI.out
      have hC := ended_any w.heap.size s' wr hM.rd
      have HF : Hid (readL bs = if s' = some [] ∧ l.length ≤ 60000 then some l else none) := readL_aft H1.out.2.1 hA
      have HN : Hid (MIn 77 w wr w.heap.size s' u6 l ∧ l.length ≤ 60000) := ⟨hM, by omega⟩
      clear hM hA hL HI
      go_wp2_with fail
      refine hC.mono ?_
      rintro e wr ⟨rfl, rfl⟩
      clear hC
      cases hd : decide (s' = some [])
      · have h1 : ¬ s' = some [] := of_decide_eq_false hd
        have HR : Hid (readL bs = none) := by
          show readL bs = none
          rw [HF.out, if_neg (fun h => h1 h.1)]
        clear hd h1
        go_wp2
        go_ret2
        exact many_none HR.out HN.out.1.bel
      · have h1 : s' = some [] := of_decide_eq_true hd
        have HR : Hid (readL bs = some l) := by
          show readL bs = some l
          rw [HF.out, if_pos ⟨h1, HN.out.2⟩]
        clear hd h1
        go_wp2
        go_ret2
        exact ⟨u6, by rw [HR.out]; rfl, by rw [HR.out]; exact HN.out.1.own.mono (Nat.le_succ _), HN.out.1.bel⟩
end Go.Proofs.YticbhpnpopmodaaDoor
