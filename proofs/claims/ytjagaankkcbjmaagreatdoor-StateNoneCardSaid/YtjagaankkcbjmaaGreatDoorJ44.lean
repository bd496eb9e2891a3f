/-
  THE TABLES as the rows list them.
-/
import Derived.Test.YtjagaankkcbjmaaGreatDoorJ43
import Derived.Test.YtjagaankkcbjmaaGreatDoorJ20
namespace Go.Proofs.YtjagaankkcbjmaaGreatDoor
open Go.ChangeShapes Go.WideShapes Go.ChangeAt Go.RowKit

theorem gKin : Tryz.prog.globalNamed "staith/act.kinds" = some 0 := by kernel_rfl
theorem gKinType : (Tryz.prog.globals[0]?).map (·.type) = some 256 := by kernel_rfl
theorem cellsRow : Tryz.prog.cellsOf 255 = 2 := by kernel_rfl
theorem cellsKin : Tryz.prog.cellsOf 256 = 24 := by kernel_rfl
theorem laid_tail {P : Program} {W : World} {x : String × DataW Unit} {rest : List (String × DataW Unit)} (h : laidMet P (x :: rest) W) : laidMet P rest W := by
  obtain ⟨ps, ⟨g, t, cs, fuel, p, q, hg, ht, hv, hd, hr, rfl⟩, hn, hc⟩ := h
  exact ⟨q, hr, (List.nodup_append.1 hn).2.1, fun b off hm => hc b off (List.mem_append_right _ hm)⟩
/-- A row of the table that reads so has these two cells. -/
theorem row_cells {H : Type} {enc : TypeId × Value → H} {W : World} {fuel : Nat} {cs : List Value} {x : DataW H × List MemPlace} {sp : Nat → Bool} {held : Bool} {base : Nat} {k : Int} {l : List UInt8} (h : DataW.trod enc Tryz.prog W base sp held fuel 255 cs = some x) (hx : x.1 = .agg [.lit (.int .i64 k), .lit (.string l)]) : cs = [.int .i64 k, .string ⟨l.toArray⟩] := by
  obtain ⟨xs, n, _, hxd, hl, hxl, hf⟩ := DataW.trod_struct Tryz.underlying255 h
  have hl' : cs.length = 2 := hl.trans cellsRow
  have f0 := hf 0 _ rfl
  have f1 := hf 1 _ rfl
  change DataW.trod enc Tryz.prog W base sp held n 3 (List.take (Tryz.prog.cellsOf 3) (List.drop 0 cs)) = xs[0]? at f0
  change DataW.trod enc Tryz.prog W base sp held n 9 (List.take (Tryz.prog.cellsOf 9) (List.drop 1 cs)) = xs[1]? at f1
  rw [cellsI] at f0
  rw [cellsStr] at f1
  have hx' : xs.length = 2 := hxl
  obtain ⟨x0, x1, rfl⟩ := list2 hx'
  obtain ⟨c0, c1, rfl⟩ := list2 hl'
  obtain ⟨z, h0, d0, _⟩ := DataW.trod_int Tryz.underlying3 f0
  obtain ⟨s, h1, d1, _⟩ := DataW.trod_string Tryz.underlying9 f1
  have e0 : [c0] = [.int .i64 z] := h0
  have e1 : [c1] = [.string s] := h1
  simp only [List.cons.injEq, and_true] at e0 e1
  rw [hxd] at hx
  simp only [List.map_cons, List.map_nil, d0, d1] at hx
  injection hx with hx
  simp only [List.cons.injEq, and_true] at hx
  obtain ⟨q0, q1⟩ := hx
  injection q0 with q0
  injection q0 with _ q0
  injection q1 with q1
  injection q1 with q1
  rw [e0, e1, q0, ← q1]
/-- The rows of the table. -/
def kindsD : List (Int × List UInt8) := [(1, [110, 100]), (2, [110]), (3, [120]), (4, [110]), (5, [98]), (6, [98]), (7, [109]), (8, [110]), (9, [110, 116]), (10, [110, 116]), (11, [115, 99]), (12, [])]
theorem kinds_of {W : World} {rest : List (String × DataW Unit)} (h : laidMet Tryz.prog (("staith/act.kinds", Rows.laid_staith_act_kinds) :: rest) W) : Kinds W := by
  obtain ⟨ps, ⟨g, t, cs, fuel, p, q, hg, ht, hv, hd, hr, _⟩, _⟩ := h
  obtain rfl := Option.some.inj (gKin.symm.trans hg)
  obtain rfl := Option.some.inj (gKinType.symm.trans ht)
  obtain ⟨xs, m, _, hxd, hl, hxl, hf⟩ := DataW.trod_array Tryz.underlying256 hd
  rw [cellsKin] at hl
  have hxs : xs.map (·.1) = kindsD.map fun r => (.agg [.lit (.int .i64 r.1), .lit (.string r.2)] : DataW Unit) := by
    have := congrArg Prod.fst hxd
    injection this with this
    exact this.symm
  have hrow : ∀ i (hi : i < 12), (cs.toList.drop (i * 2)).take 2 = [.int .i64 (kindsD.getD i (0, [])).1, .string ⟨(kindsD.getD i (0, [])).2.toArray⟩] := by
    intro i hi
    have h1 := hf i hi
    rw [cellsRow] at h1
    have hi' : i < xs.length := by omega
    rw [List.getElem?_eq_getElem hi'] at h1
    refine row_cells h1 ?_
    have h2 := congrArg (fun l => l[i]?) hxs
    simp only [List.getElem?_map, List.getElem?_eq_getElem hi', Option.map_some] at h2
    have hk : kindsD[i]? = some (kindsD.getD i (0, [])) := by
      rw [List.getD_eq_getElem?_getD, List.getElem?_eq_getElem (show i < kindsD.length from hi)]
      rfl
    rw [hk, Option.map_some] at h2
    exact Option.some.inj h2
  intro j u hj
  have hj24 : j < 24 := (List.getElem?_eq_some_iff.1 hj).1
  rw [World.var?_cell gKin hv j]
  have hi : j / 2 < 12 := by omega
  have hr := hrow (j / 2) hi
  have hc : cs.toList[j]? = ((cs.toList.drop (j / 2 * 2)).take 2)[j % 2]? := by
    rw [List.getElem?_take, if_pos (by omega), List.getElem?_drop]
    congr 1
    omega
  rw [hr] at hc
  have hcs : cs[j]? = cs.toList[j]? := by simp
  rw [hcs, hc, ← hj]
  have hb : ∀ j, j < 24 → ([Value.int .i64 (kindsD.getD (j / 2) (0, [])).1, .string ⟨(kindsD.getD (j / 2) (0, [])).2.toArray⟩] : List Value)[j % 2]? = [Value.int .i64 1, .string ⟨#[110, 100]⟩, .int .i64 2, .string ⟨#[110]⟩, .int .i64 3, .string ⟨#[120]⟩, .int .i64 4, .string ⟨#[110]⟩, .int .i64 5, .string ⟨#[98]⟩, .int .i64 6, .string ⟨#[98]⟩, .int .i64 7, .string ⟨#[109]⟩, .int .i64 8, .string ⟨#[110]⟩, .int .i64 9, .string ⟨#[110, 116]⟩, .int .i64 10, .string ⟨#[110, 116]⟩, .int .i64 11, .string ⟨#[115, 99]⟩, .int .i64 12, .string ⟨#[]⟩][j]? := by
    intro j hj
    match j, hj with
    | 0, _ => rfl
    | 1, _ => rfl
    | 2, _ => rfl
    | 3, _ => rfl
    | 4, _ => rfl
    | 5, _ => rfl
    | 6, _ => rfl
    | 7, _ => rfl
    | 8, _ => rfl
    | 9, _ => rfl
    | 10, _ => rfl
    | 11, _ => rfl
    | 12, _ => rfl
    | 13, _ => rfl
    | 14, _ => rfl
    | 15, _ => rfl
    | 16, _ => rfl
    | 17, _ => rfl
    | 18, _ => rfl
    | 19, _ => rfl
    | 20, _ => rfl
    | 21, _ => rfl
    | 22, _ => rfl
    | 23, _ => rfl
    | n + 24, h => omega
  have hg := hb j hj24
  exact hg
theorem tab_of {W : World} (h : laidMetH Tryz.prog [("unicode/utf8.acceptRanges", Rows.laid_unicode_utf8_acceptRanges), ("staith/act.kinds", Rows.laid_staith_act_kinds), ("unicode/utf8.first", Rows.laid_unicode_utf8_first)] W) : Kinds W := by
  have h0 : laidMet Tryz.prog [("unicode/utf8.acceptRanges", Rows.laid_unicode_utf8_acceptRanges), ("staith/act.kinds", Rows.laid_staith_act_kinds), ("unicode/utf8.first", Rows.laid_unicode_utf8_first)] W := h
  exact kinds_of (laid_tail h0)
end Go.Proofs.YtjagaankkcbjmaaGreatDoor

/-
  The document's GoodMessage and Good of an exchange, by their contracts.
-/
namespace Go.Proofs.YtjagaankkcbjmaaGreatDoor
open Go.RowKit

set_option maxRecDepth 20000 in
theorem rgoodM_any (m : Ms) (w : World) (hm : m.Fits) : Calls Tryz.prog 86 #[mv m] w fun e w' => e = .returned (.bool (goodM m)) ∧ Below w.heap.size w w' := by
  obtain ⟨W, fold⟩ : ∃ W, w.alloc (.cells #[.int .i64 m.origin, .int .u64 m.seq, .int .i64 m.hop, .string m.ex, .string m.key, .string m.body] 40) = W := ⟨_, rfl⟩
  have b0 : Below w.heap.size w W := by rw [← fold]; exact box_below w _
  have y0 : W.cell? ⟨w.heap.size, 0, none⟩ = some (.int .i64 m.origin) := by rw [← fold]; exact box_cell w _ _ _ _ rfl
  have y1 : W.cell? ⟨w.heap.size, 1, none⟩ = some (.int .u64 m.seq) := by rw [← fold]; exact box_cell w _ _ _ _ rfl
  have y2 : W.cell? ⟨w.heap.size, 2, none⟩ = some (.int .i64 m.hop) := by rw [← fold]; exact box_cell w _ _ _ _ rfl
  have y3 : W.cell? ⟨w.heap.size, 3, none⟩ = some (.string m.ex) := by rw [← fold]; exact box_cell w _ _ _ _ rfl
  have y4 : W.cell? ⟨w.heap.size, 4, none⟩ = some (.string m.key) := by rw [← fold]; exact box_cell w _ _ _ _ rfl
  have y5 : W.cell? ⟨w.heap.size, 5, none⟩ = some (.string m.body) := by rw [← fold]; exact box_cell w _ _ _ _ rfl
  unfold goodM inB
  go_enter Tryz.func86, Tryz.ntmps86
  cases e0 : decide (1 ≤ m.origin)
  · go_wp2
    go_ret
    exact ⟨by (try rw [e0]); first | rfl | simp, b0⟩
  cases e1 : decide (m.origin ≤ 8)
  · go_wp2
    go_ret
    exact ⟨by (try rw [e0]); (try rw [e1]); first | rfl | simp, b0⟩
  cases e2 : decide (1 ≤ m.seq)
  · go_wp2
    go_ret
    exact ⟨by (try rw [e0]); (try rw [e1]); (try rw [e2]); first | rfl | simp, b0⟩
  cases e3 : decide (0 ≤ m.hop)
  · go_wp2
    go_ret
    exact ⟨by (try rw [e0]); (try rw [e1]); (try rw [e2]); (try rw [e3]); first | rfl | simp, b0⟩
  cases e4 : decide (m.hop ≤ 8)
  · go_wp2
    go_ret
    exact ⟨by (try rw [e0]); (try rw [e1]); (try rw [e2]); (try rw [e3]); (try rw [e4]); first | rfl | simp, b0⟩
  have hc := rname_any m.ex W hm.e
  go_wp2_with fail
  refine hc.mono ?_
  rintro e V6 ⟨rfl, rfl⟩
  clear hc
  cases e5 : nameB (txt m.ex)
  · go_wp2
    go_ret
    exact ⟨by (try rw [e0]); (try rw [e1]); (try rw [e2]); (try rw [e3]); (try rw [e4]); (try rw [e5]); first | rfl | simp, b0⟩
  have hc := rkey_any m.key V6 hm.k
  go_wp2_with fail
  refine hc.mono ?_
  rintro e V7 ⟨rfl, b7⟩
  have y0 := cell_on b7 y0
  have y1 := cell_on b7 y1
  have y2 := cell_on b7 y2
  have y3 := cell_on b7 y3
  have y4 := cell_on b7 y4
  have y5 := cell_on b7 y5
  clear hc
  cases e6 : keyB (txt m.key)
  · go_wp2
    go_ret
    exact ⟨by (try rw [e0]); (try rw [e1]); (try rw [e2]); (try rw [e3]); (try rw [e4]); (try rw [e5]); (try rw [e6]); first | rfl | simp, keptW b0 b7⟩
  go_wp2
  go_ret
  exact ⟨by (try rw [e0]); (try rw [e1]); (try rw [e2]); (try rw [e3]); (try rw [e4]); (try rw [e5]); (try rw [e6]); first | rfl | simp, keptW b0 b7⟩
end Go.Proofs.YtjagaankkcbjmaaGreatDoor

/-
  The document's Good of an exchange, by its contract.
-/
namespace Go.Proofs.YtjagaankkcbjmaaGreatDoor
open Go.RowKit

set_option maxRecDepth 20000 in
theorem rgoodX_any (n : ByteArray) (k : Int) (f : Bool) (w : World) (hn : n.size ≤ maxLen) : Calls Tryz.prog 85 #[.agg #[.string n, .int .i64 k, .bool f]] w fun e w' => e = .returned (.bool (goodX n k)) ∧ Below w.heap.size w w' := by
  obtain ⟨W, fold⟩ : ∃ W, w.alloc (.cells #[.string n, .int .i64 k, .bool f] 34) = W := ⟨_, rfl⟩
  have b0 : Below w.heap.size w W := by rw [← fold]; exact box_below w _
  have y0 : W.cell? ⟨w.heap.size, 0, none⟩ = some (.string n) := by rw [← fold]; exact box_cell w _ _ _ _ rfl
  have y1 : W.cell? ⟨w.heap.size, 1, none⟩ = some (.int .i64 k) := by rw [← fold]; exact box_cell w _ _ _ _ rfl
  have hc := rname_any n W hn
  have hg : goodX n k = (nameB (txt n) && (decide (1 ≤ k) && decide (k ≤ 3))) := by unfold goodX inB; rw [Bool.and_comm]
  rw [hg]
  go_enter Tryz.func85, Tryz.ntmps85
  go_wp2_with fail
  try rw [fold]
  refine hc.mono ?_
  rintro e V ⟨rfl, rfl⟩
  clear hc
  cases e0 : nameB (txt n)
  · go_wp2
    go_ret
    exact ⟨by (try rw [e0]); first | rfl | simp, b0⟩
  cases e1 : decide (1 ≤ k)
  · go_wp2
    go_ret
    exact ⟨by (try rw [e0]); (try rw [e1]); first | rfl | simp, b0⟩
  go_wp2
  go_ret
  exact ⟨by (try rw [e0]); (try rw [e1]); first | rfl | simp, b0⟩
end Go.Proofs.YtjagaankkcbjmaaGreatDoor
