/-
  THE TABLES as the rows list them.
-/
import Derived.Test.YteimdolckhpndaaDoorFrame13
namespace Go.Proofs.YteimdolckhpndaaDoor
open Go.ChangeShapes Go.WideShapes Go.ChangeAt Go.RowKit

theorem gWid : Tryd.prog.globalNamed "staith/word.widths" = some 1 := by kernel_rfl
theorem gWidType : (Tryd.prog.globals[1]?).map (·.type) = some 106 := by kernel_rfl
theorem cellsWid : Tryd.prog.cellsOf 106 = 4 := by kernel_rfl
theorem gKin : Tryd.prog.globalNamed "staith/act.kinds" = some 0 := by kernel_rfl
theorem gKinType : (Tryd.prog.globals[0]?).map (·.type) = some 90 := by kernel_rfl
theorem cellsRow : Tryd.prog.cellsOf 89 = 2 := by kernel_rfl
theorem cellsKin : Tryd.prog.cellsOf 90 = 24 := by kernel_rfl
theorem laid_tail {P : Program} {W : World} {x : String × DataW Unit} {rest : List (String × DataW Unit)} (h : laidMet P (x :: rest) W) : laidMet P rest W := by
  obtain ⟨ps, ⟨g, t, cs, fuel, p, q, hg, ht, hv, hd, hr, rfl⟩, hn, hc⟩ := h
  exact ⟨q, hr, (List.nodup_append.1 hn).2.1, fun b off hm => hc b off (List.mem_append_right _ hm)⟩
/-- A row of the table that reads so has these two cells. -/
theorem row_cells {H : Type} {enc : TypeId × Value → H} {W : World} {fuel : Nat} {cs : List Value} {x : DataW H × List MemPlace} {sp : Nat → Bool} {held : Bool} {base : Nat} {k : Int} {l : List UInt8} (h : DataW.trod enc Tryd.prog W base sp held fuel 89 cs = some x) (hx : x.1 = .agg [.lit (.int .i64 k), .lit (.string l)]) : cs = [.int .i64 k, .string ⟨l.toArray⟩] := by
  obtain ⟨xs, n, _, hxd, hl, hxl, hf⟩ := DataW.trod_struct Tryd.underlying89 h
  have hl' : cs.length = 2 := hl.trans cellsRow
  have f0 := hf 0 _ rfl
  have f1 := hf 1 _ rfl
  change DataW.trod enc Tryd.prog W base sp held n 3 (List.take (Tryd.prog.cellsOf 3) (List.drop 0 cs)) = xs[0]? at f0
  change DataW.trod enc Tryd.prog W base sp held n 9 (List.take (Tryd.prog.cellsOf 9) (List.drop 1 cs)) = xs[1]? at f1
  rw [cellsI] at f0
  rw [cellsStr] at f1
  have hx' : xs.length = 2 := hxl
  obtain ⟨x0, x1, rfl⟩ := list2 hx'
  obtain ⟨c0, c1, rfl⟩ := list2 hl'
  obtain ⟨z, h0, d0, _⟩ := DataW.trod_int Tryd.underlying3 f0
  obtain ⟨s, h1, d1, _⟩ := DataW.trod_string Tryd.underlying9 f1
  have e0 : [c0] = [.int .i64 z] := h0
  have e1 : [c1] = [.string s] := h1
  simp only [List.cons.injEq, and_true] at e0 e1
  rw [hxd] at hx
  simp only [List.map_cons, List.map_nil, d0, d1] at hx
  injection hx with hx
  simp only [List.cons.injEq, and_true] at hx
  obtain ⟨q0, q1⟩ := hx
  injection q0 with q0
  injection q0 with _ q0
  injection q1 with q1
  injection q1 with q1
  rw [e0, e1, q0, ← q1]
/-- The rows of the table. -/
def kindsD : List (Int × List UInt8) := [(1, [110, 100]), (2, [110]), (3, [120]), (4, [110]), (5, [98]), (6, [98]), (7, [109]), (8, [110]), (9, [110, 116]), (10, [110, 116]), (11, [115, 99]), (12, [])]
theorem kinds_of {W : World} {rest : List (String × DataW Unit)} (h : laidMet Tryd.prog (("staith/act.kinds", Rows.laid_staith_act_kinds) :: rest) W) : Kinds W := by
  obtain ⟨ps, ⟨g, t, cs, fuel, p, q, hg, ht, hv, hd, hr, _⟩, _⟩ := h
  obtain rfl := Option.some.inj (gKin.symm.trans hg)
  obtain rfl := Option.some.inj (gKinType.symm.trans ht)
  obtain ⟨xs, m, _, hxd, hl, hxl, hf⟩ := DataW.trod_array Tryd.underlying90 hd
  rw [cellsKin] at hl
  have hxs : xs.map (·.1) = kindsD.map fun r => (.agg [.lit (.int .i64 r.1), .lit (.string r.2)] : DataW Unit) := by
    have := congrArg Prod.fst hxd
    injection this with this
    exact this.symm
  have hrow : ∀ i (hi : i < 12), (cs.toList.drop (i * 2)).take 2 = [.int .i64 (kindsD.getD i (0, [])).1, .string ⟨(kindsD.getD i (0, [])).2.toArray⟩] := by
    intro i hi
    have h1 := hf i hi
    rw [cellsRow] at h1
    have hi' : i < xs.length := by omega
    rw [List.getElem?_eq_getElem hi'] at h1
    refine row_cells h1 ?_
    have h2 := congrArg (fun l => l[i]?) hxs
    simp only [List.getElem?_map, List.getElem?_eq_getElem hi', Option.map_some] at h2
    have hk : kindsD[i]? = some (kindsD.getD i (0, [])) := by
      rw [List.getD_eq_getElem?_getD, List.getElem?_eq_getElem (show i < kindsD.length from hi)]
      rfl
    rw [hk, Option.map_some] at h2
    exact Option.some.inj h2
  intro j u hj
  have hj24 : j < 24 := (List.getElem?_eq_some_iff.1 hj).1
  rw [World.var?_cell gKin hv j]
  have hi : j / 2 < 12 := by omega
  have hr := hrow (j / 2) hi
  have hc : cs.toList[j]? = ((cs.toList.drop (j / 2 * 2)).take 2)[j % 2]? := by
    rw [List.getElem?_take, if_pos (by omega), List.getElem?_drop]
    congr 1
    omega
  rw [hr] at hc
  have hcs : cs[j]? = cs.toList[j]? := by simp
  rw [hcs, hc, ← hj]
  have hb : ∀ j, j < 24 → ([Value.int .i64 (kindsD.getD (j / 2) (0, [])).1, .string ⟨(kindsD.getD (j / 2) (0, [])).2.toArray⟩] : List Value)[j % 2]? = [Value.int .i64 1, .string ⟨#[110, 100]⟩, .int .i64 2, .string ⟨#[110]⟩, .int .i64 3, .string ⟨#[120]⟩, .int .i64 4, .string ⟨#[110]⟩, .int .i64 5, .string ⟨#[98]⟩, .int .i64 6, .string ⟨#[98]⟩, .int .i64 7, .string ⟨#[109]⟩, .int .i64 8, .string ⟨#[110]⟩, .int .i64 9, .string ⟨#[110, 116]⟩, .int .i64 10, .string ⟨#[110, 116]⟩, .int .i64 11, .string ⟨#[115, 99]⟩, .int .i64 12, .string ⟨#[]⟩][j]? := by
    intro j hj
    match j, hj with
    | 0, _ => rfl
    | 1, _ => rfl
    | 2, _ => rfl
    | 3, _ => rfl
    | 4, _ => rfl
    | 5, _ => rfl
    | 6, _ => rfl
    | 7, _ => rfl
    | 8, _ => rfl
    | 9, _ => rfl
    | 10, _ => rfl
    | 11, _ => rfl
    | 12, _ => rfl
    | 13, _ => rfl
    | 14, _ => rfl
    | 15, _ => rfl
    | 16, _ => rfl
    | 17, _ => rfl
    | 18, _ => rfl
    | 19, _ => rfl
    | 20, _ => rfl
    | 21, _ => rfl
    | 22, _ => rfl
    | 23, _ => rfl
    | n + 24, h => omega
  have hg := hb j hj24
  exact hg
/-- What the walks read. -/
structure Env13 (W : World) : Prop where
  tab : Tab W
  kinds : Kinds W
theorem tab_of {W : World} (h : laidMetH Tryd.prog [("staith/word.widths", Rows.laid_staith_word_widths), ("unicode/utf8.acceptRanges", Rows.laid_unicode_utf8_acceptRanges), ("staith/act.kinds", Rows.laid_staith_act_kinds), ("unicode/utf8.first", Rows.laid_unicode_utf8_first)] W) : Env13 W := by
  have h0 : laidMet Tryd.prog [("staith/word.widths", Rows.laid_staith_word_widths), ("unicode/utf8.acceptRanges", Rows.laid_unicode_utf8_acceptRanges), ("staith/act.kinds", Rows.laid_staith_act_kinds), ("unicode/utf8.first", Rows.laid_unicode_utf8_first)] W := h
  have hT : Lib.TabIs Tryd.prog W "staith/word.widths" .i64 [1, 2, 4, 8] := Lib.tabIs_of_head gWid gWidType Tryd.underlying106 Tryd.underlying3 cellsI cellsWid h0
  refine ⟨?_, kinds_of (laid_tail (laid_tail h0))⟩
  intro j u hj
  match j, hj with
  | 0, hj => cases hj; exact hT.cell gWid 0 (by decide)
  | 1, hj => cases hj; exact hT.cell gWid 1 (by decide)
  | 2, hj => cases hj; exact hT.cell gWid 2 (by decide)
  | 3, hj => cases hj; exact hT.cell gWid 3 (by decide)
  | j + 4, hj => simp at hj
end Go.Proofs.YteimdolckhpndaaDoor

/-
  Bytes that came in.
-/
namespace Go.Proofs.YteimdolckhpndaaDoor
open Go.ChangeShapes Go.WideShapes Go.ChangeAt Go.RowKit

theorem bytesU8 : Tryd.prog.bytesOf 5 = 1 := by kernel_rfl
/-- A slice of bytes that was read holds some bytes; no more than the form's reach. -/
theorem bytes_of_trod {H : Type} {enc : TypeId × Value → H} {W : World} {fuel : Nat} {cs : List Value} {x : DataW H × List MemPlace} (hf : DataW.trod enc Tryd.prog W 0 (fun _ => true) true fuel 37 cs = some x)
    (hw : ∀ n ∈ x.1.weights Tryd.prog 37, n ≤ reachBytes) : ∃ v bs, cs = [v] ∧ Holds W v bs ∧ bs.length ≤ 140737488351232 := by
  rcases open_ints Tryd.underlying37 Tryd.underlying5 (by kernel_rfl) hf with ⟨rfl, _⟩ | ⟨x, len, cap, zs, rfl, _, hl, hm, hz, rfl, hcell, hwz⟩
  · exact ⟨_, [], rfl, .inl ⟨rfl, rfl⟩, by simp⟩
  · have hzl : zs.length = cap := by simpa using hz
    have hlen : ((zs.take len).map fun z => UInt8.ofNat z.toNat).length = len := by simp; omega
    refine ⟨_, (zs.take len).map fun z => UInt8.ofNat z.toNat, rfl, .inr ⟨x, cap, by rw [hlen], by omega, hm, fun j u hj => ?_⟩, ?_⟩
    · have hj' : j < len := by
        have := (List.getElem?_eq_some_iff.1 hj).1
        rw [bcells_length, hlen] at this
        exact this
      have hjz : j < zs.length := by omega
      have hb := bounds_u8 (hwz zs[j] (List.getElem_mem hjz))
      have hu : u = .int .u8 zs[j] := by
        simp only [bcells, List.map_map, List.getElem?_map, List.getElem?_take, hj', if_true, List.getElem?_eq_getElem hjz, Option.map_some, Function.comp, Option.some.injEq] at hj
        rw [← hj]
        congr 1
        simp
        omega
      rw [hu, hcell j hjz]
      simp [List.getD, hjz]
    · have h1 := hw (((lits (H := H) .u8 (zs.take len)).length + (lits (H := H) .u8 (zs.drop len)).length) * Tryd.prog.bytesOf 5) (by
        simp only [DataW.weights, Tryd.underlying37]
        exact List.mem_cons_self)
      rw [hlen]
      rw [bytesU8] at h1
      simp [lits, reachBytes] at h1
      omega

set_option maxRecDepth 20000 in
/-- A slice of bytes that came in. -/
theorem open_bytes {H : Type} {enc : TypeId × Value → H} {W : World} {base : Nat} {v : Value} {d : DataW H} {p : List MemPlace} (hval : Value.okWide Tryd.prog W .any base 37 v)
    (h : DataW.Trod enc Tryd.prog W 0 (fun _ => true) true 37 v d p) (hw : ∀ n ∈ d.weights Tryd.prog 37, n ≤ reachBytes) : ∃ bs, Holds W v bs ∧ bs.length ≤ 140737488351232 := by
  obtain ⟨a, len, cap, rfl⟩ := okWide_slice Tryd.underlying37 hval
  obtain ⟨fuel, hf⟩ := h
  obtain ⟨v, bs, hv, hh, hl⟩ := bytes_of_trod hf hw
  simp [Value.cells] at hv
  subst hv
  exact ⟨bs, hh, hl⟩
end Go.Proofs.YteimdolckhpndaaDoor
