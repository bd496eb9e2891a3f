/-
  WHAT THE CARDS OF LAYER 12 NEED: the variables that the rows list; bytes, acts and cuts that came in.
-/
import Derived.Test.YtjgdmbfkondakaaGreatDoorRows
import Derived.Test.YtjgdmbfkondakaaGreatDoorJLives12
import Derived.Test.YtjgdmbfkondakaaGreatDoorJStructs
import Derived.WalkKit
import Derived.ProofKit
import Derived.OpenShut
import Derived.ChangeOld
import Derived.SizedLaws
import Derived.DataReads
import Derived.DataElems
import Derived.LaidLaws
import Derived.Lib.LaidTab
import Derived.Deep.DeepHandedRow
namespace Go.Proofs.YtjgdmbfkondakaaGreatDoor
open Go.ChangeShapes Go.WideShapes Go.ChangeAt Go.RowKit

theorem own : ownKnob Tryz.prog.godebug = none := by kernel_rfl
theorem laidOut : laidOutB Tryz.prog = true := by kernel_rfl
theorem gWid : Tryz.prog.globalNamed "staith/word.widths" = some 0 := by kernel_rfl
theorem gWidType : (Tryz.prog.globals[0]?).map (·.type) = some 125 := by kernel_rfl
theorem cellsWid : Tryz.prog.cellsOf 125 = 4 := by kernel_rfl
theorem gPowType : (Tryz.prog.globals[1]?).map (·.type) = some 145 := by kernel_rfl
theorem cellsPow : Tryz.prog.cellsOf 145 = 20 := by kernel_rfl
theorem cellsU64 : Tryz.prog.cellsOf 85 = 1 := by kernel_rfl
theorem gErr : Tryz.prog.globalNamed "strconv.ErrSyntax" = some 2 := by kernel_rfl
theorem gErrType : (Tryz.prog.globals[2]?).map (·.type) = some 119 := by kernel_rfl
theorem gBru : Tryz.prog.globalNamed "math/bits.deBruijn64tab" = some 5 := by kernel_rfl
theorem cellsI : Tryz.prog.cellsOf 3 = 1 := by kernel_rfl
theorem cellsStr : Tryz.prog.cellsOf 9 = 1 := by kernel_rfl
theorem cellsBytes : Tryz.prog.cellsOf 31 = 1 := by kernel_rfl
theorem bytesU8 : Tryz.prog.bytesOf 5 = 1 := by kernel_rfl
theorem laid_tail {P : Program} {W : World} {x : String × DataW Unit} {rest : List (String × DataW Unit)} (h : laidMet P (x :: rest) W) : laidMet P rest W := by
  obtain ⟨ps, ⟨g, t, cs, fuel, p, q, hg, ht, hv, hd, hr, rfl⟩, hn, hc⟩ := h
  exact ⟨q, hr, (List.nodup_append.1 hn).2.1, fun b off hm => hc b off (List.mem_append_right _ hm)⟩
/-- A variable of an interface's type that is laid so holds an interface's value. -/
theorem iface_of_head {P : Program} {W : World} {name tn : String} {d : DataW Unit} {rest : List (String × DataW Unit)} {g : Nat} {t : TypeId} {ms : Array (String × TypeId)} (hg : P.globalNamed name = some g) (hty : (P.globals[g]?).map (·.type) = some t) (ht : P.underlying t = some (.interface ms)) (h : laidMet P ((name, .iface tn d) :: rest) W) : ∃ u v, W.cell? ⟨g, 0, none⟩ = some (.iface u v) := by
  obtain ⟨ps, ⟨g', t', cs, fuel, p, q, hg', ht', hvar, hd, _, _⟩, _⟩ := h
  obtain rfl := Option.some.inj (hg.symm.trans hg')
  obtain rfl := Option.some.inj (hty.symm.trans ht')
  have hc := World.var?_cell hg hvar 0
  cases fuel with
  | zero => simp [DataW.trod] at hd
  | succ n =>
    unfold DataW.trod at hd
    rw [ht] at hd
    obtain ⟨cl⟩ := cs
    simp only at hd
    match cl, hd with
    | [], hd => simp at hd
    | _ :: _ :: _, hd => simp at hd
    | [x], hd =>
      cases x with
      | iface u v => exact ⟨u, v, by rw [hc]; rfl⟩
      | _ => simp at hd
/-- The row's list gives what the walks read. -/
theorem tab_of {W : World} (h : laidMetH Tryz.prog [("math/bits.deBruijn32tab", Rows.laid_math_bits_deBruijn32tab), ("math/bits.deBruijn64tab", Rows.laid_math_bits_deBruijn64tab), ("internal/strconv.uint64pow10", Rows.laid_internal_strconv_uint64pow10), ("staith/word.widths", Rows.laid_staith_word_widths), ("strconv.ErrRange", Rows.laid_strconv_ErrRange), ("strconv.ErrSyntax", Rows.laid_strconv_ErrSyntax)] W) : Env W := by
  have h0 : laidMet Tryz.prog [("math/bits.deBruijn32tab", Rows.laid_math_bits_deBruijn32tab), ("math/bits.deBruijn64tab", Rows.laid_math_bits_deBruijn64tab), ("internal/strconv.uint64pow10", Rows.laid_internal_strconv_uint64pow10), ("staith/word.widths", Rows.laid_staith_word_widths), ("strconv.ErrRange", Rows.laid_strconv_ErrRange), ("strconv.ErrSyntax", Rows.laid_strconv_ErrSyntax)] W := h
  have h1 := laid_tail h0
  have h2 := laid_tail h1
  have h3 := laid_tail h2
  have h5 := laid_tail (laid_tail h3)
  have hP : Lib.TabIs Tryz.prog W "internal/strconv.uint64pow10" .u64 Lib.pow10Tab := Lib.tabIs_of_head var_named gPowType Tryz.underlying145 Tryz.underlying85 cellsU64 cellsPow h2
  have hT : Lib.TabIs Tryz.prog W "staith/word.widths" .i64 [1, 2, 4, 8] := Lib.tabIs_of_head gWid gWidType Tryz.underlying125 Tryz.underlying3 cellsI cellsWid h3
  obtain ⟨u, v, he⟩ := iface_of_head gErr gErrType Tryz.underlying119 h5
  refine ⟨?_, hP, ⟨_, he, .inr ⟨u, v, rfl⟩⟩, ?_⟩
  · intro j u hj
    match j, hj with
    | 0, hj => cases hj; exact hT.cell gWid 0 (by decide)
    | 1, hj => cases hj; exact hT.cell gWid 1 (by decide)
    | 2, hj => cases hj; exact hT.cell gWid 2 (by decide)
    | 3, hj => cases hj; exact hT.cell gWid 3 (by decide)
    | j + 4, hj => simp at hj
  · obtain ⟨ps, ⟨g, t, cs, fuel, p, q, hg, ht, hv, hd, hr, _⟩, _⟩ := h1
    obtain rfl := Option.some.inj (gBru.symm.trans hg)
    simp only [World.var?, gBru, Option.bind_some] at hv
    refine Decidable.byContradiction fun hn => ?_
    rw [Array.getElem?_eq_none (by omega)] at hv
    cases hv
theorem list5 {α : Type} {cs : List α} (h : cs.length = 5) : ∃ a b c d e, cs = [a, b, c, d, e] := by
  match cs, h with
  | [a, b, c, d, e], _ => exact ⟨a, b, c, d, e, rfl⟩
theorem list2 {α : Type} {cs : List α} (h : cs.length = 2) : ∃ a b, cs = [a, b] := by
  match cs, h with
  | [a, b], _ => exact ⟨a, b, rfl⟩

/-- A slice of bytes that was read holds some bytes; no more than the form's reach. -/
theorem bytes_of_trod {H : Type} {enc : TypeId × Value → H} {W : World} {fuel : Nat} {cs : List Value} {x : DataW H × List MemPlace} (hf : DataW.trod enc Tryz.prog W 0 (fun _ => true) true fuel 31 cs = some x)
    (hw : ∀ n ∈ x.1.weights Tryz.prog 31, n ≤ reachBytes) : ∃ v bs, cs = [v] ∧ Holds W v bs ∧ bs.length ≤ 140737488351232 := by
  rcases open_ints Tryz.underlying31 Tryz.underlying5 (by kernel_rfl) hf with ⟨rfl, _⟩ | ⟨x, len, cap, zs, rfl, _, hl, hm, hz, rfl, hcell, hwz⟩
  · exact ⟨_, [], rfl, .inl ⟨rfl, rfl⟩, by simp⟩
  · have hzl : zs.length = cap := by simpa using hz
    have hlen : ((zs.take len).map fun z => UInt8.ofNat z.toNat).length = len := by simp; omega
    refine ⟨_, (zs.take len).map fun z => UInt8.ofNat z.toNat, rfl, .inr ⟨x, cap, by rw [hlen], by omega, hm, fun j u hj => ?_⟩, ?_⟩
    · have hj' : j < len := by
        have := (List.getElem?_eq_some_iff.1 hj).1
        rw [bcells_length, hlen] at this
        exact this
      have hjz : j < zs.length := by omega
      have hb := bounds_u8 (hwz zs[j] (List.getElem_mem hjz))
      have hu : u = .int .u8 zs[j] := by
        simp only [bcells, List.map_map, List.getElem?_map, List.getElem?_take, hj', if_true, List.getElem?_eq_getElem hjz, Option.map_some, Function.comp, Option.some.injEq] at hj
        rw [← hj]
        congr 1
        simp
        omega
      rw [hu, hcell j hjz]
      simp [List.getD, hjz]
    · have h1 := hw (((lits (H := H) .u8 (zs.take len)).length + (lits (H := H) .u8 (zs.drop len)).length) * Tryz.prog.bytesOf 5) (by
        simp only [DataW.weights, Tryz.underlying31]
        exact List.mem_cons_self)
      rw [hlen]
      rw [bytesU8] at h1
      simp [lits, reachBytes] at h1
      omega

set_option maxRecDepth 20000 in
/-- A slice of bytes that came in. -/
theorem open_bytes {H : Type} {enc : TypeId × Value → H} {W : World} {base : Nat} {v : Value} {d : DataW H} {p : List MemPlace} (hval : Value.okWide Tryz.prog W .any base 31 v)
    (h : DataW.Trod enc Tryz.prog W 0 (fun _ => true) true 31 v d p) (hw : ∀ n ∈ d.weights Tryz.prog 31, n ≤ reachBytes) : ∃ bs, Holds W v bs ∧ bs.length ≤ 140737488351232 := by
  obtain ⟨a, len, cap, rfl⟩ := okWide_slice Tryz.underlying31 hval
  obtain ⟨fuel, hf⟩ := h
  obtain ⟨v, bs, hv, hh, hl⟩ := bytes_of_trod hf hw
  simp [Value.cells] at hv
  subst hv
  exact ⟨bs, hh, hl⟩


section
variable {H : Type} {enc : TypeId × Value → H} {W : World}
theorem cellsAct : Tryz.prog.cellsOf 38 = 5 := by kernel_rfl
theorem act_fits {fuel : Nat} {cs : List Value} {x : DataW H × List MemPlace} (h : DataW.trod enc Tryz.prog W 0 (fun _ => true) true fuel 38 cs = some x) (hw : ∀ m ∈ x.1.weights Tryz.prog 38, m ≤ reachBytes) : ∃ a : Ac, cs = acells a ∧ a.Fits W := by
  obtain ⟨xs, n, _, hxd, hl, hx, hf⟩ := DataW.trod_struct Tryz.underlying38 h
  have hl' : cs.length = 5 := hl.trans cellsAct
  have f0 := hf 0 _ rfl
  have f1 := hf 1 _ rfl
  have f2 := hf 2 _ rfl
  have f3 := hf 3 _ rfl
  have f4 := hf 4 _ rfl
  change DataW.trod enc Tryz.prog W 0 (fun _ => true) true n 3 (List.take (Tryz.prog.cellsOf 3) (List.drop 0 cs)) = xs[0]? at f0
  change DataW.trod enc Tryz.prog W 0 (fun _ => true) true n 31 (List.take (Tryz.prog.cellsOf 31) (List.drop 1 cs)) = xs[1]? at f1
  change DataW.trod enc Tryz.prog W 0 (fun _ => true) true n 9 (List.take (Tryz.prog.cellsOf 9) (List.drop 2 cs)) = xs[2]? at f2
  change DataW.trod enc Tryz.prog W 0 (fun _ => true) true n 3 (List.take (Tryz.prog.cellsOf 3) (List.drop 3 cs)) = xs[3]? at f3
  change DataW.trod enc Tryz.prog W 0 (fun _ => true) true n 3 (List.take (Tryz.prog.cellsOf 3) (List.drop 4 cs)) = xs[4]? at f4
  rw [cellsI] at f0 f3 f4
  rw [cellsStr] at f2
  rw [cellsBytes] at f1
  have hx' : xs.length = 5 := hx
  obtain ⟨x0, x1, x2, x3, x4, rfl⟩ := list5 hx'
  obtain ⟨c0, c1, c2, c3, c4, rfl⟩ := list5 hl'
  rw [hxd] at hw
  simp only [DataW.weights, Tryz.underlying38] at hw
  obtain ⟨kd, h0, _, _⟩ := DataW.trod_int Tryz.underlying3 f0
  obtain ⟨v, bs, h1, hh, hbl⟩ := bytes_of_trod f1 (fun k hk => hw k (DataW.weights_mem_each (j := 1) (t := 31) (d := x1.1) rfl rfl k hk))
  obtain ⟨sa, h2, d2, _⟩ := DataW.trod_string Tryz.underlying9 f2
  obtain ⟨nn, h3, _, _⟩ := DataW.trod_int Tryz.underlying3 f3
  obtain ⟨mm, h4, _, _⟩ := DataW.trod_int Tryz.underlying3 f4
  have e0 : [c0] = [.int .i64 kd] := h0
  have e1 : [c1] = [v] := h1
  have e2 : [c2] = [.string sa] := h2
  have e3 : [c3] = [.int .i64 nn] := h3
  have e4 : [c4] = [.int .i64 mm] := h4
  simp at e0 e1 e2 e3 e4
  obtain ⟨da, dc, rfl⟩ := hh.slice
  exact ⟨⟨kd, da, bs.length, dc, sa, nn, mm⟩, by rw [e0, e1, e2, e3, e4]; rfl, ⟨⟨bs, hh, hbl⟩⟩⟩
set_option maxRecDepth 20000 in
/-- A slice of acts that came in. -/
theorem open_lacts {base : Nat} {v : Value} {d : DataW H} {p : List MemPlace} (hval : Value.okWide Tryz.prog W .any base 22 v)
    (h : DataW.Trod enc Tryz.prog W 0 (fun _ => true) true 22 v d p) (hw : ∀ n ∈ d.weights Tryz.prog 22, n ≤ reachBytes) : ∃ l, K.RowOf acells W v l ∧ (∀ a ∈ l, a.Fits W) := by
  obtain ⟨l, h1, h2⟩ := K.open_structs (enc := acells) Tryz.underlying22 cellsAct (Ac.Fits W) (fun n cs x hx hw => act_fits hx hw) hval h hw
  exact ⟨l, h1, h2⟩
end

section
variable {H : Type} {enc : TypeId × Value → H} {W : World}
/-- A cut that came in. -/
structure Ct where
  n : Int
  k : Int
abbrev ctv (x : Ct) : Value := .agg #[.int .u64 x.n, .int .i64 x.k]
set_option maxRecDepth 20000 in
theorem open_lcut {base : Nat} {v : Value} {d : DataW H} {p : List MemPlace} (hval : Value.okWide Tryz.prog W .any base 25 v)
    (h : DataW.Trod enc Tryz.prog W 0 (fun _ => true) true 25 v d p) : ∃ a : Ct, v = ctv a ∧ (0 ≤ a.n ∧ a.n < 18446744073709551616) ∧ (-9223372036854775808 ≤ a.k ∧ a.k < 9223372036854775808) := by
  obtain ⟨cs, hcs, _⟩ := okWide_struct Tryz.underlying25 hval
  obtain ⟨fuel, hf0⟩ := h
  have hf0 : DataW.trod enc Tryz.prog W 0 (fun _ => true) true fuel 25 v.cells.toList = some (d, p) := hf0
  obtain ⟨xs, n, _, hxd, hl, hx, hf⟩ := DataW.trod_struct Tryz.underlying25 hf0
  have hl' : v.cells.toList.length = 2 := hl.trans (by kernel_rfl)
  rw [hcs] at hl' hf ⊢
  have hl' : cs.toList.length = 2 := hl'
  obtain ⟨c0, c1, e⟩ := list2 hl'
  have f0 := hf 0 _ rfl
  have f1 := hf 1 _ rfl
  change DataW.trod enc Tryz.prog W 0 (fun _ => true) true n 23 (List.take (Tryz.prog.cellsOf 23) (List.drop 0 cs.toList)) = xs[0]? at f0
  change DataW.trod enc Tryz.prog W 0 (fun _ => true) true n 3 (List.take (Tryz.prog.cellsOf 3) (List.drop 1 cs.toList)) = xs[1]? at f1
  rw [e] at f0 f1
  rw [show Tryz.prog.cellsOf 23 = 1 by kernel_rfl] at f0
  rw [cellsI] at f1
  have hx' : xs.length = 2 := hx
  obtain ⟨x0, x1, rfl⟩ := list2 hx'
  obtain ⟨nn, h0, _, w0⟩ := DataW.trod_int Tryz.underlying23 f0
  obtain ⟨kk, h1, _, w1⟩ := DataW.trod_int Tryz.underlying3 f1
  have e0 : [c0] = [.int .u64 nn] := h0
  have e1 : [c1] = [.int .i64 kk] := h1
  simp at e0 e1
  have b0 := bounds_u64 w0
  have b1 := bounds_i64 w1
  have h2 : cs = #[.int .u64 nn, .int .i64 kk] := by
    have : cs.toList = [.int .u64 nn, .int .i64 kk] := by rw [e, e0, e1]
    exact Array.toList_inj.1 this
  exact ⟨⟨nn, kk⟩, by rw [h2], by show 0 ≤ nn ∧ nn < _; omega, by show _ ≤ kk ∧ kk < _; omega⟩
end
end Go.Proofs.YtjgdmbfkondakaaGreatDoor
