/-
  WHAT THE ROWS OF THIS SEAT NEED: a queue as it was, that came in.
-/
import Derived.Test.YtocdfcaakflgpaaFrameA
namespace Go.Proofs.Ytocdfcaakflgpaa
open Go.ChangeShapes Go.WideShapes Go.ChangeAt Go.RowKit

theorem cellsItem : Try.prog.cellsOf 38 = 8 := by kernel_rfl
theorem cellsItems : Try.prog.cellsOf 47 = 1 := by kernel_rfl
theorem cellsBool : Try.prog.cellsOf 4 = 1 := by kernel_rfl
theorem cellsOld : Try.prog.cellsOf 49 = 4 := by kernel_rfl
theorem bytesItem : Try.prog.bytesOf 38 = 88 := by kernel_rfl
theorem list4 {α : Type} {cs : List α} (h : cs.length = 4) : ∃ a b c d, cs = [a, b, c, d] := by
  match cs, h with
  | [a, b, c, d], _ => exact ⟨a, b, c, d, rfl⟩

/-- A slice of structs, wherever it was met: its elements are what 'hel' reads them as, and it fits. -/
theorem structs_trod {α : Type} {enc : α → List Value} {K : Nat} [E : Enc enc K] {H : Type} {en : TypeId × Value → H} {P : Program} {W : World} {S e : TypeId} (hS : P.underlying S = some (.slice e)) (hK : P.cellsOf e = K)
    (hel : ∀ n cs (x : DataW H × List MemPlace), DataW.trod en P W 0 (fun _ => true) true n e cs = some x → ∃ a : α, cs = enc a)
    {fuel : Nat} {cs : List Value} {xd : DataW H × List MemPlace} (hf : DataW.trod en P W 0 (fun _ => true) true fuel S cs = some xd) (hw : ∀ n ∈ xd.1.weights P S, n ≤ reachBytes) : ∃ a len cap l, cs = [.slice a len cap] ∧ RowOf enc W (.slice a len cap) l ∧ len = l.length ∧ len * P.bytesOf e ≤ reachBytes := by
  rcases DataW.trod_slice hS hf with ⟨hcs, _⟩ | ⟨x, len, cap, elems, rest, n, _, hcs, hd, _, hl, hm, hlen, hone, _, _⟩
  · exact ⟨none, 0, 0, [], hcs, .inl ⟨rfl, rfl⟩, rfl, by rw [Nat.zero_mul]; exact Nat.zero_le _⟩
  · subst hcs
    have hdv : xd.1 = .slice (elems.map (·.1)) (rest.map (·.1)) := congrArg Prod.fst hd
    have hwt := hw ((elems.length + rest.length) * P.bytesOf e) (by rw [hdv]; simp [DataW.weights, hS])
    have each : ∀ i : Fin len, ∃ b : α, (∀ j, j < K → W.cell? (x.add (i.1 * K + j)) = (enc b)[j]?) := fun i => by
      have h1 := hone i.1 i.2
      have hi' : i.1 < elems.length := by omega
      rw [hK, List.getElem?_eq_getElem hi'] at h1
      cases hc : W.cells? 0 (x.add (i.1 * K)) K with
      | none => rw [hc] at h1; cases h1
      | some cs =>
        rw [hc] at h1
        have h2 : DataW.trod en P W 0 (fun _ => true) true n e cs = some elems[i.1] := h1
        obtain ⟨b, rfl⟩ := hel _ _ _ h2
        refine ⟨b, fun j hj => ?_⟩
        rw [← Addr.add_add]
        exact (World.cells?_some hc).2.2 j hj
    obtain ⟨f, hff⟩ := Classical.axiomOfChoice each
    have hlf : (List.ofFn f).length = len := by simp
    refine ⟨some x, len, cap, List.ofFn f, rfl, .inr ⟨x, cap, by rw [hlf], by rw [hlf]; omega, hm, fun j u hj => ?_⟩, hlf.symm, Nat.le_trans (Nat.mul_le_mul_right _ (by omega)) hwt⟩
    have hjl : j < (List.ofFn f).length * K := by rw [← cellsOf_length (enc := enc)]; exact (List.getElem?_eq_some_iff.1 hj).1
    have hp := E.pos
    have h1 : j / K < (List.ofFn f).length := Nat.div_lt_of_lt_mul (by rw [Nat.mul_comm]; exact hjl)
    have h2 : j % K < K := Nat.mod_lt _ hp
    have h3 : j / K * K + j % K = j := by rw [Nat.mul_comm]; exact Nat.div_add_mod j K
    have hg := cellsOf_get (enc := enc) (List.ofFn f) (j / K) (j % K) h1 h2
    rw [h3, hj] at hg
    rw [hlf] at h1
    have := (hff ⟨j / K, h1⟩) (j % K) h2
    simp only at this
    rw [h3] at this
    rw [this, hg]
    simp

section
variable {H : Type} {enc : TypeId × Value → H} {W : World}
theorem item_cells {fuel : Nat} {cs : List Value} {x : DataW H × List MemPlace} (h : DataW.trod enc Try.prog W 0 (fun _ => true) true fuel 38 cs = some x) : ∃ a : It, cs = icells a := by
  obtain ⟨xs, n, _, hxd, hl, hx, hf⟩ := DataW.trod_struct Try.underlying38 h
  have hl' : cs.length = 8 := hl.trans cellsItem
  have f0 := hf 0 _ rfl
  have f1 := hf 1 _ rfl
  have f2 := hf 2 _ rfl
  change DataW.trod enc Try.prog W 0 (fun _ => true) true n 29 (List.take (Try.prog.cellsOf 29) (List.drop 0 cs)) = xs[0]? at f0
  change DataW.trod enc Try.prog W 0 (fun _ => true) true n 33 (List.take (Try.prog.cellsOf 33) (List.drop 1 cs)) = xs[1]? at f1
  change DataW.trod enc Try.prog W 0 (fun _ => true) true n 4 (List.take (Try.prog.cellsOf 4) (List.drop 7 cs)) = xs[2]? at f2
  rw [cellsU64] at f0
  rw [cellsMsg] at f1
  rw [cellsBool] at f2
  have hx' : xs.length = 3 := hx
  obtain ⟨x0, x1, x2, rfl⟩ := list3 hx'
  obtain ⟨c0, c1, c2, c3, c4, c5, c6, c7, rfl⟩ := list8 hl'
  obtain ⟨tg, h0, _, wf⟩ := DataW.trod_int Try.underlying29 f0
  obtain ⟨m, h1⟩ := msg_cells f1
  obtain ⟨ag, h2, _⟩ := DataW.trod_bool Try.underlying4 f2
  have e0 : [c0] = [.int .u64 tg] := h0
  have e1 : [c1, c2, c3, c4, c5, c6] = mcells m := h1
  have e2 : [c7] = [.bool ag] := h2
  have hb := bounds_u64 wf
  simp [mcells] at e0 e1 e2
  obtain ⟨a1, a2, a3, a4, a5, a6⟩ := e1
  refine ⟨⟨tg.toNat, m, ag⟩, ?_⟩
  rw [e0, a1, a2, a3, a4, a5, a6, e2]
  simp [icells]
  omega
theorem old_cells {fuel : Nat} {cs : List Value} {x : DataW H × List MemPlace} (h : DataW.trod enc Try.prog W 0 (fun _ => true) true fuel 49 cs = some x) (hw : ∀ m ∈ x.1.weights Try.prog 49, m ≤ reachBytes) : ∃ (m : Int) (nx : Nat) (vr vo : Value) (r o : List It), cs = [.int .i64 m, .int .u64 (nx : Int), vr, vo] ∧ nx < 18446744073709551616 ∧ RowOf icells W vr r ∧ r.length ≤ 140737488355328 ∧ RowOf icells W vo o ∧ o.length ≤ 140737488355328 := by
  obtain ⟨xs, n, _, hxd, hl, hx, hf⟩ := DataW.trod_struct Try.underlying49 h
  have hl' : cs.length = 4 := hl.trans cellsOld
  have f0 := hf 0 _ rfl
  have f1 := hf 1 _ rfl
  have f2 := hf 2 _ rfl
  have f3 := hf 3 _ rfl
  change DataW.trod enc Try.prog W 0 (fun _ => true) true n 3 (List.take (Try.prog.cellsOf 3) (List.drop 0 cs)) = xs[0]? at f0
  change DataW.trod enc Try.prog W 0 (fun _ => true) true n 29 (List.take (Try.prog.cellsOf 29) (List.drop 1 cs)) = xs[1]? at f1
  change DataW.trod enc Try.prog W 0 (fun _ => true) true n 47 (List.take (Try.prog.cellsOf 47) (List.drop 2 cs)) = xs[2]? at f2
  change DataW.trod enc Try.prog W 0 (fun _ => true) true n 47 (List.take (Try.prog.cellsOf 47) (List.drop 3 cs)) = xs[3]? at f3
  rw [cellsInt] at f0
  rw [cellsU64] at f1
  rw [cellsItems] at f2 f3
  have hx' : xs.length = 4 := hx
  obtain ⟨x0, x1, x2, x3, rfl⟩ := list4 hx'
  obtain ⟨c0, c1, c2, c3, rfl⟩ := list4 hl'
  rw [hxd] at hw
  simp only [DataW.weights, Try.underlying49] at hw
  obtain ⟨m, h0, _, _⟩ := DataW.trod_int Try.underlying3 f0
  obtain ⟨nx, h1, _, wf⟩ := DataW.trod_int Try.underlying29 f1
  obtain ⟨a, len, cap, r, h2, hr, er, lr⟩ := structs_trod (enc := icells) Try.underlying47 cellsItem (fun n cs x hx => item_cells hx) f2 (fun k hk => hw k (DataW.weights_mem_each (j := 2) (t := 47) (d := x2.1) rfl rfl k hk))
  obtain ⟨a', len', cap', o, h3, ho, eo, lo⟩ := structs_trod (enc := icells) Try.underlying47 cellsItem (fun n cs x hx => item_cells hx) f3 (fun k hk => hw k (DataW.weights_mem_each (j := 3) (t := 47) (d := x3.1) rfl rfl k hk))
  have e0 : [c0] = [.int .i64 m] := h0
  have e1 : [c1] = [.int .u64 nx] := h1
  have e2 : [c2] = [.slice a len cap] := h2
  have e3 : [c3] = [.slice a' len' cap'] := h3
  have hb := bounds_u64 wf
  simp at e0 e1 e2 e3
  rw [bytesItem] at lr lo
  unfold reachBytes at lr lo
  refine ⟨m, nx.toNat, .slice a len cap, .slice a' len' cap', r, o, ?_, by omega, hr, by omega, ho, by omega⟩
  rw [e0, e1, e2, e3]
  simp
  omega
end
/-- What came in: a queue as it was. -/
structure Od where
  m : Int
  nx : Nat
  vr : Value
  vo : Value
abbrev odv (t : Od) : Value := .agg #[.int .i64 t.m, .int .u64 (t.nx : Int), t.vr, t.vo]
set_option maxRecDepth 20000 in
theorem open_old {H : Type} {enc : TypeId × Value → H} {W : World} {base : Nat} {v : Value} {d : DataW H} {p : List MemPlace} (hval : Value.okWide Try.prog W .any base 49 v)
    (h : DataW.Trod enc Try.prog W 0 (fun _ => true) true 49 v d p) (hw : ∀ n ∈ d.weights Try.prog 49, n ≤ reachBytes) : ∃ a : Od, v = odv a ∧ ∃ r o : List It, a.nx < 18446744073709551616 ∧ RowOf icells W a.vr r ∧ r.length ≤ 140737488355328 ∧ RowOf icells W a.vo o ∧ o.length ≤ 140737488355328 := by
  obtain ⟨cs, hcs, _⟩ := okWide_struct Try.underlying49 hval
  obtain ⟨fuel, hf⟩ := h
  obtain ⟨m, nx, vr, vo, r, o, hm, hrest⟩ := old_cells hf hw
  refine ⟨⟨m, nx, vr, vo⟩, ?_, r, o, hrest⟩
  rw [hcs] at hm ⊢
  have h1 : cs.toList = [.int .i64 m, .int .u64 (nx : Int), vr, vo] := hm
  have h2 : cs = #[.int .i64 m, .int .u64 (nx : Int), vr, vo] := by apply Array.ext'; exact h1
  rw [h2]
end Go.Proofs.Ytocdfcaakflgpaa
