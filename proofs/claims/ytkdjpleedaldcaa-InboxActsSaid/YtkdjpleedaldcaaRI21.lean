/-
  THE DOCUMENT's INBOX in memory, told by the same model; New, Held, Head, by their contracts.
-/
import Derived.Test.YtkdjpleedaldcaaActs21
import Derived.Test.YtkdjpleedaldcaaLawAcks21
import Derived.Laws.MakeOwn
import Derived.Deep.RegionHeld3
import Derived.Deep.RegionLaw
namespace Go.Proofs.Ytkdjpleedaldcaa
open Go.RowKit Go.Maps
set_option maxRecDepth 20000

/-- A place. -/
structure Plc where
  is : Bool
  m : Ms
def plcells (x : Plc) : List Value := [.bool x.is, .int .i64 x.m.origin, .int .u64 x.m.seq, .int .i64 x.m.hop, .string x.m.ex, .string x.m.key, .string x.m.body]
abbrev plv (x : Plc) : Value := .agg #[.bool x.is, .int .i64 x.m.origin, .int .u64 x.m.seq, .int .i64 x.m.hop, .string x.m.ex, .string x.m.key, .string x.m.body]
instance : Enc plcells 7 where
  len _ := rfl
  one r u hu := by
    simp only [plcells, List.mem_cons, List.not_mem_nil, or_false] at hu
    rcases hu with rfl | rfl | rfl | rfl | rfl | rfl | rfl <;> rfl
  pos := by decide
def zeroP : Plc := ⟨false, zM⟩
def placeP (y : Option Ms) : Plc := ⟨y.isSome, y.getD zM⟩
/-- An inbox's places. -/
def PLi (m : Ib) : List Plc := (List.range m.s).map fun i => placeP (m.h i)
theorem PLi_len (m : Ib) : (PLi m).length = m.s := by simp [PLi]
theorem PLi_get (m : Ib) (i : Nat) (h : i < (PLi m).length) : (PLi m)[i] = placeP (m.h i) := by simp [PLi]
theorem PLi_ext {m : Ib} {L : List Plc} (hl : L.length = m.s) (h : ∀ i (hi : i < L.length), L[i] = placeP (m.h i)) : L = PLi m := by
  refine List.ext_getElem (by rw [hl, PLi_len]) fun i h1 h2 => ?_
  rw [h i h1, PLi_get]
theorem PLi_new (s : Nat) : List.replicate s zeroP = PLi (newI s) := PLi_ext (by rw [List.length_replicate]; rfl) fun i hi => by rw [List.getElem_replicate]; rfl
theorem PLi_put (m : Ib) (k : Nat) (x : Ms) : (PLi m).set k ⟨true, x⟩ = PLi (putI m k x) := by
  refine PLi_ext (by rw [List.length_set, PLi_len]; rfl) fun i hi => ?_
  rw [List.getElem_set]
  show _ = placeP (if i = k then some x else m.h i)
  by_cases hik : k = i
  · subst hik
    rw [if_pos rfl, if_pos rfl]; rfl
  · rw [if_neg hik, if_neg (fun h => hik h.symm), PLi_get]
theorem PLi_pop {m : Ib} (ok : m.Ok) (hm : (m.h 0).isSome = true) : (PLi m).drop 1 ++ [zeroP] = PLi (popM m) := by
  have hs := ok.s1
  have e : popM m = ⟨m.s, (m.n + 1) % 65536, fun i => m.h (i + 1)⟩ := by unfold popM; rw [if_pos hm]
  rw [e]
  refine PLi_ext (by rw [List.length_append, List.length_drop, PLi_len]; show m.s - 1 + 1 = m.s; omega) fun i hi => ?_
  rw [List.length_append, List.length_drop, PLi_len, List.length_singleton] at hi
  show _ = placeP (m.h (i + 1))
  by_cases h1 : i < m.s - 1
  · rw [List.getElem_append_left (by rw [List.length_drop, PLi_len]; exact h1), List.getElem_drop, PLi_get, Nat.add_comm 1 i]
  · rw [List.getElem_append_right (by rw [List.length_drop, PLi_len]; omega), List.getElem_singleton, ok.near (i + 1) (by omega)]
    rfl

/-- The document's inbox at p; its places in a row of its own, from block B on. -/
structure RI (B : Nat) (w : World) (p : Nat) (v : Value) (m : Ib) : Prop where
  blk : w.heap[p]? = some (.cells #[.int .i64 m.s, .int .u16 m.n, v] 40 (0, 0))
  row : OwnOf plcells 7 63 w B v (PLi m)
section
variable {B : Nat} {w : World} {p : Nat} {v : Value} {m : Ib}
theorem RI.lt (h : RI B w p v m) : p < w.heap.size := (Array.getElem?_eq_some_iff.1 h.blk).1
theorem RI.cells (h : RI B w p v m) : w.cell? ⟨p, 0, none⟩ = some (.int .i64 m.s) ∧ w.cell? ⟨p, 1, none⟩ = some (.int .u16 m.n) ∧ w.cell? ⟨p, 2, none⟩ = some v := by
  refine ⟨?_, ?_, ?_⟩ <;> rw [cell_of_row w p _ _ 40 (0, 0) h.blk] <;> rfl
theorem RI.free (h : RI B w p v m) (i : Nat) : w.frozen? ⟨p, i, none⟩ = false := by
  have := h.blk
  simp [World.frozen?, this]
theorem RI.split (h : RI B w p v m) (ok : m.Ok) : ∃ g c R, v = .slice (some ⟨g, 0, none⟩) m.s c ∧ B ≤ g ∧ w.heap[g]? = some (.cells (cellsOf plcells (PLi m) ++ R).toArray 63 (0, 0)) ∧ m.s ≤ c ∧ c ≤ maxLen ∧ g ≠ p := by
  rcases h.row.split with ⟨_, h2⟩ | ⟨g, c, R, h1, h2, h3, h4, h5, _⟩
  · have := congrArg List.length h2
    rw [PLi_len] at this
    have hs := ok.s1
    have h0 : m.s = 0 := this
    omega
  · rw [PLi_len] at h1 h4
    refine ⟨g, c, R, h1, h2, h3, h4, h5, fun e => ?_⟩
    rw [e, h.blk] at h3
    injection h3 with h3
    injection h3 with _ h3 _
    exact absurd h3 (by decide)
theorem RI.same {w' : World} (h : RI B w p v m) (h1 : w'.heap[p]? = w.heap[p]?) (h2 : ∀ g, v.ownBlock = some g → w'.heap[g]? = w.heap[g]?) : RI B w' p v m := ⟨h1.trans h.blk, h.row.same h2⟩
theorem RI.go {w' : World} (h : RI B w p v m) (hb : Below w.heap.size w w') : RI B w' p v m := h.same (hb.block p h.lt) (fun g hg => hb.block g (h.row.lt hg).2)
/-- Each place's cells. -/
theorem RI.place (h : RI B w p v m) (ok : m.Ok) : ∃ g c, v = .slice (some ⟨g, 0, none⟩) m.s c ∧ m.s ≤ c ∧ c ≤ maxLen ∧ ∀ i, i < m.s → ∀ j u, j < 7 → (plcells (placeP (m.h i)))[j]? = some u → w.cell? ⟨g, i * 7 + j, none⟩ = some u := by
  obtain ⟨g, c, R, rfl, _, hg, hc, hm, _⟩ := h.split ok
  refine ⟨g, c, rfl, hc, hm, fun i hi j u hj hu => ?_⟩
  have := row_cell (enc := plcells) (w := w) (b := g) (off := 0) (l := PLi m) (fun j u hj => by
    rw [cell_of_row w g _ _ 63 (0, 0) hg, Nat.zero_add]
    have hlt := (List.getElem?_eq_some_iff.1 hj).1
    simp only [List.getElem?_toArray]
    rw [List.getElem?_append_left hlt]
    exact hj) i (by rw [PLi_len]; exact hi) j hj u (by rw [PLi_get]; exact hu)
  simpa using this
end
theorem placeInfo : (Try.prog.info? 63).map (fun i => (i.zero, i.size, i.bytes)) = some (some (.agg #[.bool false, .int .i64 0, .int .u64 0, .int .i64 0, .string ⟨#[]⟩, .string ⟨#[]⟩, .string ⟨#[]⟩]), 7, 80) := by kernel_rfl
theorem zeros_cells (n : Nat) : (Builtin.zeroCells (Value.agg #[.bool false, .int .i64 0, .int .u64 0, .int .i64 0, .string ⟨#[]⟩, .string ⟨#[]⟩, .string ⟨#[]⟩]).cells n).toList = cellsOf plcells (List.replicate n zeroP) := by
  have e : ∀ n, (Builtin.zeroCells (Value.agg #[.bool false, .int .i64 0, .int .u64 0, .int .i64 0, .string ⟨#[]⟩, .string ⟨#[]⟩, .string ⟨#[]⟩]).cells n).toList = (List.range (n * 7)).map fun i => (#[Value.bool false, .int .i64 0, .int .u64 0, .int .i64 0, .string ⟨#[]⟩, .string ⟨#[]⟩, .string ⟨#[]⟩] : Array Value)[i % 7]! := fun n => by
    unfold Builtin.zeroCells
    rw [Array.toList_map, Array.toList_range]
    rfl
  rw [e]
  induction n with
  | zero => rfl
  | succ n ih =>
    rw [List.replicate_succ', cellsOf_append, ← ih, show (n + 1) * 7 = n * 7 + 1 + 1 + 1 + 1 + 1 + 1 + 1 by omega, List.range_succ, List.range_succ, List.range_succ, List.range_succ, List.range_succ, List.range_succ, List.range_succ]
    simp only [List.map_append, List.map_cons, List.map_nil, List.append_assoc, List.cons_append, List.nil_append]
    rw [show n * 7 % 7 = 0 by omega, show (n * 7 + 1) % 7 = 1 by omega, show (n * 7 + 1 + 1) % 7 = 2 by omega, show (n * 7 + 1 + 1 + 1) % 7 = 3 by omega, show (n * 7 + 1 + 1 + 1 + 1) % 7 = 4 by omega, show (n * 7 + 1 + 1 + 1 + 1 + 1) % 7 = 5 by omega, show (n * 7 + 1 + 1 + 1 + 1 + 1 + 1) % 7 = 6 by omega]
    rfl
theorem run_make_places (w : World) (n : Nat) (hn : n ≤ 100) : (Instr.makeSlice 38 (.int .i64 n) (.int .i64 n)).run Try.prog w = .ok (.slice (some ⟨w.heap.size, 0, none⟩) n n) (w.alloc (.cells (cellsOf plcells (List.replicate n zeroP)).toArray 63)) := by
  obtain ⟨i, hi, hz, hs, hb⟩ := info_parts placeInfo
  have hr := run_make (P := Try.prog) w 38 63 i _ Try.underlying38 hi hz .i64 .i64 n n (by omega) (Int.le_refl _) (by rw [hb]; omega) (by omega)
  rw [Int.toNat_natCast, hs] at hr
  have e : madeCells (Value.agg #[.bool false, .int .i64 0, .int .u64 0, .int .i64 0, .string ⟨#[]⟩, .string ⟨#[]⟩, .string ⟨#[]⟩]).cells (n * 7) = (cellsOf plcells (List.replicate n zeroP)).toArray := by
    rw [← zeros_cells n]
    exact (Array.toArray_toList).symm
  rw [e] at hr
  exact hr
theorem own_made {w w' : World} (n B : Nat) (hB : B ≤ w.heap.size) (h2 : n ≤ 32) (hb : w'.heap[w.heap.size]? = some (.cells (cellsOf plcells (List.replicate n zeroP)).toArray 63 (0, 0))) : OwnOf plcells 7 63 w' B (.slice (some ⟨w.heap.size, 0, none⟩) n n) (PLi (newI n)) := by
  rw [← PLi_new]
  refine ownOf_mk (R := []) hB (by rw [List.append_nil]; exact hb) (by simp) (by simp) (by unfold maxLen; omega) (by simp)
theorem rinew_bad (n : Int) (w : World) (h : n < 1 ∨ 32 < n) : Calls Try.prog 8 #[.int .i64 n] w fun e w' => e = .returned (.pointer none) ∧ w' = w := by
  by_cases h1 : n < 1
  · clear h
    go_enter Try.func8, Try.ntmps8
    go_wp2
    go_ret
    exact ⟨rfl, rfl⟩
  · have h2 : 32 < n := by omega
    clear h
    go_enter Try.func8, Try.ntmps8
    go_wp2
    go_ret
    exact ⟨rfl, rfl⟩
theorem rinew_good (n : Nat) (w : World) (h1 : 1 ≤ n) (h2 : n ≤ 32) : Calls Try.prog 8 #[.int .i64 n] w fun e w' =>
    e = .returned (.pointer (some ⟨w.heap.size + 1, 0, none⟩)) ∧ RI w.heap.size w' (w.heap.size + 1) (.slice (some ⟨w.heap.size, 0, none⟩) n n) (newI n) ∧ Below w.heap.size w w' := by
  have hmk := fun X => run_make_places X n (by omega)
  have g1 : ¬ (n : Int) < 1 := by omega
  have g2 : ¬ (32 : Int) < (n : Int) := by omega
  have hl : (cellsOf plcells (List.replicate n zeroP)).length = n * 7 := by rw [cellsOf_length, List.length_replicate]
  generalize hC : (cellsOf plcells (List.replicate n zeroP)) = C at *
  go_enter Try.func8, Try.ntmps8
  go_wp2
  go_ret
  refine ⟨rfl, ⟨?_, ?_⟩, ((Below.refl _ w).alloc (Nat.le_refl _) _).alloc (by simp) _⟩
  · have := heap_alloc_new (w.alloc (.cells C.toArray 63)) (.cells #[.int .i64 n, .int .u16 0, .slice (some ⟨w.heap.size, 0, none⟩) n n] 40)
    rw [World.size_alloc] at this
    exact this
  · refine own_made n w.heap.size (Nat.le_refl _) h2 ?_
    rw [hC, Below.heap_alloc _ _ _ (by simp)]
    exact heap_alloc_new w _
end Go.Proofs.Ytkdjpleedaldcaa
