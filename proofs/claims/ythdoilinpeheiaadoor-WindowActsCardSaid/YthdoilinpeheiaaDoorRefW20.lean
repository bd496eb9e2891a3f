/-
  THE DOCUMENT's WINDOW: its places in memory, told by the same model.
-/
import Derived.Test.YthdoilinpeheiaaDoorBounds20
import Derived.Test.YthdoilinpeheiaaDoorCopyK
import Derived.Lib.AppendZerosOnto
namespace Go.Proofs.YthdoilinpeheiaaDoor
open Go.RowKit
set_option maxRecDepth 20000

/-- A place. -/
structure Pl where
  sent : Bool
  tick : Nat
  there : Bool
def pcells (x : Pl) : List Value := [.bool x.sent, .int .i64 x.tick, .bool x.there]
instance : K.Enc pcells 3 where
  len _ := rfl
  one r u hu := by
    simp only [pcells, List.mem_cons, List.not_mem_nil, or_false] at hu
    rcases hu with rfl | rfl | rfl <;> rfl
  pos := by decide
def zeroP : Pl := ⟨false, 0, false⟩
/-- A window's places; the ticks of those that were sent are the window's. -/
def PL (m : Wn) (g : Nat → Nat) : List Pl := (List.range m.s).map fun i => ⟨m.sent.testBit i, g i, m.there.testBit i⟩
theorem PL_len (m : Wn) (g : Nat → Nat) : (PL m g).length = m.s := by simp [PL]
theorem PL_get (m : Wn) (g : Nat → Nat) (i : Nat) (h : i < (PL m g).length) : (PL m g)[i] = ⟨m.sent.testBit i, g i, m.there.testBit i⟩ := by simp [PL]
theorem PL_ext {m : Wn} {g : Nat → Nat} {L : List Pl} (hl : L.length = m.s) (h : ∀ i (hi : i < L.length), L[i] = ⟨m.sent.testBit i, g i, m.there.testBit i⟩) : L = PL m g := by
  refine List.ext_getElem (by rw [hl, PL_len]) fun i h1 h2 => ?_
  rw [h i h1, PL_get]
theorem PL_put (m : Wn) (g : Nat → Nat) (k now : Nat) (_hk : k < m.s) (h32 : m.s ≤ 32) : (PL m g).set k ⟨true, now, m.there.testBit k⟩ = PL (putW m k now) (fun i => if i = k then now else g i) := by
  refine PL_ext (by rw [List.length_set, PL_len]; rfl) fun i hi => ?_
  rw [List.length_set, PL_len] at hi
  rw [List.getElem_set]
  show _ = (⟨(withS m.sent (k : Int)).testBit i, _, m.there.testBit i⟩ : Pl)
  rw [withS_test]
  by_cases hik : k = i
  · subst hik
    rw [if_pos rfl, if_pos rfl, decide_eq_true (by omega), Bool.or_true]
  · rw [if_neg hik, if_neg (fun h => hik h.symm), decide_eq_false (by omega), Bool.or_false, PL_get]
theorem PL_there (m : Wn) (g : Nat → Nat) (k : Nat) (_hk : k < m.s) (h32 : m.s ≤ 32) : (PL m g).set k ⟨m.sent.testBit k, g k, true⟩ = PL { m with there := withS m.there (k : Int) } g := by
  refine PL_ext (by rw [List.length_set, PL_len]) fun i hi => ?_
  rw [List.length_set, PL_len] at hi
  rw [List.getElem_set]
  show _ = (⟨m.sent.testBit i, g i, (withS m.there (k : Int)).testBit i⟩ : Pl)
  rw [withS_test]
  by_cases hik : k = i
  · subst hik
    rw [if_pos rfl, decide_eq_true (by omega), Bool.or_true]
  · rw [if_neg hik, decide_eq_false (by omega), Bool.or_false, PL_get]
/-- The first n are done: the others, and as many empty ones. -/
def slidG (s n : Nat) (g : Nat → Nat) : Nat → Nat := fun i => if i + n < s then g (i + n) else 0
theorem PL_slid {m : Wn} (h : m.Ok) (g : Nat → Nat) (n : Nat) (hn : n ≤ m.s) : (PL m g).drop n ++ List.replicate n zeroP = PL (slidM m n) (slidG m.s n g) := by
  have h2 := h.s2
  refine PL_ext (by rw [List.length_append, List.length_drop, List.length_replicate, PL_len]; show _ = m.s; omega) fun i hi => ?_
  rw [List.length_append, List.length_drop, List.length_replicate, PL_len] at hi
  show _ = (⟨(slideS m.sent n).testBit i, _, (slideS m.there n).testBit i⟩ : Pl)
  rw [slideS_test _ h.setS, slideS_test _ h.setT, show ((i : Int) + (n : Int)).toNat = i + n by omega]
  unfold slidG
  by_cases hin : i + n < m.s
  · rw [List.getElem_append_left (by rw [List.length_drop, PL_len]; omega), List.getElem_drop, PL_get, if_pos hin]
    have hd : decide (0 ≤ (i : Int) + (n : Int) ∧ i < 64) = true := decide_eq_true (by omega)
    rw [hd, Nat.add_comm n i]
    simp
  · rw [List.getElem_append_right (by rw [List.length_drop, PL_len]; omega), List.getElem_replicate, if_neg hin]
    have hs : m.sent.testBit (i + n) = false := by
      cases hb : m.sent.testBit (i + n) with
      | false => rfl
      | true => have := h.near _ hb; omega
    have ht : m.there.testBit (i + n) = false := by
      cases hb : m.there.testBit (i + n) with
      | false => rfl
      | true => have := h.sub _ hb; rw [hs] at this; cases this
    rw [hs, ht, Bool.and_false]
    rfl

theorem cells_set3 (L : List Pl) (i j : Nat) (hi : i < L.length) (hj : j < 3) (u : Value) (x' : Pl) (hx : (pcells L[i]).set j u = pcells x') : (K.cellsOf pcells L).set (i * 3 + j) u = K.cellsOf pcells (L.set i x') := by
  induction L generalizing i with
  | nil => simp at hi
  | cons r L ih =>
    rcases i with _ | i
    · simp only [List.getElem_cons_zero] at hx
      rw [K.cellsOf_cons, List.set_cons_zero, K.cellsOf_cons, ← hx, Nat.zero_mul, Nat.zero_add, List.set_append_left _ _ (by simpa [pcells] using hj)]
    · simp only [List.getElem_cons_succ] at hx
      have hi' : i < L.length := by simpa using hi
      rw [K.cellsOf_cons, List.set_cons_succ, K.cellsOf_cons, ← ih i hi' hx, List.set_append_right _ _ (by simp [pcells]; omega)]
      congr 2
      simp [pcells]; omega
theorem own_set3 {w : World} {T : TypeId} {B g n cap : Nat} {L : List Pl} (h : K.OwnOf pcells 3 T w B (.slice (some ⟨g, 0, none⟩) n cap) L) {i j : Nat} (hi : i < L.length) (hj : j < 3) (u : Value) (x' : Pl) (hx : (pcells L[i]).set j u = pcells x') : K.OwnOf pcells 3 T (w.setCell ⟨g, i * 3 + j, none⟩ u) B (.slice (some ⟨g, 0, none⟩) n cap) (L.set i x') := by
  have hc := cells_set3 L i j hi hj u x' hx
  obtain ⟨h1, h2⟩ := h
  unfold K.OwnOf World.ownsRow
  have hl : (L.set i x').length = L.length := List.length_set
  rw [hl, ← hc]
  refine ⟨by rw [List.length_set]; exact h1, ?_⟩
  rcases h2 with ⟨hv, _⟩ | ⟨g', cap', cur, hv, h3, h4, h5, h6, h7, h8⟩
  · cases hv
  · injection hv with hv1 hv2 hv3
    injection hv1 with hv1
    injection hv1 with hv1
    subst hv1 hv2 hv3
    refine .inr ⟨g, cap, cur.setIfInBounds (i * 3 + j) u, rfl, h3, ?_, h5, h6, by simpa using h7, ?_⟩
    · simp [World.setCell, Array.getElem?_modify, h4]
    · rw [← h8]
      simp only [Array.toList_setIfInBounds]
      rw [List.take_set]
/-- Places that are there lie at plain addresses. -/
theorem pls_at {w : World} {a : Option Addr} {n cap : Nat} {l : List Pl} (h : K.RowOf pcells w (.slice a n cap) l) : n = l.length ∧ ∀ i (hi : i < l.length), ∃ b off, a = some ⟨b, off, none⟩ ∧ w.cell? ⟨b, off + i * 3, none⟩ = some (.bool l[i].sent) ∧ w.cell? ⟨b, off + i * 3 + 1, none⟩ = some (.int .i64 l[i].tick) ∧ w.cell? ⟨b, off + i * 3 + 2, none⟩ = some (.bool l[i].there) := by
  have hn : n = l.length := by
    obtain ⟨a', cap', hv⟩ := h.slice
    injection hv
  refine ⟨hn, fun i hi => ?_⟩
  obtain ⟨b, off, cap', hv, _, _, hc⟩ := h.at (by omega)
  injection hv with hv1 _ _
  exact ⟨b, off, hv1, by simpa using K.row_cell hc i hi 0 (by decide) _ rfl, K.row_cell hc i hi 1 (by decide) _ rfl, K.row_cell hc i hi 2 (by decide) _ rfl⟩
theorem placeInfo : (Tryd.prog.info? 62).map (fun i => (i.zero, i.size, i.bytes)) = some (some (.agg #[.bool false, .int .i64 0, .bool false]), 3, 24) := by kernel_rfl

theorem only_row20 (w : World) (g : Nat) (cs : Array Value) : Only g w (w.setRow g cs) := ⟨rfl, rfl, rfl, by simp [World.setRow], fun k _ hk => setRow_other w g k _ hk⟩
theorem zeros_cells (n : Nat) : (Builtin.zeroCells (Value.agg #[.bool false, .int .i64 0, .bool false]).cells n).toList = K.cellsOf pcells (List.replicate n zeroP) := by
  have e : ∀ n, (Builtin.zeroCells (Value.agg #[.bool false, .int .i64 0, .bool false]).cells n).toList = (List.range (n * 3)).map fun i => (#[Value.bool false, .int .i64 0, .bool false] : Array Value)[i % 3]! := fun n => by
    unfold Builtin.zeroCells
    rw [Array.toList_map, Array.toList_range]
    rfl
  rw [e]
  induction n with
  | zero => rfl
  | succ n ih =>
    rw [List.replicate_succ', K.cellsOf_append, ← ih, show (n + 1) * 3 = n * 3 + 1 + 1 + 1 by omega, List.range_succ, List.range_succ, List.range_succ]
    simp only [List.map_append, List.map_cons, List.map_nil, List.append_assoc, List.cons_append, List.nil_append]
    rw [show n * 3 % 3 = 0 by omega, show (n * 3 + 1) % 3 = 1 by omega, show (n * 3 + 1 + 1) % 3 = 2 by omega]
    rfl

/-- 'append(l, make([]Place, n)...)': in place where there is room, else a new row. -/
theorem append_zeros (w : World) (ty : TypeId) (g off len cap n : Nat) (xs : List Pl) (cur : List Value) (hg : w.heap[g]? = some (.cells cur.toArray 62 (0, 0))) (hcur : off + cap * 3 ≤ cur.length) (hx : len = xs.length) (hc : len ≤ cap) (hcm : cap ≤ maxLen)
    (hcell : ∀ j u, (K.cellsOf pcells xs)[j]? = some u → w.cell? ⟨g, off + j, none⟩ = some u) (hn : n ≤ 100) (hlen : len ≤ 100) :
    ∃ v' w', (Builtin.append_ #[36, 3] ty #[.slice (some ⟨g, off, none⟩) len cap, .int .i64 n]).run Tryd.prog w = .ok v' w' ∧ K.RowOf pcells w' v' (xs ++ List.replicate n zeroP) ∧ Only g w w' ∧ (v'.ownBlock = some g ∨ ∃ k, v'.ownBlock = some k ∧ w.heap.size ≤ k) := by
  obtain ⟨i, hi, hz, hs, hb⟩ := info_parts placeInfo
  subst hx
  have ht := Tryd.underlying36
  have htn := Tryd.underlying3
  have hwi : IntKind.i64.wrap (n : Int) = n := by rw [IntKind.wrap_i64]; omega
  have hzc := zeros_cells n
  have hzn : (K.cellsOf pcells (List.replicate n zeroP)).length = n * 3 := by rw [K.cellsOf_length, List.length_replicate]
  by_cases h0 : n = 0
  · subst h0
    refine ⟨.slice (some ⟨g, off, none⟩) xs.length cap, w, ?_, ?_, Only.refl _ _, .inl rfl⟩
    · have hw0 : IntKind.i64.wrap 0 = 0 := by rw [IntKind.wrap_i64]; rfl
      simp [Builtin.append_, run_underlying ht, run_underlying htn, sizeOf, typeInfo, hi, hb, asInt, asIntOf, hw0, hc, storeCells]
    · rw [List.replicate_zero, List.append_nil]
      exact .inr ⟨_, _, rfl, hc, hcm, fun j u hj => by rw [Go.WideShapes.add_plain]; exact hcell j u hj⟩
  · by_cases hroom : xs.length + n ≤ cap
    · have hfit : off + xs.length * 3 + (n * 3) ≤ cur.length := by omega
      have hst := run_storeCells_at Tryd.prog g (off + xs.length * 3) 62 (Builtin.zeroCells (Value.agg #[.bool false, .int .i64 0, .bool false]).cells n).toList 0 cur.toArray w hg (by rw [hzc, hzn]; simpa using hfit) (fun v hv => by
        rw [hzc] at hv
        exact K.cellsOf_one _ v hv)
      simp only [Nat.add_zero] at hst
      have hadd : Addr.add ⟨g, off, none⟩ (xs.length * 3) = ⟨g, off + xs.length * 3, none⟩ := Go.WideShapes.add_plain _ _ _
      have hneg : ¬ ((n : Int) < 0) := by omega
      have h48 : ¬ (281474976710656 < (n : Int) * 24) := by omega
      have hns : ¬ (n * 3 = 0) := by omega
      refine ⟨.slice (some ⟨g, off, none⟩) (xs.length + n) cap, _, by
        simp [Builtin.append_, run_underlying ht, run_underlying htn, sizeOf, typeInfo, zeroValue, hi, hz, hs, hb, asInt, asIntOf, hwi, hroom, hneg, h48, hns, hadd]
        rw [hst]
        rfl, ?_, only_row20 _ _ _, .inl rfl⟩
      refine .inr ⟨⟨g, off, none⟩, cap, by rw [List.length_append, List.length_replicate], by rw [List.length_append, List.length_replicate]; exact hroom, hcm, fun j u hj => ?_⟩
      rw [Go.WideShapes.add_plain, cell_of_row _ g (off + j) _ 62 (0, 0) (setRow_heap w g _ _ 62 _ hg)]
      rw [K.cellsOf_append] at hj
      have hxl : (K.cellsOf pcells xs).length = xs.length * 3 := K.cellsOf_length xs
      rw [hzc]
      simp only [List.getElem?_toArray, List.append_assoc]
      by_cases hj1 : j < xs.length * 3
      · rw [List.getElem?_append_left (by omega)] at hj
        rw [List.getElem?_append_left (by rw [List.length_take]; show _ < min _ cur.length; omega), List.getElem?_take, if_pos (by omega)]
        have := hcell j u hj
        rw [cell_of_row w g (off + j) _ 62 (0, 0) hg] at this
        simpa using this
      · rw [List.getElem?_append_right (by omega), hxl] at hj
        have htk : (cur.toArray.toList.take (off + xs.length * 3)).length = off + xs.length * 3 := by rw [List.length_take]; show min _ cur.length = _; omega
        have hjn : j - xs.length * 3 < n * 3 := by
          have := (List.getElem?_eq_some_iff.1 hj).1
          rwa [hzn] at this
        rw [List.getElem?_append_right (by rw [htk]; omega), htk, List.getElem?_append_left (by rw [hzn]; omega), show off + j - (off + xs.length * 3) = j - xs.length * 3 by omega]
        exact hj
    · have hold : (Builtin.firstCells i.size xs.length (.slice (some ⟨g, off, none⟩) xs.length cap)).run Tryd.prog w.drew = .ok (K.cellsOf pcells xs).toArray w.drew := by
        rw [hs]
        exact run_firstCells_some (P := Tryd.prog) w.drew 3 xs.length ⟨g, off, none⟩ xs.length cap (K.cellsOf pcells xs) (K.cellsOf_length xs) (fun j u hj => by rw [Go.WideShapes.add_plain]; exact hcell j u hj)
      have hge := grownCap_ge w (xs.length + n) cap 62
      have hr := Lib.run_append_grow_zeros w 36 3 ty 62 i _ .i64 .i64 ht htn hi hz (some ⟨g, off, none⟩) xs.length cap (K.cellsOf pcells xs) hold n (by omega) (by omega) (by omega) (by omega) (by rw [hb]; omega) (by
        rw [hb]
        exact growslice_fits (bytes := 24) (show cap < xs.length + n by omega) (by omega))
      refine ⟨_, _, hr, .inr ⟨⟨w.heap.size, 0, none⟩, _, by rw [List.length_append, List.length_replicate], by rw [List.length_append, List.length_replicate]; exact hge, grownCap_le_maxLen w (xs.length + n) cap _ (by unfold maxLen; omega), fun j u hj => ?_⟩, ?_, .inr ⟨_, rfl, Nat.le_refl _⟩⟩
      · rw [Go.WideShapes.add_plain, cell_of_row _ w.heap.size (0 + j) _ 62 (0, 0) (heap_alloc_new w.drew _), Nat.zero_add]
        rw [K.cellsOf_append, ← hzc] at hj
        have e : ((K.cellsOf pcells xs).toArray ++ Builtin.zeroCells (Value.agg #[.bool false, .int .i64 0, .bool false]).cells n) = (K.cellsOf pcells xs ++ (Builtin.zeroCells (Value.agg #[.bool false, .int .i64 0, .bool false]).cells n).toList).toArray := by simp
        rw [e, Array.getElem?_append_left (by have := (List.getElem?_eq_some_iff.1 hj).1; simpa using this)]
        simpa using hj
      · exact Only.of_below (((Below.refl _ w).drew).alloc (Nat.le_refl _) _)
end Go.Proofs.YthdoilinpeheiaaDoor
