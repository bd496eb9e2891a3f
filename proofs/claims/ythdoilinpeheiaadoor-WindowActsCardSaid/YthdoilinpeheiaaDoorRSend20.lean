/-
  THE DOCUMENT's New, Now and Send, by their contracts.
-/
import Derived.Test.YthdoilinpeheiaaDoorRefW20
import Derived.Deep.RegionHeld3
namespace Go.Proofs.YthdoilinpeheiaaDoor
open Go.RowKit
set_option maxRecDepth 100000

/-- The document's window in memory, told by the same model; v: its places. -/
structure RAt (w : World) (q : Nat) (v : Value) (m : Wn) (g : Nat → Nat) : Prop where
  blk : w.heap[q]? = some (.cells #[.int .i64 m.s, .int .i64 m.t, .int .u16 m.b, v] 38 (0, 0))
  row : K.RowOf pcells w v (PL m g)
  tick : ∀ i, m.sent.testBit i = true → g i = m.tick i
  ne : v.ownBlock ≠ some q
section
variable {w : World} {q : Nat} {v : Value} {m : Wn} {g : Nat → Nat}
theorem RAt.lt (h : RAt w q v m g) : q < w.heap.size := by
  rcases Nat.lt_or_ge q w.heap.size with hb | hb
  · exact hb
  · have : w.heap[q]? = none := by simpa using hb
    rw [h.blk] at this; cases this
theorem RAt.cells (h : RAt w q v m g) : w.cell? ⟨q, 0, none⟩ = some (.int .i64 m.s) ∧ w.cell? ⟨q, 1, none⟩ = some (.int .i64 m.t) ∧ w.cell? ⟨q, 2, none⟩ = some (.int .u16 m.b) ∧ w.cell? ⟨q, 3, none⟩ = some v := by
  refine ⟨?_, ?_, ?_, ?_⟩ <;> rw [cell_of_row w q _ _ 38 (0, 0) h.blk] <;> rfl
theorem RAt.free (h : RAt w q v m g) (i : Nat) : w.frozen? ⟨q, i, none⟩ = false := by
  have := h.blk
  simp [World.frozen?, this]
theorem RAt.same {w' : World} (h : RAt w q v m g) (h1 : w'.heap[q]? = w.heap[q]?) (h2 : ∀ k, v.ownBlock = some k → w'.heap[k]? = w.heap[k]?) : RAt w' q v m g := ⟨h1.trans h.blk, h.row.same h2, h.tick, h.ne⟩
theorem RAt.row_lt (h : RAt w q v m g) (hs : 1 ≤ m.s) : ∃ k, v.ownBlock = some k ∧ k < w.heap.size := by
  have hl := PL_len m g
  obtain ⟨b, off, cap, rfl, _, _, hc⟩ := h.row.at (by omega)
  have := K.row_cell hc 0 (by omega) 0 (by decide) _ rfl
  exact ⟨b, rfl, World.block_lt_of_cell? _ _ this⟩
theorem RAt.go {w' : World} (h : RAt w q v m g) (hs : 1 ≤ m.s) (b : Below w.heap.size w w') : RAt w' q v m g := by
  obtain ⟨k, hk, hlt⟩ := h.row_lt hs
  exact h.same (b.block q h.lt) (fun j hj => by rw [hk] at hj; injection hj with hj; subst hj; exact b.block k hlt)
end

theorem now_any (now : Int) (w : World) : Calls Tryd.prog 30 #[.int .i64 now] w fun e w' => e = .returned (.int .i64 (nowN now)) ∧ w' = w := by
  go_enter Tryd.func30, Tryd.ntmps30
  go_wp2
  all_goals go_ret
  all_goals exact ⟨ret_int (by unfold nowN; omega), rfl⟩

theorem run_make_places (w : World) (n : Nat) (hn : n ≤ 100) : (Instr.makeSlice 36 (.int .i64 n) (.int .i64 n)).run Tryd.prog w = .ok (.slice (some ⟨w.heap.size, 0, none⟩) n n) (w.alloc (.cells (K.cellsOf pcells (List.replicate n zeroP)).toArray 62)) := by
  obtain ⟨i, hi, hz, hs, hb⟩ := info_parts placeInfo
  have hr := run_make (P := Tryd.prog) w 36 62 i _ Tryd.underlying36 hi hz .i64 .i64 n n (by omega) (Int.le_refl _) (by rw [hb]; omega) (by omega)
  rw [Int.toNat_natCast, hs] at hr
  have e : madeCells (Value.agg #[.bool false, .int .i64 0, .bool false]).cells (n * 3) = (K.cellsOf pcells (List.replicate n zeroP)).toArray := by
    rw [← zeros_cells n]
    exact (Array.toArray_toList).symm
  rw [e] at hr
  exact hr
theorem PL_new (s t b : Nat) (f : Nat → Nat) : List.replicate s zeroP = PL ⟨s, t, b, 0, 0, f⟩ (fun _ => 0) := by
  refine PL_ext (List.length_replicate) fun i hi => ?_
  rw [List.getElem_replicate]
  simp [zeroP]
theorem rnew_bad (n t : Int) (w : World) (h : mayW n t = false) : Calls Tryd.prog 9 #[.int .i64 n, .int .i64 t] w fun e w' => e = .returned (.pointer none) ∧ w' = w := by
  unfold mayW at h
  go_enter Tryd.func9, Tryd.ntmps9
  go_wp2
  all_goals first
    | (go_ret; exact ⟨rfl, rfl⟩)
    | (exfalso; simp only [Bool.and_eq_false_iff, decide_eq_false_iff_not] at h; omega)
theorem rnew_good (n t : Nat) (w : World) (h1 : 1 ≤ n) (h2 : n ≤ 32) (h3 : 1 ≤ t) (h4 : t ≤ 1000) : Calls Tryd.prog 9 #[.int .i64 n, .int .i64 t] w fun e w' =>
    e = .returned (.pointer (some ⟨w.heap.size + 1, 0, none⟩)) ∧ RAt w' (w.heap.size + 1) (.slice (some ⟨w.heap.size, 0, none⟩) n n) (newW n t) (fun _ => 0) ∧ Below w.heap.size w w' := by
  have hmk := fun X => run_make_places X n (by omega)
  have g1 : ¬ (n : Int) < 1 := by omega
  have g2 : ¬ (32 : Int) < (n : Int) := by omega
  have g3 : ¬ (t : Int) < 1 := by omega
  have g4 : ¬ (1000 : Int) < (t : Int) := by omega
  have hl : (K.cellsOf pcells (List.replicate n zeroP)).length = n * 3 := by rw [K.cellsOf_length, List.length_replicate]
  generalize hC : (K.cellsOf pcells (List.replicate n zeroP)) = C at *
  go_enter Tryd.func9, Tryd.ntmps9
  go_wp2
  go_ret
  refine ⟨rfl, ⟨?_, ?_, fun i hi => by simp [newW] at hi, by show (some w.heap.size : Option Nat) ≠ _; simp⟩, ((Below.refl _ w).alloc (Nat.le_refl _) _).alloc (by simp) _⟩
  · have := heap_alloc_new (w.alloc (.cells C.toArray 62)) (.cells #[.int .i64 n, .int .i64 t, .int .u16 0, .slice (some ⟨w.heap.size, 0, none⟩) n n] 38)
    rw [World.size_alloc] at this
    exact this
  · rw [show newW n t = ⟨n, t, 0, 0, 0, fun _ => 0⟩ from rfl, ← PL_new]
    refine .inr ⟨⟨w.heap.size, 0, none⟩, n, by rw [List.length_replicate], by rw [List.length_replicate]; exact Nat.le_refl _, by unfold maxLen; omega, fun j u hj => ?_⟩
    rw [Go.WideShapes.add_plain, cell_of_row _ w.heap.size (0 + j) C.toArray 62 (0, 0) (by rw [Below.heap_alloc _ _ _ (by simp)]; exact heap_alloc_new w _), Nat.zero_add]
    rw [hC] at hj
    simpa using hj

/-- The first k places are gone through: l's block is gl. -/
structure RSnd (w2 wr : World) (B gl n cap : Nat) (m : Wn) (now k : Nat) (v : Value) : Prop where
  own : Own1 wr w2.heap.size 3 v (icells (sendL m now k))
  row : ∃ g, (∀ i, (sendM m now k).sent.testBit i = true → g i = (sendM m now k).tick i) ∧ K.OwnOf pcells 3 62 wr B (.slice (some ⟨gl, 0, none⟩) n cap) (PL (sendM m now k) g)
  only : Only gl w2 wr
theorem own_kept3 {w w' : World} {B n cap gl : Nat} {L : List Pl} (h : K.OwnOf pcells 3 62 w B (.slice (some ⟨gl, 0, none⟩) n cap) L) (hs : w'.heap[gl]? = w.heap[gl]?) : K.OwnOf pcells 3 62 w' B (.slice (some ⟨gl, 0, none⟩) n cap) L :=
  h.same fun g hg => by
    have : gl = g := by simpa [Value.ownBlock] using hg
    subst this; exact hs

theorem own_free3 {w : World} {B n cap gl : Nat} {L : List Pl} (h : K.OwnOf pcells 3 62 w B (.slice (some ⟨gl, 0, none⟩) n cap) L) (_hn : 0 < L.length) (i : Nat) : w.frozen? ⟨gl, i, none⟩ = false := by
  rcases h.split with ⟨hv, _⟩ | ⟨g, c, R, hv, _, hblk, _⟩
  · cases hv
  · injection hv with h1 _ _
    injection h1 with h1
    injection h1 with h1 _ _
    subst h1
    simp [World.frozen?, hblk]
theorem cell_setCell_other20 (w : World) (b i j : Nat) (_h : ¬ j = i) (u : Value) : (w.setCell ⟨b, i, none⟩ u).cell? ⟨b, j, none⟩ = w.cell? ⟨b, j, none⟩ := by
  exact World.cell?_setCell_other _ ⟨b, i, none⟩ ⟨b, j, none⟩ _ (by simp)
theorem Own1.below2s {w w' : World} {base : Nat} {e : TypeId} {v : Value} {cs : List Value} (h : Own1 w base e v cs) (hs : ∀ j, v.ownBlock = some j → w'.heap[j]? = w.heap[j]?) : Own1 w' base e v cs := by
  refine ⟨h.1, ?_⟩
  rcases h.2 with h2 | ⟨g, cap, cur, h3, h4, h5, h6⟩
  · exact .inl h2
  · exact .inr ⟨g, cap, cur, h3, h4, (hs g (by rw [h3]; rfl)).trans h5, h6⟩
theorem cell_of_block {p : Nat} {w w' : World} (h : Only p w w') {b : Nat} (hb : b ≠ p) (hl : b < w.heap.size) (i : Nat) : w'.cell? ⟨b, i, none⟩ = w.cell? ⟨b, i, none⟩ := by
  unfold World.cell?
  simp only [h.block b hl hb]
/-- How the document's Send ends. -/
def RSendP (w : World) (q : Nat) (m : Wn) (L : List Int) (e : Ending) (w' : World) : Prop := ∃ u v' g', e = .returned u ∧ Row w' u (icells L) ∧ RAt w' q v' m g' ∧ Only q w w' ∧ ∃ k, v'.ownBlock = some k ∧ w.heap.size ≤ k
set_option maxHeartbeats 1000000 in
theorem rsend_at {w : World} {q : Nat} {v : Value} {m : Wn} {g : Nat → Nat} (h : RAt w q v m g) (ok : m.Ok) (hv now : Int) : Calls Tryd.prog 13 #[.pointer (some ⟨q, 0, none⟩), .int .i64 hv, .int .i64 now] w fun e w' =>
    RSendP w q (sendM m (nowN now) (lookN m hv)) (sendL m (nowN now) (lookN m hv)) e w' := by
  have hs1 := ok.s1
  have hs2 := ok.s2
  have hlt := h.lt
  have hnl := nowN_le now
  have hll := lookN_le m hv
  have hNow := now_any now w
  obtain ⟨N, hN⟩ : ∃ N, N = nowN now := ⟨_, rfl⟩
  obtain ⟨J, hK⟩ : ∃ J, J = lookN m hv := ⟨_, rfl⟩
  have hKl : Hid (∀ k : Nat, k < J ↔ ((k : Int) < hv ∧ (k : Int) < m.s)) := fun k => by rw [hK]; unfold lookN; omega
  rw [← hN] at hnl hNow
  rw [← hK] at hll
  rw [← hN, ← hK]
  clear hN hK
  obtain ⟨c0, c1, c2, c3⟩ := h.cells
  obtain ⟨va, vc, hvv⟩ := h.row.slice
  rw [PL_len] at hvv
  subst hvv
  have f3 := h.free 3
  have hA : Hid (RAt w q (.slice va m.s vc) m g) := h
  have hO : Hid m.Ok := ok
  obtain ⟨i0, hi0, hz0, hsz0, hb0⟩ := info_parts placeInfo
  clear h ok
  go_enter Tryd.func13, Tryd.ntmps13
  go_upto_region 3 with (go_at_call 30; refine hNow.mono ?_; rintro e w ⟨rfl, rfl⟩)
  have eA : Hid (K.OwnOf pcells 3 62 (w.alloc (.cells #[] 62)) w.heap.size (.slice (some ⟨w.heap.size, 0, none⟩) 0 0) []) := K.ownOf_empty w w.heap.size (Nat.le_refl _)
  have eB : Hid (K.RowOf pcells (w.alloc (.cells #[] 62)) (.slice va m.s vc) (PL m g)) := hA.out.row.below ((Below.refl _ _).alloc (Nat.le_refl _) _) (Nat.le_refl _)
  have l1 : ([] : List Pl).length + (PL m g).length ≤ maxLen := by rw [PL_len]; unfold maxLen; simp only [List.length_nil]; omega
  have l2 : (([] : List Pl).length + (PL m g).length) * 24 ≤ 140737488355328 := by rw [PL_len]; simp only [List.length_nil]; omega
  have HL : Hid _ := And.intro l1 l2
  clear l1 l2
  go_upto_region 4 with (at_builtin; refine K.wpList_append_rows (enc := pcells) rfl (.tmp 12) (.tmp 16) 36 rfl Tryd.underlying36 i0 _ 24 hi0 hz0 hsz0 hb0 rfl w.heap.size _ _ [] (PL m g) rfl rfl eA.out eB.out HL.out.1 HL.out.2 (by simp) ?_; intro vl w2 own2 gr2 nw2)
  have bel2 : Below w.heap.size w w2 := eA.out.below gr2 ((Below.refl _ w).alloc (Nat.le_refl _) _) (by simp) (Nat.le_refl _)
  clear gr2 nw2 eA eB HL hi0 hz0 hsz0 hb0
  rw [List.nil_append] at own2
  obtain ⟨gl, cp, hgl, hglt, rfl⟩ : ∃ gl cp, w.heap.size ≤ gl ∧ gl < w2.heap.size ∧ vl = .slice (some ⟨gl, 0, none⟩) m.s cp := by
    rcases own2.split with ⟨_, he⟩ | ⟨gl, cp, R, hvl, hgl, hblk, _, _, _⟩
    · have := PL_len m g; rw [he] at this; simp at this; omega
    · rw [PL_len] at hvl
      exact ⟨gl, cp, hgl, (own2.lt (g := gl) (by rw [hvl]; rfl)).2, hvl⟩
  have hcp : m.s ≤ cp := by
    rcases own2.split with ⟨hv1, _⟩ | ⟨_, _, _, hvl, _, _, h5, _, _⟩
    · cases hv1
    · injection hvl with _ _ h7; subst h7; rw [PL_len] at h5; exact h5
  have hB2 : Hid (Below w.heap.size w w2) := bel2
  have hO2 : Hid (K.OwnOf pcells 3 62 w2 w.heap.size (.slice (some ⟨gl, 0, none⟩) m.s cp) (PL m g)) := own2
  have d0 : w2.cell? ⟨q, 0, none⟩ = some (.int .i64 m.s) := cell_on bel2 c0
  have d1 : w2.cell? ⟨q, 1, none⟩ = some (.int .i64 m.t) := cell_on bel2 c1
  obtain ⟨B, hB⟩ : ∃ B, B = w.heap.size := ⟨_, rfl⟩
  rw [← hB] at hgl hO2
  have hqB : q < B := by omega
  have hqw : q < w2.heap.size := Nat.lt_of_lt_of_le hlt bel2.size
  have HBB : Hid _ := hB
  clear own2 bel2 c0 c1 c2 c3 f3 hNow hB
  go_wp2_with fail
  go_loopg [7, 9] 33 (fun g' u7 u9 wr => ∃ k : Nat, u9 = .int .i64 k ∧ k ≤ J ∧ g' = 33 - k ∧ Hid (RSnd w2 wr B gl m.s cp m N k u7))
  case atStart => exact ⟨0, rfl, Nat.zero_le _, rfl, ⟨own1_nil _ _ _, ⟨g, hA.out.tick, hO2.out⟩, Only.refl _ _⟩⟩
  case round =>
    obtain ⟨k, rfl, hk, rfl, hS⟩ := hrel
    have e0 : wr.cell? ⟨q, 0, none⟩ = some (.int .i64 m.s) := by
      have := cell_of_block hS.out.only (show q ≠ gl by omega) hqw 0
      rw [this]; exact d0
    have e1 : wr.cell? ⟨q, 1, none⟩ = some (.int .i64 m.t) := by
      have := cell_of_block hS.out.only (show q ≠ gl by omega) hqw 1
      rw [this]; exact d1
    by_cases hlt2 : k < J
    · obtain ⟨hlh, hls⟩ := (hKl.out k).1 hlt2
      obtain ⟨g2, hg2, hrow⟩ := hS.out.row
      have hown := hS.out.own
      obtain ⟨M, hMM⟩ : ∃ M, M = sendM m N k := ⟨_, rfl⟩
      obtain ⟨L, hLL⟩ : ∃ L, L = sendL m N k := ⟨_, rfl⟩
      have hOM : Hid M.Ok := by rw [hMM]; exact sendM_ok hO.out hnl k (by omega)
      have hMs : M.s = m.s := by rw [hMM]; exact (sendM_same m N k).1
      have hMt : M.t = m.t := by rw [hMM]; exact (sendM_same m N k).2.1
      have hLlen : L.length ≤ k := by rw [hLL]; exact sendL_len m N k
      have hsm : Hid (sendM m N (k + 1) = if dueB M N k then putW M k N else M) := by rw [hMM]; rfl
      have hsl : Hid (sendL m N (k + 1) = if dueB M N k then L ++ [(k : Int)] else L) := by rw [hMM, hLL]; rfl
      rw [← hMM] at hrow hg2
      rw [← hLL] at hown
      have hR1 : Hid (K.OwnOf pcells 3 62 wr B (.slice (some ⟨gl, 0, none⟩) m.s cp) (PL M g2)) := hrow
      have hL1 : Hid (Own1 wr w2.heap.size 3 u7 (icells L)) := hown
      have hB1 : Hid (Only gl w2 wr) := hS.out.only
      have hk2 : k < (PL M g2).length := by rw [PL_len, hMs]; omega
      obtain ⟨b3, o3, h3, p0, p1, p2⟩ := (pls_at hrow.rng).2 k hk2
      injection h3 with h3
      injection h3 with h4 h5 _
      subst h4 h5
      rw [PL_get] at p0 p1 p2
      simp only [Nat.zero_add] at p0 p1 p2
      have hge := hOM.out.early k
      have h1 : (k : Int) < hv := hlh
      have hk32 : (k : Int) < 9223372036854775807 := by omega
      have hG2 : Hid (∀ i, M.sent.testBit i = true → g2 i = M.tick i) := hg2
      have HMM : Hid _ := hMM
      have HLL : Hid _ := hLL
      clear hS hg2 hrow hown hMM hLL
      have hcont : ∀ X, Hid (dueB M N k = false) → Only gl w2 X → (∀ j, j = gl ∨ (u7.ownBlock = some j) → X.heap[j]? = wr.heap[j]?) → RSnd w2 X B gl m.s cp m N (k + 1) u7 := fun X hd ho hx => by
        refine ⟨?_, ⟨g2, ?_, ?_⟩, ho⟩
        · rw [hsl.out, hd.out]; exact hL1.out.below2s (fun j hj => hx j (.inr hj))
        · rw [hsm.out, hd.out]; exact hG2.out
        · rw [hsm.out, hd.out]; exact own_kept3 hR1.out (hx gl (.inl rfl))
      have hwr : wrap64 ((N : Int) - (M.tick k : Int)) = (N : Int) - (M.tick k : Int) := by unfold wrap64; omega
      go_upto_region 7 with fail
      go_cut [56] from 31 to 55 (fun u56 wx => u56 = .bool (!dueB M N k) ∧ ∃ z, wx = wr.drewN z)
      case first =>
        have hgk := hG2.out k
        clear hcont
        cases ht : M.there.testBit k with
        | true =>
          have hd : Hid ((!dueB M N k) = true) := show _ = _ by unfold dueB; rw [ht]; rfl
          rw [ht] at p2
          go_quiet (fail)
          go_wp2
          go_meet
          exact ⟨by rw [hd.out], _, rfl⟩
        | false =>
          rw [ht] at p2
          cases hs : M.sent.testBit k with
          | false =>
            have hd : Hid ((!dueB M N k) = false) := show _ = _ by unfold dueB; rw [ht, hs]; rfl
            rw [hs] at p0
            clear hgk
            go_quiet (fail)
            go_wp2
            go_meet
            exact ⟨by rw [hd.out], _, rfl⟩
          | true =>
            have hd : Hid ((!dueB M N k) = decide ((N : Int) - M.tick k < m.t)) := show _ = _ by unfold dueB; rw [ht, hs, hMt]; simp
            rw [hs] at p0
            rw [hgk hs] at p1
            clear hgk
            go_quiet (fail)
            go_wp2
            go_meet
            exact ⟨by rw [hd.out], _, rfl⟩
      case rest =>
        obtain ⟨rfl, z, rfl⟩ := hcut
        clear hwr
        cases hdue0 : dueB M N k with
        | false =>
          have hdue : Hid (dueB M N k = false) := hdue0
          clear hdue0
          have HC := hcont (wr.drewN z) hdue (hB1.out.trans (Only.of_below (below_drewN (Below.refl _ _) _))) (fun _ _ => rfl)
          clear hcont
          simp only [Bool.not_false]
          go_wp2
          go_roundg (33 - (k + 1))
          case measure => omega
          case rel => exact ⟨k + 1, by go_num, by omega, rfl, HC⟩
        | true =>
          have hdue : Hid (dueB M N k = true) := hdue0
          clear hcont hdue0
          simp only [Bool.not_true]
          have b1 : Hid (Below wr.heap.size wr (wr.drewN z)) := below_drewN (Below.refl _ _) _
          have o1 : Hid (Only gl w2 (wr.drewN z)) := hB1.out.trans (Only.of_below b1.out)
          have r1 : Hid (K.OwnOf pcells 3 62 (wr.drewN z) B (.slice (some ⟨gl, 0, none⟩) m.s cp) (PL M g2)) := hR1.out
          have l1 : Hid (Own1 (wr.drewN z) w2.heap.size 3 u7 (icells L)) := hL1.out
          generalize wr.drewN z = wx at *
          have F0 : ∀ i, wx.frozen? ⟨gl, i, none⟩ = false := own_free3 r1.out (by omega)
          have q0 := (pls_at r1.out.rng).2 k hk2
          obtain ⟨b3, o3, h3, q0, q1, _⟩ := q0
          injection h3 with h3
          injection h3 with h4 h5 _
          subst h4 h5
          simp only [Nat.zero_add] at q0 q1
          have f0 := F0 (k * 3)
          have f1 := F0 (k * 3 + 1)
          have s1 : Hid (K.OwnOf pcells 3 62 (wx.setCell ⟨gl, k * 3, none⟩ (.bool true)) B (.slice (some ⟨gl, 0, none⟩) m.s cp) ((PL M g2).set k ⟨true, g2 k, M.there.testBit k⟩)) :=
            own_set3 r1.out hk2 (j := 0) (by decide) (.bool true) _ (by rw [PL_get]; rfl)
          have s2 : Hid (K.OwnOf pcells 3 62 ((wx.setCell ⟨gl, k * 3, none⟩ (.bool true)).setCell ⟨gl, k * 3 + 1, none⟩ (.int .i64 N)) B (.slice (some ⟨gl, 0, none⟩) m.s cp) (PL (putW M k N) (fun i => if i = k then N else g2 i))) := by
            have h7 := own_set3 s1.out (i := k) (j := 1) (by rw [List.length_set]; exact hk2) (by decide) (.int .i64 N) ⟨true, N, M.there.testBit k⟩ (by rw [List.getElem_set_self]; rfl)
            rw [List.set_set, PL_put M g2 k N (by omega) (by omega)] at h7
            exact h7
          have o2 : Hid (Only gl w2 ((wx.setCell ⟨gl, k * 3, none⟩ (.bool true)).setCell ⟨gl, k * 3 + 1, none⟩ (.int .i64 N))) := o1.out.trans ((Only.set wx gl (k * 3) _).trans (Only.set _ gl (k * 3 + 1) _))
          have l2 : Hid (Own1 ((wx.setCell ⟨gl, k * 3, none⟩ (.bool true)).setCell ⟨gl, k * 3 + 1, none⟩ (.int .i64 N)) w2.heap.size 3 u7 (icells L)) := Only.row l1.out ((Only.set wx gl (k * 3) _).trans (Only.set _ gl (k * 3 + 1) _)) hglt
          have c1 := cell_setCell_other20 wx gl (k * 3) (k * 3 + 1) (by omega) (.bool true)
          rw [q1] at c1
          go_upto_region 9 with fail
          generalize hx2 : (wx.setCell ⟨gl, k * 3, none⟩ (.bool true)).setCell ⟨gl, k * 3 + 1, none⟩ (.int .i64 N) = x2 at *
          clear hx2 s1 r1 o1 l1 b1 q0 q1 f0 f1 F0 c1 p0 p1 p2 hR1 hL1 hB1 e0 e1
          have hsz2 := o2.out.size
          have hlen2 : (icells L).length ≤ 64 := by rw [icells_length]; omega
          go_wp2_with (at_builtin; refine wpList_append_row rfl _ _ 33 3 _ _ isI rfl w2.heap.size _ _ (icells L) [.int .i64 k] rfl rfl (World.ownsRow.alloc l2.out _) (row_one _ _ _) (by simp [Value.oneCell']) (by simp only [List.length_singleton]; omega) (by simp only [List.length_singleton]; omega) (by simp; omega) ?_; intro v2 w4 own4 bel4 sz4)
          go_roundg (33 - (k + 1))
          case measure => omega
          case rel =>
            have o4 : Only gl w2 w4 := (o2.out.trans (Only.of_below ((Below.refl _ _).alloc (Nat.le_refl _) _))).next bel4 sz4
            refine ⟨k + 1, by go_num, by omega, rfl, ?_, ⟨fun i => if i = k then N else g2 i, ?_, ?_⟩, o4⟩
            · rw [hsl.out, hdue.out, if_pos rfl, icells_append]; exact own4
            · rw [hsm.out, hdue.out, if_pos rfl]
              intro i hi
              simp only [putW, withS_test, Bool.or_eq_true, decide_eq_true_eq] at hi ⊢
              by_cases hik : i = k
              · rw [if_pos hik, if_pos hik]
              · rw [if_neg hik, if_neg hik]
                exact hG2.out i (hi.resolve_right (by omega))
            · rw [hsm.out, hdue.out, if_pos rfl]
              exact own_kept3 (own_kept3 s2.out (Below.heap_alloc _ _ _ (by omega))) (bel4.block gl hglt)
    · have hnot := fun h => hlt2 ((hKl.out k).2 h)
      obtain rfl : k = J := by omega
      have hS2 := hS
      clear hS
      obtain ⟨gF, hgF, hrow⟩ := hS2.out.row
      have f3 : wr.frozen? ⟨q, 3, none⟩ = false := by
        have h1 := hS2.out.only.block q hqw (by omega)
        have h2 := hB2.out.block q hlt
        have h3 := hA.out.blk
        rw [← h2, ← h1] at h3
        simp [World.frozen?, h3]
      have e3 : (wr.cell? ⟨q, 3, none⟩).isSome = true := by
        rw [cell_of_block hS2.out.only (show q ≠ gl by omega) hqw 3, cell_on hB2.out hA.out.cells.2.2.2]
        rfl
      obtain ⟨z3, e3⟩ := Option.isSome_iff_exists.1 e3
      have hfin : Hid (∃ v' g', Row (wr.setCell ⟨q, 3, none⟩ (.slice (some ⟨gl, 0, none⟩) m.s cp)) u7 (icells (sendL m N k)) ∧ RAt (wr.setCell ⟨q, 3, none⟩ (.slice (some ⟨gl, 0, none⟩) m.s cp)) q v' (sendM m N k) g' ∧ Only q w (wr.setCell ⟨q, 3, none⟩ (.slice (some ⟨gl, 0, none⟩) m.s cp)) ∧ ∃ j, v'.ownBlock = some j ∧ w.heap.size ≤ j) := by
        obtain ⟨a1, a2, a3, a4⟩ := sendM_same m N k
        have h1 := hS2.out.only.block q hqw (by omega)
        have h2 := hB2.out.block q hlt
        have h3 := hA.out.blk
        rw [← h2, ← h1] at h3
        have h4 := heap_setCell_same wr q 3 _ 38 (.slice (some ⟨gl, 0, none⟩) m.s cp) h3
        refine ⟨.slice (some ⟨gl, 0, none⟩) m.s cp, gF, ?_, ⟨?_, ?_, hgF, by show (some gl : Option Nat) ≠ some q; intro he; injection he with he; omega⟩, ?_, gl, rfl, by have := HBB.out; omega⟩
        · have := Only.row hS2.out.own (Only.set wr q 3 (.slice (some ⟨gl, 0, none⟩) m.s cp)) (by omega)
          exact this.row
        · rw [h4, a1, a2, a3]; rfl
        · exact (own_kept3 hrow (Below.heap_setCell _ ⟨q, 3, none⟩ _ gl (by show gl ≠ q; omega))).rng
        · have o1 : Only q w wr := ⟨hS2.out.only.os.trans hB2.out.os, hS2.out.only.tape.trans hB2.out.tape, hS2.out.only.output.trans hB2.out.output, Nat.le_trans hB2.out.size hS2.out.only.size, fun i hi _ => (hS2.out.only.block i (Nat.lt_of_lt_of_le hi hB2.out.size) (by have := HBB.out; omega)).trans (hB2.out.block i hi)⟩
          exact o1.trans (Only.set wr q 3 _)
      by_cases hv1 : (k : Int) < hv
      · have hv2 : ¬ (k : Int) < m.s := fun h => hnot ⟨hv1, h⟩
        clear hnot hrow hgF
        go_wp2
        go_ret
        obtain ⟨v', g', b1, b2, b3, b4⟩ := hfin.out
        exact ⟨_, v', g', rfl, b1, b2, b3, b4⟩
      · clear hnot hrow hgF
        go_wp2
        go_ret
        obtain ⟨v', g', b1, b2, b3, b4⟩ := hfin.out
        exact ⟨_, v', g', rfl, b1, b2, b3, b4⟩
end Go.Proofs.YthdoilinpeheiaaDoor
