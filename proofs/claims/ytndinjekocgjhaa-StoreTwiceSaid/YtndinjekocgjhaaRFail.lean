/-
  THE DOCUMENT's Fail, by its contract.
-/
import Derived.Test.YtndinjekocgjhaaRPut
namespace Go.Proofs.Ytndinjekocgjhaa
open Go.RowKit

theorem buf_cap {w : World} {a : Option Addr} {n c : Nat} {l : List UInt8} (h : Buf w (.slice a n c) l) : l.length ≤ c := by
  rcases h with ⟨hv, rfl⟩ | ⟨g, cap, cur, hv, hb, h1, h2, h3, h4⟩
  · simp
  · injection hv with e1 e2 e3; omega
theorem own_any (a : Option Addr) (n c n' c' : Nat) : (Value.slice a n c).ownBlock = (Value.slice a n' c').ownBlock := by cases a <;> rfl
section
variable {w V : World} {p g n cap : Nat} {D S : Value} {L : List Rf} {kp : Int} {m : M}
theorem foot_put {x' : Rf} {j : Nat} (hj : j < L.length) {A : Value} (hn : ∀ i, x'.now.ownBlock = some i → L[j].now.ownBlock = some i ∨ L[j].sure.ownBlock = some i ∨ w.heap.size ≤ i) (hs : ∀ i, x'.sure.ownBlock = some i → L[j].now.ownBlock = some i ∨ L[j].sure.ownBlock = some i ∨ w.heap.size ≤ i) : ∀ i, rfoot p A D S (L.set j x') i → rfoot p A D S L i ∨ w.heap.size ≤ i := by
  rintro i (hi | hi | hi | hi | ⟨x, hx, hi⟩)
  · exact .inl (.inl hi)
  · exact .inl (.inr (.inl hi))
  · exact .inl (.inr (.inr (.inl hi)))
  · exact .inl (.inr (.inr (.inr (.inl hi))))
  · rcases List.mem_or_eq_of_mem_set hx with hx | rfl
    · exact .inl (.inr (.inr (.inr (.inr ⟨x, hx, hi⟩))))
    · have hm : L[j] ∈ L := List.getElem_mem hj
      have : L[j].now.ownBlock = some i ∨ L[j].sure.ownBlock = some i ∨ w.heap.size ≤ i := hi.elim (hn i) (hs i)
      rcases this with h | h | h
      · exact .inl (.inr (.inr (.inr (.inr ⟨_, hm, .inl h⟩))))
      · exact .inl (.inr (.inr (.inr (.inr ⟨_, hm, .inr h⟩))))
      · exact .inr h
/-- One file behind a failure: its sure bytes were the first ones. -/
theorem RAt.fail1 (h : RAt w p (.slice (some ⟨g, 0, none⟩) n cap) D S L kp m) {j : Nat} (hj : j < L.length) {k : Int} (hs : sureFirst (m.fl j) = true) {N : Nat} (hN : N = leftN k (m.fl j)) (hV : V.heap = ((w.setCell ⟨g, j * 2 + 1, none⟩ (.slice L[j].na N L[j].nc)).setCell ⟨g, j * 2, none⟩ (.slice L[j].na N L[j].nc)).heap) (h1 : V.os = w.os) (h2 : V.tape = w.tape) (h3 : V.output = w.output) :
    ∃ L', L'.length = L.length ∧ RAt V p (.slice (some ⟨g, 0, none⟩) n cap) D S L' kp { m with all := m.all.set j (failF k (m.fl j)) } ∧ Moved w V (rfoot p (.slice (some ⟨g, 0, none⟩) n cap) D S L) (rfoot p (.slice (some ⟨g, 0, none⟩) n cap) D S L') := by
  have o1 := own_set h.all hj (j := 1) (by decide) (.slice L[j].na N L[j].nc) ⟨L[j].na, L[j].nn, L[j].nc, L[j].na, N, L[j].nc⟩ rfl
  have hj' : j < (L.set j ⟨L[j].na, L[j].nn, L[j].nc, L[j].na, N, L[j].nc⟩).length := by simpa using hj
  have o2 := own_set o1 hj' (j := 0) (by decide) (.slice L[j].na N L[j].nc) ⟨L[j].na, N, L[j].nc, L[j].na, N, L[j].nc⟩ (by simp [rfc])
  rw [List.set_set, Nat.add_zero] at o2
  have ho : ∀ i, i ≠ g → V.heap[i]? = w.heap[i]? := fun i hi => by rw [hV, Below.heap_setCell _ _ _ _ hi, Below.heap_setCell _ _ _ _ hi]
  have hb : Buf w (.slice L[j].na N L[j].nc) ((m.fl j).now.take N) := (h.now j hj).take (by rw [hN]; exact leftN_le hs)
  have hb' : Buf V (.slice L[j].na N L[j].nc) (leftF k (m.fl j)) := by
    rw [leftF_first hs, ← hN]
    exact hb.same fun i hi => ho i (h.apart (.inr (.inr (.inr ⟨_, List.getElem_mem hj, .inl ((own_any _ _ _ _ _).trans hi)⟩))))
  have hown : K.OwnOf rfc 2 92 V 0 (.slice (some ⟨g, 0, none⟩) n cap) (L.set j ⟨L[j].na, N, L[j].nc, L[j].na, N, L[j].nc⟩) := own_same o2 fun i _ => by rw [hV]; rfl
  refine ⟨_, List.length_set, h.put hj (x' := ⟨L[j].na, N, L[j].nc, L[j].na, N, L[j].nc⟩) (y := failF k (m.fl j)) hb' hb' hown (fun i _ hi => ho i hi), h1, h2, h3, by rw [hV]; simp, fun i hi hn => ho i fun e => hn (.inr (.inl (by rw [e]; rfl))), ?_⟩
  exact foot_put hj (fun i hi => .inl ((own_any _ _ _ _ _).trans hi)) (fun i hi => .inl ((own_any _ _ _ _ _).trans hi))
/-- .. they were not. -/
theorem RAt.fail2 (h : RAt w p (.slice (some ⟨g, 0, none⟩) n cap) D S L kp m) {j : Nat} (hj : j < L.length) {k : Int} (hs : sureFirst (m.fl j) = false) (hV : V.heap = (w.setCell ⟨g, j * 2, none⟩ (.slice L[j].sa L[j].sn L[j].sc)).heap) (h1 : V.os = w.os) (h2 : V.tape = w.tape) (h3 : V.output = w.output) :
    ∃ L', L'.length = L.length ∧ RAt V p (.slice (some ⟨g, 0, none⟩) n cap) D S L' kp { m with all := m.all.set j (failF k (m.fl j)) } ∧ Moved w V (rfoot p (.slice (some ⟨g, 0, none⟩) n cap) D S L) (rfoot p (.slice (some ⟨g, 0, none⟩) n cap) D S L') := by
  have o1 := own_set h.all hj (j := 0) (by decide) (.slice L[j].sa L[j].sn L[j].sc) ⟨L[j].sa, L[j].sn, L[j].sc, L[j].sa, L[j].sn, L[j].sc⟩ rfl
  rw [Nat.add_zero] at o1
  have ho : ∀ i, i ≠ g → V.heap[i]? = w.heap[i]? := fun i hi => by rw [hV, Below.heap_setCell _ _ _ _ hi]
  have hb' : Buf V (.slice L[j].sa L[j].sn L[j].sc) (leftF k (m.fl j)) := by
    rw [leftF_else hs]
    exact (h.sure j hj).same fun i hi => ho i (h.apart (.inr (.inr (.inr ⟨_, List.getElem_mem hj, .inr hi⟩))))
  have hown : K.OwnOf rfc 2 92 V 0 (.slice (some ⟨g, 0, none⟩) n cap) (L.set j ⟨L[j].sa, L[j].sn, L[j].sc, L[j].sa, L[j].sn, L[j].sc⟩) := own_same o1 fun i _ => by rw [hV]
  refine ⟨_, List.length_set, h.put hj (x' := ⟨L[j].sa, L[j].sn, L[j].sc, L[j].sa, L[j].sn, L[j].sc⟩) (y := failF k (m.fl j)) hb' hb' hown (fun i _ hi => ho i hi), h1, h2, h3, by rw [hV]; simp, fun i hi hn => ho i fun e => hn (.inr (.inl (by rw [e]; rfl))), ?_⟩
  exact foot_put hj (fun i hi => .inr (.inl hi)) (fun i hi => .inr (.inl hi))
end
/-- A store, some of whose files have failed. -/
def M.part (m : M) (k : Int) (j : Nat) : M := { m with dark := true, dir := m.sur, all := (m.all.take j).map (failF k) ++ m.all.drop j }
theorem part_zero (m : M) (k : Int) : m.part k 0 = { m with dark := true, dir := m.sur } := by unfold M.part; simp
theorem part_all (m : M) (k : Int) : m.part k m.all.length = m.fail k := by unfold M.part M.fail; simp
theorem part_fl (m : M) (k : Int) (j : Nat) (hj : j < m.all.length) : (m.part k j).fl j = m.fl j := by
  unfold M.fl M.part
  simp only [List.getD_eq_getElem?_getD]
  rw [List.getElem?_append_right (by simp; omega)]
  simp [Nat.min_eq_left (Nat.le_of_lt hj)]
theorem part_succ (m : M) (k : Int) (j : Nat) (hj : j < m.all.length) : { m.part k j with all := (m.part k j).all.set j (failF k (m.fl j)) } = m.part k (j + 1) := by
  unfold M.part
  simp only [M.mk.injEq, true_and, and_true]
  have h1 : m.fl j = m.all[j] := by unfold M.fl; exact getD_lt _ hj
  rw [List.set_append_right _ _ (by simp; omega), h1]
  simp only [List.length_map, List.length_take, Nat.min_eq_left (Nat.le_of_lt hj), Nat.sub_self]
  rw [List.drop_eq_getElem_cons hj, List.set_cons_zero, List.take_succ_eq_append_getElem hj]
  simp only [List.map_append, List.map_cons, List.map_nil, List.append_assoc, List.singleton_append]
section
variable {w : World} {p : Nat} {A D S : Value} {L : List Rf} {kp : Int} {m : M}
/-- What a round of Fail meets. -/
theorem RAt.meets (h : RAt w p A D S L kp m) {j : Nat} (hj : j < L.length) : ∃ g cap na nc sa sc, A = .slice (some ⟨g, 0, none⟩) L.length cap ∧ w.cell? ⟨p, 1, none⟩ = some (.slice (some ⟨g, 0, none⟩) L.length cap) ∧ w.cell? ⟨g, j * 2, none⟩ = some (.slice na (m.fl j).now.length nc) ∧ w.cell? ⟨g, j * 2 + 1, none⟩ = some (.slice sa (m.fl j).sure.length sc) ∧ (∀ i, w.frozen? ⟨g, i, none⟩ = false) ∧ Buf w (.slice na (m.fl j).now.length nc) (m.fl j).now ∧ Buf w (.slice sa (m.fl j).sure.length sc) (m.fl j).sure ∧ (m.fl j).now.length ≤ nc ∧ L[j].na = na ∧ L[j].nc = nc ∧ L[j].sa = sa ∧ L[j].sc = sc ∧ L[j].sn = (m.fl j).sure.length := by
  obtain ⟨_, c1, _⟩ := h.cells
  have hr := h.all.rng
  have hnow := h.now j hj
  have hsure := h.sure j hj
  have e1 := buf_len hnow
  have e2 := buf_len hsure
  unfold Rf.now at hnow
  unfold Rf.sure at hsure
  rcases h.all.2 with ⟨rfl, hn⟩ | ⟨g, cap, cur, rfl, h3, h4, h5⟩
  · omega
  obtain ⟨_, _, hat⟩ := rfs_at hr
  obtain ⟨b, off, hb, g0, g1⟩ := hat j hj
  injection hb with hb
  injection hb with hb1 hb2
  subst hb1 hb2
  rw [Nat.zero_add, e1] at g0
  rw [Nat.zero_add, e2] at g1
  rw [e1] at hnow
  rw [e2] at hsure
  refine ⟨g, cap, _, _, _, _, rfl, c1, g0, g1, fun i => by simp only [World.frozen?]; rw [h4]; simp, hnow, hsure, buf_cap hnow, rfl, rfl, rfl, rfl, e2⟩
set_option maxRecDepth 20000 in
set_option maxHeartbeats 4000000 in
theorem rfail_at (h : RAt w p A D S L kp m) (ok : m.Ok) (k : Int) (hk : -9223372036854775808 ≤ k ∧ k < 9223372036854775808) (hc : m.count ≤ 1000000) :
    Calls Try.prog 40 #[.pointer (some ⟨p, 0, none⟩), .int .i64 k] w fun e w' => e = .returned (.tuple #[]) ∧ ∃ F', R w' p F' (m.fail k) ∧ Moved w w' (rfoot p A D S L) F' := by
  obtain ⟨_, c1, c2, c3, c4, _, _, _⟩ := h.cells
  cases hd : m.dark with
  | true =>
    rw [ok.fail_dark hd k]
    have HS : Hid (∃ F', R w p F' m ∧ Moved w w (rfoot p A D S L) F') := ⟨_, ⟨_, _, _, _, _, h, rfl⟩, .refl _ _⟩
    rw [hd] at c4
    clear h
    go_enter Try.func40, Try.ntmps40
    go_wp2
    (try simp only [Exit.inBlock, Exit.then])
    refine bodyPost_ret (results_none rfl _ _ _) rfl ?_
    exact ⟨rfl, HS.out⟩
  | false =>
    rw [hd] at c4
    obtain ⟨sva, svc, rfl⟩ := h.sur.rng.slice
    obtain ⟨aa, ac, rfl⟩ := h.all.rng.slice
    have f4 := h.frozen 4
    obtain ⟨W1, fold1⟩ : ∃ W1, w.setCell ⟨p, 4, none⟩ (.bool true) = W1 := ⟨_, rfl⟩
    have h1 : RAt W1 p (.slice aa L.length ac) D (.slice sva m.sur.length svc) L kp { m with dark := true } := by
      refine h.turn (m' := { m with dark := true }) (kp' := kp) ?_ (fun i hi => ?_) h.keep rfl rfl rfl
      · rw [← fold1]; exact heap_set_list (i := 4) h.blk (.bool true)
      · rw [← fold1, Below.heap_setCell _ _ _ _ hi]
    have m1 : Hid (Moved w W1 (rfoot p (.slice aa L.length ac) D (.slice sva m.sur.length svc) L) (rfoot p (.slice aa L.length ac) D (.slice sva m.sur.length svc) L)) := ⟨by rw [← fold1]; rfl, by rw [← fold1]; rfl, by rw [← fold1]; rfl, by rw [← fold1]; simp, fun i _ hn => by rw [← fold1, Below.heap_setCell _ _ _ _ (fun e => hn (.inl e))], fun _ h => .inl h⟩
    obtain ⟨V, foldV⟩ : ∃ V, W1.alloc (.cells #[] 77) = V := ⟨_, rfl⟩
    have bV : Below W1.heap.size W1 V := by rw [← foldV]; exact (Below.refl _ _).alloc (Nat.le_refl _) _
    have hV := h1.kept bV
    have eA : K.OwnOf ecl 2 77 V W1.heap.size (.slice (some ⟨W1.heap.size, 0, none⟩) 0 0) [] := by rw [← foldV]; exact K.ownOf_empty W1 W1.heap.size (Nat.le_refl _)
    obtain ⟨_, _, _, d3, _⟩ := hV.cells
    have hrS : K.RowOf ecl V (.slice sva m.sur.length svc) m.sur := hV.sur.rng
    obtain ⟨i0, hi0, hz0, hzs, hzb⟩ := entInfo
    have hls : m.sur.length ≤ 1000000 := by have := ok.ls; omega
    have HNF : Hid (∀ w2 va' vc', Below W1.heap.size W1 w2 → K.OwnOf ecl 2 77 w2 W1.heap.size (.slice va' m.sur.length vc') m.sur → w2.cell? ⟨p, 2, none⟩ = some D ∧ w2.frozen? ⟨p, 2, none⟩ = false ∧ ∃ X D', w2.setCell ⟨p, 2, none⟩ (.slice va' m.sur.length vc') = X ∧ X.cell? ⟨p, 1, none⟩ = some (.slice aa L.length ac) ∧ Hid (RAt X p (.slice aa L.length ac) D' (.slice sva m.sur.length svc) L kp (m.part k 0)) ∧ Hid (Moved w X (rfoot p (.slice aa L.length ac) D (.slice sva m.sur.length svc) L) (rfoot p (.slice aa L.length ac) D' (.slice sva m.sur.length svc) L))) := fun w2 va' vc' b2 own' => by
      refine ⟨(h1.kept b2).cells.2.2.1, (h1.kept b2).frozen 2, w2.setCell ⟨p, 2, none⟩ (.slice va' m.sur.length vc'), ?_⟩
      obtain ⟨D', r1, r2, r3⟩ := h1.newDir (V := w2.setCell ⟨p, 2, none⟩ (.slice va' m.sur.length vc')) b2 own' rfl rfl rfl rfl
      refine ⟨D', rfl, r1.cells.2.1, by rw [part_zero]; exact r1, m1.out.trans ⟨r3.os, r3.tape, r3.output, r3.size, fun i hi hn => r3.block i hi fun e => hn (.inl e), ?_⟩⟩
      rintro i (hi | hi | hi | hi | hi)
      · exact .inl (.inl hi)
      · exact .inl (.inr (.inl hi))
      · exact .inr (r2 i hi)
      · exact .inl (.inr (.inr (.inr (.inl hi))))
      · exact .inl (.inr (.inr (.inr (.inr hi))))
    have hszV : V.heap.size = W1.heap.size + 1 := by rw [← foldV]; simp
    have HSZ : Hid (V.heap.size = W1.heap.size + 1) := hszV
    have Hok : Hid m.Ok := ok
    have hLm : L.length = m.all.length := h.len
    have HLm : Hid (L.length = m.all.length) := hLm
    clear h h1 hV hszV ok hLm
    go_enter Try.func40, Try.ntmps40
    go_wp2_with (at_builtin; refine K.wpList_append_rows (enc := ecl) rfl (.tmp 16) (.tmp 20) 38 rfl Try.underlying38 i0 _ 24 hi0 hz0 hzs hzb rfl W1.heap.size (.slice (some ⟨W1.heap.size, 0, none⟩) 0 0) _ [] m.sur rfl rfl eA hrS (by unfold maxLen; simp; omega) (by simp; omega) (by have := HSZ.out; omega) ?_; intro v' w2 own' gr' _; have HB2 : Hid (Below W1.heap.size W1 w2) := eA.below gr' bV bV.size (Nat.le_refl _); obtain ⟨va', vc', hv'⟩ := own'.rng.slice; rw [List.nil_append] at hv' own'; subst hv'; obtain ⟨y2, fz, X, D', foldX, x1, R0, M0⟩ := HNF.out w2 va' vc' HB2.out own'; clear own' gr' eA hrS bV HB2 HNF)
    have l63 : L.length ≤ 9223372036854775807 := by have h1 := Hok.out.cnt; have h2 := HLm.out; omega
    clear c1 c2 c3 c4 f4 fold1 foldV d3 y2 fz foldX x1 m1 HSZ hi0 hz0 hzs hzb hd
    go_loopg [29] L.length (fun gg u29 wr => ∃ (j : Nat) (L' : List Rf), u29 = .int .i64 j ∧ j ≤ L.length ∧ gg = L.length - j ∧ Hid (L'.length = L.length ∧ RAt wr p (.slice aa L.length ac) D' (.slice sva m.sur.length svc) L' kp (m.part k j) ∧ Moved w wr (rfoot p (.slice aa L.length ac) D (.slice sva m.sur.length svc) L) (rfoot p (.slice aa L.length ac) D' (.slice sva m.sur.length svc) L')))
    case atStart => exact ⟨0, L, rfl, Nat.zero_le _, rfl, rfl, R0.out, M0.out⟩
    case round =>
      obtain ⟨j, L', rfl, hj, rfl, HI⟩ := hrel
      clear R0 M0
      by_cases hlt : j < L.length
      · have hlt' : (j : Int) < (L.length : Int) := by omega
        have hjL : j < L'.length := by rw [HI.out.1]; exact hlt
        have hjm : j < m.all.length := by rw [← HLm.out]; exact hlt
        have hfl : (m.part k j).fl j = m.fl j := part_fl m k j hjm
        obtain ⟨g, cap, na, nc, sa, sc, hA, x1, g0, g1, fz, bn, bs, hnc, e1, e2, e3, e4, e5⟩ := HI.out.2.1.meets hjL
        rw [HI.out.1] at hA x1
        injection hA with hA1 _ hA3
        subst hA1 hA3
        rw [hfl] at g0 g1 bn bs hnc e5
        have hsm := Hok.out.fl j
        have HNext : Hid (∀ X L'', L''.length = L'.length → RAt X p (.slice (some ⟨g, 0, none⟩) L.length ac) D' (.slice sva m.sur.length svc) L'' kp { m.part k j with all := (m.part k j).all.set j (failF k ((m.part k j).fl j)) } → Moved wr X (rfoot p (.slice (some ⟨g, 0, none⟩) L.length ac) D' (.slice sva m.sur.length svc) L') (rfoot p (.slice (some ⟨g, 0, none⟩) L.length ac) D' (.slice sva m.sur.length svc) L'') → Hid (L''.length = L.length ∧ RAt X p (.slice (some ⟨g, 0, none⟩) L.length ac) D' (.slice sva m.sur.length svc) L'' kp (m.part k (j + 1)) ∧ Moved w X (rfoot p (.slice (some ⟨g, 0, none⟩) L.length ac) D (.slice sva m.sur.length svc) L) (rfoot p (.slice (some ⟨g, 0, none⟩) L.length ac) D' (.slice sva m.sur.length svc) L''))) := fun X L'' q1 q2 q3 => by
          rw [part_fl m k j hjm, part_succ m k j hjm] at q2
          exact ⟨q1.trans HI.out.1, q2, HI.out.2.2.trans q3⟩
        obtain ⟨Y, hY⟩ : ∃ Y, m.fl j = Y := ⟨_, rfl⟩
        rw [hY] at g0 g1 bn bs hnc e5 hfl hsm
        have kx := fun (hle : Y.sure.length ≤ Y.now.length) (z : Nat) => run_string_of (w := wr.drewN z) ((bn.take hle).same (w' := wr.drewN z) fun _ _ => rfl).holds 29 9 5 Try.underlying29 Try.underlying5 Try.underlying9
        have ky := fun (z : Nat) => run_string_of (w := wr.drewN z) (bs.same (w' := wr.drewN z) fun _ _ => rfl).holds 29 9 5 Try.underlying29 Try.underlying5 Try.underlying9
        cases hsf : sureFirst Y with
        | true =>
          have hle : Y.sure.length ≤ Y.now.length ∧ Y.now.take Y.sure.length = Y.sure := by unfold sureFirst at hsf; simpa using hsf
          have hkx : ∀ z, _ := kx hle.1
          rw [hle.2] at hkx
          have hN := leftN_doc k hsf
          have hNle := leftN_le (k := k) hsf
          have HE1 : Hid (∀ X : World, X.heap = ((wr.setCell ⟨g, j * 2 + 1, none⟩ (.slice na (leftN k Y) nc)).setCell ⟨g, j * 2, none⟩ (.slice na (leftN k Y) nc)).heap → X.os = wr.os → X.tape = wr.tape → X.output = wr.output → ∃ L'', Hid (L''.length = L.length ∧ RAt X p (.slice (some ⟨g, 0, none⟩) L.length ac) D' (.slice sva m.sur.length svc) L'' kp (m.part k (j + 1)) ∧ Moved w X (rfoot p (.slice (some ⟨g, 0, none⟩) L.length ac) D (.slice sva m.sur.length svc) L) (rfoot p (.slice (some ⟨g, 0, none⟩) L.length ac) D' (.slice sva m.sur.length svc) L''))) := fun X hX q1 q2 q3 => by
            obtain ⟨L'', r1, r2, r3⟩ := HI.out.2.1.fail1 (V := X) hjL (k := k) (N := leftN k Y) (by rw [hfl]; exact hsf) (by rw [hfl]) (by rw [e1, e2]; exact hX) q1 q2 q3
            exact ⟨L'', HNext.out X L'' r1 r2 r3⟩
          generalize leftN k Y = N at *
          have hle1 := hle.1
          have fz0 := fz (j * 2)
          have fz1 := fz (j * 2 + 1)
          have hg1 : (wr.setCell ⟨g, j * 2 + 1, none⟩ (.slice na N nc)).cell? ⟨g, j * 2 + 1, none⟩ = some (.slice na N nc) := World.cell?_setCell_same' _ _ _ (by rw [g1]; rfl)
          clear kx HNext HI bn bs hfl e1 e2 e3 e4 e5 hsf hle hjL hjm fz HLm Hok hY
          generalize Y.now.length = ln at *
          generalize Y.sure.length = ls at *
          generalize (⟨Y.sure.toArray⟩ : ByteArray) = T at *
          obtain ⟨d, hd⟩ : ∃ d : Int, d = (ln : Int) - (ls : Int) := ⟨_, rfl⟩
          have hdw : IntKind.i64.wrap ((ln : Int) - (ls : Int)) = d := by rw [IntKind.wrap_i64]; omega
          rw [← hd] at hN
          have hge : (ls : Int) ≤ (ln : Int) := by omega
          have hge2 : decide ((ls : Int) ≤ (ln : Int)) = true := by simpa using hge
          have hd0 : 0 ≤ d := by omega
          have hNc : (N : Int) ≤ (nc : Int) := by omega
          have hlsc : (ls : Int) ≤ (nc : Int) := by omega
          by_cases hb1 : d < k
          · by_cases hb2 : 0 < d
            · have hNd : ((N : Int)) = (ls : Int) + d := by rw [hN, if_pos hb1, if_pos hb2]
              have hNw : IntKind.i64.wrap ((ls : Int) + d) = (N : Int) := by rw [IntKind.wrap_i64]; omega
              clear hN hNd hd
              go_wp2
              go_quiet (fail)
              go_wp2
              go_roundg (L.length - (j + 1))
              case measure => omega
              case rel =>
                obtain ⟨L'', hL⟩ := HE1.out (((wr.drewN nq).setCell ⟨g, j * 2 + 1, none⟩ (.slice na N nc)).setCell ⟨g, j * 2, none⟩ (.slice na N nc)) rfl rfl rfl rfl
                exact ⟨j + 1, L'', by go_num, by omega, rfl, hL⟩
            · have hNd : N = ls := by rw [if_pos hb1, if_neg hb2] at hN; omega
              subst hNd
              clear hN hd
              go_wp2
              go_quiet (fail)
              go_wp2
              go_roundg (L.length - (j + 1))
              case measure => omega
              case rel =>
                obtain ⟨L'', hL⟩ := HE1.out (((wr.drewN nq).setCell ⟨g, j * 2 + 1, none⟩ (.slice na N nc)).setCell ⟨g, j * 2, none⟩ (.slice na N nc)) rfl rfl rfl rfl
                exact ⟨j + 1, L'', by go_num, by omega, rfl, hL⟩
          · by_cases hb2 : 0 < k
            · have hNd : ((N : Int)) = (ls : Int) + k := by rw [hN, if_neg hb1, if_pos hb2]
              have hNw : IntKind.i64.wrap ((ls : Int) + k) = (N : Int) := by rw [IntKind.wrap_i64]; omega
              clear hN hNd hd
              go_wp2
              go_quiet (fail)
              go_wp2
              go_roundg (L.length - (j + 1))
              case measure => omega
              case rel =>
                obtain ⟨L'', hL⟩ := HE1.out (((wr.drewN nq).setCell ⟨g, j * 2 + 1, none⟩ (.slice na N nc)).setCell ⟨g, j * 2, none⟩ (.slice na N nc)) rfl rfl rfl rfl
                exact ⟨j + 1, L'', by go_num, by omega, rfl, hL⟩
            · have hNd : N = ls := by rw [if_neg hb1, if_neg hb2] at hN; omega
              subst hNd
              clear hN hd
              go_wp2
              go_quiet (fail)
              go_wp2
              go_roundg (L.length - (j + 1))
              case measure => omega
              case rel =>
                obtain ⟨L'', hL⟩ := HE1.out (((wr.drewN nq).setCell ⟨g, j * 2 + 1, none⟩ (.slice na N nc)).setCell ⟨g, j * 2, none⟩ (.slice na N nc)) rfl rfl rfl rfl
                exact ⟨j + 1, L'', by go_num, by omega, rfl, hL⟩
        | false =>
          have HE1 : Hid (∀ X : World, X.heap = (wr.setCell ⟨g, j * 2, none⟩ (.slice sa Y.sure.length sc)).heap → X.os = wr.os → X.tape = wr.tape → X.output = wr.output → ∃ L'', Hid (L''.length = L.length ∧ RAt X p (.slice (some ⟨g, 0, none⟩) L.length ac) D' (.slice sva m.sur.length svc) L'' kp (m.part k (j + 1)) ∧ Moved w X (rfoot p (.slice (some ⟨g, 0, none⟩) L.length ac) D (.slice sva m.sur.length svc) L) (rfoot p (.slice (some ⟨g, 0, none⟩) L.length ac) D' (.slice sva m.sur.length svc) L''))) := fun X hX q1 q2 q3 => by
            obtain ⟨L'', r1, r2, r3⟩ := HI.out.2.1.fail2 (V := X) hjL (k := k) (by rw [hfl]; exact hsf) (by rw [e3, e4, e5]; exact hX) q1 q2 q3
            exact ⟨L'', HNext.out X L'' r1 r2 r3⟩
          have fz0 := fz (j * 2)
          by_cases hle : Y.sure.length ≤ Y.now.length
          · have hkx : ∀ z, _ := kx hle
            have hne : (⟨(Y.now.take Y.sure.length).toArray⟩ : ByteArray) ≠ ⟨Y.sure.toArray⟩ := fun e => by
              unfold sureFirst at hsf
              simp only [decide_eq_false_iff_not] at hsf
              injection e with e
              exact hsf ⟨hle, by simpa using congrArg Array.toList e⟩
            clear kx HNext HI bn bs hfl e1 e2 e3 e4 e5 hsf hjL hjm fz HLm Hok hY
            generalize (⟨(Y.now.take Y.sure.length).toArray⟩ : ByteArray) = T1 at *
            generalize (⟨Y.sure.toArray⟩ : ByteArray) = T at *
            generalize Y.now.length = ln at *
            generalize Y.sure.length = ls at *
            have hge : (ls : Int) ≤ (ln : Int) := by omega
            have hge2 : decide ((ls : Int) ≤ (ln : Int)) = true := by simpa using hge
            have hlsc : (ls : Int) ≤ (nc : Int) := by omega
            have hq : (T1.toList == T.toList) = false := by
              rw [Bool.eq_false_iff]
              intro h
              have h := eq_of_beq h
              rw [ByteArray.toList_eq, ByteArray.toList_eq] at h
              exact hne (ByteArray.ext (Array.toList_inj.1 h))
            go_wp2
            go_quiet (fail)
            go_wp2
            go_roundg (L.length - (j + 1))
            case measure => omega
            case rel =>
              obtain ⟨L'', hL⟩ := HE1.out ((wr.drewN nq).setCell ⟨g, j * 2, none⟩ (.slice sa ls sc)) rfl rfl rfl rfl
              exact ⟨j + 1, L'', by go_num, by omega, rfl, hL⟩
          · clear kx HNext HI bn bs hfl e1 e2 e3 e4 e5 hsf hjL hjm fz HLm Hok hY ky
            generalize Y.now.length = ln at *
            generalize Y.sure.length = ls at *
            have hge : ¬ (ls : Int) ≤ (ln : Int) := by omega
            have hge2 : decide ((ls : Int) ≤ (ln : Int)) = false := by simpa using hge
            go_wp2
            go_quiet (fail)
            go_wp2
            go_roundg (L.length - (j + 1))
            case measure => omega
            case rel =>
              obtain ⟨L'', hL⟩ := HE1.out ((wr.drewN nq).setCell ⟨g, j * 2, none⟩ (.slice sa ls sc)) rfl rfl rfl rfl
              exact ⟨j + 1, L'', by go_num, by omega, rfl, hL⟩
      · have ej : j = L.length := by omega
        have hlt' : ¬ (j : Int) < (L.length : Int) := by omega
        have HE : Hid (∃ F', R wr p F' (m.fail k) ∧ Moved w wr (rfoot p (.slice aa L.length ac) D (.slice sva m.sur.length svc) L) F') := by
          obtain ⟨q1, q2, q3⟩ := HI.out
          have hp : m.part k j = m.fail k := by rw [ej, HLm.out]; exact part_all m k
          rw [hp] at q2
          exact ⟨_, ⟨_, _, _, _, _, q2, rfl⟩, q3⟩
        clear HI ej
        go_wp2
        go_end0
        exact ⟨rfl, HE.out⟩
end
end Go.Proofs.Ytndinjekocgjhaa
