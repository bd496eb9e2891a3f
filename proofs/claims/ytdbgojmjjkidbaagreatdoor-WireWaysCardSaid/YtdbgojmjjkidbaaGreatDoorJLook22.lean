/-
  way and Look, by their contracts.
-/
import Derived.Test.YtdbgojmjjkidbaaGreatDoorJModel19
import Derived.Test.YtdbgojmjjkidbaaGreatDoorJBytes19
import Derived.Test.YtdbgojmjjkidbaaGreatDoorJGoodP19
namespace Go.Proofs.YtdbgojmjjkidbaaGreatDoor
open Go.RowKit Go.Maps Go.Sort K
set_option maxRecDepth 20000

theorem oneE (e : Ed) : (ecells e).toArray.all (·.oneCell') = true := by simp [ecells, Value.oneCell']
theorem results_ed {fn : Func} {q : Tmp} (h : fn.results = #[.cell q 37]) (tmps : Array Value) (w : World) (g : Nat) (e : Ed) (hp : tmps.getD q undef = .pointer (some ⟨g, 0, none⟩)) (hg : w.heap[g]? = some (.cells (ecells e).toArray 37 (0, 0))) :
    (results fn tmps).run Tryz.prog w = .ok (ev e) w := results_cell_row h tmps w g 37 (ecells e).toArray (0, 0) _ hp hg Tryz.underlying37 rfl eInfo2
theorem way_any (p : Pk) (w : World) : Calls Tryz.prog 35 #[pv p] w fun e w' => e = .returned (ev (pway p)) ∧ Below w.heap.size w w' := by
  obtain ⟨W, fold⟩ : ∃ W, w.alloc (.cells #[.int .i64 p.kind, .int .i64 p.fr, .int .i64 p.dest, .int .u64 p.ep, .int .u16 p.num, .int .u64 p.mask, .int .i64 p.m.origin, .int .u64 p.m.seq, .int .i64 p.m.hop, .string p.m.ex, .string p.m.key, .string p.m.body] 35) = W := ⟨_, rfl⟩
  have b0 : Below w.heap.size w W := by rw [← fold]; exact box_belowW w _
  have hs : W.heap.size = w.heap.size + 1 := by rw [← fold]; simp
  have x0 : W.heap[w.heap.size]? = some (.cells (pcells p).toArray 35 (0, 0)) := by rw [← fold]; exact heap_alloc_new w _
  obtain ⟨X, fX⟩ : ∃ X, W.alloc (.cells #[.int .i64 0, .int .i64 0] 37) = X := ⟨_, rfl⟩
  have b1 : Below w.heap.size w X := by rw [← fX]; exact b0.alloc b0.size _
  have x1 : X.heap[w.heap.size]? = some (.cells (pcells p).toArray 35 (0, 0)) := by rw [← fX, Below.heap_alloc _ _ _ (by omega)]; exact x0
  have e1 : X.heap[W.heap.size]? = some (.cells (ecells zeroEd).toArray 37 (0, 0)) := by rw [← fX]; exact heap_alloc_new W _
  obtain ⟨_, y1, y2, _⟩ := cells12 x1
  have H0 : Hid (X.heap[W.heap.size]? = some (.cells (ecells zeroEd).toArray 37 (0, 0)) ∧ Below w.heap.size w X ∧ w.heap.size ≤ W.heap.size) := ⟨e1, b1, b0.size⟩
  clear x0 x1 e1 b0 b1 hs
  go_enter Tryz.func35, Tryz.ntmps35
  go_wp2_with (refine wpList_store_row rfl 37 _ _ rfl W.heap.size (ecells (pway p)).toArray rfl rfl 37 (ecells zeroEd).toArray H0.out.1 eInfo2 rfl (oneE (pway p)) ?_)
  refine bodyPost_ret (results_ed rfl _ _ W.heap.size (pway p) rfl (setRow_heap _ _ _ _ _ _ H0.out.1)) rfl ⟨rfl, below_setRow H0.out.2.1 H0.out.2.2 _⟩
section
variable {w : World} {p b : Nat} {v : Value} {L : List Px} {s : Wr}
theorem WAt.px (h : WAt w p v b L s) {i : Nat} (hi : i < L.length) : ∃ g off c, v = .slice (some ⟨g, off, none⟩) s.l.length c ∧ w.cell? ⟨g, off + i * 2, none⟩ = some (.slice L[i].a L[i].n L[i].c) ∧ w.cell? ⟨g, off + i * 2 + 1, none⟩ = some (.bool L[i].t) := by
  obtain ⟨g, off, c, hv, _, _, hc⟩ := h.rows.rng.at (by omega)
  rw [h.len] at hv
  exact ⟨g, off, c, hv, by simpa using row_cell hc i hi 0 (by decide) _ rfl, row_cell hc i hi 1 (by decide) _ rfl⟩
theorem WAt.at (h : WAt w p v b L s) {i : Nat} (hi : i < L.length) : s.at (i : Int) = L[i].pc := by
  unfold Wr.at
  rw [← h.eq, Int.toNat_natCast, List.getD_eq_getElem?_getD, List.getElem?_map, List.getElem?_eq_getElem hi]
  rfl
def LookP (w : World) (s : Wr) (i : Int) (e : Ending) (w' : World) : Prop := e = .returned (.tuple #[pv (pkOf (lookW s i).1), .int .i64 (lookW s i).2]) ∧ Below w.heap.size w w'
theorem lookW_no {i : Int} (h : s.may i = false) : lookW s i = (none, 3) := by unfold lookW; rw [if_neg (by rw [h]; simp)]
theorem lookW_yes {i : Int} (h : s.may i = true) : lookW s i = (readP (s.at i).1, errOf (readP (s.at i).1)) := by unfold lookW; rw [if_pos h]; rfl
theorem may_no {i : Int} (h : s.may i = false) : ¬ (0 ≤ i ∧ i < (s.l.length : Int)) := of_decide_eq_false h
theorem may_yes {i : Int} (h : s.may i = true) : 0 ≤ i ∧ i < (s.l.length : Int) := of_decide_eq_true h
set_option maxHeartbeats 2000000 in
theorem look_at (h : WAt w p v b L s) (ok : s.Ok) (ht : Tab w) (hK : PKinds w) (i : Int) :
    Calls Tryz.prog 16 #[.pointer (some ⟨p, 0, none⟩), .int .i64 i] w (LookP w s i) := by
  obtain ⟨W, fold⟩ : ∃ X, w.alloc (.cells #[.int .i64 0, .int .i64 0, .int .i64 0, .int .u64 0, .int .u16 0, .int .u64 0, .int .i64 0, .int .u64 0, .int .i64 0, .string ⟨#[]⟩, .string ⟨#[]⟩, .string ⟨#[]⟩] 35) = X := ⟨_, rfl⟩
  have b1 : Below w.heap.size w W := by rw [← fold]; exact box_belowW w _
  have hR : W.heap[w.heap.size]? = some (.cells (pcells nilP).toArray 35 (0, 0)) := by rw [← fold]; exact heap_alloc_new w _
  have hqW := h.same fun k hk => b1.block k (h.lts k hk)
  have hC := check_at hqW ok i
  have HR : Hid (W.heap[w.heap.size]? = some (.cells (pcells nilP).toArray 35 (0, 0)) ∧ Below w.heap.size w W) := ⟨hR, b1⟩
  cases hm : s.may i
  · rw [hm, if_neg (by simp)] at hC
    have HL : Hid (lookW s i = (none, 3)) := lookW_no hm
    clear h hqW ht hK hm b1 hR
    go_enter Tryz.func16, Tryz.ntmps16
    go_wp2_with (first
      | (go_at_call 40; refine hC.mono ?_; rintro e w2 ⟨rfl, rfl⟩)
      | refine wpList_store_row rfl 35 _ _ rfl w.heap.size (pcells nilP).toArray rfl rfl 35 (pcells nilP).toArray HR.out.1 info12 rfl (one12 nilP) ?_)
    refine bodyPost_ret (results_pk_tmp rfl _ _ w.heap.size nilP rfl (setRow_heap _ _ _ _ _ _ HR.out.1)) rfl ?_
    refine ⟨?_, below_setRow HR.out.2 (Nat.le_refl _) _⟩
    rw [HL.out]; rfl
  · rw [hm, if_pos rfl] at hC
    obtain ⟨m1, m2⟩ := may_yes hm
    obtain ⟨k, rfl⟩ : ∃ k : Nat, i = (k : Int) := ⟨i.toNat, by omega⟩
    have hk : k < L.length := by rw [h.len]; omega
    obtain ⟨g, off, c, rfl, d0, d1⟩ := hqW.px hk
    obtain ⟨c0, c1, c2⟩ := hqW.cells
    have hb := (h.all L[k] (List.getElem_mem hk))
    have hb2 := (hqW.all L[k] (List.getElem_mem hk))
    have hsh : L[k].b.length ≤ 1000 := by
      have := ok.short L[k].pc (by rw [← h.eq]; exact List.mem_map.2 ⟨_, List.getElem_mem hk, rfl⟩)
      exact this
    have hRd := readP_any L[k].v L[k].b W (ht.below b1 ht.pos) (hK.below b1) hb2.holds (by omega)
    have HL : Hid (lookW s (k : Int) = (readP L[k].b, errOf (readP L[k].b))) := by
      show _ = _
      rw [lookW_yes hm, h.at hk]; rfl
    have hkl : k < s.l.length := by omega
    have hkl2 : (k : Int) < (s.l.length : Int) := by omega
    generalize L[k] = x at *
    generalize s.l.length = n at *
    clear h hqW ht hK hm b1 hR hb hb2 hsh hk
    go_enter Tryz.func16, Tryz.ntmps16
    go_wp2_with (go_at_call 40; refine hC.mono ?_; rintro e w2 ⟨rfl, rfl⟩)
    refine hRd.mono ?_
    rintro e w3 ⟨rfl, b3⟩
    have H3 : Hid (w3.heap[w.heap.size]? = some (.cells (pcells nilP).toArray 35 (0, 0)) ∧ Below w.heap.size w w3) := ⟨(b3.block _ (Array.getElem?_eq_some_iff.1 HR.out.1).1).trans HR.out.1, keptW HR.out.2 b3⟩
    clear b3 hRd
    go_wp2_with (refine wpList_store_row rfl 35 _ _ rfl w.heap.size (pcells (pkOf (readP x.b))).toArray rfl rfl 35 (pcells nilP).toArray H3.out.1 info12 rfl (one12 _) ?_)
    refine bodyPost_ret (results_pk_tmp rfl _ _ w.heap.size (pkOf (readP x.b)) rfl (setRow_heap _ _ _ _ _ _ H3.out.1)) rfl ?_
    refine ⟨?_, below_setRow H3.out.2 (Nat.le_refl _) _⟩
    rw [HL.out]; rfl
end
end Go.Proofs.YtdbgojmjjkidbaaGreatDoor

/-
  slices.Delete of one packet, and slices.DeleteFunc, by contracts of their own.
-/
namespace Go.Proofs.YtdbgojmjjkidbaaGreatDoor
open Go.RowKit Go.Maps Go.Sort K
set_option maxRecDepth 20000

theorem zero2 : ∀ k : Nat, (((Value.agg #[.slice none 0 0, .bool false]).cells)[k % ((Value.agg #[.slice none 0 0, .bool false]).cells).size]!).oneCell' = true := by
  intro k
  have hk : k % 2 < 2 := Nat.mod_lt _ (by decide)
  show (#[Value.slice none 0 0, .bool false][k % 2]!).oneCell' = true
  generalize k % 2 = j at hk
  have : j = 0 ∨ j = 1 := by omega
  rcases this with rfl | rfl <;> rfl
set_option maxHeartbeats 2000000 in
theorem deleteP_row (g c na nt N N1 : Nat) (A t : List Px) (x : Px) (T : List Value) (w : World) (hna : A.length = na) (hnt : t.length = nt) (hN : na + nt = N) (hN1 : na + 1 = N1) (hg : w.heap[g]? = some (.cells (cellsOf pxcells (A ++ x :: t) ++ T).toArray 81 (0, 0))) (hc : N + 1 ≤ c) (hcm : c ≤ maxLen) (hT : T.length = c * 2 - (N + 1) * 2) :
    Calls Tryz.prog 44 #[.slice (some ⟨g, 0, none⟩) (N + 1) c, .int .i64 (na : Int), .int .i64 (N1 : Int)] w fun e w' =>
      e = .returned (.slice (some ⟨g, 0, none⟩) N c) ∧ K.Only g w w' ∧ ∃ T', w'.heap[g]? = some (.cells (cellsOf pxcells (A ++ t) ++ T').toArray 81 (0, 0)) ∧ T'.length = c * 2 - N * 2 := by
  obtain ⟨i0, hi0, hz0, hzs, hzb⟩ := pxInfo
  have hc63 : c ≤ 9223372036854775807 := by unfold maxLen at hcm; omega
  have hlt : (cellsOf pxcells t).length = nt * 2 := by rw [cellsOf_length (enc := pxcells) (K := 2) t, hnt]
  have hla : (cellsOf pxcells A).length = na * 2 := by rw [cellsOf_length (enc := pxcells) (K := 2) A, hna]
  have hlx : (pxcells x).length = 2 := rfl
  have hap : cellsOf pxcells (A ++ x :: t) = cellsOf pxcells A ++ (pxcells x ++ cellsOf pxcells t) := by rw [cellsOf_append, cellsOf_cons]
  have S1 : Hid (∀ j v, (cellsOf pxcells t)[j]? = some v → w.cell? ((⟨g, N1 * 2, none⟩ : Addr).add j) = some v) := fun j v hj => by
    rw [Addr.add_lit, cell_of_list hg, hap, List.append_assoc, List.getElem?_append_right (by omega), List.append_assoc, List.getElem?_append_right (by omega), hla, hlx, show N1 * 2 + j - na * 2 - 2 = j by omega, List.getElem?_append_left (List.getElem?_eq_some_iff.1 hj).1]
    exact hj
  obtain ⟨cur, hcur⟩ : ∃ z, cellsOf pxcells (A ++ x :: t) ++ T = z := ⟨_, rfl⟩
  rw [hcur] at hg
  have hlen : cur.length = c * 2 := by rw [← hcur, hap, List.length_append, List.length_append, List.length_append, hlx, hlt, hla, hT]; omega
  have HG : Hid (w.heap[g]? = some (.cells cur.toArray 81 (0, 0)) ∧ cur.length = c * 2 ∧ (cellsOf pxcells t).length = nt * 2) := ⟨hg, hlen, hlt⟩
  have HS : Hid (splice cur (na * 2) (cellsOf pxcells t) = cellsOf pxcells (A ++ t) ++ cur.drop (N * 2)) := by
    show splice _ _ _ = _
    unfold splice
    rw [hlt, cellsOf_append, show na * 2 + nt * 2 = N * 2 by omega, ← hcur, hap, List.append_assoc, List.take_append_of_le_length (by omega), List.take_of_length_le (by omega)]
    simp only [List.append_assoc]
  have hl2 : (cellsOf pxcells (A ++ t)).length = N * 2 := by rw [cellsOf_append, List.length_append, hla, hlt]; omega
  have HL : Hid (na + nt = N ∧ N + 1 ≤ c ∧ (cellsOf pxcells (A ++ t)).length = N * 2 ∧ na + 1 = N1 ∧ (nt = 0 → splice cur (na * 2) [] = cellsOf pxcells (A ++ t) ++ cur.drop (N * 2))) := ⟨hN, hc, hl2, hN1, fun h0 => by
    have : cellsOf pxcells t = [] := by apply List.eq_nil_of_length_eq_zero; omega
    rw [← HS.out, this]⟩
  have a1 : (na : Int) ≤ (N1 : Int) := by omega
  have a2 : (N1 : Int) ≤ (N : Int) + 1 := by omega
  have a3 : ((na : Int) == (N1 : Int)) = false := by rw [beq_eq_false_iff_ne]; omega
  have a4 : ¬ ((na : Int) = (N1 : Int)) := by omega
  have a5 : N1 ≤ N + 1 := by omega
  have a6 : N1 ≤ c := by omega
  have a7 : N + 1 - N1 = nt := by omega
  have a8 : na ≤ c := by omega
  have a9 : (na : Int) ≤ (c : Int) := by omega
  have a10 : ¬ (c = N) := by omega
  have a11 : (N1 : Int) ≤ (c : Int) := by omega
  have a12 : N + 1 ≤ c := hc
  have a13 : (N : Int) + 1 ≤ (c : Int) := by omega
  have a14 : na + nt = N := hN
  have a15 : (N : Int) ≤ (N : Int) + 1 := by omega
  have a16 : na ≤ N1 := by omega
  have a17 : N ≤ N + 1 := by omega
  have a18 : N + 1 - N = 1 := by omega
  have a19 : ¬ (na = N1) := by omega
  clear hg hT hlx hlt hap hcur hlen hna hla hl2
  go_enter Tryz.func44, Tryz.ntmps44
  by_cases h1 : c = N1
  · obtain rfl : nt = 0 := by omega
    obtain rfl : N = na := by omega
    subst h1
    go_wp2
    go_region_law (refine K.step_appendK_room rfl (.tmp 22) (.tmp 25) 67 rfl 81 i0 Tryz.underlying67 hi0 hzs g N c (by simp [Act.eval, Act.put]) cur HG.out.1 ⟨g, 0, none⟩ 0 0 (by simp [Act.eval, Act.put]) [] rfl (fun j v hj => by simp at hj) (by simp) (by omega) (by rw [HG.out.2.1]; simp; omega) ?_; intro w1 HG1 only1)
    rw [HL.out.2.2.2.2 (by simp)] at HG1
    go_wp2_with (refine K.wpList_clearK (K := 2) rfl (.tmp 31) 67 rfl 81 Tryz.underlying67 _ Tryz.zeroValue81 rfl zero2 (some ⟨g, N * 2, none⟩) 1 (c - N) (by simp [Act.eval]; try omega) g (N * 2) _ 81 HG1.out (fun _ => rfl) (by rw [List.length_append, List.length_drop, HG.out.2.1, HL.out.2.2.1]; omega) ?_; intro w2 zs hzs2 HG2 only2)
    go_ret
    refine ⟨rfl, (show K.Only g w w1 from ⟨only1.os, only1.tape, only1.output, only1.size, only1.block⟩).trans only2, zs ++ (cur.drop (N * 2)).drop zs.length, ?_, ?_⟩
    · rw [HG2.out, K.splice_in _ (cellsOf pxcells (A ++ t)) _ zs 0 (N * 2) rfl (by rw [HL.out.2.2.1]; omega)]
      simp
    · rw [List.length_append, List.length_drop, List.length_drop, hzs2, HG.out.2.1]; omega
  · have h2 : ¬ (c - N1 = 0) := by omega
    go_wp2
    go_region_law (refine K.step_appendK_room rfl (.tmp 22) (.tmp 25) 67 rfl 81 i0 Tryz.underlying67 hi0 hzs g na c (by simp [Act.eval, Act.put]) cur HG.out.1 ⟨g, N1 * 2, none⟩ nt (c - N1) (by simp [Act.eval, Act.put]) (cellsOf pxcells t) HG.out.2.2 S1.out (cellsOf_one _) (by omega) (by rw [HG.out.2.1, HG.out.2.2]; omega) ?_; intro w1 HG1 only1)
    rw [HS.out] at HG1
    go_wp2_with (refine K.wpList_clearK (K := 2) rfl (.tmp 31) 67 rfl 81 Tryz.underlying67 _ Tryz.zeroValue81 rfl zero2 (some ⟨g, N * 2, none⟩) 1 (c - N) (by simp [Act.eval]; try omega) g (N * 2) _ 81 HG1.out (fun _ => rfl) (by rw [List.length_append, List.length_drop, HG.out.2.1, HL.out.2.2.1]; omega) ?_; intro w2 zs hzs2 HG2 only2)
    go_ret
    refine ⟨rfl, (show K.Only g w w1 from ⟨only1.os, only1.tape, only1.output, only1.size, only1.block⟩).trans only2, zs ++ (cur.drop (N * 2)).drop zs.length, ?_, ?_⟩
    · rw [HG2.out, K.splice_in _ (cellsOf pxcells (A ++ t)) _ zs 0 (N * 2) rfl (by rw [HL.out.2.2.1]; omega)]
      simp
    · rw [List.length_append, List.length_drop, List.length_drop, hzs2, HG.out.2.1]; omega
/-- slices.Delete(l, i, i + 1). -/
theorem deleteP_any (base : Nat) (v : Value) (L : List Px) (i : Nat) (hi : i < L.length) (w : World) (hown : OwnP w base v L) :
    Calls Tryz.prog 44 #[v, .int .i64 (i : Int), .int .i64 ((i + 1 : Nat) : Int)] w fun e w' =>
      ∃ v', e = .returned v' ∧ OwnP w' base v' (L.eraseIdx i) ∧ w.grownBy w' v.ownBlock ∧ v'.ownBlock = v.ownBlock := by
  have hL : L = L.take i ++ L[i] :: L.drop (i + 1) := by rw [← List.drop_eq_getElem_cons hi, List.take_append_drop]
  have hE : L.eraseIdx i = L.take i ++ L.drop (i + 1) := List.eraseIdx_eq_take_drop_succ L i
  rw [hE]
  generalize L[i] = x at hL
  have h1 : (L.take i).length = i := by rw [List.length_take]; omega
  generalize L.take i = A at hL h1
  generalize L.drop (i + 1) = t at hL
  subst hL
  rcases OwnOf.split hown with ⟨_, h⟩ | ⟨g, c, T, rfl, hbg, hg, k1, k2, hT⟩
  · simp at h
  · have hl : (A ++ x :: t).length = i + t.length + 1 := by rw [List.length_append, List.length_cons, h1]; omega
    rw [hl] at k1 hT ⊢
    refine (deleteP_row g c i t.length (i + t.length) (i + 1) A t x T w h1 rfl rfl rfl hg k1 k2 hT).mono ?_
    rintro e w' ⟨rfl, only, T', hg', hT'⟩
    exact ⟨_, rfl, ownOf_mk hbg hg' (by rw [List.length_append, h1]) (by rw [List.length_append, h1]; omega) k2 (by rw [List.length_append, h1]; exact hT'), only.grown, rfl⟩
end Go.Proofs.YtdbgojmjjkidbaaGreatDoor

/-
  Send, Drop, Take, Twice, by their contracts.
-/
namespace Go.Proofs.YtdbgojmjjkidbaaGreatDoor
open Go.RowKit Go.Maps Go.Sort K
set_option maxRecDepth 20000

/-- Behind a box for a packet. -/
structure Sn (w U : World) (pk : Pk) : Prop where
  box : U.heap[w.heap.size]? = some (.cells (pcells pk).toArray 35 (0, 0))
  bel : Below w.heap.size w U
theorem Sn.go {w U V : World} {pk : Pk} (h : Sn w U pk) (b : Below U.heap.size U V) : Sn w V pk := ⟨(b.block _ (Array.getElem?_eq_some_iff.1 h.box).1).trans h.box, keptW h.bel b⟩
theorem owns_px {w : World} {base : Nat} {v : Value} {bs : List UInt8} (h : Owns w base 5 v bs) : ∃ a c, v = .slice a bs.length c ∧ OwnB w v bs ∧ ∀ g, v.ownBlock = some g → base ≤ g := by
  obtain ⟨a, c, hv⟩ := h.holds.slice
  refine ⟨a, c, hv, ?_, fun g hg => (World.ownsRow.lt h g hg).1⟩
  obtain ⟨h1, h2⟩ := h
  refine ⟨h1, ?_⟩
  rcases h2 with h2 | ⟨g, cap, cur, e, _, hg, r⟩
  · exact .inl h2
  · exact .inr ⟨g, cap, cur, e, Nat.zero_le _, hg, r⟩
def EndP (w : World) (p : Nat) (F : Nat → Prop) (r : Int × Wr) (e : Ending) (w' : World) : Prop := e = .returned (.int .i64 r.1) ∧ ∃ F', Wt w' p F' r.2 ∧ Moved w w' F F'
theorem EndP.same {w w' : World} {p : Nat} {F : Nat → Prop} {s : Wr} {k : Int} (h : Wt w p F s) (b : Below w.heap.size w w') : EndP w p F (k, s) (.returned (.int .i64 k)) w' := ⟨rfl, F, h.kept b, .of_below b⟩
theorem way_fit {p : Pk} (h : goodP p = true) : EFit (pway p) := by
  obtain ⟨h1, h2, _⟩ := goodP_tells h
  unfold EFit Fit64 pway; simp only; omega
theorem sendW_bad {s : Wr} {p : Pk} (h : goodP p = false) : sendW s p = (2, s) := by unfold sendW; rw [if_neg (by rw [h]; simp)]
theorem sendW_cut {s : Wr} {p : Pk} (h : goodP p = true) (h2 : pway p ∈ s.ways) : sendW s p = (0, s) := by unfold sendW; rw [if_pos h, if_pos h2]
theorem sendW_add {s : Wr} {p : Pk} (h : goodP p = true) (h2 : pway p ∉ s.ways) : sendW s p = addW s (bytesP p, false) := by unfold sendW; rw [if_pos h, if_neg h2]
set_option maxHeartbeats 4000000 in
theorem send_any {w : World} {p : Nat} {F : Nat → Prop} {s : Wr} (h : Wt w p F s) (ok : s.Ok) (ht : Tab w) (hK : PKinds w) (pk : Pk) (hp : pk.Fits) :
    Calls Tryz.prog 12 #[.pointer (some ⟨p, 0, none⟩), pv pk] w (EndP w p F (sendW s pk)) := by
  obtain ⟨v, b, L, hq, hF⟩ := h
  obtain ⟨W, fold⟩ : ∃ W, w.alloc (.cells #[.int .i64 pk.kind, .int .i64 pk.fr, .int .i64 pk.dest, .int .u64 pk.ep, .int .u16 pk.num, .int .u64 pk.mask, .int .i64 pk.m.origin, .int .u64 pk.m.seq, .int .i64 pk.m.hop, .string pk.m.ex, .string pk.m.key, .string pk.m.body] 35) = W := ⟨_, rfl⟩
  have b0 : Below w.heap.size w W := by rw [← fold]; exact box_belowW w _
  have x0 : W.heap[w.heap.size]? = some (.cells (pcells pk).toArray 35 (0, 0)) := by rw [← fold]; exact heap_alloc_new w _
  have S0 : Hid (Sn w W pk) := ⟨x0, b0⟩
  have hqW : ∀ U, Below w.heap.size w U → WAt U p v b L s := fun U bU => hq.same fun k hk => bU.block k (hq.lts k hk)
  have hM := wmade_at (hqW W b0) ok
  have hG := goodP_any pk W (hK.below b0) hp.m
  have HA : Hid (∀ U, Below w.heap.size w U → Tab U ∧ PKinds U) := fun U bU => ⟨ht.below bU ht.pos, hK.below bU⟩
  have HQ : Hid (WAt w p v b L s) := hq
  have HF : Hid (∀ k, F k ↔ foot p v b L k) := hF
  have HO : Hid (s.Ok ∧ pk.Fits) := ⟨ok, hp⟩
  have HW : Hid (∀ U, Below w.heap.size w U → WAt U p v b L s) := hqW
  clear hq hF ht hK x0 b0 hqW ok hp
  obtain ⟨R, hR⟩ : ∃ R, sendW s pk = R := ⟨_, rfl⟩
  rw [hR]
  have HR : Hid (sendW s pk = R) := hR
  clear hR
  cases hg : goodP pk
  · have HE : Hid (R = (2, s)) := by
      show _ = _
      rw [← HR.out, sendW_bad hg]
    rw [hg] at hG
    clear hg
    go_enter Tryz.func12, Tryz.ntmps12
    go_wp2_with (first
      | (go_at_call 32; refine hM.mono ?_; rintro e w2 ⟨rfl, rfl⟩)
      | refine wpList_load_row rfl 35 _ rfl w.heap.size rfl 35 (pcells pk).toArray (0, 0) _ S0.out.box Tryz.underlying35 rfl info12 ?_)
    refine hG.mono ?_
    rintro e w3 ⟨rfl, b3⟩
    have S3 : Hid (Sn w w3 pk) := S0.out.go b3
    clear b3 hG
    go_wp2
    go_ret
    rw [HE.out]
    exact EndP.same ⟨_, _, _, HQ.out, HF.out⟩ S3.out.bel
  · rw [hg] at hG
    have HG : Hid (goodP pk = true) := hg
    clear hg
    go_enter Tryz.func12, Tryz.ntmps12
    go_wp2_with (first
      | (go_at_call 32; refine hM.mono ?_; rintro e w2 ⟨rfl, rfl⟩)
      | refine wpList_load_row rfl 35 _ rfl w.heap.size rfl 35 (pcells pk).toArray (0, 0) _ S0.out.box Tryz.underlying35 rfl info12 ?_)
    refine hG.mono ?_
    rintro e w3 ⟨rfl, b3⟩
    have S3 : Hid (Sn w w3 pk) := S0.out.go b3
    clear b3 hG
    go_wp2_with (refine wpList_load_row rfl 35 _ rfl w.heap.size rfl 35 (pcells pk).toArray (0, 0) _ S3.out.box Tryz.underlying35 rfl info12 ?_)
    refine (way_any pk w3).mono ?_
    rintro e w4 ⟨rfl, b4⟩
    have S4 : Hid (Sn w w4 pk) := S3.out.go b4
    clear b4
    have hC := cut_at (HW.out w4 S4.out.bel) HO.out.1 (way_fit HG.out)
    have HD : Hid (decide (pway pk ∈ s.ways) = true → pway pk ∈ s.ways) := fun e => of_decide_eq_true e
    have HD2 : Hid (decide (pway pk ∈ s.ways) = false → pway pk ∉ s.ways) := fun e => of_decide_eq_false e
    generalize decide (pway pk ∈ s.ways) = r at hC HD HD2
    go_wp2_with fail
    refine hC.mono ?_
    rintro e w5 ⟨rfl, b5⟩
    have S5 : Hid (Sn w w5 pk) := S4.out.go b5
    clear b5 hC
    cases r
    · have HE : Hid (R = addW s (bytesP pk, false)) := by
        show _ = _
        rw [← HR.out, sendW_add HG.out (HD2.out rfl)]
      clear HD HD2
      go_wp2_with (refine wpList_load_row rfl 35 _ rfl w.heap.size rfl 35 (pcells pk).toArray (0, 0) _ S5.out.box Tryz.underlying35 rfl info12 ?_)
      have hA := HA.out w5 S5.out.bel
      refine (bytesP_any pk w5 hA.1 hA.2 HO.out.2).mono ?_
      rintro e w6 ⟨v6, rfl, o6, b6⟩
      have S6 : Hid (Sn w w6 pk) := S5.out.go b6
      obtain ⟨a6, c6, hv6, hb6, hn6⟩ := owns_px o6
      subst hv6
      have hAdd := add_at HQ.out HO.out.1 HF.out S6.out.bel ⟨a6, (bytesP pk).length, c6, false, bytesP pk⟩ hb6 (.inr fun g hg => Nat.le_trans S5.out.bel.size (hn6 g hg))
      clear b6 o6 hb6 hn6 hA
      change Calls _ _ _ _ (EndP w p F (addW s (bytesP pk, false))) at hAdd
      rw [← HE.out] at hAdd
      generalize (bytesP pk).length = n6 at *
      go_wp2_with fail
      refine hAdd.mono ?_
      rintro e w7 ⟨rfl, h7⟩
      go_wp2
      go_ret
      exact ⟨rfl, h7⟩
    · have HE : Hid (R = (0, s)) := by
        show _ = _
        rw [← HR.out, sendW_cut HG.out (HD.out rfl)]
      clear HD HD2
      go_wp2
      go_ret
      rw [HE.out]
      exact EndP.same ⟨_, _, _, HQ.out, HF.out⟩ S5.out.bel
end Go.Proofs.YtdbgojmjjkidbaaGreatDoor

/-
  Drop, Take, Twice, by their contracts.
-/
namespace Go.Proofs.YtdbgojmjjkidbaaGreatDoor
open Go.RowKit Go.Maps Go.Sort K
set_option maxRecDepth 20000

section
variable {w U w4 : World} {p b : Nat} {v v' : Value} {L L' : List Px} {s : Wr} {l : List Pc} {F F' : Nat → Prop}
theorem all_grown (hq : WAt w p v b L s) (hU : Below w.heap.size w U) (gr : U.grownBy w4 v.ownBlock) : ∀ x ∈ L, OwnB w4 x.v x.b := fun x hx => by
  have hqU := hq.same fun k hk => hU.block k (hq.lts k hk)
  exact owns_same (hqU.all x hx) fun g hg => gr.block g (owns_lt (hqU.all x hx) hg) (fun e => (hqU.x_ne hx hg).2.1 e.symm)
theorem row_chg (hq : WAt w p v b L s) (hU : Below w.heap.size w U) (own : OwnP w4 0 v' L') (gr : U.grownBy w4 v.ownBlock) (hb : v'.ownBlock = v.ownBlock) (hsub : ∀ x ∈ L', x ∈ L) (hl : L'.map Px.pc = l) :
    WAt (w4.setCell ⟨p, 1, none⟩ v') p v' b L' { s with l := l } ∧ Moved w (w4.setCell ⟨p, 1, none⟩ v') (foot p v b L) (foot p v' b L') :=
  row_set hq hU own gr (.inl hb) (fun x hx => all_grown hq hU gr x (hsub x hx)) (fun x hx => .inl (hsub x hx)) hl
theorem pcell1 (hq : WAt w p v b L s) (hU : Below w.heap.size w U) (gr : U.grownBy w4 v.ownBlock) : w4.cell? ⟨p, 1, none⟩ = some v ∧ w4.frozen? ⟨p, 1, none⟩ = false := by
  have hqU := hq.same fun k hk => hU.block k (hq.lts k hk)
  have hb := (gr.block p hqU.lt (fun e => hqU.ne_row e.symm)).trans hqU.blk
  exact ⟨by simp [World.cell?, hb], by simp [World.frozen?, hb]⟩
theorem Moved.setRow {w w' : World} (h : Moved w w' F F') {g : Nat} (hg : w.heap.size ≤ g) (cs : Array Value) : Moved w (w'.setRow g cs) F F' :=
  ⟨h.os, h.tape, h.output, by rw [show (w'.setRow g cs).heap.size = w'.heap.size by simp [World.setRow]]; exact h.size, fun k hk hn => by rw [setRow_other w' g cs k (by omega)]; exact h.block k hk hn, h.sub⟩
theorem Wt.setRow {w : World} (h : Wt w p F s) {g : Nat} (hg : ¬ F g) (cs : Array Value) : Wt (w.setRow g cs) p F s := h.same fun k hk => setRow_other w g cs k (fun e => hg (e ▸ hk))
theorem dropW_no {i : Int} (h : s.may i = false) : dropW s i = (3, s) := by unfold dropW; rw [if_neg (by rw [h]; simp)]
theorem dropW_yes {i : Int} (h : s.may i = true) : dropW s i = (0, { s with l := s.l.eraseIdx i.toNat }) := by unfold dropW; rw [if_pos h]
theorem may_k {k : Nat} (hq : WAt w p v b L s) : s.may (k : Int) = decide (k < L.length) := by
  unfold Wr.may
  rw [decide_eq_decide, hq.len]; omega
theorem drop_any {i : Int} (h : Wt w p F s) (ok : s.Ok) : Calls Tryz.prog 18 #[.pointer (some ⟨p, 0, none⟩), .int .i64 i] w (EndP w p F (dropW s i)) := by
  obtain ⟨v, b, L, hq, hF⟩ := h
  have hC := check_at hq ok i
  obtain ⟨R, hR⟩ : ∃ R, dropW s i = R := ⟨_, rfl⟩
  rw [hR]
  cases hm : s.may i
  · rw [hm, if_neg (by simp)] at hC
    have HE : Hid (R = (3, s)) := by
      show _ = _
      rw [← hR, dropW_no hm]
    have HQ : Hid (Wt w p F s) := ⟨_, _, _, hq, hF⟩
    clear hq hF hm hR ok
    go_enter Tryz.func18, Tryz.ntmps18
    go_wp2_with (go_at_call 40; refine hC.mono ?_; rintro e w2 ⟨rfl, rfl⟩)
    go_ret
    rw [HE.out]
    exact EndP.same HQ.out (Below.refl _ _)
  · rw [hm, if_pos rfl] at hC
    obtain ⟨m1, m2⟩ := may_yes hm
    obtain ⟨k, rfl⟩ : ∃ k : Nat, i = (k : Int) := ⟨i.toNat, by omega⟩
    have hk : k < L.length := by rw [hq.len]; omega
    have HE : Hid (R = (0, { s with l := s.l.eraseIdx k })) := by
      show _ = _
      rw [← hR, dropW_yes hm, Int.toNat_natCast]
    have hD := deleteP_any 0 v L k hk w hq.rows
    have hw : IntKind.i64.wrap ((k : Int) + 1) = ((k + 1 : Nat) : Int) := by
      have := ok.len; have := ok.m2; rw [IntKind.wrap_i64]; omega
    have HQ : Hid (WAt w p v b L s ∧ (∀ k, F k ↔ foot p v b L k)) := ⟨hq, hF⟩
    obtain ⟨c0, c1, c2⟩ := hq.cells
    obtain ⟨va, vc, hv⟩ := hq.rows.rng.slice
    subst hv
    generalize L.length = n at *
    clear hq hF hm hR ok hk m1 m2
    go_enter Tryz.func18, Tryz.ntmps18
    go_wp2_with (go_at_call 40; refine hC.mono ?_; rintro e w2 ⟨rfl, rfl⟩)
    refine hD.mono ?_
    rintro e w3 ⟨v3, rfl, o3, g3, hb3⟩
    obtain ⟨d1, d2⟩ := pcell1 HQ.out.1 (Below.refl _ _) g3
    have H3 : Hid (OwnP w3 0 v3 (L.eraseIdx k) ∧ w2.grownBy w3 (Value.slice va n vc).ownBlock ∧ v3.ownBlock = (Value.slice va n vc).ownBlock) := ⟨o3, g3, hb3⟩
    obtain ⟨a3, c3, hv3⟩ := o3.rng.slice
    generalize (L.eraseIdx k).length = n3 at hv3
    subst hv3
    clear o3 g3 hb3 hD
    go_wp2
    go_ret
    rw [HE.out]
    obtain ⟨q4, m4⟩ := row_chg HQ.out.1 (Below.refl _ _) H3.out.1 H3.out.2.1 H3.out.2.2 (fun x hx => List.mem_of_mem_eraseIdx hx) (l := s.l.eraseIdx k) (by rw [← HQ.out.1.eq, List.eraseIdx_eq_take_drop_succ, List.eraseIdx_eq_take_drop_succ, List.map_append, List.map_take, List.map_drop])
    exact ⟨rfl, _, ⟨_, _, _, q4, fun _ => Iff.rfl⟩, m4.toF HQ.out.2⟩
def TakeP (w : World) (p : Nat) (F : Nat → Prop) (s : Wr) (i : Int) (e : Ending) (w' : World) : Prop := e = .returned (.tuple #[pv (pkOf (lookW s i).1), .int .i64 (lookW s i).2]) ∧ ∃ F', Wt w' p F' (dropW s i).2 ∧ Moved w w' F F'
set_option maxHeartbeats 4000000 in
theorem take_any {i : Int} (h : Wt w p F s) (ok : s.Ok) (ht : Tab w) (hK : PKinds w) : Calls Tryz.prog 14 #[.pointer (some ⟨p, 0, none⟩), .int .i64 i] w (TakeP w p F s i) := by
  obtain ⟨W, fold⟩ : ∃ X, w.alloc (.cells #[.int .i64 0, .int .i64 0, .int .i64 0, .int .u64 0, .int .u16 0, .int .u64 0, .int .i64 0, .int .u64 0, .int .i64 0, .string ⟨#[]⟩, .string ⟨#[]⟩, .string ⟨#[]⟩] 35) = X := ⟨_, rfl⟩
  have b1 : Below w.heap.size w W := by rw [← fold]; exact box_belowW w _
  have hR : W.heap[w.heap.size]? = some (.cells (pcells nilP).toArray 35 (0, 0)) := by rw [← fold]; exact heap_alloc_new w _
  have H0 : Hid (Wt w p F s ∧ s.Ok) := ⟨h, ok⟩
  have HR : Hid (W.heap[w.heap.size]? = some (.cells (pcells nilP).toArray 35 (0, 0)) ∧ Below w.heap.size w W) := ⟨hR, b1⟩
  have hL : Calls Tryz.prog 16 #[.pointer (some ⟨p, 0, none⟩), .int .i64 i] W (LookP W s i) := by
    obtain ⟨v, b, L, hq, _⟩ := h.kept b1
    exact look_at hq ok (ht.below b1 ht.pos) (hK.below b1) i
  obtain ⟨P, hP⟩ : ∃ z, pkOf (lookW s i).1 = z := ⟨_, rfl⟩
  obtain ⟨E, hE⟩ : ∃ z, (lookW s i).2 = z := ⟨_, rfl⟩
  have HL : Hid (pkOf (lookW s i).1 = P ∧ (lookW s i).2 = E) := ⟨hP, hE⟩
  clear h ok ht hK b1 hR hP hE
  go_enter Tryz.func14, Tryz.ntmps14
  go_wp2_with fail
  try rw [fold]
  refine hL.mono ?_
  rintro e w2 ⟨he, b2⟩
  rw [HL.out.1, HL.out.2] at he
  subst he
  have H2 : Hid (w2.heap[w.heap.size]? = some (.cells (pcells nilP).toArray 35 (0, 0)) ∧ Below w.heap.size w w2) := ⟨(b2.block _ (Array.getElem?_eq_some_iff.1 HR.out.1).1).trans HR.out.1, keptW HR.out.2 b2⟩
  clear b2 hL
  obtain ⟨V, fV⟩ : ∃ X, w2.alloc (.cells #[.int .i64 0, .int .i64 0, .int .i64 0, .int .u64 0, .int .u16 0, .int .u64 0, .int .i64 0, .int .u64 0, .int .i64 0, .string ⟨#[]⟩, .string ⟨#[]⟩, .string ⟨#[]⟩] 35) = X := ⟨_, rfl⟩
  have xV : V.heap[w2.heap.size]? = some (.cells (pcells nilP).toArray 35 (0, 0)) := by rw [← fV]; exact heap_alloc_new w2 _
  have bV : Below w2.heap.size w2 V := by rw [← fV]; exact box_belowW w2 _
  obtain ⟨w4, f4⟩ : ∃ X, V.setRow w2.heap.size (pcells P).toArray = X := ⟨_, rfl⟩
  have b4 : Below w2.heap.size w2 w4 := by rw [← f4]; exact below_setRow bV (Nat.le_refl _) _
  have x4 : w4.heap[w2.heap.size]? = some (.cells (pcells P).toArray 35 (0, 0)) := by rw [← f4]; exact setRow_heap _ _ _ _ _ _ xV
  have HV : Hid (V.heap[w2.heap.size]? = some (.cells (pcells nilP).toArray 35 (0, 0))) := xV
  have H4 : Hid (w4.heap[w2.heap.size]? = some (.cells (pcells P).toArray 35 (0, 0)) ∧ w4.heap[w.heap.size]? = some (.cells (pcells nilP).toArray 35 (0, 0)) ∧ Below w.heap.size w w4) := ⟨x4, (b4.block _ (Array.getElem?_eq_some_iff.1 H2.out.1).1).trans H2.out.1, keptW H2.out.2 b4⟩
  clear xV bV b4 x4
  have h4 := H0.out.1.kept H4.out.2.2
  have hD := drop_any (i := i) h4 H0.out.2
  clear h4
  go_wp2_with (refine wpList_store_row rfl 35 _ _ rfl w2.heap.size (pcells P).toArray rfl rfl 35 (pcells nilP).toArray HV.out info12 rfl (one12 P) ?_)
  try rw [f4]
  refine hD.mono ?_
  rintro e w5 ⟨rfl, F', h5, m5⟩
  have hlt := H0.out.1.lts
  have hz : w.heap.size < w4.heap.size := (Array.getElem?_eq_some_iff.1 H4.out.2.1).1
  have hz2 : w2.heap.size < w4.heap.size := (Array.getElem?_eq_some_iff.1 H4.out.1).1
  have hz3 : w.heap.size ≤ w2.heap.size := H2.out.2.size
  have n1 : ¬ F w.heap.size := fun hf => by have := hlt _ hf; omega
  have n2 : ¬ F w2.heap.size := fun hf => by have := hlt _ hf; omega
  have H5 : Hid (w5.heap[w2.heap.size]? = some (.cells (pcells P).toArray 35 (0, 0)) ∧ w5.heap[w.heap.size]? = some (.cells (pcells nilP).toArray 35 (0, 0)) ∧ Wt w5 p F' (dropW s i).2 ∧ Moved w w5 F F' ∧ ¬ F' w.heap.size) :=
    ⟨(m5.block _ hz2 n2).trans H4.out.1, (m5.block _ hz n1).trans H4.out.2.1, h5, (Moved.of_below H4.out.2.2).trans m5, fun hf => (m5.sub _ hf).elim n1 (by omega)⟩
  clear h5 m5 hlt hz hz2 hz3 n1 n2 hD
  go_wp2_with (first
    | refine wpList_load_row rfl 35 _ rfl w2.heap.size rfl 35 (pcells P).toArray (0, 0) _ H5.out.1 Tryz.underlying35 rfl info12 ?_
    | refine wpList_store_row rfl 35 _ _ rfl w.heap.size (pcells P).toArray rfl rfl 35 (pcells nilP).toArray H5.out.2.1 info12 rfl (one12 P) ?_)
  refine bodyPost_ret (results_pk_tmp rfl _ _ w.heap.size P rfl (setRow_heap _ _ _ _ _ _ H5.out.2.1)) rfl ?_
  refine ⟨?_, F', H5.out.2.2.1.setRow H5.out.2.2.2.2 _, H5.out.2.2.2.1.setRow (Nat.le_refl _) _⟩
  rw [HL.out.1, HL.out.2]; rfl
theorem twiceW_no {i : Int} (h : s.may i = false) : twiceW s i = (3, s) := by unfold twiceW; rw [if_neg (by rw [h]; simp)]
theorem twiceW_yes {i : Int} (h : s.may i = true) : twiceW s i = addW s (s.at i) := by unfold twiceW; rw [if_pos h]
set_option maxHeartbeats 2000000 in
theorem twice_any {i : Int} (h : Wt w p F s) (ok : s.Ok) : Calls Tryz.prog 20 #[.pointer (some ⟨p, 0, none⟩), .int .i64 i] w (EndP w p F (twiceW s i)) := by
  obtain ⟨v, b, L, hq, hF⟩ := h
  have hC := check_at hq ok i
  obtain ⟨R, hR⟩ : ∃ R, twiceW s i = R := ⟨_, rfl⟩
  rw [hR]
  cases hm : s.may i
  · rw [hm, if_neg (by simp)] at hC
    have HE : Hid (R = (3, s)) := by
      show _ = _
      rw [← hR, twiceW_no hm]
    have HQ : Hid (Wt w p F s) := ⟨_, _, _, hq, hF⟩
    clear hq hF hm hR ok
    go_enter Tryz.func20, Tryz.ntmps20
    go_wp2_with (go_at_call 40; refine hC.mono ?_; rintro e w2 ⟨rfl, rfl⟩)
    go_ret
    rw [HE.out]
    exact EndP.same HQ.out (Below.refl _ _)
  · rw [hm, if_pos rfl] at hC
    obtain ⟨m1, m2⟩ := may_yes hm
    obtain ⟨k, rfl⟩ : ∃ k : Nat, i = (k : Int) := ⟨i.toNat, by omega⟩
    have hk : k < L.length := by rw [hq.len]; omega
    have hA := add_at hq ok hF (Below.refl _ _) L[k] (hq.all _ (List.getElem_mem hk)) (.inl (List.getElem_mem hk))
    rw [← hq.at hk, ← twiceW_yes hm, hR] at hA
    obtain ⟨c0, c1, c2⟩ := hq.cells
    obtain ⟨g, off, c, rfl, d0, d1⟩ := hq.px hk
    have hkl : k < s.l.length := by omega
    have hkl2 : (k : Int) < (s.l.length : Int) := by omega
    generalize L[k] = x at *
    generalize s.l.length = n at *
    clear hq hF hm hR ok hk
    go_enter Tryz.func20, Tryz.ntmps20
    go_wp2_with (go_at_call 40; refine hC.mono ?_; rintro e w2 ⟨rfl, rfl⟩)
    refine hA.mono ?_
    rintro e w3 ⟨rfl, h3⟩
    go_wp2
    go_ret
    exact ⟨rfl, h3⟩
end
end Go.Proofs.YtdbgojmjjkidbaaGreatDoor
