/-
  Add, by its contract.
-/
import Derived.Test.YtooaiomghbjpiaaTook17
namespace Go.Proofs.Ytooaiomghbjpiaa
open Go.RowKit Go.Maps Go.Sort Go.Shelf
set_option maxRecDepth 20000

/-- The world with a new seat in it, that nobody points to yet. -/
def seated (w : World) (c : Int) (q : ByteArray) (m : Int) : World := (w.alloc (.map #[] 0)).alloc (.cells #[.int .i64 c, .string q, .int .i64 m, .map (some w.heap.size)] 87)
theorem seated_below (w : World) (c m : Int) (q : ByteArray) : Below w.heap.size w (seated w c q m) := ((Below.refl _ w).alloc (Nat.le_refl _) _).alloc (by simp) _
theorem seated_size (w : World) (c m : Int) (q : ByteArray) : (seated w c q m).heap.size = w.heap.size + 2 := by simp [seated]
theorem seated_at (w : World) (c m : Int) (q : ByteArray) : SeAt (seated w c q m) ⟨⟨c, q, m, []⟩, w.heap.size + 1, w.heap.size⟩ := by
  refine ⟨?_, ?_⟩
  · have := heap_alloc_new (w.alloc (.map #[] 0)) (.cells #[.int .i64 c, .string q, .int .i64 m, .map (some w.heap.size)] 87)
    rw [World.size_alloc] at this
    exact this
  · exact (tAt_new w).same (Below.heap_alloc _ _ _ (by simp))
theorem add_end {w : World} {p mb : Nat} {v v5 : Value} {X : List Sx} {c m : Int} {q : ByteArray} (hd : DkAt w p mb v X) (ok : LOk (X.map Sx.s)) (hE : addE (X.map Sx.s) c q m = 0) {w3 w5 : World}
    (hC : CAt w3 mb ((c, w.heap.size + 1) :: ccs X)) (gr3 : (seated w c q m).grownBy w3 (some mb)) (hP : Pushed w3 w5 p (.map (some mb)) v v5 X (w.heap.size + 1)) : ∃ F', Dk w5 p F' (addL (X.map Sx.s) c q m) ∧ Moved w w5 (footD p mb v X) F' := by
  have hok' := ok.add c m q
  have hL : addL (X.map Sx.s) c q m = X.map Sx.s ++ [⟨c, q, m, []⟩] := by unfold addL; rw [if_pos hE]
  have hs0 := seated_size w c m q
  have hmp := hd.m_ne
  have hml := hd.mp.lt
  have hpl : p < w.heap.size := hd.lts p (.inl rfl)
  -- what lay in w, but the map
  have old3 : ∀ k, k < w.heap.size → k ≠ mb → w3.heap[k]? = w.heap[k]? := fun k hk hne => (gr3.block k (by rw [hs0]; omega) (by simpa using hne)).trans ((seated_below w c m q).block k hk)
  have hv3 : ∀ k, v.ownBlock = some k → k < w.heap.size := fun k hk => hd.lts k (.inr (.inr (.inl hk)))
  have new5 : ∀ k, w.heap.size ≤ k → k < w.heap.size + 2 → w5.heap[k]? = (seated w c q m).heap[k]? := fun k h1 h2 => (hP.block k (by have := gr3.size; omega) (by omega) (fun e => by have := hv3 k e; omega)).trans (gr3.block k (by omega) (by simp; omega))
  have hnew := seated_at w c m q
  have hne5 : SeAt w5 ⟨⟨c, q, m, []⟩, w.heap.size + 1, w.heap.size⟩ := hnew.same (new5 _ (by show w.heap.size ≤ w.heap.size + 1; omega) (by show w.heap.size + 1 < _; omega)) (new5 _ (Nat.le_refl _) (by show w.heap.size < _; omega))
  have hvm : v.ownBlock ≠ some mb := fun e => (hd.row_ne e).2.1 rfl
  have hC5 : CAt w5 mb ((c, w.heap.size + 1) :: ccs X) := hC.same (hP.block mb (by have := gr3.size; omega) hmp hvm)
  have hcl : CL (ccs (X ++ [⟨⟨c, q, m, []⟩, w.heap.size + 1, w.heap.size⟩])) := by
    apply ccs_cl
    rw [List.map_append]
    show LOk (X.map Sx.s ++ [⟨c, q, m, []⟩])
    rw [← hL]
    exact hok'
  have hperm : ((c, w.heap.size + 1) :: ccs X).Perm (ccs (X ++ [⟨⟨c, q, m, []⟩, w.heap.size + 1, w.heap.size⟩])) := by
    unfold ccs
    rw [List.map_append]
    exact (List.perm_append_singleton _ _).symm
  have hd5 : DkAt w5 p mb v5 (X ++ [⟨⟨c, q, m, []⟩, w.heap.size + 1, w.heap.size⟩]) := by
    refine ⟨hP.blk, hC5.permTo hcl hperm, by rw [pcs_snoc]; exact hP.row, fun y hy => ?_, ?_, fun y hy => ?_⟩
    · rcases List.mem_append.1 hy with hy | hy
      · have n := hd.seat_ne hy
        have l := (hd.seats y hy).lts
        refine (hd.seats y hy).same ?_ ?_
        · exact (hP.block _ (by have := gr3.size; omega) n.1 (fun e => ((hd.row_ne e).2.2 y hy).1 rfl)).trans (old3 _ l.1 n.2.1)
        · exact (hP.block _ (by have := gr3.size; omega) n.2.2.1 (fun e => ((hd.row_ne e).2.2 y hy).2 rfl)).trans (old3 _ l.2 n.2.2.2.1)
      · rw [List.mem_singleton.1 hy]; exact hne5
    · rw [List.pairwise_append]
      refine ⟨hd.ap, List.pairwise_singleton _ _, fun a ha b hb => ?_⟩
      rw [List.mem_singleton.1 hb]
      have l := (hd.seats a ha).lts
      exact ⟨by show a.p ≠ w.heap.size + 1; omega, by show a.b ≠ w.heap.size; omega⟩
    · rcases List.mem_append.1 hy with hy | hy
      · exact hd.nm y hy
      · rw [List.mem_singleton.1 hy]; show w.heap.size ≠ mb; omega
  refine ⟨_, ⟨mb, v5, _, hd5, ?_, rfl⟩, ?_⟩
  · rw [hL, List.map_append]; rfl
  · have sb := seated_below w c m q
    refine ⟨hP.os.trans (gr3.os.trans sb.os), hP.tape.trans (gr3.tape.trans sb.tape), hP.output.trans (gr3.output.trans sb.output), by have := hP.size; have := gr3.size; omega, fun k hk hn => ?_, fun k hk => ?_⟩
    · exact (hP.block k (by have := gr3.size; omega) (fun e => hn (.inl e)) (fun e => hn (.inr (.inr (.inl e))))).trans (old3 k hk (fun e => hn (.inr (.inl e))))
    · rcases hk with rfl | rfl | hk | ⟨z, hz, hk⟩
      · exact .inl (.inl rfl)
      · exact .inl (.inr (.inl rfl))
      · rcases hP.sub k hk with h | h
        · exact .inl (.inr (.inr (.inl h)))
        · exact .inr (by have := gr3.size; omega)
      · rcases List.mem_append.1 hz with hz | hz
        · exact .inl (.inr (.inr (.inr ⟨z, hz, hk⟩)))
        · rw [List.mem_singleton.1 hz] at hk
          rcases hk with rfl | rfl
          · exact .inr (by show w.heap.size ≤ w.heap.size + 1; omega)
          · exact .inr (Nat.le_refl _)
theorem mayS_eq (c m : Int) (q : ByteArray) : mayS c q m = (decide (1 ≤ c ∧ c ≤ 1000) && nameB (txt q) && decide (1 ≤ m ∧ m ≤ 100)) := rfl

set_option maxHeartbeats 2000000 in
theorem add_any (p : Nat) (F : Nat → Prop) (L : List Se) (c : Int) (q : ByteArray) (m : Int) (w : World) (h : Dk w p F L) (ok : LOk L) (hc : I64 c) (hq : q.size ≤ maxLen) :
    Calls Try.prog 18 #[.pointer (some ⟨p, 0, none⟩), .int .i64 c, .string q, .int .i64 m] w fun e w' => e = .returned (.int .i64 (addE L c q m)) ∧ ∃ F', Dk w' p F' (addL L c q m) ∧ Moved w w' F F' := by
  have h' := h
  obtain ⟨mb, v, X, hd, rfl, rfl⟩ := h
  have hM := made_at hd
  have hU1 := upTo_any c 1000 w
  have hU2 : ∀ w2, Calls Try.prog 36 #[.int .i64 m, .int .i64 100] w2 fun e w' => e = .returned (.bool (decide (1 ≤ m ∧ m ≤ 100))) ∧ w' = w2 := fun w2 => upTo_any m 100 w2
  have hN := name_any q w hq
  have HK : Hid (∀ w', Below w.heap.size w w' → ∃ F', Dk w' p F' (X.map Sx.s) ∧ Moved w w' (footD p mb v X) F') := fun w' b => h'.keeps b
  have hme := mayS_eq c m q
  have HX : Hid (∀ w2, Below w.heap.size w w2 → w2.cell? ⟨p, 0, none⟩ = some (.map (some mb)) ∧ (Instr.lookup 57 (.map (some mb)) (.int .i64 c) false).run Try.prog w2 = .ok (ptrO ((findX X c).map Sx.p)) w2 ∧ ∀ ty, (Builtin.len_ #[57] ty #[.map (some mb)]).run Try.prog w2 = .ok (.int .i64 (X.length : Nat)) w2) := fun w2 b => by
    have hd2 : DkAt w2 p mb v X := hd.same fun k hk => b.block k (hd.lts k hk)
    have hl := hd2.mp.look (ccs_cl ok) hc
    rw [findX_p] at hl
    refine ⟨hd2.cells.1, hl, fun ty => ?_⟩
    have := hd2.mp.len ty
    rwa [show (ccs X).length = X.length by simp [ccs]] at this
  generalize hb1 : decide (1 ≤ c ∧ c ≤ 1000) = b1 at hU1 hme
  generalize hb2 : nameB (txt q) = b2 at hN hme
  generalize hb3 : decide (1 ≤ m ∧ m ≤ 100) = b3 at hU2 hme
  cases hmay : mayS c q m with
  | false =>
    have e1 : addE (X.map Sx.s) c q m = 2 := by unfold addE; rw [hmay]; rfl
    have e2 : addL (X.map Sx.s) c q m = X.map Sx.s := by unfold addL; rw [if_neg (by rw [e1]; decide)]
    rw [e1, e2]
    rw [hmay] at hme
    clear hd h' e1 e2 HX hb1 hb2 hb3 hmay
    cases b1
    · clear hme
      go_enter Try.func18, Try.ntmps18
      go_wp2_with (first | (go_at_call 30; refine hM.mono ?_; rintro e w ⟨rfl, rfl⟩) | (go_at_call 36; refine hU1.mono ?_; rintro e w ⟨rfl, rfl⟩))
      go_ret
      exact ⟨rfl, HK.out _ (Below.refl _ _)⟩
    · cases b2
      · clear hme
        go_enter Try.func18, Try.ntmps18
        go_wp2_with (first | (go_at_call 30; refine hM.mono ?_; rintro e w ⟨rfl, rfl⟩) | (go_at_call 36; refine hU1.mono ?_; rintro e w ⟨rfl, rfl⟩) | (go_at_call 37; refine hN.mono ?_; rintro e w2 ⟨rfl, bN⟩))
        go_ret
        exact ⟨rfl, HK.out _ bN⟩
      · cases b3
        · clear hme
          go_enter Try.func18, Try.ntmps18
          go_wp2_with fail
          refine hM.mono ?_
          rintro e w ⟨rfl, rfl⟩
          go_wp2_with fail
          refine hU1.mono ?_
          rintro e w ⟨rfl, rfl⟩
          go_wp2_with fail
          refine hN.mono ?_
          rintro e w2 ⟨rfl, bN⟩
          go_wp2_with fail
          refine (hU2 w2).mono ?_
          rintro e w2 ⟨rfl, rfl⟩
          go_wp2
          go_ret
          exact ⟨rfl, HK.out _ bN⟩
        · cases hme
  | true =>
    obtain ⟨rfl, rfl, rfl⟩ : b1 = true ∧ b2 = true ∧ b3 = true := by
      rw [hmay] at hme
      revert hme
      cases b1 <;> cases b2 <;> cases b3 <;> simp
    have hfs := findX_s X c
    cases hf : findX X c with
    | some x =>
      have e1 : addE (X.map Sx.s) c q m = 4 := by unfold addE; rw [hmay, ← hfs, hf]; rfl
      have e2 : addL (X.map Sx.s) c q m = X.map Sx.s := by unfold addL; rw [if_neg (by rw [e1]; decide)]
      rw [e1, e2]
      rw [hf] at HX
      simp only [Option.map_some, ptrO] at HX
      clear hd h' e1 e2 hb1 hb2 hb3 hmay hme hfs hf
      generalize x.p = qx at *
      go_enter Try.func18, Try.ntmps18
      go_wp2_with fail
      refine hM.mono ?_
      rintro e w ⟨rfl, rfl⟩
      go_wp2_with fail
      refine hU1.mono ?_
      rintro e w ⟨rfl, rfl⟩
      go_wp2_with fail
      refine hN.mono ?_
      rintro e w2 ⟨rfl, bN⟩
      go_wp2_with fail
      refine (hU2 w2).mono ?_
      rintro e w2 ⟨rfl, rfl⟩
      obtain ⟨k0, k1, k2⟩ := HX.out w2 bN
      go_wp2
      go_ret
      exact ⟨rfl, HK.out _ bN⟩
    | none =>
      rw [hf] at HX
      simp only [Option.map_none, ptrO] at HX
      by_cases hlen : 32 ≤ X.length
      · have e1 : addE (X.map Sx.s) c q m = 5 := by unfold addE; rw [hmay, ← hfs, hf]; simp [hlen]
        have e2 : addL (X.map Sx.s) c q m = X.map Sx.s := by unfold addL; rw [if_neg (by rw [e1]; decide)]
        rw [e1, e2]
        have hl32 : (32 : Int) ≤ (X.length : Int) := by omega
        clear hd h' e1 e2 hb1 hb2 hb3 hmay hme hfs hf
        generalize X.length = n at *
        go_enter Try.func18, Try.ntmps18
        go_wp2_with fail
        refine hM.mono ?_
        rintro e w ⟨rfl, rfl⟩
        go_wp2_with fail
        refine hU1.mono ?_
        rintro e w ⟨rfl, rfl⟩
        go_wp2_with fail
        refine hN.mono ?_
        rintro e w2 ⟨rfl, bN⟩
        go_wp2_with fail
        refine (hU2 w2).mono ?_
        rintro e w2 ⟨rfl, rfl⟩
        obtain ⟨k0, k1, k2⟩ := HX.out w2 bN
        go_wp2
        go_ret
        exact ⟨rfl, HK.out _ bN⟩
      · have e1 : addE (X.map Sx.s) c q m = 0 := by unfold addE; rw [hmay, ← hfs, hf]; simp [hlen]
        rw [e1]
        have hl32 : ¬ (32 : Int) ≤ (X.length : Int) := by omega
        obtain ⟨i0, hi0, hz0, hz1, hz2⟩ := ptrInfo
        have hno : ∀ y ∈ ccs X, y.1 ≠ c := fun y hy => by
          obtain ⟨z, hz, rfl⟩ := List.mem_map.1 hy
          exact findX_none hf z hz
        have HP : Hid (∀ w2, Below w.heap.size w w2 → (seated w2 c q m).cell? ⟨p, 0, none⟩ = some (.map (some mb)) ∧ ∃ w3, (Instr.mapUpdate 57 (.map (some mb)) (.int .i64 c) (.pointer (some ⟨w2.heap.size + 1, 0, none⟩))).run Try.prog (seated w2 c q m) = .ok () w3 ∧ CAt w3 mb ((c, w2.heap.size + 1) :: ccs X) ∧ (seated w2 c q m).grownBy w3 (some mb) ∧ w3.heap[p]? = some (.cells #[.map (some mb), v] 60 (0, 0)) ∧ Own1 w3 0 78 v (pcs X)) := fun w2 b => by
          have hd2 : DkAt w2 p mb v X := hd.same fun k hk => b.block k (hd.lts k hk)
          have sb := seated_below w2 c m q
          have hd3 : DkAt (seated w2 c q m) p mb v X := hd2.same fun k hk => sb.block k (hd2.lts k hk)
          obtain ⟨w3, r3, c3, g3⟩ := hd3.mp.put (ccs_cl ok) hc (w2.heap.size + 1) hno (by simp [ccs]; omega)
          refine ⟨hd3.cells.1, w3, r3, c3, g3, (g3.block p (hd3.lts p (.inl rfl)) (by simpa using hd3.m_ne.symm)).trans hd3.blk, own1_same hd3.row fun g hg => g3.block g (hd3.lts g (.inr (.inr (.inl hg)))) (by simpa using (hd3.row_ne hg).2.1)⟩
        have HE : Hid (∀ w2 w3 w5 v5, Below w.heap.size w w2 → CAt w3 mb ((c, w2.heap.size + 1) :: ccs X) → (seated w2 c q m).grownBy w3 (some mb) → Pushed w3 w5 p (.map (some mb)) v v5 X (w2.heap.size + 1) → ∃ F', Dk w5 p F' (addL (X.map Sx.s) c q m) ∧ Moved w w5 (footD p mb v X) F') := fun w2 w3 w5 v5 b h1 h2 h3 => by
          have hd2 : DkAt w2 p mb v X := hd.same fun k hk => b.block k (hd.lts k hk)
          obtain ⟨F', h4, h5⟩ := add_end hd2 ok e1 h1 h2 h3
          exact ⟨F', h4, (Moved.of_below b).trans h5⟩
        have hmm := @run_makeMap Try.prog
        have HN : Hid ((pcs X).length ≤ 32) := by show (pcs X).length ≤ 32; rw [pcs_length]; omega
        have HLn : Hid ((pcs X).length = X.length) := pcs_length X
        clear hd h' hb1 hb2 hb3 hmay hme hfs hf hno e1 hlen
        generalize addL (X.map Sx.s) c q m = LL at *
        go_enter Try.func18, Try.ntmps18
        go_wp2_with fail
        refine hM.mono ?_
        rintro e w ⟨rfl, rfl⟩
        go_wp2_with fail
        refine hU1.mono ?_
        rintro e w ⟨rfl, rfl⟩
        go_wp2_with fail
        refine hN.mono ?_
        rintro e w2 ⟨rfl, bN⟩
        go_wp2_with fail
        refine (hU2 w2).mono ?_
        rintro e w2 ⟨rfl, rfl⟩
        obtain ⟨k0, k1, k2⟩ := HX.out w2 bN
        obtain ⟨k3, w3, r3, c3, g3, hp3, row3⟩ := HP.out w2 bN
        unfold seated at k3 r3
        obtain ⟨W, fold⟩ : ∃ W, (w2.alloc (.map #[] 0)).alloc (.cells #[.int .i64 c, .string q, .int .i64 m, .map (some w2.heap.size)] 87) = W := ⟨_, rfl⟩
        have HS : Hid (CAt w3 mb ((c, w2.heap.size + 1) :: ccs X) ∧ (seated w2 c q m).grownBy w3 (some mb) ∧ w3.heap[p]? = some (.cells #[.map (some mb), v] 60 (0, 0)) ∧ Own1 w3 0 78 v (pcs X) ∧ Below w.heap.size w w2) := ⟨c3, g3, hp3, row3, bN⟩
        have c13 : w3.cell? ⟨p, 1, none⟩ = some v := by simp [World.cell?, hp3]
        rw [fold] at k3 r3
        obtain ⟨a4, cp4, hv4⟩ := own1_slice row3
        have hal := row3.alloc (.cells #[.pointer (some ⟨w2.heap.size + 1, 0, none⟩)] 78)
        rw [hv4] at c13
        generalize (pcs X).length = nY at hv4 hal HN c13
        generalize X.length = n at *
        clear g3 hp3 row3 bN c3 hM hU1 hN hU2
        subst hv4
        go_wp2_with (at_builtin; refine wpList_append_own_at _ rfl _ _ 58 rfl 0 78 i0 (.pointer none) 1 8 Try.underlying58 hi0 hz0 hz1 hz2 rfl (by decide) _ _ (pcs X) rfl hal ⟨w3.heap.size, 0, none⟩ 1 1 [.pointer (some ⟨w2.heap.size + 1, 0, none⟩)] rfl rfl (cell_one_new _ _ _) (by simp [Value.oneCell']) (by have := HN.out; unfold maxLen; omega) (by have := HN.out; omega) (Nat.zero_le _) ?_; intro v5 w6 own6 gr6 _ at6; obtain ⟨y1, y2⟩ := push_cell HS.out.2.2.1 HS.out.2.2.2.1 gr6; obtain ⟨a5, cp5, hv5⟩ : ∃ a c, v5 = .slice a (nY + 1) c := (by rcases own6.2 with ⟨_, hh⟩ | ⟨g, cap, _, hh, _⟩; (exact absurd hh (by omega)); (exact ⟨_, _, hh⟩)); subst hv5; have HG : Hid (w6.ownsRow 0 78 1 (.slice a5 (nY + 1) cp5) (nY + 1) (pcs X ++ [.pointer (some ⟨w2.heap.size + 1, 0, none⟩)]) ∧ (w3.alloc (.cells #[.pointer (some ⟨w2.heap.size + 1, 0, none⟩)] 78)).grownBy w6 (Value.slice a4 nY cp4).ownBlock ∧ _) := ⟨own6, gr6, at6⟩; clear own6 gr6 at6 hal)
        go_ret
        refine ⟨rfl, HE.out w2 w3 _ _ HS.out.2.2.2.2 HS.out.1 HS.out.2.1 (pushed HS.out.2.2.1 HS.out.2.2.2.1 ?_ HG.out.2.1 HG.out.2.2)⟩
        have hlen : (pcs X).length = nY := by simpa using HG.out.1.1
        rw [hlen]
        exact HG.out.1
end Go.Proofs.Ytooaiomghbjpiaa
