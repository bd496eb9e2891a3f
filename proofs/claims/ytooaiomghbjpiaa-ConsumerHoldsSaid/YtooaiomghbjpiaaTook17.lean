/-
  Took, by its contract.
-/
import Derived.Test.YtooaiomghbjpiaaPush17
namespace Go.Proofs.Ytooaiomghbjpiaa
open Go.RowKit Go.Maps Go.Sort Go.Shelf
set_option maxRecDepth 20000

theorem Dk.keeps {w w' : World} {p : Nat} {F : Nat → Prop} {L : List Se} (h : Dk w p F L) (b : Below w.heap.size w w') : ∃ F', Dk w' p F' L ∧ Moved w w' F F' := ⟨F, h.kept b, Moved.of_below b⟩
theorem drewN_below (w : World) (n : Nat) : Below w.heap.size w (w.drewN n) := ⟨rfl, rfl, rfl, Nat.le_refl _, fun _ _ => rfl⟩
/-- What Took leaves, part by part. -/
theorem took_end {w : World} {p mb : Nat} {v v4 v5 : Value} {X : List Sx} {x : Sx} {t : Int} (hd : DkAt w p mb v X) (ok : LOk (X.map Sx.s)) (hx : x ∈ X) (hE : tookE (X.map Sx.s) x.s.c t = 0) (ht : U64 t) {w3 w4 w5 : World}
    (hT : TAt w3 x.b (t :: x.s.t)) (gr3 : w.grownBy w3 (some x.b)) (hp4 : w4.heap[p]? = some (.cells #[.map (some mb), v4] 60 (0, 0))) (own4 : Own1 w4 w3.heap.size 78 v4 (pcs (cutX X x.p))) (mv4 : Moved w3 w4 (fun k => k = p) (fun k => k = p))
    (hP : Pushed w4 w5 p (.map (some mb)) v4 v5 (cutX X x.p) x.p) : ∃ F', Dk w5 p F' (tookL (X.map Sx.s) x.s.c t) ∧ Moved w w5 (footD p mb v X) F' := by
  obtain ⟨s, hf, hfull, hheld, h0⟩ := tookE_zero hE
  have hsx : s = x.s := by
    obtain ⟨h1, h2⟩ := findC_some hf
    exact ok.unique h1 (List.mem_map.2 ⟨x, hx, rfl⟩) h2
  subst hsx
  have hso := ok.ok x.s (List.mem_map.2 ⟨x, hx, rfl⟩)
  have hn : t ∉ x.s.t := heldB_false hheld x.s (List.mem_map.2 ⟨x, hx, rfl⟩) rfl
  have hk := took_ok ok hf hfull hheld h0 ht
  have hT' : TAt w3 x.b (insU t x.s.t) := hT.permTo (tl_of_up hk.up hk.pos) (insU_perm t x.s.t).symm
  have hd3 := hd.tags hx hT' gr3
  have hX' : LOk ((retag X x (insU t x.s.t)).map Sx.s) := by
    rw [retag_s hd hx _ ok]
    refine ⟨?_, by rw [List.length_map]; exact ok.few, ?_, ?_⟩
    · rw [List.pairwise_map]
      refine ok.diff.imp fun {a b} hab => ?_
      have e1 : ∀ y : Se, (if y.c = x.s.c then { y with t := insU t x.s.t } else y).c = y.c := fun y => by by_cases e : y.c = x.s.c <;> simp [e]
      rw [e1, e1]
      exact hab
    · intro y hy
      obtain ⟨z, hz, rfl⟩ := List.mem_map.1 hy
      by_cases e : z.c = x.s.c
      · rw [if_pos e]
        obtain rfl := ok.unique hz (List.mem_map.2 ⟨x, hx, rfl⟩) e
        exact hk
      · rw [if_neg e]; exact ok.ok z hz
    · rw [List.pairwise_map]
      have hpair := List.pairwise_iff_getElem.1 ok.one
      refine List.pairwise_iff_getElem.2 fun i j hi hj hij hq u hu hu2 => ?_
      have hdif := List.pairwise_iff_getElem.1 ok.diff i j hi hj hij
      have hp0 := hpair i j hi hj hij
      have hmi := List.getElem_mem hi
      have hmj := List.getElem_mem hj
      generalize (X.map Sx.s)[i] = a at *
      generalize (X.map Sx.s)[j] = b at *
      by_cases ea : a.c = x.s.c
      · have eb : b.c ≠ x.s.c := fun e => hdif (ea.trans e.symm)
        rw [if_pos ea] at hq hu
        rw [if_neg eb] at hq hu2
        obtain rfl := ok.unique hmi (List.mem_map.2 ⟨x, hx, rfl⟩) ea
        rcases insU_mem.1 hu with rfl | hu
        · exact heldB_false hheld b hmj hq.symm hu2
        · exact hp0 hq u hu hu2
      · rw [if_neg ea] at hq hu
        by_cases eb : b.c = x.s.c
        · rw [if_pos eb] at hq hu2
          obtain rfl := ok.unique hmj (List.mem_map.2 ⟨x, hx, rfl⟩) eb
          rcases insU_mem.1 hu2 with rfl | hu2
          · exact heldB_false hheld a hmi hq hu
          · exact hp0 hq u hu hu2
        · rw [if_neg eb] at hq hu2
          exact hp0 hq u hu hu2
  have hx' : (⟨tookS x.s t, x.p, x.b⟩ : Sx) ∈ retag X x (insU t x.s.t) := List.mem_map.2 ⟨x, hx, by rw [if_pos rfl]; rfl⟩
  have hperm := cut_perm hd3 hx'
  rw [show (⟨tookS x.s t, x.p, x.b⟩ : Sx).p = x.p from rfl, cutX_retag] at hperm
  have hvf : ∀ k, footD p mb v X k → k < w3.heap.size := fun k hk => Nat.lt_of_lt_of_le (hd.lts k hk) gr3.size
  have hd5 : DkAt w5 p mb v5 (cutX X x.p ++ [⟨tookS x.s t, x.p, x.b⟩]) := by
    refine hd3.turn hX' hperm hP.blk (by rw [pcs_snoc]; exact hP.row) fun k hk hne _ => ?_
    have hk3 := hd3.lts k hk
    have h4 : v4.ownBlock ≠ some k := fun e => by have := (own1_blk own4 e).1; omega
    exact (hP.block k (Nat.lt_of_lt_of_le hk3 mv4.size) hne h4).trans (mv4.block k hk3 hne)
  refine ⟨_, ⟨mb, v5, _, hd5, ?_, rfl⟩, ?_⟩
  · rw [tookL_zero hE hf, List.map_append, cutX_s hd ok hx]
    rfl
  · refine ⟨hP.os.trans (mv4.os.trans gr3.os), hP.tape.trans (mv4.tape.trans gr3.tape), hP.output.trans (mv4.output.trans gr3.output), Nat.le_trans gr3.size (Nat.le_trans mv4.size hP.size), fun k hk hn => ?_, fun k hk => ?_⟩
    · have hkp : k ≠ p := fun e => hn (.inl e)
      have hkb : some k ≠ some x.b := fun e => hn (by injection e with e; exact .inr (.inr (.inr ⟨x, hx, .inr e⟩)))
      have hk3 : k < w3.heap.size := Nat.lt_of_lt_of_le hk gr3.size
      have h4 : v4.ownBlock ≠ some k := fun e => by have := (own1_blk own4 e).1; omega
      exact (hP.block k (Nat.lt_of_lt_of_le hk3 mv4.size) hkp h4).trans ((mv4.block k hk3 hkp).trans (gr3.block k hk hkb))
    · rcases hk with rfl | rfl | hk | ⟨z, hz, hk⟩
      · exact .inl (.inl rfl)
      · exact .inl (.inr (.inl rfl))
      · rcases hP.sub k hk with h | h
        · have := (own1_blk own4 h).1
          have := gr3.size
          exact .inr (by omega)
        · have := gr3.size
          have := mv4.size
          exact .inr (by omega)
      · obtain ⟨y, hy, e1, e2, _⟩ := retag_mem (hperm.mem_iff.1 hz)
        exact .inl (.inr (.inr (.inr ⟨y, hy, by rw [← e1, ← e2]; exact hk⟩)))

set_option maxHeartbeats 2000000 in
theorem took_any (p : Nat) (F : Nat → Prop) (L : List Se) (c t : Int) (w : World) (h : Dk w p F L) (ok : LOk L) (hc : I64 c) (ht : U64 t) :
    Calls Try.prog 20 #[.pointer (some ⟨p, 0, none⟩), .int .i64 c, .int .u64 t] w fun e w' => e = .returned (.int .i64 (tookE L c t)) ∧ ∃ F', Dk w' p F' (tookL L c t) ∧ Moved w w' F F' := by
  have h' := h
  obtain ⟨mb, v, X, hd, rfl, rfl⟩ := h
  have hF := find_at hd ok hc
  have hfs := findX_s X c
  have HK : Hid (∀ w', Below w.heap.size w w' → ∃ F', Dk w' p F' (X.map Sx.s) ∧ Moved w w' (footD p mb v X) F') := fun w' b => h'.keeps b
  cases hf : findX X c with
  | none =>
    rw [hf] at hF hfs
    have e1 : tookE (X.map Sx.s) c t = 3 := by unfold tookE; rw [← hfs]; rfl
    have e2 : tookL (X.map Sx.s) c t = X.map Sx.s := tookL_bad (by rw [e1]; decide)
    rw [e1, e2]
    simp only [Option.map_none, ptrO, Option.isSome_none, Bool.false_eq_true, if_false] at hF
    clear hd hfs hf e1 e2 h'
    go_enter Try.func20, Try.ntmps20
    go_wp2_with (go_at_call 33; refine hF.mono ?_; rintro e w ⟨rfl, rfl⟩)
    go_ret
    exact ⟨rfl, HK.out _ (Below.refl _ _)⟩
  | some x =>
    rw [hf] at hF hfs
    obtain ⟨hx, hxc⟩ := findX_some hf
    have hs := hd.seats x hx
    have hFu := full_at hs (ok.i64 hx).1
    simp only [Option.map_some, ptrO, Option.isSome_some, if_true] at hF hfs
    cases hfl : fullB x.s with
    | true =>
      have e1 : tookE (X.map Sx.s) c t = 5 := by unfold tookE; rw [← hfs]; simp [hfl]
      have e2 : tookL (X.map Sx.s) c t = X.map Sx.s := tookL_bad (by rw [e1]; decide)
      rw [e1, e2]
      rw [hfl] at hFu
      clear hd hfs hf e1 e2 hs h'
      generalize x.p = q at *
      go_enter Try.func20, Try.ntmps20
      go_wp2_with (first | (go_at_call 33; refine hF.mono ?_; rintro e w ⟨rfl, rfl⟩) | (go_at_call 40; refine hFu.mono ?_; rintro e w2 ⟨rfl, n2, rfl⟩))
      go_ret
      exact ⟨rfl, HK.out _ (drewN_below w n2)⟩
    | false =>
      rw [hfl] at hFu
      have HH : Hid (∀ n, (w.drewN n).cell? ⟨x.p, 1, none⟩ = some (.string x.s.q) ∧ Calls Try.prog 41 #[.pointer (some ⟨p, 0, none⟩), .string x.s.q, .int .u64 t] (w.drewN n) fun e w' => e = .returned (.bool (heldB (X.map Sx.s) x.s.q t)) ∧ Below w.heap.size w w') := fun n => ⟨hs.cells.2.1, (holds_any p _ _ x.s.q t (w.drewN n) (h'.kept (drewN_below w n)) ht).mono fun e w' ⟨h1, h2⟩ => ⟨h1, (drewN_below w n).trans h2⟩⟩
      cases hhe : heldB (X.map Sx.s) x.s.q t with
      | true =>
        have e1 : tookE (X.map Sx.s) c t = 4 := by unfold tookE; rw [← hfs]; simp [hfl, hhe]
        have e2 : tookL (X.map Sx.s) c t = X.map Sx.s := tookL_bad (by rw [e1]; decide)
        rw [e1, e2]
        rw [hhe] at HH
        clear hd hfs hf e1 e2 hs h'
        generalize x.p = q at *
        generalize x.s.q = qq at *
        go_enter Try.func20, Try.ntmps20
        go_wp2_with (first | (go_at_call 33; refine hF.mono ?_; rintro e w ⟨rfl, rfl⟩) | (go_at_call 40; refine hFu.mono ?_; rintro e w2 ⟨rfl, n2, rfl⟩; obtain ⟨k1, hHo⟩ := HH.out n2) | (go_at_call 41; refine hHo.mono ?_; rintro e w3 ⟨rfl, b3⟩))
        go_ret
        exact ⟨rfl, HK.out _ b3⟩
      | false =>
        rw [hhe] at HH
        by_cases h0 : t = 0
        · have e1 : tookE (X.map Sx.s) c t = 2 := by unfold tookE; rw [← hfs]; simp only [hfl, hhe]; simp [h0]
          have e2 : tookL (X.map Sx.s) c t = X.map Sx.s := tookL_bad (by rw [e1]; decide)
          rw [e1, e2]
          subst h0
          clear hd hfs hf e1 e2 hs h'
          generalize x.p = q at *
          generalize x.s.q = qq at *
          go_enter Try.func20, Try.ntmps20
          go_wp2_with (first | (go_at_call 33; refine hF.mono ?_; rintro e w ⟨rfl, rfl⟩) | (go_at_call 40; refine hFu.mono ?_; rintro e w2 ⟨rfl, n2, rfl⟩; obtain ⟨k1, hHo⟩ := HH.out n2) | (go_at_call 41; refine hHo.mono ?_; rintro e w3 ⟨rfl, b3⟩))
          go_ret
          exact ⟨rfl, HK.out _ b3⟩
        · have e1 : tookE (X.map Sx.s) c t = 0 := by unfold tookE; rw [← hfs]; simp [hfl, hhe, h0]
          rw [e1]
          have hn : t ∉ x.s.t := heldB_false hhe x.s (List.mem_map.2 ⟨x, hx, rfl⟩) rfl
          have hso := ok.ok x.s (List.mem_map.2 ⟨x, hx, rfl⟩)
          obtain ⟨i0, hi0, hz0, hz1, hz2⟩ := ptrInfo
          -- the tag comes
          have HP : Hid (∀ w3, Below w.heap.size w w3 → w3.cell? ⟨x.p, 3, none⟩ = some (.map (some x.b)) ∧ ∃ w4, (Instr.mapUpdate 85 (.map (some x.b)) (.int .u64 t) (.agg #[])).run Try.prog w3 = .ok () w4 ∧ TAt w4 x.b (t :: x.s.t) ∧ w3.grownBy w4 (some x.b) ∧ Calls Try.prog 42 #[.pointer (some ⟨p, 0, none⟩), .pointer (some ⟨x.p, 0, none⟩)] w4 fun e w' => e = .returned (.tuple #[]) ∧ ∃ v', w'.heap[p]? = some (.cells #[.map (some mb), v'] 60 (0, 0)) ∧ Own1 w' w4.heap.size 78 v' (pcs (cutX X x.p)) ∧ Moved w4 w' (fun k => k = p) (fun k => k = p)) := fun w3 b => by
            have hd3 : DkAt w3 p mb v X := hd.same fun k hk => b.block k (hd.lts k hk)
            have hs3 := hd3.seats x hx
            obtain ⟨w4, r4, t4, g4⟩ := hs3.tags.put (tl_of_up hso.up hso.pos) ht hn (by have := hso.len; have := hso.m2; omega)
            have far : ∀ k, footD p mb v X k → k ≠ x.b → w4.heap[k]? = w3.heap[k]? := fun k hk hne => g4.block k (hd3.lts k hk) (by simpa using hne)
            obtain ⟨n1, n2, n3, n4, n5⟩ := hd3.seat_ne hx
            refine ⟨hs3.cells.2.2.2, w4, r4, t4, g4, leave_any p x.p _ v X w4 ((far p (.inl rfl) n3.symm).trans hd3.blk) (own1_same hd3.row fun g hg' => far g (.inr (.inr (.inl hg'))) ((hd3.row_ne hg').2.2 x hx).2) (fun y hy => ((hd3.seats y hy).sb).same (far _ (.inr (.inr (.inr ⟨y, hy, .inl rfl⟩))) ((hd3.seat_ne hy).2.2.2.2 x hx))) (hs3.sb.same (far _ (.inr (.inr (.inr ⟨x, hx, .inl rfl⟩))) (n5 x hx))) (by have := ok.few; rw [List.length_map] at this; omega)⟩
          have HE : Hid (∀ w3 w4 w5 w6 v4 v5, Below w.heap.size w w3 → TAt w4 x.b (t :: x.s.t) → w3.grownBy w4 (some x.b) → w5.heap[p]? = some (.cells #[.map (some mb), v4] 60 (0, 0)) → Own1 w5 w4.heap.size 78 v4 (pcs (cutX X x.p)) → Moved w4 w5 (fun k => k = p) (fun k => k = p) → Pushed w5 w6 p (.map (some mb)) v4 v5 (cutX X x.p) x.p → ∃ F', Dk w6 p F' (tookL (X.map Sx.s) c t) ∧ Moved w w6 (footD p mb v X) F') := fun w3 w4 w5 w6 v4 v5 b hT g hp5 own5 mv5 hP => by
            have hd3 : DkAt w3 p mb v X := hd.same fun k hk => b.block k (hd.lts k hk)
            obtain ⟨F', h1, h2⟩ := took_end hd3 ok hx (by rw [hxc]; exact e1) ht hT g hp5 own5 mv5 hP
            rw [hxc] at h1
            exact ⟨F', h1, (Moved.of_below b).trans h2⟩
          have HL : Hid (X.length ≤ 32) := by have := ok.few; rwa [List.length_map] at this
          have t0 : (t == 0) = false := by simpa using h0
          have HCL : Hid ((cutX X x.p).length ≤ 32) := Nat.le_trans (List.length_filter_le _ _) HL.out
          clear hd hfs hf e1 hs h' hn hso
          generalize tookL (X.map Sx.s) c t = LL at *
          generalize cutX X x.p = Y at *
          generalize x.p = q at *
          generalize x.s.q = qq at *
          generalize x.b = qb at *
          go_enter Try.func20, Try.ntmps20
          go_wp2_with (first | (go_at_call 33; refine hF.mono ?_; rintro e w ⟨rfl, rfl⟩) | (go_at_call 40; refine hFu.mono ?_; rintro e w2 ⟨rfl, n2, rfl⟩; obtain ⟨k1, hHo⟩ := HH.out n2) | (go_at_call 41; refine hHo.mono ?_; rintro e w3 ⟨rfl, b3⟩; obtain ⟨k3, w4, r4, t4, g4, hLe⟩ := HP.out w3 b3; have HB3 : Hid (Below w.heap.size w w3 ∧ TAt w4 qb (t :: x.s.t) ∧ w3.grownBy w4 (some qb)) := ⟨b3, t4, g4⟩; clear t4 g4 b3))
          go_wp2_with fail
          refine hLe.mono ?_
          rintro e w5 ⟨rfl, v4, hp5, own5, mv5⟩
          have hrow : Own1 w5 0 78 v4 (pcs Y) := own1_lower own5 (Nat.zero_le _)
          have HL5 : Hid (w5.heap[p]? = some (.cells #[.map (some mb), v4] 60 (0, 0)) ∧ Own1 w5 w4.heap.size 78 v4 (pcs Y) ∧ Moved w4 w5 (fun k => k = p) (fun k => k = p) ∧ Own1 w5 0 78 v4 (pcs Y)) := ⟨hp5, own5, mv5, hrow⟩
          have c15 : w5.cell? ⟨p, 1, none⟩ = some v4 := by simp [World.cell?, hp5]
          obtain ⟨a4, cp4, hv4⟩ := own1_slice hrow
          have HN : Hid ((pcs Y).length ≤ 32) := by show (pcs Y).length ≤ 32; rw [pcs_length]; exact HCL.out
          have hal := hrow.alloc (.cells #[.pointer (some ⟨q, 0, none⟩)] 78)
          generalize (pcs Y).length = nY at hv4 hal HN
          subst hv4
          clear hLe r4 hHo hF hFu k1 k3 hp5 own5 mv5 hrow
          go_wp2_with (at_builtin; refine wpList_append_own_at _ rfl _ _ 58 rfl 0 78 i0 (.pointer none) 1 8 Try.underlying58 hi0 hz0 hz1 hz2 rfl (by decide) _ _ (pcs Y) rfl hal ⟨w5.heap.size, 0, none⟩ 1 1 [.pointer (some ⟨q, 0, none⟩)] rfl rfl (cell_one_new _ _ _) (by simp [Value.oneCell']) (by have := HN.out; unfold maxLen; omega) (by have := HN.out; omega) (Nat.zero_le _) ?_; intro v5 w6 own6 gr6 _ at6; obtain ⟨y1, y2⟩ := push_cell HL5.out.1 HL5.out.2.2.2 gr6; obtain ⟨a5, cp5, hv5⟩ : ∃ a c, v5 = .slice a (nY + 1) c := (by rcases own6.2 with ⟨_, hh⟩ | ⟨g, cap, _, hh, _⟩; (exact absurd hh (by omega)); (exact ⟨_, _, hh⟩)); subst hv5; have HG : Hid (w6.ownsRow 0 78 1 (.slice a5 (nY + 1) cp5) (nY + 1) (pcs Y ++ [.pointer (some ⟨q, 0, none⟩)]) ∧ (w5.alloc (.cells #[.pointer (some ⟨q, 0, none⟩)] 78)).grownBy w6 (Value.slice a4 nY cp4).ownBlock ∧ _) := ⟨own6, gr6, at6⟩; clear own6 gr6 at6 hal)
          go_ret
          refine ⟨rfl, HE.out w3 w4 w5 _ _ _ HB3.out.1 HB3.out.2.1 HB3.out.2.2 HL5.out.1 HL5.out.2.1 HL5.out.2.2.1 (pushed HL5.out.1 HL5.out.2.2.2 ?_ HG.out.2.1 HG.out.2.2)⟩
          have hlen : (pcs Y).length = nY := by have := HL5.out.2.2.2.1; simpa using HG.out.1.1
          rw [hlen]
          exact HG.out.1
end Go.Proofs.Ytooaiomghbjpiaa
