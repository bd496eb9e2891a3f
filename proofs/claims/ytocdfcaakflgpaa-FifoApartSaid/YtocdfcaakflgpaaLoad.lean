/-
  fifo.Load, by its contract.
-/
import Derived.Test.YtocdfcaakflgpaaReset
import Derived.Test.YtocdfcaakflgpaaSwap8
import Derived.Deep.LoopGhost
namespace Go.Proofs.Ytocdfcaakflgpaa
open Go.RowKit Go.Sort Go.Shelf

theorem riseB_all : ∀ {l : List It} {lo n : Nat}, riseB l lo n = true → Rise l ∧ ∀ x ∈ l, lo < x.tag ∧ x.tag < n
  | [], _, _, _ => ⟨List.Pairwise.nil, fun x hx => by cases hx⟩
  | x :: r, lo, n, h => by
    simp only [riseB, Bool.and_eq_true, decide_eq_true_eq] at h
    obtain ⟨h1, h2⟩ := riseB_all h.2
    refine ⟨List.Pairwise.cons (fun y hy => (h2 y hy).1) h1, fun y hy => ?_⟩
    rcases List.mem_cons.1 hy with rfl | hy
    · exact h.1
    · have := h2 y hy; omega
/-- May it be such a queue? -/
structure LoadOk (most : Int) (next : Nat) (r o : List It) : Prop where
  m : 1 ≤ most ∧ most ≤ 1000
  n : 1 ≤ next
  len : (r.length : Int) + (o.length : Int) ≤ most
  rr : riseB r 0 next = true
  ro : riseB o 0 next = true
  ap : ∀ y ∈ o, hasT r y.tag = false
theorem LoadOk.ok {most next : Nat} {r o : List It} (h : LoadOk most next r o) (hn : next < 18446744073709551616) : (St.mk most next r o).Ok := by
  have hm := h.m
  have hl := h.len
  refine ⟨(riseB_all h.rr).1, (riseB_all h.ro).1, fun x hx y hy he => ?_, fun x hx => ((riseB_all h.rr).2 x hx).2, fun x hx => ((riseB_all h.ro).2 x hx).2, ?_, ?_, ?_, hn⟩
  · exact hasT_false.1 (h.ap y hy) x hx he
  · show r.length + o.length ≤ most; omega
  · show most ≤ 1000; omega
  · show 1 ≤ most; omega
/-- In the midst of Load. -/
structure LdAt (w wr : World) (p : Nat) (v : Value) (b : Nat) (s : St) : Prop where
  q : QAt wr p v b s
  bel : Below w.heap.size w wr
  ft : ∀ k, foot p v b k → w.heap.size ≤ k
theorem LdAt.next {w wr wq : World} {p : Nat} {v : Value} {b : Nat} {s : St} (h : LdAt w wr p v b s) (hb : Below wr.heap.size wr wq) : LdAt w wq p v b s :=
  ⟨h.q.after hb, h.bel.trans (hb.mono h.bel.size), h.ft⟩
theorem set_next {w : World} {p : Nat} {v : Value} {b : Nat} {s : St} (h : QAt w p v b s) (n : Nat) : QAt (w.setCell ⟨p, 1, none⟩ (.int .u64 (n : Int))) p v b { s with next := n } := by
  refine ⟨?_, h.rows.same fun g hg => heap_setCell_other _ _ _ _ (fun he => h.ne_row (by rw [hg]; exact congrArg some he)), h.out.same (heap_setCell_other _ _ _ _ (fun he => h.ne_map he))⟩
  have := heap_setCell_same w p 1 _ _ (.int .u64 (n : Int)) h.blk
  simpa using this

theorem load_at {w w4 : World} {p b M nx B : Nat} {v1 v4 : Value} {r : List It} (hq : QAt w4 p v1 b (newS M)) (own : Own8 w4 B v4 r) (hpB : p < B) (hbl : Below w.heap.size w w4) (hp : w.heap.size ≤ p) (hb : w.heap.size ≤ b) :
    LdAt w ((w4.setCell ⟨p, 1, none⟩ (.int .u64 (nx : Int))).setCell ⟨p, 2, none⟩ v4) p v4 b ⟨M, nx, r, []⟩ := by
  have hbp : b ≠ p := fun h => hq.ne_map h
  have ho : ∀ k, k ≠ p → ((w4.setCell ⟨p, 1, none⟩ (.int .u64 (nx : Int))).setCell ⟨p, 2, none⟩ v4).heap[k]? = w4.heap[k]? := fun k hk => by
    rw [heap_setCell_other _ _ _ _ (by show k ≠ p; exact hk), heap_setCell_other _ _ _ _ (by show k ≠ p; exact hk)]
  refine ⟨⟨?_, (own.mono (Nat.zero_le _)).same fun g hg => ho g (by have := (own.lt hg).1; omega), hq.out.same (ho b hbp)⟩, (hbl.setCell (by show w.heap.size ≤ p; exact hp) _).setCell (by show w.heap.size ≤ p; exact hp) _, ?_⟩
  · have h1 := heap_setCell_same w4 p 1 _ _ (.int .u64 (nx : Int)) hq.blk
    have h2 := heap_setCell_same _ p 2 _ _ v4 h1
    simpa [newS] using h2
  · rintro k (rfl | hk | rfl)
    · exact hp
    · have := (own.lt hk).1; omega
    · exact hb
theorem ins_last {o : List It} {k : Nat} (ho : Rise o) (hk : k < o.length) : ins o[k] (o.take k) = o.take (k + 1) ∧ hasT (o.take k) o[k].tag = false := by
  have hlt : ∀ y ∈ o.take k, y.tag < o[k].tag := fun y hy => by
    have := ho
    rw [← List.take_append_drop k o, List.drop_eq_getElem_cons hk, Rise, List.pairwise_append] at this
    exact this.2.2 y hy o[k] List.mem_cons_self
  refine ⟨?_, hasT_false.2 fun y hy => by have := hlt y hy; omega⟩
  have := ins_mid (x := o[k]) (pre := o.take k) (suf := []) hlt (fun y hy => by cases hy)
  rw [List.append_nil] at this
  rw [this, List.take_succ_eq_append_getElem hk]

/-- What Load hands back. -/
def LoadPost (m : Int) (nx : Nat) (r o : List It) (w : World) (e : Ending) (w' : World) : Prop := (LoadOk m nx r o → ∃ p, e = .returned (.tuple #[.pointer (some ⟨p, 0, none⟩), .int .i64 0]) ∧ ∃ F, Q w' p F ⟨m.toNat, nx, r, o⟩ ∧ ∀ k, F k → w.heap.size ≤ k) ∧ (¬ LoadOk m nx r o → e = .returned (.tuple #[.pointer none, .int .i64 7])) ∧ Below w.heap.size w w'
theorem loadPost_no {m : Int} {nx : Nat} {r o : List It} {w w' : World} (h : ¬ LoadOk m nx r o) (b : Below w.heap.size w w') : LoadPost m nx r o w (.returned (.tuple #[.pointer none, .int .i64 7])) w' := ⟨fun h' => absurd h' h, fun _ => rfl, b⟩
theorem loadPost_yes {M nx : Nat} {r o : List It} {w w' : World} {p : Nat} {v : Value} {b : Nat} (h : LoadOk M nx r o) (hl : LdAt w w' p v b ⟨M, nx, r, o⟩) : LoadPost M nx r o w (.returned (.tuple #[.pointer (some ⟨p, 0, none⟩), .int .i64 0])) w' := ⟨fun _ => ⟨p, rfl, _, ⟨v, b, hl.q, fun _ => Iff.rfl⟩, hl.ft⟩, fun h' => absurd h h', hl.bel⟩

set_option maxRecDepth 20000 in
set_option maxHeartbeats 4000000 in
theorem load_any (m : Int) (nx : Nat) (vr vo : Value) (r o : List It) (w : World) (hr : Rows w vr r) (ho : Rows w vo o) (lr : r.length ≤ 1000) (lo : o.length ≤ 1000) (hn : nx < 18446744073709551616) :
    Calls Try.prog 19 #[.int .i64 m, .int .u64 (nx : Int), vr, vo] w fun e w' => LoadPost m nx r o w e w' := by
  obtain ⟨ra, rc, rfl⟩ := hr.slice
  obtain ⟨oa, oc, rfl⟩ := ho.slice
  have HR : Hid (Rows w (.slice ra r.length rc) r) := hr
  have HO : Hid (Rows w (.slice oa o.length oc) o) := ho
  clear hr ho
  by_cases hm : 1 ≤ m ∧ m ≤ 1000
  · obtain ⟨M, rfl⟩ : ∃ M : Nat, m = M := ⟨m.toNat, by omega⟩
    have kN := new_any M w (by omega) (by omega)
    by_cases h1 : 1 ≤ nx
    · have hnx0 : ¬ nx = 0 := by omega
      have hnx : ((nx : Int) == 0) = false := by simp; omega
      have hsum : IntKind.i64.wrap ((r.length : Int) + (o.length : Int)) = (r.length : Int) + (o.length : Int) := by rw [IntKind.wrap_i64]; omega
      by_cases h2 : (r.length : Int) + (o.length : Int) ≤ M
      · have h2' : ¬ (M : Int) < (r.length : Int) + (o.length : Int) := by omega
        have kR : Hid (∀ V, Below w.heap.size w V → Calls Try.prog 39 #[.slice ra r.length rc, .int .u64 (nx : Int)] V fun e w' => e = .returned (.bool (riseB r 0 nx)) ∧ Below V.heap.size V w') := fun V hb => rise_any _ r nx V (HR.out.below hb (Nat.le_refl _)) (by omega)
        have kO : Hid (∀ V, Below w.heap.size w V → Calls Try.prog 39 #[.slice oa o.length oc, .int .u64 (nx : Int)] V fun e w' => e = .returned (.bool (riseB o 0 nx)) ∧ Below V.heap.size V w') := fun V hb => rise_any _ o nx V (HO.out.below hb (Nat.le_refl _)) (by omega)
        have kA : Hid (∀ V, Below w.heap.size w V → Calls Try.prog 30 #[.slice ra r.length rc] V fun e w' => ∃ v', e = .returned v' ∧ Own8 w' V.heap.size v' r ∧ Below V.heap.size V w') := fun V hb => another_any _ r V (HR.out.below hb (Nat.le_refl _)) (by omega)
        cases hrr : riseB r 0 nx
        · have HN : Hid (¬ LoadOk M nx r o) := fun h => by have := h.rr; rw [hrr] at this; cases this
          rw [hrr] at kR
          go_enter Try.func19, Try.ntmps19
          go_wp2_with (first
            | (go_at_call 9; refine kN.mono ?_; rintro e w1 ⟨p, rfl, F1, q1, hF, b1⟩)
            | (go_at_call 39; refine (kR.out _ b1).mono ?_; rintro e w2 ⟨rfl, b2⟩))
          go_ret2
          exact loadPost_no HN.out (b1.trans (b2.mono b1.size))
        · cases hro : riseB o 0 nx
          · have HN : Hid (¬ LoadOk M nx r o) := fun h => by have := h.ro; rw [hro] at this; cases this
            rw [hrr] at kR
            rw [hro] at kO
            go_enter Try.func19, Try.ntmps19
            go_wp2_with (first
              | (go_at_call 9; refine kN.mono ?_; rintro e w1 ⟨p, rfl, F1, q1, hF, b1⟩)
              | (go_at_call 39; refine (kO.out _ b12).mono ?_; rintro e w3 ⟨rfl, b3⟩)
              | (go_at_call 39; refine (kR.out _ b1).mono ?_; rintro e w2 ⟨rfl, b2⟩; have b12 : Below w.heap.size w w2 := b1.trans (b2.mono b1.size)))
            go_ret2
            exact loadPost_no HN.out (b12.trans (b3.mono b12.size))
          · rw [hrr] at kR
            rw [hro] at kO
            have hRo := riseB_all hro
            have hRr := riseB_all hrr
            have HP : Hid ((∀ y ∈ o, hasT r y.tag = false) → LoadOk M nx r o) := fun h => ⟨hm, h1, h2, hrr, hro, h⟩
            go_enter Try.func19, Try.ntmps19
            go_upto_region 7 with (first
              | (go_at_call 9; refine kN.mono ?_; rintro e w1 ⟨p, rfl, F1, q1, hF, b1⟩)
              | (go_at_call 39; refine (kO.out _ b12).mono ?_; rintro e w3 ⟨rfl, b3⟩; have b13 : Below w.heap.size w w3 := b12.trans (b3.mono b12.size); obtain ⟨v1, b, hq1, hF1⟩ := q1; have hq3 := hq1.after ((b2.trans (b3.mono b2.size))); obtain ⟨⟨c0, c1, c2, c3⟩, f0, f1, f2, f3⟩ := cells4 hq3.blk)
              | (go_at_call 39; refine (kR.out _ b1).mono ?_; rintro e w2 ⟨rfl, b2⟩; have b12 : Below w.heap.size w w2 := b1.trans (b2.mono b1.size))
              | (go_at_call 30; refine (kA.out _ b13).mono ?_; rintro e w4 ⟨v4, rfl, own4, b4⟩; have hq4 := hq3.after b4; have HL0 : Hid (LdAt w ((w4.setCell ⟨p, 1, none⟩ (.int .u64 (nx : Int))).setCell ⟨p, 2, none⟩ v4) p v4 b ⟨M, nx, r, []⟩) := load_at hq4 own4 hq3.lt (b13.trans (b4.mono b13.size)) (hF p ((hF1 p).2 (.inl rfl))) (hF b ((hF1 b).2 (.inr (.inr rfl)))); obtain ⟨va, vc, hv4⟩ := own4.rng.slice; subst hv4; clear c0 c1 c2 c3 f0 f1 f2 f3; obtain ⟨⟨c0, c1, c2, c3⟩, f0, f1, f2, f3⟩ := cells4 hq4.blk))
            generalize hw5 : (w4.setCell ⟨p, 1, none⟩ (.int .u64 (nx : Int))).setCell ⟨p, 2, none⟩ (.slice va r.length vc) = w5 at *
            clear hq1 hq3 hq4 own4 b1 b2 b3 b4 b12 b13 c0 c1 c2 c3 f0 f1 f2 f3 hF hF1 kN
            go_wp2
            go_loopg [12, 51] o.length (fun g u12 u51 wr => ∃ k : Nat, u51 = .int .i64 k ∧ k ≤ o.length ∧ g = o.length - k ∧ Hid (LdAt w wr p (.slice va r.length vc) b ⟨M, nx, r, o.take k⟩) ∧ Hid (∀ y ∈ o.take k, hasT r y.tag = false))
            case atStart => exact ⟨0, rfl, Nat.zero_le _, rfl, by simpa using HL0, by simp [Hid]⟩
            case round =>
              obtain ⟨k, rfl, hk, rfl, hL, hap⟩ := hrel
              clear HL0
              by_cases hlt : k < o.length
              · have hlt' : (k : Int) < (o.length : Int) := by omega
                obtain ⟨_, _, hA⟩ := (HO.out.below hL.out.bel (Nat.le_refl _)).items
                obtain ⟨ob, oo, rfl, hi⟩ := hA k hlt
                obtain ⟨i0, i1, i2, i3, i4, i5, i6, i7⟩ := hi
                obtain ⟨hin1, hin2⟩ := ins_last hRo.1 hlt
                have htg := (hRo.2 _ (List.getElem_mem hlt)).2
                have htk : Hid (o.take (k + 1) = o.take k ++ [o[k]]) := List.take_succ_eq_append_getElem hlt
                have hmem : Hid (o[k] ∈ o) := List.getElem_mem hlt
                have kH : Hid (∀ V, Below w.heap.size w V → Calls Try.prog 40 #[.slice ra r.length rc, .int .u64 (o[k].tag : Int)] V fun e w' => e = .returned (.bool (hasT r o[k].tag)) ∧ Below V.heap.size V w') := fun V hb => has_any _ r o[k].tag V (HR.out.below hb (Nat.le_refl _)) hRr.1 (by omega)
                clear hA
                generalize o[k] = x at *
                obtain ⟨X, foldX⟩ : ∃ X, wr.alloc (.cells #[.int .u64 (x.tag : Int), .int .i64 x.m.o, .int .u64 x.m.s, .int .i64 x.m.hop, .string x.m.ex, .string x.m.key, .string x.m.body, .bool x.again] 38) = X := ⟨_, rfl⟩
                have bX : Below wr.heap.size wr X := by rw [← foldX]; exact (Below.refl _ _).alloc (Nat.le_refl _) _
                have iX : ItAt X wr.heap.size 0 x := by rw [← foldX]; exact itAt_new wr x _ rfl
                have HX : Hid (LdAt w X p (.slice va r.length vc) b ⟨M, nx, r, o.take k⟩) := hL.out.next bX
                have HI : Hid (ItAt X wr.heap.size 0 x) := iX
                obtain ⟨y0, y1, y2, y3, y4, y5, y6, y7⟩ := iX
                simp only [Nat.zero_add] at y0 y1 y2 y3 y4 y5 y6 y7
                cases hh : hasT r x.tag
                · rw [hh] at kH
                  have hap2 : Hid (∀ y ∈ o.take (k + 1), hasT r y.tag = false) := fun y hy => by
                    rw [htk.out] at hy
                    rcases List.mem_append.1 hy with hy | hy
                    · exact hap.out y hy
                    · rw [List.mem_singleton.1 hy]; exact hh
                  clear hh hap
                  have hto : (o.take k).length ≤ 1000000 := by simp; omega
                  have HIN : Hid (ins x (o.take k) = o.take (k + 1) ∧ hasT (o.take k) x.tag = false ∧ x.tag < 18446744073709551616 ∧ (o.take k).length ≤ 1000000 ∧ Rise (o.take k)) := ⟨hin1, hin2, by omega, hto, List.Pairwise.sublist (List.take_sublist k o) hRo.1⟩
                  clear hin1 hin2 htg hto htk hmem hL bX
                  go_wp2_with (go_at_call 40; refine (kH.out _ HX.out.bel).mono ?_; rintro e w6 ⟨rfl, b6⟩; have hL6 := HX.out.next b6; have i6' := HI.out.same (b6.block _ (World.block_lt_of_cell? _ _ HI.out.c0)); have out6 : OutAt w6.drew b (o.take k) := hL6.q.out; obtain ⟨w7, hst, out7, gr7⟩ := out6.store HIN.out.2.2.2.2 x HIN.out.2.1 HIN.out.2.2.1 HIN.out.2.2.2.1; rw [HIN.out.1] at out7; obtain ⟨q7, m7⟩ := map_set (w := w6) hL6.q out7 ⟨gr7.os, gr7.tape, gr7.output, gr7.size, gr7.block⟩; have HL7 : Hid (LdAt w w7 p (.slice va r.length vc) b ⟨M, nx, r, o.take (k + 1)⟩) := ⟨q7, m7.below hL6.ft hL6.bel hL6.bel.size, hL6.ft⟩; obtain ⟨⟨c0, c1, c2, c3⟩, f0, f1, f2, f3⟩ := cells4 hL6.q.blk; obtain ⟨z0, z1, z2, z3, z4, z5, z6, z7⟩ := i6'; simp only [Nat.zero_add] at z0 z1 z2 z3 z4 z5 z6 z7; clear hL6 out6 out7 gr7 q7 m7 b6 y0 y1 y2 y3 y4 y5 y6 y7)
                  go_region
                  all_goals go_wp2
                  all_goals go_roundg (o.length - (k + 1))
                  all_goals first | omega | skip
                  all_goals exact ⟨k + 1, by go_num, by omega, rfl, HL7, hap2⟩
                · rw [hh] at kH
                  have HN : Hid (¬ LoadOk M nx r o) := fun h => by have := h.ap x hmem.out; rw [hh] at this; cases this
                  clear hh
                  go_wp2_with (go_at_call 40; refine (kH.out _ HX.out.bel).mono ?_; rintro e w6 ⟨rfl, b6⟩)
                  go_ret2
                  exact loadPost_no HN.out (HX.out.bel.trans (b6.mono HX.out.bel.size))
              · obtain rfl : k = o.length := by omega
                have hLo := HP.out (by have := hap.out; rwa [List.take_length] at this)
                have hLe : LdAt w wr p (.slice va r.length vc) b ⟨M, nx, r, o⟩ := by have := hL.out; rwa [List.take_length] at this
                have HX : Hid _ := loadPost_yes hLo hLe
                clear hLo hLe hL
                go_wp2
                go_ret2
                exact HX.out
      · have h2' : (M : Int) < (r.length : Int) + (o.length : Int) := by omega
        have HN : Hid (¬ LoadOk M nx r o) := fun h => h2 h.len
        go_enter Try.func19, Try.ntmps19
        go_wp2_with (go_at_call 9; refine kN.mono ?_; rintro e w1 ⟨p, rfl, F1, q1, hF, b1⟩)
        go_ret2
        exact loadPost_no HN.out b1
    · have hnx : nx = 0 := by omega
      subst hnx
      have HN : Hid (¬ LoadOk M 0 r o) := fun h => h1 h.n
      go_enter Try.func19, Try.ntmps19
      go_wp2_with (go_at_call 9; refine kN.mono ?_; rintro e w1 ⟨p, rfl, F1, q1, hF, b1⟩)
      go_ret2
      exact loadPost_no HN.out b1
  · have kN := new_none m w hm
    have HN : Hid (¬ LoadOk m nx r o) := fun h => hm h.m
    go_enter Try.func19, Try.ntmps19
    go_wp2_with (go_at_call 9; refine kN.mono ?_; rintro e w1 ⟨rfl, rfl⟩)
    go_ret2
    exact loadPost_no HN.out (Below.refl _ _)
end Go.Proofs.Ytocdfcaakflgpaa
