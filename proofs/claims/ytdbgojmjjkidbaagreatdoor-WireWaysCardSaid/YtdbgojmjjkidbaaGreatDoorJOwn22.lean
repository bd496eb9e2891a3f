/-
  A WIRE AND A ROW OF PACKETS of the call's own, apart.
-/
import Derived.Test.YtdbgojmjjkidbaaGreatDoorJLives22
namespace Go.Proofs.YtdbgojmjjkidbaaGreatDoor
open Go.RowKit Go.Maps Go.Sort K
set_option maxRecDepth 20000

abbrev OwnK (w : World) (base : Nat) (v : Value) (l : List Pk) : Prop := OwnOf pcells 12 35 w base v l
theorem pkInfo : ∃ i, Tryz.prog.info? 35 = some i ∧ i.zero = some (pv nilP) ∧ i.size = 12 ∧ i.bytes = 120 := by
  refine ⟨_, rfl, ?_, ?_, ?_⟩ <;> rfl
/-- A packet in a box. -/
def BxP (g : Nat) (P : Pk) (U : World) : Prop := U.heap[g]? = some (.cells (pcells P).toArray 35 (0, 0))
theorem BxP.go {g : Nat} {P : Pk} {U V : World} (h : BxP g P U) (b : Below U.heap.size U V) : BxP g P V := (b.block _ (Array.getElem?_eq_some_iff.1 h).1).trans h
theorem BxP.moved {g : Nat} {P : Pk} {U V : World} {F F' : Nat → Prop} (h : BxP g P U) (m : Moved U V F F') (hg : ¬ F g) : BxP g P V := (m.block _ (Array.getElem?_eq_some_iff.1 h).1 hg).trans h
theorem BxP.lt {g : Nat} {P : Pk} {U : World} (h : BxP g P U) : g < U.heap.size := (Array.getElem?_eq_some_iff.1 h).1
/-- What is known of a packet that came in. -/
def Fit22 (p : Pk) : Prop := p.Fits ∧ p.m.Sum
/-- A wire and a row, both made since w0, apart. -/
structure Ow (w0 U : World) (p : Nat) (F : Nat → Prop) (v : Value) (I : List Pk) (s : Wr) : Prop where
  lw : Lw w0 U p F s
  own : OwnK U w0.heap.size v I
  ap : ∀ g, v.ownBlock = some g → ¬ F g
section
variable {w0 U V : World} {p : Nat} {F F' : Nat → Prop} {v v' : Value} {I I' : List Pk} {s s' : Wr}
theorem Ow.go (h : Ow w0 U p F v I s) (b : Below U.heap.size U V) : Ow w0 V p F v I s := ⟨h.lw.go b, OwnOf.kept h.own b (Nat.le_refl _), h.ap⟩
theorem Ow.wire (h : Ow w0 U p F v I s) (l : Lw w0 V p F' s') (m : Moved U V F F') : Ow w0 V p F' v I s' :=
  ⟨l, OwnOf.same h.own fun g hg => m.block g (OwnOf.lt h.own hg).2 (h.ap g hg), fun g hg hf => (m.sub g hf).elim (h.ap g hg) (by have := (OwnOf.lt h.own hg).2; omega)⟩
theorem Ow.row (h : Ow w0 U p F v I s) (own : OwnK V w0.heap.size v' I') (gr : U.grownBy V v.ownBlock) (nw : NewOr U v v') : Ow w0 V p F v' I' s := by
  have hF := h.lw.wt.lts
  have hm : Moved U V (fun k => v.ownBlock = some k) (fun k => v.ownBlock = some k) := ⟨gr.os, gr.tape, gr.output, gr.size, fun k hk hn => gr.block k hk (fun e => hn e.symm), fun k hk => .inl hk⟩
  refine ⟨h.lw.beside hm (fun k hk => (OwnOf.lt h.own hk).1) (fun k hk => h.ap k hk), own, fun g hg hf => ?_⟩
  rcases nw with e | ⟨g', e, hg'⟩
  · exact h.ap g (e ▸ hg) hf
  · rw [e] at hg
    injection hg with hg
    have := hF g hf
    omega
end
/-- What lies on a wire where all are right. -/
def pcs (I : List Pk) : List Pc := I.map fun p => (bytesP p, false)
theorem pcs_length (I : List Pk) : (pcs I).length = I.length := by simp [pcs]
theorem send_good {m : Nat} {I : List Pk} {p : Pk} (hl : I.length < m) (hg : goodP p = true) : sendW ⟨m, pcs I, []⟩ p = (0, ⟨m, pcs (I ++ [p]), []⟩) := by
  rw [sendW_add hg (by simp), addW_room (by show ¬ m ≤ (pcs I).length; rw [pcs_length]; omega)]
  simp [pcs]
theorem twice_pcs {m : Nat} {I : List Pk} {i : Nat} (hl : I.length < m) (hi : i < I.length) : twiceW ⟨m, pcs I, []⟩ (i : Int) = (0, ⟨m, pcs (I ++ [I[i]]), []⟩) := by
  have hm : Wr.may ⟨m, pcs I, []⟩ (i : Int) = true := decide_eq_true (by show 0 ≤ (i : Int) ∧ (i : Int) < ((pcs I).length : Int); rw [pcs_length]; omega)
  have ha : Wr.at ⟨m, pcs I, []⟩ (i : Int) = (bytesP I[i], false) := by
    unfold Wr.at
    rw [Int.toNat_natCast, List.getD_eq_getElem?_getD, List.getElem?_eq_getElem (by show i < (pcs I).length; rw [pcs_length]; exact hi)]
    simp [pcs]
  rw [twiceW_yes hm, addW_room (by show ¬ m ≤ (pcs I).length; rw [pcs_length]; omega), ha]
  simp [pcs]
theorem look_pcs {m : Nat} {I : List Pk} {p : Pk} (hg : goodP p = true) (hf : p.Fits) : lookW ⟨m, pcs (p :: I), []⟩ 0 = (some p, 0) := by
  have hm : Wr.may ⟨m, pcs (p :: I), []⟩ 0 = true := decide_eq_true (by show (0 : Int) ≤ 0 ∧ (0 : Int) < ((pcs (p :: I)).length : Int); rw [pcs_length, List.length_cons]; omega)
  rw [lookW_yes hm]
  show (readP (bytesP p), errOf (readP (bytesP p))) = _
  rw [readP_back p hg hf]
  rfl
theorem drop_pcs {m : Nat} {I : List Pk} {p : Pk} : dropW ⟨m, pcs (p :: I), []⟩ 0 = (0, ⟨m, pcs I, []⟩) := by
  have hm : Wr.may ⟨m, pcs (p :: I), []⟩ 0 = true := decide_eq_true (by show (0 : Int) ≤ 0 ∧ (0 : Int) < ((pcs (p :: I)).length : Int); rw [pcs_length, List.length_cons]; omega)
  rw [dropW_yes hm]
  rfl
theorem look_nil {m : Nat} : lookW ⟨m, [], []⟩ 0 = (none, 3) := lookW_no rfl
theorem drop_nil {m : Nat} : dropW ⟨m, [], []⟩ 0 = (3, ⟨m, [], []⟩) := dropW_no rfl
/-- What '!=' of packets answers. -/
theorem run_neqP (p q : Pk) (w : World) : (binOp .neq 35 (pv p) (pv q)).run Tryz.prog w = .ok (.bool (!decide (p = q))) w := by
  have h := run_eqP p q w
  simp only [binOp] at h ⊢
  simp only [Sem.run_bind] at h ⊢
  cases e : (Op.equal 35 (pv p) (pv q)).run Tryz.prog w <;> rw [e] at h <;> simp_all
end Go.Proofs.YtdbgojmjjkidbaaGreatDoor

/-
  THE WALK of WireRows.
-/
namespace Go.Proofs.YtdbgojmjjkidbaaGreatDoor
open Go.RowKit Go.Maps Go.Sort K
set_option maxRecDepth 20000

/-- What came in and may go: those of the first i that are right. -/
def goodsL (z : List Pk) (i : Nat) : List Pk := (z.take i).filter goodP
theorem goods_next {z : List Pk} {i : Nat} (hi : i < z.length) : goodsL z (i + 1) = if goodP z[i] = true then goodsL z i ++ [z[i]] else goodsL z i := by
  unfold goodsL
  rw [List.take_succ_eq_append_getElem hi, List.filter_append]
  cases h : goodP z[i] <;> simp [h]
theorem goods_len (z : List Pk) (i : Nat) : (goodsL z i).length ≤ i := by
  unfold goodsL
  exact Nat.le_trans (List.length_filter_le _ _) (by rw [List.length_take]; omega)
/-- All are right, and of numbers that fit. -/
def AllG (I : List Pk) : Prop := ∀ p ∈ I, goodP p = true ∧ p.Fits
theorem goods_all {z : List Pk} {i : Nat} (h : ∀ p ∈ z, p.Fits) : AllG (goodsL z i) := fun p hp => by
  have h1 := List.mem_filter.1 hp
  exact ⟨h1.2, h p (List.mem_of_mem_take h1.1)⟩
theorem AllG.more {I : List Pk} (h : AllG I) {i : Nat} (hi : i < I.length) : AllG (I ++ [I[i]]) := fun p hp => by
  rcases List.mem_append.1 hp with hp | hp
  · exact h p hp
  · rw [List.mem_singleton.1 hp]; exact h _ (List.getElem_mem hi)
set_option maxHeartbeats 16000000 in
theorem rows_law (v0 v1 : Value) (z0 : List Pk) (z1 : List Nat) (w : World) (ht : Tbs w) (h0 : RowOf pcells w v0 z0) (b0 : ∀ a ∈ z0, Fit22 a) (h1 : Row w v1 (ncells z1)) (b1 : ∀ n ∈ z1, n < 18446744073709551616) :
    Calls Tryz.prog 7 #[v0, v1] w fun e w' => e = .returned (.bool true) ∧ Below w.heap.size w w' := by
  obtain ⟨a0, c0, hv0⟩ := h0.slice
  subst hv0
  obtain ⟨a1, c1, hv1⟩ := h1.slice
  rw [ncells_length] at hv1
  subst hv1
  have HT : Hid (Tbs w) := ht
  obtain ⟨i0, hi0, hz0, hzs, hzb⟩ := pkInfo
  have HB : Hid ((∀ a ∈ z0, Fit22 a) ∧ ∀ n ∈ z1, n < 18446744073709551616) := ⟨b0, b1⟩
  have H0 : Hid (RowOf pcells w (.slice a0 z0.length c0) z0) := h0
  have H1 : Hid (Row w (.slice a1 z1.length c1) (ncells z1)) := h1
  obtain ⟨n0, hn0⟩ : ∃ n, z0.length = n := ⟨_, rfl⟩
  obtain ⟨n1, hn1⟩ : ∃ n, z1.length = n := ⟨_, rfl⟩
  rw [hn0] at H0 ⊢
  rw [hn1] at H1 ⊢
  have HN : Hid (z0.length = n0 ∧ z1.length = n1) := ⟨hn0, hn1⟩
  have hN := new_lw w w (Below.refl _ _) 300 (by omega) (by omega)
  have hL := fun U (b : Below w.heap.size w U) => lives_any U (ht.at b)
  have HLv : Hid (∀ U, Below w.heap.size w U → Calls Tryz.prog 10 #[] U fun e w' => e = .returned (.bool true) ∧ Below U.heap.size U w') := hL
  clear ht h0 h1 b0 b1 hn0 hn1 hL
  go_enter Tryz.func7, Tryz.ntmps7
  go_wp2_with fail
  refine hN.mono ?_
  rintro e w1 ⟨p, rfl, F, l1, hF1, b1⟩
  have L1 : Hid (Ow w w1 p F (.slice none 0 0) [] ⟨300, pcs [], []⟩) := ⟨l1, ownOf_nil _ _, fun g hg => by cases hg⟩
  clear l1 hF1 b1 hN
  by_cases hg : 60 < n0 ∨ (¬ 60 < n0 ∧ 60 < n1)
  · rcases hg with hg | ⟨hg, hg2⟩
    · have hgi : (60 : Int) < (n0 : Int) := by omega
      go_wp2_with fail
      refine (HLv.out w1 L1.out.lw.bel).mono ?_
      rintro e w2 ⟨rfl, b2⟩
      have B2 : Hid (Below w.heap.size w w2) := keptW L1.out.lw.bel b2
      clear b2
      go_wp2
      go_ret
      exact ⟨rfl, B2.out⟩
    · have hgi : ¬ (60 : Int) < (n0 : Int) := by omega
      have hgi2 : (60 : Int) < (n1 : Int) := by omega
      go_wp2_with fail
      refine (HLv.out w1 L1.out.lw.bel).mono ?_
      rintro e w2 ⟨rfl, b2⟩
      have B2 : Hid (Below w.heap.size w w2) := keptW L1.out.lw.bel b2
      clear b2
      go_wp2
      go_ret
      exact ⟨rfl, B2.out⟩
  · have hg1 : ¬ 60 < n0 := fun h => hg (.inl h)
    have hg2 : ¬ 60 < n1 := fun h => hg (.inr ⟨hg1, h⟩)
    have hgi1 : ¬ (60 : Int) < (n0 : Int) := by omega
    have hgi2 : ¬ (60 : Int) < (n1 : Int) := by omega
    have HN6 : Hid (n0 ≤ 60 ∧ n1 ≤ 60) := ⟨by omega, by omega⟩
    clear hg
    go_wp2
    clear hg1 hg2 hgi1 hgi2
    go_loopg [6, 8, 40] n0 (fun gg u6 _ u40 wr => ∃ (i : Nat) (ai : Option Addr) (ni ci : Nat) (F : Nat → Prop), u6 = .slice ai ni ci ∧ u40 = .int .i64 (i : Int) ∧ i ≤ n0 ∧ gg = n0 - i ∧ Hid (Ow w wr p F (.slice ai ni ci) (goodsL z0 i) ⟨300, pcs (goodsL z0 i), []⟩))
    case atStart => exact ⟨0, none, 0, 0, F, rfl, rfl, Nat.zero_le _, rfl, L1.out⟩
    case round =>
      clear L1
      obtain ⟨i, ai, ni, ci, F, rfl, rfl, hin, rfl, HO⟩ := hrel
      by_cases hlt : i < n0
      · have hlt' : (i : Int) < (n0 : Int) := by omega
        have hil : i < z0.length := by rw [HN.out.1]; exact hlt
        obtain ⟨hx1, hx2, hat⟩ := RowOf.pks H0.out
        obtain ⟨b, off, ha, hpk⟩ := hat i hil
        subst ha
        have hpk2 := hpk.same (w' := wr) (HO.out.lw.bel.block b hpk.lt)
        have hsm := HB.out.1 z0[i] (List.getElem_mem hil)
        have HG : Hid (goodsL z0 (i + 1) = if goodP z0[i] = true then goodsL z0 i ++ [z0[i]] else goodsL z0 i) := goods_next hil
        have HS : Hid (Fit22 z0[i]) := hsm
        have HI : Hid (i < n0) := hlt
        generalize z0[i] = P at *
        have HPK : Hid (PkAt wr b (off + i * 12) P) := hpk2
        clear hpk hpk2 hat hil hsm hx1 hx2
        obtain ⟨X1, g1⟩ : ∃ X, wr.alloc (.cells #[.int .i64 0, .int .i64 0, .int .i64 0, .int .u64 0, .int .u16 0, .int .u64 0, .int .i64 0, .int .u64 0, .int .i64 0, .string ⟨#[]⟩, .string ⟨#[]⟩, .string ⟨#[]⟩] 35) = X := ⟨_, rfl⟩
        have x1 : X1.heap[wr.heap.size]? = some (.cells (pcells nilP).toArray 35 (0, 0)) := by rw [← g1]; exact heap_alloc_new wr _
        have c1 : Below wr.heap.size wr X1 := by rw [← g1]; exact box_belowW wr _
        obtain ⟨V1, f1⟩ : ∃ X, X1.setRow wr.heap.size (pcells P).toArray = X := ⟨_, rfl⟩
        have D1 : Hid (Below wr.heap.size wr V1) := by show Below _ _ _; rw [← f1]; exact below_setRow c1 (Nat.le_refl _) _
        have E1 : Hid (V1.heap[wr.heap.size]? = some (.cells (pcells P).toArray 35 (0, 0))) := by show _ = _; rw [← f1]; exact setRow_heap _ _ _ _ _ _ x1
        have Y1 : Hid (X1.heap[wr.heap.size]? = some (.cells (pcells nilP).toArray 35 (0, 0))) := x1
        clear x1 c1
        go_wp2_with (first
          | (refine wpList_store_row rfl 35 _ _ rfl wr.heap.size (pcells P).toArray rfl rfl 35 (pcells nilP).toArray Y1.out info12 rfl (one12 _) ?_; rw [f1])
          | (refine wpList_load_mid rfl 35 _ rfl b (off + i * 12) rfl (pcells P) _ HPK.out Tryz.underlying35 rfl (info12L _) ?_)
          | (refine wpList_load_row rfl 35 _ rfl wr.heap.size rfl 35 (pcells P).toArray (0, 0) _ E1.out Tryz.underlying35 rfl info12 ?_))
        clear f1 g1
        refine (greatP_any P V1 HS.out.2).mono ?_
        rintro e w2 ⟨rfl, b2⟩
        have E2 : Hid (w2.heap[wr.heap.size]? = some (.cells (pcells P).toArray 35 (0, 0))) := (b2.block _ (Array.getElem?_eq_some_iff.1 E1.out).1).trans E1.out
        have O2 : Hid (Ow w w2 p F (.slice ai ni ci) (goodsL z0 i) ⟨300, pcs (goodsL z0 i), []⟩) := (HO.out.go D1.out).go b2
        have HnF0 : Hid (¬ F wr.heap.size) := fun hf => by have := HO.out.lw.wt.lts _ hf; omega
        clear b2 HO
        cases greatP P
        rotate_left
        · have hL := HLv.out w2 O2.out.lw.bel
          go_wp2_with fail
          refine hL.mono ?_
          rintro e w3 ⟨rfl, b3⟩
          have B3 : Hid (Below w.heap.size w w3) := keptW O2.out.lw.bel b3
          clear b3 hL
          go_wp2
          go_ret
          exact ⟨rfl, B3.out⟩
        · have hS := O2.out.lw.send HT.out P HS.out.1
          have hln := goods_len z0 i
          cases hgp : goodP P
          · rw [sendW_bad hgp] at hS
            rw [hgp] at HG
            have HGG : Hid (goodsL z0 (i + 1) = goodsL z0 i) := by
              have := HG.out
              rw [if_neg (by simp)] at this
              exact this
            clear hln hgp
            go_wp2_with (refine wpList_load_row rfl 35 _ rfl wr.heap.size rfl 35 (pcells P).toArray (0, 0) _ E2.out Tryz.underlying35 rfl info12 ?_)
            refine hS.mono ?_
            rintro e w3 ⟨rfl, F3, l3, m3⟩
            have O3 : Hid (Ow w w3 p F3 (.slice ai ni ci) (goodsL z0 (i + 1)) ⟨300, pcs (goodsL z0 (i + 1)), []⟩) := by
              show Ow _ _ _ _ _ _ _
              rw [HGG.out]
              exact O2.out.wire l3 m3
            clear l3 m3 hS
            go_wp2
            go_roundg (n0 - (i + 1))
            case measure => have := HI.out; omega
            case rel => exact ⟨i + 1, ai, ni, ci, F3, rfl, congrArg (Value.int IntKind.i64) (by have := HI.out; have := HN6.out; first | omega | (unfold wrap64; omega)), HI.out, rfl, O3⟩
          · rw [send_good (by have := HN6.out; omega) hgp] at hS
            rw [hgp] at HG
            have HGG : Hid (goodsL z0 (i + 1) = goodsL z0 i ++ [P]) := by
              have := HG.out
              rw [if_pos rfl] at this
              exact this
            clear hgp
            go_wp2_with (refine wpList_load_row rfl 35 _ rfl wr.heap.size rfl 35 (pcells P).toArray (0, 0) _ E2.out Tryz.underlying35 rfl info12 ?_)
            refine hS.mono ?_
            rintro e w3 ⟨rfl, F3, l3, m3⟩
            have HnF : Hid (¬ F wr.heap.size) := HnF0.out
            have E3 : Hid (w3.heap[wr.heap.size]? = some (.cells (pcells P).toArray 35 (0, 0))) := (m3.block _ (Array.getElem?_eq_some_iff.1 E2.out).1 HnF.out).trans E2.out
            have O3 : Hid (Ow w w3 p F3 (.slice ai ni ci) (goodsL z0 i) ⟨300, pcs (goodsL z0 i ++ [P]), []⟩) := O2.out.wire l3 m3
            clear l3 m3 hS
            have HR3 : Hid (OwnK (w3.alloc (.cells (pcells P).toArray 35)) w.heap.size (.slice ai ni ci) (goodsL z0 i) ∧ (goodsL z0 i).length ≤ 60) := ⟨OwnOf.alloc O3.out.own _, by have := goods_len z0 i; have := HN6.out; have := HI.out; omega⟩
            go_wp2_with (first
              | (refine wpList_load_row rfl 35 _ rfl wr.heap.size rfl 35 #[.int .i64 P.kind, .int .i64 P.fr, .int .i64 P.dest, .int .u64 P.ep, .int .u16 P.num, .int .u64 P.mask, .int .i64 P.m.origin, .int .u64 P.m.seq, .int .i64 P.m.hop, .string P.m.ex, .string P.m.key, .string P.m.body] (0, 0) _ E3.out Tryz.underlying35 rfl info12 ?_)
              | (refine K.wpList_append_rows (enc := pcells) rfl (.tmp 51) (.tmp 53) 62 rfl Tryz.underlying62 i0 _ 120 hi0 hz0 hzs hzb rfl w.heap.size (.slice ai ni ci) (.slice (some ⟨w3.heap.size, 0, none⟩) 1 1) (goodsL z0 i) [P] rfl rfl HR3.out.1 (rowK_one w3 P _ rfl) (by have := HR3.out.2; unfold maxLen; simp; omega) (by have := HR3.out.2; simp; omega) (le_alloc O3.out.lw.bel.size _) ?_; intro v4 w4 own4 gr4 nw4))
            obtain ⟨a4, c4, hv4⟩ := own4.rng.slice
            obtain ⟨n4, hn4⟩ : ∃ n, (goodsL z0 i ++ [P]).length = n := ⟨_, rfl⟩
            rw [hn4] at hv4
            subst hv4
            have O4 : Hid (Ow w w4 p F3 (.slice a4 n4 c4) (goodsL z0 (i + 1)) ⟨300, pcs (goodsL z0 (i + 1)), []⟩) := by
              show Ow _ _ _ _ _ _ _
              rw [HGG.out]
              exact (O3.out.go (box_belowW w3 _)).row own4 gr4 nw4
            clear own4 gr4 nw4 hn4 HR3
            go_wp2
            go_roundg (n0 - (i + 1))
            case measure => have := HI.out; omega
            case rel => exact ⟨i + 1, a4, n4, c4, F3, rfl, congrArg (Value.int IntKind.i64) (by have := HI.out; have := HN6.out; first | omega | (unfold wrap64; omega)), HI.out, rfl, O4⟩
      · have hlt' : ¬ (i : Int) < (n0 : Int) := by omega
        have HO2 : Hid (Ow w wr p F (.slice ai ni ci) (goodsL z0 i) ⟨300, pcs (goodsL z0 i), []⟩ ∧ AllG (goodsL z0 i) ∧ (goodsL z0 i).length ≤ 60) := ⟨HO.out, goods_all (fun q hq => (HB.out.1 q hq).1), Nat.le_trans (goods_len z0 i) (by have := HN6.out; omega)⟩
        obtain ⟨I0, hI0⟩ : ∃ I, goodsL z0 i = I := ⟨_, rfl⟩
        rw [hI0] at HO2
        clear HO hI0 hin
        go_wp2
        clear hlt hlt'
        go_loopg [6, 10, 11, 58] n1 (fun gg u6 _ _ u58 wr => ∃ (j : Nat) (ai : Option Addr) (ni ci : Nat) (F : Nat → Prop) (I : List Pk), u6 = .slice ai ni ci ∧ u58 = .int .i64 (j : Int) ∧ j ≤ n1 ∧ gg = n1 - j ∧ Hid (Ow w wr p F (.slice ai ni ci) I ⟨300, pcs I, []⟩ ∧ AllG I ∧ I.length ≤ 60 + j))
        case atStart => exact ⟨0, ai, ni, ci, F, I0, rfl, rfl, Nat.zero_le _, rfl, HO2.out⟩
        case round =>
          clear HO2
          obtain ⟨j, ai, ni, ci, F, I, rfl, rfl, hjn, rfl, HO⟩ := hrel
          obtain ⟨hx1, hx2, hatI⟩ := RowOf.pks HO.out.1.own.rng
          have HNI : Hid (ni = I.length ∧ I.length ≤ 60 + j) := ⟨hx1, HO.out.2.2⟩
          have HatI : Hid (∀ k (hk : k < I.length), ∃ b off, ai = some ⟨b, off, none⟩ ∧ PkAt wr b (off + k * 12) I[k]) := hatI
          clear hx1 hx2 hatI
          by_cases hlt : j < n1
          · have hlt' : (j : Int) < (n1 : Int) := by omega
            have hjl : j < z1.length := by rw [HN.out.2]; exact hlt
            obtain ⟨hx1, hx2, hat⟩ := H1.out.atN64
            obtain ⟨b1, off1, ha1, hb1, hc1⟩ := hat j hjl
            have hkb := HB.out.2 z1[j] (List.getElem_mem hjl)
            have hc2 : wr.cell? ⟨b1, off1 + j, none⟩ = some (.int .u64 (z1[j] : Nat)) := (HO.out.1.lw.bel.cell (p := ⟨b1, off1 + j, none⟩) hb1).trans hc1
            have HJ : Hid (j < n1) := hlt
            subst ha1
            generalize z1[j] = k at *
            clear hx1 hx2 hat hjl hc1 hb1
            by_cases hz : ni = 0
            · have hzi : ((ni : Nat) : Int) = 0 := by omega
              clear hkb
              obtain rfl : ni = 0 := hz
              have hI : I = [] := List.eq_nil_of_length_eq_zero HNI.out.1.symm
              subst hI
              have HO2 : Hid (Ow w wr p F (.slice ai 0 ci) [] ⟨300, [], []⟩) := HO.out.1
              clear HO HatI HNI
              go_wp2
              go_loopg [13, 14, 15, 16, 17, 85] 0 (fun gg _ _ _ _ _ u85 wr => u85 = .int .i64 0 ∧ gg = 0 ∧ Hid (Ow w wr p F (.slice ai 0 ci) [] ⟨300, [], []⟩))
              case atStart => exact ⟨rfl, rfl, HO2.out⟩
              case round =>
                clear HO2
                obtain ⟨rfl, rfl, HO2⟩ := hrel
                have hK := HO2.out.lw.take HT.out 0
                unfold LookE at hK
                rw [look_nil, drop_nil] at hK
                go_wp2_with fail
                refine hK.mono ?_
                rintro e w2 ⟨he, F2, l2, m2⟩
                have he : e = .returned (.tuple #[pv nilP, .int .i64 3]) := he
                subst he
                have L2 : Hid (Lw w w2 p F2 ⟨300, [], []⟩) := l2
                clear l2 m2 hK HO2
                obtain ⟨X4, g4⟩ : ∃ X, w2.alloc (.cells #[.int .i64 0, .int .i64 0, .int .i64 0, .int .u64 0, .int .u16 0, .int .u64 0, .int .i64 0, .int .u64 0, .int .i64 0, .string ⟨#[]⟩, .string ⟨#[]⟩, .string ⟨#[]⟩] 35) = X := ⟨_, rfl⟩
                have x4 : X4.heap[w2.heap.size]? = some (.cells (pcells nilP).toArray 35 (0, 0)) := by rw [← g4]; exact heap_alloc_new w2 _
                have c4 : Below w2.heap.size w2 X4 := by rw [← g4]; exact box_belowW w2 _
                obtain ⟨V4, f4⟩ : ∃ X, X4.setRow w2.heap.size (pcells nilP).toArray = X := ⟨_, rfl⟩
                have D4 : Hid (Below w2.heap.size w2 V4) := by show Below _ _ _; rw [← f4]; exact below_setRow c4 (Nat.le_refl _) _
                have E4 : Hid (V4.heap[w2.heap.size]? = some (.cells (pcells nilP).toArray 35 (0, 0))) := by show _ = _; rw [← f4]; exact setRow_heap _ _ _ _ _ _ x4
                have Y4 : Hid (X4.heap[w2.heap.size]? = some (.cells (pcells nilP).toArray 35 (0, 0))) := x4
                clear x4 c4
                have L4 : Hid (Lw w V4 p F2 ⟨300, [], []⟩) := L2.out.go D4.out
                go_wp2_with (refine wpList_store_row rfl 35 _ _ rfl w2.heap.size (pcells nilP).toArray rfl rfl 35 (pcells nilP).toArray Y4.out info12 rfl (one12 _) ?_; rw [f4])
                clear f4 g4
                refine L4.out.len.mono ?_
                rintro e w4 ⟨rfl, rfl⟩
                have hL := HLv.out w4 L4.out.bel
                go_wp2_with fail
                refine hL.mono ?_
                rintro e w5 ⟨rfl, b5⟩
                have B5 : Hid (Below w.heap.size w w5) := keptW L4.out.bel b5
                clear b5 hL
                go_wp2
                go_ret
                exact ⟨rfl, B5.out⟩
            · have hzi : ¬ ((ni : Nat) : Int) = 0 := by omega
              obtain ⟨m, hm⟩ : ∃ m, k % ni = m := ⟨_, rfl⟩
              have hmn : m < ni := by rw [← hm]; exact Nat.mod_lt _ (by omega)
              have hn1 : ni ≤ 1000 := by have := HNI.out; have := HN6.out; have := HJ.out; omega
              have hw1 : IntKind.u64.wrap (ni : Int) = (ni : Int) := by rw [IntKind.wrap_u64]; omega
              have hw2 : wrap64 ((k : Int) % (ni : Int)) = (m : Int) := by
                rw [show (k : Int) % (ni : Int) = (m : Int) by rw [← hm]; rfl]
                unfold wrap64; omega
              have hmI : m < I.length := by rw [← HNI.out.1]; exact hmn
              have hS := HO.out.1.lw.twice (m : Int)
              rw [twice_pcs (by have := HNI.out; have := HN6.out; have := HJ.out; omega) hmI] at hS
              have HM : Hid (m < I.length ∧ m < ni) := ⟨hmI, hmn⟩
              have hmi : (m : Int) < (ni : Int) := Int.ofNat_lt.2 hmn
              clear hkb hm hn1
              go_wp2_with fail
              refine hS.mono ?_
              rintro e w3 ⟨rfl, F3, l3, m3⟩
              have O3 : Hid (Ow w w3 p F3 (.slice ai ni ci) I ⟨300, pcs (I ++ [I[m]]), []⟩) := HO.out.1.wire l3 m3
              have HA : Hid (AllG (I ++ [I[m]]) ∧ I.length ≤ 60 + j) := ⟨HO.out.2.1.more hmI, HO.out.2.2⟩
              obtain ⟨hx1, hx2, hat⟩ := RowOf.pks O3.out.own.rng
              obtain ⟨b2, off2, ha2, hpk⟩ := hat m hmI
              have HPK : Hid (PkAt w3 b2 (off2 + m * 12) I[m]) := hpk
              have HR3 : Hid (OwnK (w3.alloc (.cells (pcells I[m]).toArray 35)) w.heap.size (.slice ai ni ci) I ∧ I.length ≤ 120) := ⟨OwnOf.alloc O3.out.own _, by have := HO.out.2.2; have := HN6.out; have := HJ.out; omega⟩
              subst ha2
              generalize I[m] = P at *
              clear hx1 hx2 hat hpk hS l3 m3 HO HatI hmI
              go_wp2_with (first
                | (refine wpList_load_mid rfl 35 _ rfl b2 (off2 + m * 12) rfl [.int .i64 P.kind, .int .i64 P.fr, .int .i64 P.dest, .int .u64 P.ep, .int .u16 P.num, .int .u64 P.mask, .int .i64 P.m.origin, .int .u64 P.m.seq, .int .i64 P.m.hop, .string P.m.ex, .string P.m.key, .string P.m.body] _ HPK.out Tryz.underlying35 rfl (info12L P) ?_)
                | (refine K.wpList_append_rows (enc := pcells) rfl (.tmp 75) (.tmp 80) 62 rfl Tryz.underlying62 i0 _ 120 hi0 hz0 hzs hzb rfl w.heap.size (.slice (some ⟨b2, off2, none⟩) ni ci) (.slice (some ⟨w3.heap.size, 0, none⟩) 1 1) I [P] rfl rfl HR3.out.1 (rowK_one w3 P _ rfl) (by have := HR3.out.2; unfold maxLen; simp; omega) (by have := HR3.out.2; simp; omega) (le_alloc O3.out.lw.bel.size _) ?_; intro v4 w4 own4 gr4 nw4))
              obtain ⟨a4, c4, hv4⟩ := own4.rng.slice
              obtain ⟨n4, hn4⟩ : ∃ n, (I ++ [P]).length = n := ⟨_, rfl⟩
              rw [hn4] at hv4
              subst hv4
              have O4 : Hid (Ow w w4 p F3 (.slice a4 n4 c4) (I ++ [P]) ⟨300, pcs (I ++ [P]), []⟩ ∧ AllG (I ++ [P]) ∧ (I ++ [P]).length ≤ 60 + (j + 1)) := ⟨(O3.out.go (box_belowW w3 _)).row own4 gr4 nw4, HA.out.1, by rw [List.length_append]; have := HA.out.2; simp; omega⟩
              clear own4 gr4 nw4 hn4 HR3
              go_wp2
              go_roundg (n1 - (j + 1))
              case measure => have := HJ.out; omega
              case rel => exact ⟨j + 1, a4, n4, c4, F3, I ++ [P], rfl, congrArg (Value.int IntKind.i64) (by have := HJ.out; have := HN6.out; first | omega | (unfold wrap64; omega)), HJ.out, rfl, O4⟩
          · have hlt' : ¬ (j : Int) < (n1 : Int) := by omega
            have HI0 : Hid (Ow w wr p F (.slice ai ni ci) I ⟨300, pcs (I.drop 0), []⟩ ∧ AllG I ∧ ni = I.length ∧ I.length ≤ 1000) := ⟨HO.out.1, HO.out.2.1, HNI.out.1, by have := HO.out.2.2; have := HN6.out; omega⟩
            clear HO HatI
            go_wp2
            try clear hlt hlt'
            go_loopg [13, 14, 15, 16, 17, 85] ni (fun gg _ _ _ _ _ u85 wr => ∃ (t : Nat) (F : Nat → Prop), u85 = .int .i64 (t : Int) ∧ t ≤ ni ∧ gg = ni - t ∧ Hid (Ow w wr p F (.slice ai ni ci) I ⟨300, pcs (I.drop t), []⟩))
            case atStart => exact ⟨0, F, rfl, Nat.zero_le _, rfl, HI0.out.1⟩
            case round =>
              obtain ⟨t, F, rfl, htn, rfl, HO⟩ := hrel
              by_cases hlt : t < ni
              · have hlt' : (t : Int) < (ni : Int) := by omega
                have htl : t < I.length := by rw [← HI0.out.2.2.1]; exact hlt
                obtain ⟨hx1, hx2, hat⟩ := RowOf.pks HO.out.own.rng
                obtain ⟨b2, off2, ha2, hpk⟩ := hat t htl
                have hgd := HI0.out.2.1 I[t] (List.getElem_mem htl)
                have HD : Hid (I.drop t = I[t] :: I.drop (t + 1)) := List.drop_eq_getElem_cons htl
                have HG : Hid (goodP I[t] = true ∧ I[t].Fits) := hgd
                have HPK : Hid (PkAt wr b2 (off2 + t * 12) I[t]) := hpk
                have HTN : Hid (t < ni ∧ ni ≤ 1000) := ⟨hlt, by have := HI0.out.2.2; omega⟩
                subst ha2
                have HO2 : Hid (Ow w wr p F (.slice (some ⟨b2, off2, none⟩) ni ci) I ⟨300, pcs (I[t] :: I.drop (t + 1)), []⟩) := by
                  show Ow _ _ _ _ _ _ _
                  rw [← HD.out]
                  exact HO.out
                generalize I[t] = P at *
                clear hx1 hx2 hat hpk hgd htl HO HD
                obtain ⟨X1, g1⟩ : ∃ X, wr.alloc (.cells #[.int .i64 0, .int .i64 0, .int .i64 0, .int .u64 0, .int .u16 0, .int .u64 0, .int .i64 0, .int .u64 0, .int .i64 0, .string ⟨#[]⟩, .string ⟨#[]⟩, .string ⟨#[]⟩] 35) = X := ⟨_, rfl⟩
                have x1 : X1.heap[wr.heap.size]? = some (.cells (pcells nilP).toArray 35 (0, 0)) := by rw [← g1]; exact heap_alloc_new wr _
                have c1 : Below wr.heap.size wr X1 := by rw [← g1]; exact box_belowW wr _
                obtain ⟨V1, f1⟩ : ∃ X, X1.setRow wr.heap.size (pcells P).toArray = X := ⟨_, rfl⟩
                have D1 : Hid (Below wr.heap.size wr V1) := by show Below _ _ _; rw [← f1]; exact below_setRow c1 (Nat.le_refl _) _
                have E1 : Hid (V1.heap[wr.heap.size]? = some (.cells (pcells P).toArray 35 (0, 0))) := by show _ = _; rw [← f1]; exact setRow_heap _ _ _ _ _ _ x1
                have Y1 : Hid (X1.heap[wr.heap.size]? = some (.cells (pcells nilP).toArray 35 (0, 0))) := x1
                clear x1 c1
                go_wp2_with (first
                  | (refine wpList_store_row rfl 35 _ _ rfl wr.heap.size (pcells P).toArray rfl rfl 35 (pcells nilP).toArray Y1.out info12 rfl (one12 _) ?_; rw [f1])
                  | (refine wpList_load_mid rfl 35 _ rfl b2 (off2 + t * 12) rfl (pcells P) _ HPK.out Tryz.underlying35 rfl (info12L _) ?_))
                clear f1 g1
                have O1 : Hid (Ow w V1 p F (.slice (some ⟨b2, off2, none⟩) ni ci) I ⟨300, pcs (P :: I.drop (t + 1)), []⟩) := HO2.out.go D1.out
                have N1 : Hid (¬ F wr.heap.size) := fun hf => by have := HO2.out.lw.wt.lts _ hf; omega
                have hK := O1.out.lw.look HT.out 0
                unfold LookE at hK
                rw [look_pcs HG.out.1 HG.out.2] at hK
                refine hK.mono ?_
                rintro e w2 ⟨he, b2'⟩
                have he : e = .returned (.tuple #[pv P, .int .i64 0]) := he
                subst he
                have R2 : Hid (BxP wr.heap.size P w2) := BxP.go E1.out b2'
                have O2 : Hid (Ow w w2 p F (.slice (some ⟨b2, off2, none⟩) ni ci) I ⟨300, pcs (P :: I.drop (t + 1)), []⟩) := O1.out.go b2'
                clear b2' hK O1 HO2
                obtain ⟨X2, g2⟩ : ∃ X, w2.alloc (.cells #[.int .i64 0, .int .i64 0, .int .i64 0, .int .u64 0, .int .u16 0, .int .u64 0, .int .i64 0, .int .u64 0, .int .i64 0, .string ⟨#[]⟩, .string ⟨#[]⟩, .string ⟨#[]⟩] 35) = X := ⟨_, rfl⟩
                have x2 : X2.heap[w2.heap.size]? = some (.cells (pcells nilP).toArray 35 (0, 0)) := by rw [← g2]; exact heap_alloc_new w2 _
                have c2 : Below w2.heap.size w2 X2 := by rw [← g2]; exact box_belowW w2 _
                obtain ⟨V2, f2⟩ : ∃ X, X2.setRow w2.heap.size (pcells P).toArray = X := ⟨_, rfl⟩
                have D2 : Hid (Below w2.heap.size w2 V2) := by show Below _ _ _; rw [← f2]; exact below_setRow c2 (Nat.le_refl _) _
                have E2 : Hid (V2.heap[w2.heap.size]? = some (.cells (pcells P).toArray 35 (0, 0))) := by show _ = _; rw [← f2]; exact setRow_heap _ _ _ _ _ _ x2
                have Y2 : Hid (X2.heap[w2.heap.size]? = some (.cells (pcells nilP).toArray 35 (0, 0))) := x2
                clear x2 c2
                go_wp2_with (refine wpList_store_row rfl 35 _ _ rfl w2.heap.size (pcells P).toArray rfl rfl 35 (pcells nilP).toArray Y2.out info12 rfl (one12 _) ?_; rw [f2])
                clear f2 g2
                have O3 : Hid (Ow w V2 p F (.slice (some ⟨b2, off2, none⟩) ni ci) I ⟨300, pcs (P :: I.drop (t + 1)), []⟩) := O2.out.go D2.out
                have N2 : Hid (¬ F w2.heap.size) := fun hf => by have := O2.out.lw.wt.lts _ hf; omega
                have E2b : Hid (BxP w2.heap.size P V2) := E2.out
                have R3 : Hid (BxP wr.heap.size P V2) := BxP.go R2.out D2.out
                have hK := O3.out.lw.take HT.out 0
                unfold LookE at hK
                rw [look_pcs HG.out.1 HG.out.2, drop_pcs] at hK
                refine hK.mono ?_
                rintro e w3 ⟨he, F3, l3, m3⟩
                have he : e = .returned (.tuple #[pv P, .int .i64 0]) := he
                subst he
                have O4 : Hid (Ow w w3 p F3 (.slice (some ⟨b2, off2, none⟩) ni ci) I ⟨300, pcs (I.drop (t + 1)), []⟩) := O3.out.wire l3 m3
                have E4 : Hid (BxP wr.heap.size P w3 ∧ BxP w2.heap.size P w3) := ⟨BxP.moved R3.out m3 N1.out, BxP.moved E2b.out m3 N2.out⟩
                clear l3 m3 hK O2 O3 R3 R2
                obtain ⟨X3, g3⟩ : ∃ X, w3.alloc (.cells #[.int .i64 0, .int .i64 0, .int .i64 0, .int .u64 0, .int .u16 0, .int .u64 0, .int .i64 0, .int .u64 0, .int .i64 0, .string ⟨#[]⟩, .string ⟨#[]⟩, .string ⟨#[]⟩] 35) = X := ⟨_, rfl⟩
                have x3 : X3.heap[w3.heap.size]? = some (.cells (pcells nilP).toArray 35 (0, 0)) := by rw [← g3]; exact heap_alloc_new w3 _
                have c3 : Below w3.heap.size w3 X3 := by rw [← g3]; exact box_belowW w3 _
                obtain ⟨V3, f3⟩ : ∃ X, X3.setRow w3.heap.size (pcells P).toArray = X := ⟨_, rfl⟩
                have D3 : Hid (Below w3.heap.size w3 V3) := by show Below _ _ _; rw [← f3]; exact below_setRow c3 (Nat.le_refl _) _
                have E3 : Hid (V3.heap[w3.heap.size]? = some (.cells (pcells P).toArray 35 (0, 0))) := by show _ = _; rw [← f3]; exact setRow_heap _ _ _ _ _ _ x3
                have Y3 : Hid (X3.heap[w3.heap.size]? = some (.cells (pcells nilP).toArray 35 (0, 0))) := x3
                clear x3 c3
                have hneq : ∀ Y : World, (binOp .neq 35 (.agg (pcells P).toArray) (.agg (pcells P).toArray)).run Tryz.prog Y = .ok (.bool false) Y := fun Y => by
                  have h := run_neqP P P Y
                  rw [decide_eq_true rfl] at h
                  exact h
                have hgA := eqGuardP
                have E5 : Hid (BxP wr.heap.size P V3 ∧ BxP w2.heap.size P V3) := ⟨BxP.go E4.out.1 D3.out, BxP.go E4.out.2 D3.out⟩
                have O5 : Hid (Ow w V3 p F3 (.slice (some ⟨b2, off2, none⟩) ni ci) I ⟨300, pcs (I.drop (t + 1)), []⟩) := O4.out.go D3.out
                clear E4 O4
                go_wp2_with (first
                  | (refine wpList_store_row rfl 35 _ _ rfl w3.heap.size (pcells P).toArray rfl rfl 35 (pcells nilP).toArray Y3.out info12 rfl (one12 _) ?_; rw [f3])
                  | (refine wpList_load_rowG (by kernel_rfl) 35 _ rfl w2.heap.size rfl 35 (pcells P).toArray (0, 0) _ E5.out.2 Tryz.underlying35 rfl info12 ?_)
                  | (refine wpList_load_rowG (by kernel_rfl) 35 _ rfl wr.heap.size rfl 35 (pcells P).toArray (0, 0) _ E5.out.1 Tryz.underlying35 rfl info12 ?_)
                  | (refine wpList_load_rowG (by kernel_rfl) 35 _ rfl w3.heap.size rfl 35 (pcells P).toArray (0, 0) _ E3.out Tryz.underlying35 rfl info12 ?_))
                go_roundg (ni - (t + 1))
                case measure => have := HTN.out; omega
                case rel => exact ⟨t + 1, F3, congrArg (Value.int IntKind.i64) (by have := HTN.out; first | omega | (unfold wrap64; omega)), HTN.out.1, rfl, O5.out⟩
              · have hlt' : ¬ (t : Int) < (ni : Int) := by omega
                have HO2 : Hid (Ow w wr p F (.slice ai ni ci) I ⟨300, [], []⟩) := by
                  have h := HO.out
                  rw [List.drop_of_length_le (by have := HI0.out.2.2; omega)] at h
                  exact h
                clear HO
                have hK := HO2.out.lw.take HT.out 0
                unfold LookE at hK
                rw [look_nil, drop_nil] at hK
                go_wp2_with fail
                refine hK.mono ?_
                rintro e w2 ⟨he, F2, l2, m2⟩
                have he : e = .returned (.tuple #[pv nilP, .int .i64 3]) := he
                subst he
                have L2 : Hid (Lw w w2 p F2 ⟨300, [], []⟩) := l2
                clear l2 m2 hK HO2
                obtain ⟨X4, g4⟩ : ∃ X, w2.alloc (.cells #[.int .i64 0, .int .i64 0, .int .i64 0, .int .u64 0, .int .u16 0, .int .u64 0, .int .i64 0, .int .u64 0, .int .i64 0, .string ⟨#[]⟩, .string ⟨#[]⟩, .string ⟨#[]⟩] 35) = X := ⟨_, rfl⟩
                have x4 : X4.heap[w2.heap.size]? = some (.cells (pcells nilP).toArray 35 (0, 0)) := by rw [← g4]; exact heap_alloc_new w2 _
                have c4 : Below w2.heap.size w2 X4 := by rw [← g4]; exact box_belowW w2 _
                obtain ⟨V4, f4⟩ : ∃ X, X4.setRow w2.heap.size (pcells nilP).toArray = X := ⟨_, rfl⟩
                have D4 : Hid (Below w2.heap.size w2 V4) := by show Below _ _ _; rw [← f4]; exact below_setRow c4 (Nat.le_refl _) _
                have E4 : Hid (V4.heap[w2.heap.size]? = some (.cells (pcells nilP).toArray 35 (0, 0))) := by show _ = _; rw [← f4]; exact setRow_heap _ _ _ _ _ _ x4
                have Y4 : Hid (X4.heap[w2.heap.size]? = some (.cells (pcells nilP).toArray 35 (0, 0))) := x4
                clear x4 c4
                have L4 : Hid (Lw w V4 p F2 ⟨300, [], []⟩) := L2.out.go D4.out
                go_wp2_with (refine wpList_store_row rfl 35 _ _ rfl w2.heap.size (pcells nilP).toArray rfl rfl 35 (pcells nilP).toArray Y4.out info12 rfl (one12 _) ?_; rw [f4])
                clear f4 g4
                refine L4.out.len.mono ?_
                rintro e w4 ⟨rfl, rfl⟩
                have hL := HLv.out w4 L4.out.bel
                go_wp2_with fail
                refine hL.mono ?_
                rintro e w5 ⟨rfl, b5⟩
                have B5 : Hid (Below w.heap.size w w5) := keptW L4.out.bel b5
                clear b5 hL
                go_wp2
                go_ret
                exact ⟨rfl, B5.out⟩
end Go.Proofs.YtdbgojmjjkidbaaGreatDoor
