/-
  WHO FORGETS A QUEUE: what is told of the others (of no program); a row of what each client holds, in memory.
-/
import Derived.Test.YtooaiomghbjpiaaJTwo17
import Derived.Deep.RegionLaw
import Derived.Deep.CutRange
import Derived.Deep.RegionHeld3
import Derived.BigQuiet
namespace Go.Proofs.Ytooaiomghbjpiaa
open Go.RowKit Go.Maps Go.Sort Go.Shelf
set_option maxRecDepth 20000

theorem gone_is {L : List Se} (ok : LOk L) (q : ByteArray) : goneL L q = (clientsL L).filter fun c => decide (hqL L c = q) := by
  have h1 := fold_all q ok
  rw [fold_is q (clientsL L) L [] ok (clientsL_nodup ok)] at h1
  injection h1 with _ h2
  rw [List.nil_append] at h2
  rw [← h2]
  refine List.filter_congr fun c hc => ?_
  obtain ⟨s, hs⟩ := clients_find hc
  unfold hqL
  rw [hs]
  rfl
theorem forget_gone {L : List Se} (ok : LOk L) {q : ByteArray} {c : Int} (hc : c ∈ clientsL L) (hq : hqL L c = q) : holdB (forgetL L q) c = false := by
  obtain ⟨s, hs⟩ := clients_find hc
  unfold hqL at hq
  rw [hs] at hq
  unfold holdB
  have : findC (forgetL L q) c = none := by
    unfold findC
    rw [List.find?_eq_none]
    intro y hy e
    obtain ⟨h1, h2⟩ := List.mem_filter.1 hy
    have e' : y.c = c := by simpa using e
    have := ok.unique h1 (findC_some hs).1 (e'.trans (findC_some hs).2.symm)
    rw [this] at h2
    unfold wantB at h2
    simp [hq] at h2
  rw [this]; rfl
theorem forget_kept {L : List Se} (ok : LOk L) {q : ByteArray} {c : Int} (hc : c ∈ clientsL L) (hq : hqL L c ≠ q) : holdB (forgetL L q) c = true ∧ hqL (forgetL L q) c = hqL L c ∧ htL (forgetL L q) c = htL L c := by
  obtain ⟨s, hs⟩ := clients_find hc
  have hq' : s.q ≠ q := by unfold hqL at hq; rw [hs] at hq; exact hq
  have hm : s ∈ forgetL L q := List.mem_filter.2 ⟨(findC_some hs).1, by unfold wantB; simpa using hq'⟩
  have hf := findC_mem (ok.forget q) hm
  rw [(findC_some hs).2] at hf
  unfold holdB hqL htL
  rw [hf, hs]
  exact ⟨rfl, rfl, rfl⟩
theorem forget_next (L : List Se) (q : ByteArray) : nextC (forgetL L q) q = none := by
  unfold nextC
  rw [List.find?_eq_none]
  intro s hs
  have := (List.mem_filter.1 hs).2
  unfold readyB
  simp at this
  simp [this]
theorem forget_none (L : List Se) (q : ByteArray) : goneL (forgetL L q) q = [] := by
  have : (forgetL L q).filter (wantB q) = [] := by
    unfold forgetL
    rw [List.filter_filter]
    simp
  unfold goneL
  rw [this]
  simp [clientsL]
theorem filt_at {l : List Int} {P : Int → Bool} {i : Nat} (hi : i < l.length) (hp : P l[i] = true) : (l.filter P)[((l.take i).filter P).length]? = some l[i] := by
  have e : l.filter P = (l.take i).filter P ++ (l[i] :: l.drop (i + 1)).filter P := by
    rw [← List.filter_append, ← List.drop_eq_getElem_cons hi, List.take_append_drop]
  rw [e, List.getElem?_append_right (Nat.le_refl _), Nat.sub_self, List.filter_cons_of_pos hp]
  rfl
theorem filt_step {l : List Int} {P : Int → Bool} {i : Nat} (hi : i < l.length) : ((l.take (i + 1)).filter P).length = ((l.take i).filter P).length + if P l[i] then 1 else 0 := by
  rw [List.take_succ_eq_append_getElem hi, List.filter_append, List.length_append]
  cases h : P l[i] <;> simp [h]
theorem filt_le (l : List Int) (P : Int → Bool) (i : Nat) : ((l.take i).filter P).length ≤ (l.filter P).length := ((List.take_sublist i l).filter P).length_le
theorem heldInfo : ∃ i, Try.prog.info? 40 = some i ∧ i.zero = some (.agg #[.string ⟨#[]⟩, .slice none 0 0]) ∧ i.size = 2 ∧ i.bytes = 40 := by
  have h : (Try.prog.info? 40).map (fun i => (i.zero, i.size, i.bytes)) = some (some (.agg #[.string ⟨#[]⟩, .slice none 0 0]), 2, 40) := by kernel_rfl
  cases hi : Try.prog.info? 40 with
  | none => rw [hi] at h; cases h
  | some i => rw [hi] at h; injection h with h; injection h with h1 h2; injection h2 with h2 h3; exact ⟨i, rfl, h1, h2, h3⟩
theorem run_make_held (w : World) (n : Nat) (hn : n ≤ 1000) : ∃ C : Array Value, (Instr.makeSlice 66 (.int .i64 (n : Int)) (.int .i64 (n : Int))).run Try.prog w = .ok (.slice (some ⟨w.heap.size, 0, none⟩) n n) (w.alloc (.cells C 40)) ∧ C.size = n * 2 := by
  obtain ⟨i, hi, hz, hsz, hby⟩ := heldInfo
  have hr := run_make (P := Try.prog) w 66 40 i _ Try.underlying66 hi hz .i64 .i64 n n (by omega) (by omega) (by rw [hby]; omega) (by omega)
  simp only [Int.toNat_natCast] at hr
  exact ⟨_, hr, by rw [size_madeCells, hsz]⟩
theorem cell_arr {W : World} {b : Nat} {C : Array Value} {T : TypeId} (h : W.heap[b]? = some (.cells C T (0, 0))) (j : Nat) : W.cell? ⟨b, j, none⟩ = C[j]? := by simp [World.cell?, h]
/-- What each of the first i clients holds, in a row; the clients' own row beside it. -/
structure Fil (W1 W : World) (b n : Nat) (L : List Se) (vl : Value) (l : List Int) (i : Nat) : Prop where
  bel : Below W1.heap.size W1 W
  lo : W1.heap.size ≤ b
  blk : ∃ C : Array Value, W.heap[b]? = some (.cells C 40 (0, 0)) ∧ C.size = n * 2
  row : Own1 W W1.heap.size 3 vl (icells l)
  at' : ∀ j (hj : j < l.length), j < i → ∃ a k, W.cell? ⟨b, j * 2, none⟩ = some (.string (hqL L l[j])) ∧ W.cell? ⟨b, j * 2 + 1, none⟩ = some (.slice a (htL L l[j]).length k) ∧ Own1 W W1.heap.size 31 (.slice a (htL L l[j]).length k) (ucells (htL L l[j]))
section
variable {W1 W W' : World} {b n : Nat} {L : List Se} {vl : Value} {l : List Int} {i : Nat}
theorem Fil.lt (h : Fil W1 W b n L vl l i) : b < W.heap.size := by
  obtain ⟨C, hC, _⟩ := h.blk
  exact (Array.getElem?_eq_some_iff.1 hC).1
theorem Fil.cells (h : Fil W1 W b n L vl l i) (hi : i < n) : ∃ x y, W.cell? ⟨b, i * 2, none⟩ = some x ∧ W.cell? ⟨b, i * 2 + 1, none⟩ = some y ∧ W.frozen? ⟨b, i * 2, none⟩ = false ∧ W.frozen? ⟨b, i * 2 + 1, none⟩ = false := by
  obtain ⟨C, hC, hs⟩ := h.blk
  have h1 : i * 2 < C.size := by omega
  have h2 : i * 2 + 1 < C.size := by omega
  exact ⟨C[i * 2], C[i * 2 + 1], by simp [World.cell?, hC, h1], by simp [World.cell?, hC, h2], by simp [World.frozen?, hC], by simp [World.frozen?, hC]⟩
theorem Fil.kept (h : Fil W1 W b n L vl l i) (hs : ∀ k, W1.heap.size ≤ k → k < W.heap.size → W'.heap[k]? = W.heap[k]?) (hb : Below W1.heap.size W1 W') : Fil W1 W' b n L vl l i := by
  have hc : ∀ j, W'.cell? ⟨b, j, none⟩ = W.cell? ⟨b, j, none⟩ := fun j => by simp [World.cell?, hs b h.lo h.lt]
  obtain ⟨C, hC, hsz⟩ := h.blk
  refine ⟨hb, h.lo, ⟨C, (hs b h.lo h.lt).trans hC, hsz⟩, own1_same h.row fun k hk => hs k (own1_blk h.row hk).1 (own_lt h.row hk), fun j hj hji => ?_⟩
  obtain ⟨a, k, h1, h2, h3⟩ := h.at' j hj hji
  exact ⟨a, k, (hc _).trans h1, (hc _).trans h2, own1_same h3 fun k hk => hs k (own1_blk h3 hk).1 (own_lt h3 hk)⟩
theorem Fil.below (h : Fil W1 W b n L vl l i) (hb : Below W.heap.size W W') : Fil W1 W' b n L vl l i := h.kept (fun k _ hk => hb.block k hk) (h.bel.trans (hb.mono h.bel.size))
theorem Fil.out (h : Fil W1 W b n L vl l i) (hs : ∀ k, W1.heap.size ≤ k → k < W.heap.size → W'.heap[k]? = W.heap[k]?) : Own1 W' W1.heap.size 3 vl (icells l) ∧ ∀ j (hj : j < l.length), j < i → ∃ a k, W'.cell? ⟨b, j * 2, none⟩ = some (.string (hqL L l[j])) ∧ W'.cell? ⟨b, j * 2 + 1, none⟩ = some (.slice a (htL L l[j]).length k) ∧ Own1 W' W1.heap.size 31 (.slice a (htL L l[j]).length k) (ucells (htL L l[j])) := by
  have hc : ∀ j, W'.cell? ⟨b, j, none⟩ = W.cell? ⟨b, j, none⟩ := fun j => by simp [World.cell?, hs b h.lo h.lt]
  refine ⟨own1_same h.row fun k hk => hs k (own1_blk h.row hk).1 (own_lt h.row hk), fun j hj hji => ?_⟩
  obtain ⟨a, k, h1, h2, h3⟩ := h.at' j hj hji
  exact ⟨a, k, (hc _).trans h1, (hc _).trans h2, own1_same h3 fun k hk => hs k (own1_blk h3 hk).1 (own_lt h3 hk)⟩
theorem Fil.put (h : Fil W1 W b n L vl l i) (hi : i < l.length) (hin : i < n) {a : Option Addr} {k : Nat} (own : Own1 W W1.heap.size 31 (.slice a (htL L l[i]).length k) (ucells (htL L l[i]))) : Fil W1 ((W.setCell ⟨b, i * 2, none⟩ (.string (hqL L l[i]))).setCell ⟨b, i * 2 + 1, none⟩ (.slice a (htL L l[i]).length k)) b n L vl l (i + 1) := by
  obtain ⟨C, hC, hsz⟩ := h.blk
  have hblk : ((W.setCell ⟨b, i * 2, none⟩ (.string (hqL L l[i]))).setCell ⟨b, i * 2 + 1, none⟩ (.slice a (htL L l[i]).length k)).heap[b]? = some (.cells ((C.setIfInBounds (i * 2) (.string (hqL L l[i]))).setIfInBounds (i * 2 + 1) (.slice a (htL L l[i]).length k)) 40 (0, 0)) := by
    simp [World.setCell, Array.getElem?_modify, hC]
  have hne : ∀ {T : TypeId} {y : Value} {ys : List Value}, T ≠ 40 → Own1 W W1.heap.size T y ys → Own1 ((W.setCell ⟨b, i * 2, none⟩ (.string (hqL L l[i]))).setCell ⟨b, i * 2 + 1, none⟩ (.slice a (htL L l[i]).length k)) W1.heap.size T y ys := fun {T y ys} hT hy => own1_same hy fun g hg => by
    obtain ⟨_, cur, hc⟩ := own1_blk hy hg
    have : g ≠ b := fun e => by
      rw [e, hC] at hc
      simp at hc
      exact hT hc.2.symm
    rw [Below.heap_setCell _ _ _ _ this, Below.heap_setCell _ _ _ _ this]
  refine ⟨(h.bel.setCell h.lo _).setCell h.lo _, h.lo, ⟨_, hblk, by simpa using hsz⟩, hne (by decide) h.row, fun j hj hji => ?_⟩
  by_cases e : j = i
  · subst e
    refine ⟨a, k, ?_, ?_, hne (by decide) own⟩
    · rw [cell_arr hblk, Array.getElem?_setIfInBounds, if_neg (by omega), Array.getElem?_setIfInBounds, if_pos rfl, if_pos (by omega)]
    · rw [cell_arr hblk, Array.getElem?_setIfInBounds, if_pos rfl, if_pos (by simp; omega)]
  · obtain ⟨a', k', h1, h2, h3⟩ := h.at' j hj (by omega)
    refine ⟨a', k', ?_, ?_, hne (by decide) h3⟩
    · rw [cell_arr hC] at h1
      rw [cell_arr hblk, Array.getElem?_setIfInBounds, if_neg (by omega), Array.getElem?_setIfInBounds, if_neg (by omega)]
      exact h1
    · rw [cell_arr hC] at h2
      rw [cell_arr hblk, Array.getElem?_setIfInBounds, if_neg (by omega), Array.getElem?_setIfInBounds, if_neg (by omega)]
      exact h2
end
end Go.Proofs.Ytooaiomghbjpiaa

/-
  THE STATEMENT ConsumerForgets, walked.
-/
namespace Go.Proofs.Ytooaiomghbjpiaa
open Go.RowKit Go.Maps Go.Sort Go.Shelf
set_option maxRecDepth 20000

set_option linter.unusedSimpArgs false in
set_option maxHeartbeats 8000000 in
theorem forgets_law (v : Value) (acts : List Ac) (qu : ByteArray) (w : World) (hr : K.RowOf acells w v acts) (hf : ∀ a ∈ acts, a.Fits) (_hqs : qu.size ≤ maxLen) :
    Calls Try.prog 7 #[v, .string qu] w fun e w' => e = .returned (.bool true) ∧ Below w.heap.size w w' := by
  obtain ⟨va, vc, rfl⟩ := hr.slice
  have hl : acts.length ≤ maxLen := (acs_at hr).2.1
  have l63 : acts.length ≤ 9223372036854775807 := by unfold maxLen at hl; omega
  have HR : Hid (∀ W, Below w.heap.size w W → ∀ i (hi : i < acts.length), ∃ b off, va = some ⟨b, off, none⟩ ∧ W.cell? ⟨b, off + i * 5, none⟩ = some (.int .i64 acts[i].kind) ∧ W.cell? ⟨b, off + i * 5 + 1, none⟩ = some (.int .i64 acts[i].c) ∧ W.cell? ⟨b, off + i * 5 + 2, none⟩ = some (.string acts[i].q) ∧ W.cell? ⟨b, off + i * 5 + 3, none⟩ = some (.int .i64 acts[i].n) ∧ W.cell? ⟨b, off + i * 5 + 4, none⟩ = some (.int .u64 acts[i].t)) := fun W b => (acs_at (hr.below b (Nat.le_refl _))).2.2
  have HFt : Hid (∀ a ∈ acts, a.Fits) := hf
  have kLi : Hid (∀ V, Below w.heap.size w V → Calls Try.prog 9 #[.slice va acts.length vc] V fun e w' => ∃ b, e = .returned (.bool b) ∧ (b = true → acts.length ≤ 250) ∧ Below V.heap.size V w') := fun V hV => light_any _ acts V (hr.below hV (Nat.le_refl _)) hf
  clear hr hf hl
  obtain ⟨n, hn⟩ : ∃ z, acts.length = z := ⟨_, rfl⟩
  rw [hn] at kLi l63 ⊢
  go_enter Try.func7, Try.ntmps7
  go_wp2_with fail
  refine (Lv.new w).mono ?_
  rintro e w1 ⟨p, rfl, h1⟩
  obtain ⟨W2, fold2⟩ : ∃ W2, w1.alloc (.cells #[.slice none 0 0] 28) = W2 := ⟨_, rfl⟩
  have T2 := two_new h1 fold2
  clear h1
  go_wp2_with fail
  clear fold2
  refine (kLi.out W2 T2.bel).mono ?_
  rintro e w3 ⟨rb, rfl, _, b3⟩
  have T3 : Hid (TwoX w w3 p [] w1.heap.size []) := T2.below b3
  clear T2 b3 kLi
  obtain ⟨r, hrr⟩ : ∃ z, w1.heap.size = z := ⟨_, rfl⟩
  rw [hrr] at T3 ⊢
  clear hrr
  cases rb with
  | false =>
    go_wp2_with (go_at_call 10; refine (lives_any _).mono ?_; rintro e w4 ⟨rfl, b4⟩)
    go_ret
    exact ⟨rfl, T3.out.bel.trans (b4.mono T3.out.bel.size)⟩
  | true =>
    by_cases hq5 : (500 : Int) < (qu.size : Int)
    · go_wp2_with (go_at_call 10; refine (lives_any _).mono ?_; rintro e w4 ⟨rfl, b4⟩)
      go_ret
      exact ⟨rfl, T3.out.bel.trans (b4.mono T3.out.bel.size)⟩
    go_wp2
    go_loopw [35] (fun u35 wr => ∃ (k : Nat) (L M : List Se), u35 = .int .i64 (k : Int) ∧ k ≤ n ∧ Hid (TwoX w wr p L r M)) (fun u35 _ => n - (intOf u35).toNat)
    case atStart => exact ⟨0, [], [], rfl, Nat.zero_le _, T3⟩
    case round =>
      obtain ⟨k, L, M, rfl, hk, HT⟩ := hrel
      clear T3
      by_cases hlt2 : k < n
      · have hlt : (k : Int) < (n : Int) := by omega
        have hkl : k < acts.length := by omega
        obtain ⟨b, off, hva, i0, i1, i2, i3, i4⟩ := HR.out wr HT.out.bel k hkl
        have hfa := HFt.out _ (List.getElem_mem hkl)
        obtain ⟨a, ha⟩ : ∃ z, acts[k] = z := ⟨_, rfl⟩
        rw [ha] at i0 i1 i2 i3 i4 hfa
        clear ha
        subst hva
        obtain ⟨X, foldX⟩ : ∃ X, wr.alloc (.cells #[.int .i64 a.kind, .int .i64 a.c, .string a.q, .int .i64 a.n, .int .u64 a.t] 33) = X := ⟨_, rfl⟩
        have bX : Below wr.heap.size wr X := by rw [← foldX]; exact (Below.refl _ _).alloc (Nat.le_refl _) _
        have kA := HT.out.act bX a hfa
        have hbx : X.heap[wr.heap.size]? = some (.cells #[.int .i64 a.kind, .int .i64 a.c, .string a.q, .int .i64 a.n, .int .u64 a.t] 33 (0, 0)) := by rw [← foldX]; exact heap_alloc_new wr _
        have x0 : X.cell? ⟨wr.heap.size, 0, none⟩ = some (.int .i64 a.kind) := by simp [World.cell?, hbx]
        have x1 : X.cell? ⟨wr.heap.size, 1, none⟩ = some (.int .i64 a.c) := by simp [World.cell?, hbx]
        have x2 : X.cell? ⟨wr.heap.size, 2, none⟩ = some (.string a.q) := by simp [World.cell?, hbx]
        have x3 : X.cell? ⟨wr.heap.size, 3, none⟩ = some (.int .i64 a.n) := by simp [World.cell?, hbx]
        have x4 : X.cell? ⟨wr.heap.size, 4, none⟩ = some (.int .u64 a.t) := by simp [World.cell?, hbx]
        unfold acv at kA
        obtain ⟨L', hL'⟩ : ∃ z, (actP L M a).1 = z := ⟨_, rfl⟩
        obtain ⟨M', hM'⟩ : ∃ z, (actP L M a).2 = z := ⟨_, rfl⟩
        unfold ActX at kA
        rw [hL', hM'] at kA
        clear hbx bX hfa HT hL' hM'
        generalize a.kind = ak at *
        generalize a.c = ac at *
        generalize a.q = aq at *
        generalize a.n = an at *
        generalize a.t = at' at *
        go_wp2_with fail
        refine kA.mono ?_
        rintro e w4 ⟨bb, rfl, _, T4, _⟩
        have T4' : Hid (TwoX w w4 p L' r M') := T4
        clear kA T4 i0 i1 i2 i3 i4 x0 x1 x2 x3 x4 foldX
        go_wp2
        go_roundw
        case rel => exact ⟨k + 1, L', M', by go_num, by omega, T4'⟩
        case measure => simp [intOf]; omega
      · have hlt : ¬ (k : Int) < (n : Int) := by omega
        obtain ⟨W1, hW1⟩ : ∃ z, z = wr := ⟨_, rfl⟩
        subst hW1
        have hcl := HT.out.clients
        obtain ⟨F, G, hTT⟩ := HT.out
        have HD1 : Hid (Dk W1 p F L ∧ LOk L ∧ Below w.heap.size w W1 ∧ (∀ k, F k → w.heap.size ≤ k ∧ k < W1.heap.size)) := ⟨hTT.d, hTT.ok1, hTT.bel, fun k hk => ⟨hTT.fd k hk, hTT.d.lts k hk⟩⟩
        have hnl : (clientsL L).length ≤ 32 := by rw [clientsL_len]; exact hTT.ok1.few
        obtain ⟨l, hl⟩ : ∃ z, clientsL L = z := ⟨_, rfl⟩
        rw [hl] at hcl hnl
        have HL : Hid (clientsL L = l) := hl
        clear hTT HT hl
        go_wp2_with fail
        refine hcl.mono ?_
        rintro e w2 ⟨vl, rfl, ol, b2⟩
        obtain ⟨la, lc, hvl⟩ := ol.row.sliceInts
        obtain ⟨nl, hnl2⟩ : ∃ z, l.length = z := ⟨_, rfl⟩
        rw [hnl2] at hvl hnl
        subst hvl
        obtain ⟨C, hmk, hC⟩ := run_make_held w2 nl (by omega)
        obtain ⟨V, fold⟩ : ∃ V, w2.alloc (.cells C 40) = V := ⟨_, rfl⟩
        have bV : Below w2.heap.size w2 V := by rw [← fold]; exact (Below.refl _ _).alloc (Nat.le_refl _) _
        have HF0 : Hid (Fil W1 V w2.heap.size nl L (.slice la nl lc) l 0) := ⟨b2.trans (bV.mono b2.size), b2.size, ⟨C, by rw [← fold]; exact heap_alloc_new w2 _, hC⟩, own1_same ol fun k hk => bV.block k (own_lt ol hk), fun j hj h => by omega⟩
        obtain ⟨hb, hhb⟩ : ∃ z, w2.heap.size = z := ⟨_, rfl⟩
        rw [fold] at hmk
        rw [hhb] at hmk HF0
        have HN : Hid (l.length = nl) := hnl2
        clear ol b2 bV hC hcl
        go_wp2
        clear fold hmk hhb
        go_loopw [51] (fun u51 wr => ∃ i : Nat, u51 = .int .i64 (i : Int) ∧ i ≤ nl ∧ Hid (Fil W1 wr hb nl L (.slice la nl lc) l i)) (fun u51 _ => nl - (intOf u51).toNat)
        case atStart => exact ⟨0, rfl, Nat.zero_le _, HF0⟩
        case round =>
          obtain ⟨i, rfl, hi, HI⟩ := hrel
          clear HF0
          by_cases hin : i < nl
          · have hin' : (i : Int) < (nl : Int) := by omega
            have hil : i < l.length := by have := HN.out; omega
            obtain ⟨bs, os, cs, hv, _, _, hcs⟩ := HI.out.row.row.atInts (by omega)
            rw [HN.out] at hv
            injection hv with hv1 _ hv2
            have cc := hcs i hil
            have hmem : l[i] ∈ clientsL L := by rw [HL.out]; exact List.getElem_mem hil
            obtain ⟨j1, j2⟩ := clients_i64 HD1.out.2.1 hmem
            have hci : I64 l[i] := ⟨by show _ ≤ l[i]; omega, by show l[i] ≤ _; omega⟩
            have hlv : Lv w wr p L := ⟨F, HD1.out.1.kept HI.out.bel, HD1.out.2.1, HD1.out.2.2.1.trans (HI.out.bel.mono HD1.out.2.2.1.size), fun k hk => (HD1.out.2.2.2 k hk).1⟩
            have kH := hlv.holds l[i] hci
            have HP : Hid (∀ W' a k, Below wr.heap.size wr W' → Own1 W' wr.heap.size 31 (.slice a (htL L l[i]).length k) (ucells (htL L l[i])) → Fil W1 ((W'.setCell ⟨hb, i * 2, none⟩ (.string (hqL L l[i]))).setCell ⟨hb, i * 2 + 1, none⟩ (.slice a (htL L l[i]).length k)) hb nl L (.slice la nl lc) l (i + 1)) := fun W' a k b own => (HI.out.below b).put hil (by omega) (own1_lower own HI.out.bel.size)
            have HX : Hid (∀ W', Below wr.heap.size wr W' → ∃ x y, W'.cell? ⟨hb, i * 2, none⟩ = some x ∧ W'.cell? ⟨hb, i * 2 + 1, none⟩ = some y ∧ W'.frozen? ⟨hb, i * 2, none⟩ = false ∧ W'.frozen? ⟨hb, i * 2 + 1, none⟩ = false) := fun W' b => (HI.out.below b).cells (by omega)
            obtain ⟨c, hc⟩ : ∃ z, l[i] = z := ⟨_, rfl⟩
            rw [hc] at cc kH HP
            subst hv1 hv2
            obtain ⟨tl, htl⟩ : ∃ z, (htL L c).length = z := ⟨_, rfl⟩
            rw [htl] at kH HP
            clear hcs hmem hci hlv hc j1 j2 HI
            go_wp2_with fail
            refine kH.mono ?_
            rintro e w9 ⟨a1, k1, rfl, o1, b9⟩
            obtain ⟨y1, y2, d1, d2, f1, f2⟩ := HX.out w9 b9
            have HQ : Hid (Fil W1 ((w9.setCell ⟨hb, i * 2, none⟩ (.string (hqL L c))).setCell ⟨hb, i * 2 + 1, none⟩ (.slice a1 tl k1)) hb nl L (.slice (some ⟨bs, os, none⟩) nl lc) l (i + 1)) := HP.out w9 a1 k1 b9 o1
            generalize hqL L c = hq at *
            clear kH o1 b9 HX HP
            go_wp2
            go_roundw
            case rel => exact ⟨i + 1, by go_num, by omega, HQ⟩
            case measure => simp [intOf]; omega
          · have hin' : ¬ (i : Int) < (nl : Int) := by omega
            obtain rfl : i = nl := by omega
            obtain ⟨Wf, hWf⟩ : ∃ z, z = wr := ⟨_, rfl⟩
            subst hWf
            have kFo := forget_any p F L qu Wf (HD1.out.1.kept HI.out.bel) HD1.out.2.1
            have hgi := gone_is HD1.out.2.1 qu
            rw [HL.out] at hgi
            obtain ⟨gone, hgone⟩ : ∃ z, goneL L qu = z := ⟨_, rfl⟩
            rw [hgone] at kFo hgi
            have HGI : Hid (gone = l.filter fun c => decide (hqL L c = qu)) := hgi
            have hng : gone.length ≤ 32 := by rw [hgi]; exact Nat.le_trans (List.length_filter_le _ _) (by have := HN.out; omega)
            have HIf : Hid (Fil W1 Wf hb i L (.slice la i lc) l i) := HI
            obtain ⟨L', hL'⟩ : ∃ z, forgetL L qu = z := ⟨_, rfl⟩
            have HLF : Hid (forgetL L qu = L') := hL'
            rw [hL'] at kFo
            clear HI hgi hgone hL'
            go_wp2_with fail
            refine kFo.mono ?_
            rintro e Wg ⟨vg, rfl, og, F', hd', mv', _⟩
            obtain ⟨ga, gc, hvg⟩ := og.row.sliceInts
            obtain ⟨ng, hng2⟩ : ∃ z, gone.length = z := ⟨_, rfl⟩
            rw [hng2] at hvg hng
            subst hvg
            have hout := HIf.out.out (W' := Wg) fun k h1 h2 => mv'.block k h2 (fun hf => by have := (HD1.out.2.2.2 k hf).2; omega)
            have HG : Hid (Own1 Wg W1.heap.size 3 (.slice la i lc) (icells l) ∧ (∀ j (hj : j < l.length), ∃ a k, Wg.cell? ⟨hb, j * 2, none⟩ = some (.string (hqL L l[j])) ∧ Wg.cell? ⟨hb, j * 2 + 1, none⟩ = some (.slice a (htL L l[j]).length k) ∧ Own1 Wg W1.heap.size 31 (.slice a (htL L l[j]).length k) (ucells (htL L l[j]))) ∧ Row Wg (.slice ga ng gc) (icells gone)) := ⟨hout.1, fun j hj => hout.2 j hj (by have := HN.out; omega), og.row⟩
            have HLv : Hid (Lv w Wg p L') := Lv.to (fun k hk => (HD1.out.2.2.2 k hk).1) (HD1.out.2.2.1.trans (HIf.out.bel.mono HD1.out.2.2.1.size)) hd' mv' (by rw [← HLF.out]; exact HD1.out.2.1.forget qu)
            have HNG : Hid (gone.length = ng) := hng2
            clear kFo og hd' mv' hout HIf hng2
            go_wp2
            go_loopw [14, 71] (fun u14 u71 wr => ∃ (i2 k2 : Nat), u71 = .int .i64 (i2 : Int) ∧ u14 = .int .i64 (k2 : Int) ∧ i2 ≤ i ∧ k2 ≤ 32 ∧ Hid (k2 = ((l.take i2).filter fun c => decide (hqL L c = qu)).length ∧ Below Wg.heap.size Wg wr)) (fun _ u71 _ => i - (intOf u71).toNat)
            case atStart => exact ⟨0, 0, rfl, rfl, Nat.zero_le _, by omega, by simp, Below.refl _ _⟩
            case round =>
              obtain ⟨j, k2, rfl, rfl, hj, hk2, HJ⟩ := hrel
              by_cases hjn : j < i
              · have hjn' : (j : Int) < (i : Int) := by omega
                have hjl : j < l.length := by have := HN.out; omega
                obtain ⟨bs, os, cs, hv, _, _, hcs⟩ := (HG.out.1.row.below HJ.out.2 (Nat.le_refl _)).atInts (by omega)
                rw [HN.out] at hv
                injection hv with hv1 _ hv2
                have cc := hcs j hjl
                obtain ⟨ha, hk', q0, q1, ho⟩ := HG.out.2.1 j hjl
                have hmem : l[j] ∈ clientsL L := by rw [HL.out]; exact List.getElem_mem hjl
                obtain ⟨j1, j2⟩ := clients_i64 HD1.out.2.1 hmem
                have hci : I64 l[j] := ⟨by show _ ≤ l[j]; omega, by show l[j] ≤ _; omega⟩
                have kH := (HLv.out.go HJ.out.2).holds l[j] hci
                have hstep := filt_step (P := fun c => decide (hqL L c = qu)) hjl
                have hat := filt_at (P := fun c => decide (hqL L c = qu)) hjl
                rw [← HJ.out.1, ← HGI.out] at hat
                have hgone := fun h => forget_gone HD1.out.2.1 (q := qu) hmem h
                have hkept := fun h => forget_kept HD1.out.2.1 (q := qu) hmem h
                rw [HLF.out] at hgone hkept
                have hlen := htL_len HD1.out.2.1 l[j]
                have hW0 : ((hqL L l[j]).toList == qu.toList) = decide (hqL L l[j] = qu) := txt_dec _ _
                obtain ⟨c, hc⟩ : ∃ z, l[j] = z := ⟨_, rfl⟩
                rw [hc] at cc q0 q1 ho kH hstep hgone hkept hlen hW0
                have hat' : hqL L c = qu → gone[k2]? = some c := fun h => by have := hat (by simp [hc, h]); rw [hc] at this; exact this
                have d0 := cell_on HJ.out.2 q0
                have d1 := cell_on HJ.out.2 q1
                have HO : Hid (Row wr (.slice ha (htL L c).length hk') (ucells (htL L c))) := ho.row.below HJ.out.2 (Nat.le_refl _)
                have HGR : Hid (Row wr (.slice ga ng gc) (icells gone)) := HG.out.2.2.below HJ.out.2 (Nat.le_refl _)
                subst hv1 hv2
                clear hcs hmem hci hat hc q0 q1 ho j1 j2
                by_cases hB : hqL L c = qu
                · have hho := hgone hB
                  rw [hho] at kH
                  have hWt : ((hqL L c).toList == qu.toList) = true := by rw [hW0]; simpa using hB
                  have hg := hat' hB
                  have HST : Hid (k2 + 1 = ((l.take (j + 1)).filter fun c => decide (hqL L c = qu)).length) := by show _ = _; rw [hstep, ← HJ.out.1]; simp [hB]
                  obtain ⟨hkg, hgk⟩ := List.getElem?_eq_some_iff.1 hg
                  obtain ⟨bg, og, cg, hvg, _, _, hcg⟩ := HGR.out.atInts (by omega)
                  have gg := hcg k2 hkg
                  rw [hgk] at gg
                  rw [HNG.out] at hvg hkg
                  injection hvg with hvg1 _ hvg2
                  subst hvg1 hvg2
                  have hkg' : (k2 : Int) < (ng : Int) := by omega
                  have hkn : ¬ (ng : Int) ≤ (k2 : Int) := by omega
                  have hk33 : k2 + 1 ≤ 32 := by omega
                  generalize hqL L' c = hq' at *
                  generalize (htL L' c).length = tl' at *
                  generalize hqL L c = hq at *
                  generalize (htL L c).length = tl at *
                  clear hW0 hat' hg hgk hcg hgone hkept hho hB hstep
                  go_wp2_with fail
                  refine kH.mono ?_
                  rintro e w9 ⟨a1, k1, rfl, _, b9⟩
                  obtain ⟨W9, fold9⟩ : ∃ W, w9.alloc (.cells #[.string hq', .slice a1 tl' k1] 40) = W := ⟨_, rfl⟩
                  have b9' : Below w9.heap.size w9 W9 := by rw [← fold9]; exact (Below.refl _ _).alloc (Nat.le_refl _) _
                  have bw9 : Below wr.heap.size wr W9 := b9.trans (b9'.mono b9.size)
                  have e0 := cell_on bw9 d0
                  have e1 := cell_on bw9 d1
                  have gg' := cell_on bw9 gg
                  have HB9 : Hid (Below Wg.heap.size Wg W9) := HJ.out.2.trans (bw9.mono HJ.out.2.size)
                  clear kH b9 b9' bw9
                  go_wp2
                  go_roundw
                  case rel => exact ⟨j + 1, k2 + 1, by go_num, by go_num, by omega, hk33, HST.out, HB9.out⟩
                  case measure => simp [intOf]; omega
                · obtain ⟨m1, m2, m3⟩ := hkept hB
                  rw [m1, m2, m3] at kH
                  have hWf : ((hqL L c).toList == qu.toList) = false := by rw [hW0]; simpa using hB
                  have HST : Hid (k2 = ((l.take (j + 1)).filter fun c => decide (hqL L c = qu)).length) := by show _ = _; rw [hstep, ← HJ.out.1]; simp [hB]
                  obtain ⟨tl, htl⟩ : ∃ z, (htL L c).length = z := ⟨_, rfl⟩
                  rw [htl] at kH d1 HO hlen
                  have HTL : Hid ((htL L c).length = tl ∧ tl ≤ 100) := ⟨htl, hlen⟩
                  generalize hqL L c = hq at *
                  generalize htL L c = hT at *
                  clear hW0 hat' hgone hkept hB hstep m1 m2 m3 htl hlen
                  go_wp2_with fail
                  refine kH.mono ?_
                  rintro e w9 ⟨a1, k1, rfl, o9, b9⟩
                  obtain ⟨W9, fold9⟩ : ∃ W, w9.alloc (.cells #[.string hq, .slice a1 tl k1] 40) = W := ⟨_, rfl⟩
                  have b9' : Below w9.heap.size w9 W9 := by rw [← fold9]; exact (Below.refl _ _).alloc (Nat.le_refl _) _
                  have hb9 : W9.heap[w9.heap.size]? = some (.cells #[.string hq, .slice a1 tl k1] 40 (0, 0)) := by rw [← fold9]; exact heap_alloc_new w9 _
                  have bw9 : Below wr.heap.size wr W9 := b9.trans (b9'.mono b9.size)
                  have e0 := cell_on bw9 d0
                  have e1 := cell_on bw9 d1
                  have g0 : W9.cell? ⟨w9.heap.size, 0, none⟩ = some (.string hq) := by simp [World.cell?, hb9]
                  have g1 : W9.cell? ⟨w9.heap.size, 1, none⟩ = some (.slice a1 tl k1) := by simp [World.cell?, hb9]
                  have HB9 : Hid (∀ q, Below Wg.heap.size Wg (W9.drewN q)) := fun q => (HJ.out.2.trans (bw9.mono HJ.out.2.size)).trans ((drewN_below W9 q).mono (Nat.le_trans HJ.out.2.size bw9.size))
                  have kT : Hid (∀ q, Calls Try.prog 17 #[.slice a1 tl k1, .slice ha tl hk'] (W9.drewN q) fun e w' => e = .returned (.bool true) ∧ ∃ q', w' = (W9.drewN q).drewN q') := fun q => tags_same _ _ hT (W9.drewN q) ((o9.row.below b9' (Nat.le_refl _)).below (drewN_below W9 q) (Nat.le_refl _)) ((HO.out.below bw9 (Nat.le_refl _)).below (drewN_below W9 q) (Nat.le_refl _)) (by have := HTL.out; omega)
                  clear kH b9 b9' bw9 o9 hb9 d0 d1
                  go_wp2
                  clear fold9
                  first | (go_region_held3 (fun w' => w'.cell? ⟨w9.heap.size, 0, none⟩ = some (.string hq) ∧ w'.cell? ⟨w9.heap.size, 1, none⟩ = some (.slice a1 tl k1) ∧ w'.cell? ⟨hb, j * 2, none⟩ = some (.string hq) ∧ w'.cell? ⟨hb, j * 2 + 1, none⟩ = some (.slice ha tl hk')) (go_keep) (first
                    | (go_at_call 17; refine (kT.out 1).mono ?_; rintro e w10 ⟨rfl, q10, rfl⟩))) | fail
                  all_goals go_wp2
                  all_goals go_roundw
                  case rel => exact ⟨j + 1, k2, by go_num, rfl, by omega, hk2, HST.out, HB9.out _⟩
                  case measure => simp [intOf]; omega
              · have hjn' : ¬ (j : Int) < (i : Int) := by omega
                have HK : Hid (k2 = ng) := by
                  have h1 := HJ.out.1
                  rw [List.take_of_length_le (by have := HN.out; omega), ← HGI.out, HNG.out] at h1
                  exact h1
                have hkb : ((k2 : Int) == (ng : Int)) = true := by rw [HK.out]; simp
                have kN := (HLv.out.go HJ.out.2).next qu
                rw [nextV_none (by rw [← HLF.out]; exact forget_next L qu)] at kN
                have hgn : goneL L' qu = [] := by rw [← HLF.out]; exact forget_none L qu
                clear HG HGI HK
                go_wp2_with fail
                refine kN.mono ?_
                rintro e w5 ⟨rfl, _, L5⟩
                have kF := L5.forget qu
                rw [hgn] at kF
                clear kN L5
                go_wp2_with fail
                refine kF.mono ?_
                rintro e w6 ⟨v6, rfl, o6, L6⟩
                obtain ⟨a6, c6, hv6⟩ := o6.row.sliceInts
                subst hv6
                have b6 := L6.bel
                clear o6 L6 kF hgn
                go_wp2_with fail
                refine (lives_any w6).mono ?_
                rintro e w7 ⟨rfl, b7⟩
                go_wp2
                go_ret
                exact ⟨rfl, b6.trans (b7.mono b6.size)⟩
end Go.Proofs.Ytooaiomghbjpiaa
