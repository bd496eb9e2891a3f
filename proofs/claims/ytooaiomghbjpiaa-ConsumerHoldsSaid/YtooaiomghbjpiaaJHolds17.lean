/-
  WHO HOLDS WHAT (of no program); how many each may hold, in memory; both desks beside it.
-/
import Derived.Test.YtooaiomghbjpiaaJTwo17
import Derived.Deep.CutRange
import Derived.Deep.RegionHeld3
import Derived.BigQuiet
namespace Go.Proofs.Ytooaiomghbjpiaa
open Go.RowKit Go.Maps Go.Sort Go.Shelf
set_option maxRecDepth 20000

theorem hold_seat {L : List Se} (ok : LOk L) {c : Int} (hc : c ∈ clientsL L) : ∃ s ∈ L, s.c = c ∧ holdB L c = true ∧ hqL L c = s.q ∧ htL L c = s.t ∧ SeOk s := by
  obtain ⟨s, hs⟩ := clients_find hc
  obtain ⟨h1, h2⟩ := findC_some hs
  unfold holdB hqL htL
  rw [hs]
  exact ⟨s, h1, h2, rfl, rfl, rfl, ok.ok s h1⟩
theorem hold_apart {L : List Se} (ok : LOk L) {c d : Int} (hc : c ∈ clientsL L) (hd : d ∈ clientsL L) (hcd : c ≠ d) (hq : hqL L c = hqL L d) {t : Int} (ht : t ∈ htL L c) : t ∉ htL L d := by
  obtain ⟨s, h1, h2, _, h3, h4, _⟩ := hold_seat ok hc
  obtain ⟨r, k1, k2, _, k3, k4, _⟩ := hold_seat ok hd
  rw [h3, k3] at hq
  rw [h4] at ht
  rw [k4]
  have hp := List.pairwise_iff_getElem.1 ok.one
  obtain ⟨i, hi, rfl⟩ := List.getElem_of_mem h1
  obtain ⟨j, hj, rfl⟩ := List.getElem_of_mem k1
  rcases Nat.lt_trichotomy i j with h | h | h
  · exact hp i j hi hj h hq t ht
  · subst h; exact absurd (h2.symm.trans k2) hcd
  · exact fun h9 => hp j i hj hi h hq.symm t h9 ht
theorem next_seat {L : List Se} (ok : LOk L) {q : ByteArray} {s : Se} (h : nextC L q = some s) : nxC L q = s.c ∧ s ∈ L ∧ s.c ∈ clientsL L ∧ holdB L s.c = true ∧ hqL L s.c = q ∧ htL L s.c = s.t ∧ (s.t.length : Int) < s.m := by
  have hm := List.mem_of_find?_eq_some h
  have hr := List.find?_some h
  have hf := findC_mem ok hm
  unfold readyB wantB fullB at hr
  simp at hr
  unfold nxC holdB hqL htL
  rw [h, hf]
  exact ⟨rfl, hm, mem_clientsL.2 ⟨s, hm, rfl⟩, rfl, hr.1, rfl, hr.2⟩
/-- Whoever is there was there, and may hold as many. -/
def SubM (L' L : List Se) : Prop := ∀ s' ∈ L', ∃ s ∈ L, s.c = s'.c ∧ s.m = s'.m
theorem subM_refl (L : List Se) : SubM L L := fun s h => ⟨s, h, rfl, rfl⟩
theorem subM_took (L : List Se) (c t : Int) : SubM (tookL L c t) L := by
  unfold tookL
  cases hf : findC L c with
  | none => exact subM_refl L
  | some s =>
    simp only
    split
    · intro s' hs'
      rcases List.mem_append.1 hs' with h | h
      · exact ⟨s', (cutC_ne h).1, rfl, rfl⟩
      · rw [List.mem_singleton.1 h]
        exact ⟨s, (findC_some hf).1, rfl, rfl⟩
    · exact subM_refl L
theorem subM_settle (L : List Se) (c t : Int) : SubM (settleL L c t) L := by
  unfold settleL
  split
  · intro s' hs'
    obtain ⟨s, hs, rfl⟩ := List.mem_map.1 hs'
    refine ⟨s, hs, ?_⟩
    split <;> exact ⟨rfl, rfl⟩
  · exact subM_refl L
theorem subM_act (L M : List Se) (a : Ac) (h0 : a.kind ≠ 0) : SubM (actP L M a).1 L := by
  unfold actP
  rw [if_neg h0]
  split
  · exact fun s h => ⟨s, (cutC_ne h).1, rfl, rfl⟩
  · split
    · exact subM_refl L
    · split
      · split
        · exact subM_took L _ _
        · exact subM_refl L
      · split
        · exact subM_took L _ _
        · split
          · exact subM_settle L _ _
          · split
            · exact fun s h => ⟨s, (List.mem_filter.1 h).1, rfl, rfl⟩
            · exact subM_refl L
/-- How many each may hold, by clients. -/
def MostAt (W : World) (mb : Nat) (L : List Se) : Prop := ∃ C : Array Value, W.heap[mb]? = some (.cells C 3 (0, 0)) ∧ C.size = 1001 ∧ ∀ s ∈ L, C[s.c.toNat]? = some (.int .i64 s.m)
theorem MostAt.same {W W' : World} {mb : Nat} {L : List Se} (h : MostAt W mb L) (hs : W'.heap[mb]? = W.heap[mb]?) : MostAt W' mb L := by
  obtain ⟨C, h1, h2⟩ := h
  exact ⟨C, hs.trans h1, h2⟩
theorem MostAt.sub {W : World} {mb : Nat} {L L' : List Se} (h : MostAt W mb L) (hs : SubM L' L) : MostAt W mb L' := by
  obtain ⟨C, h1, h2, h3⟩ := h
  refine ⟨C, h1, h2, fun s' hs' => ?_⟩
  obtain ⟨s, e1, e2, e3⟩ := hs s' hs'
  rw [← e2, ← e3]
  exact h3 s e1
theorem MostAt.cell {W : World} {mb : Nat} {L : List Se} (h : MostAt W mb L) {s : Se} (hs : s ∈ L) {n : Nat} (hn : s.c = (n : Int)) : W.cell? ⟨mb, n, none⟩ = some (.int .i64 s.m) := by
  obtain ⟨C, h1, h2, h3⟩ := h
  have := h3 s hs
  rw [hn, Int.toNat_natCast] at this
  simp [World.cell?, h1, this]
theorem MostAt.has {W : World} {mb : Nat} {L : List Se} (h : MostAt W mb L) {n : Nat} (hn : n ≤ 1000) : ∃ x, W.cell? ⟨mb, n, none⟩ = some x ∧ W.frozen? ⟨mb, n, none⟩ = false := by
  obtain ⟨C, h1, h2, h3⟩ := h
  have : n < C.size := by omega
  exact ⟨C[n], by simp [World.cell?, h1, this], by simp [World.frozen?, h1]⟩
theorem MostAt.put {W : World} {mb : Nat} {L : List Se} (h : MostAt W mb L) {n : Nat} (hn : n ≤ 1000) {q : ByteArray} {m : Int} (hE : addE L (n : Int) q m = 0) (hpos : ∀ s ∈ L, 1 ≤ s.c) : MostAt (W.setCell ⟨mb, n, none⟩ (.int .i64 m)) mb (addL L (n : Int) q m) := by
  obtain ⟨C, h1, h2, h3⟩ := h
  have hf := (addE_zero hE).2.1
  have hnb : n < C.size := by omega
  refine ⟨C.setIfInBounds n (.int .i64 m), by simp [World.setCell, Array.getElem?_modify, h1], by simpa using h2, fun s hs => ?_⟩
  unfold addL at hs
  rw [if_pos hE] at hs
  rcases List.mem_append.1 hs with hs | hs
  · have hne := findC_none hf s hs
    have := hpos s hs
    rw [Array.getElem?_setIfInBounds, if_neg (by omega)]
    exact h3 s hs
  · rw [List.mem_singleton.1 hs]
    simp only [Int.toNat_natCast]
    rw [Array.getElem?_setIfInBounds, if_pos rfl, if_pos hnb]
/-- Both desks, and that row, apart. -/
def TwoM (w W : World) (mb p : Nat) (L : List Se) (r : Nat) (M : List Se) : Prop := MostAt W mb L ∧ w.heap.size ≤ mb ∧ ∃ F G, Two w W (fun k => k = mb) W p F L r G M
section
variable {w W W' : World} {mb p r : Nat} {L M : List Se}
theorem TwoM.bel (h : TwoM w W mb p L r M) : Below w.heap.size w W := by obtain ⟨_, _, F, G, h⟩ := h; exact h.bel
theorem TwoM.ok (h : TwoM w W mb p L r M) : LOk L ∧ LOk M := by obtain ⟨_, _, F, G, h⟩ := h; exact ⟨h.ok1, h.ok2⟩
theorem TwoM.lv (h : TwoM w W mb p L r M) : Lv w W p L := by
  obtain ⟨_, _, F, G, h⟩ := h
  exact ⟨F, h.d, h.ok1, h.bel, h.fd⟩
theorem TwoM.lt (h : TwoM w W mb p L r M) : mb < W.heap.size := by obtain ⟨_, _, F, G, h⟩ := h; exact (h.ns mb rfl).1
theorem TwoM.below (h : TwoM w W mb p L r M) (b : Below W.heap.size W W') : TwoM w W' mb p L r M := by
  have hlt := h.lt
  obtain ⟨hm, lo, F, G, h⟩ := h
  exact ⟨hm.same (b.block mb hlt), lo, F, G, (h.below b).base _ fun k hk => by subst hk; exact ⟨Nat.lt_of_lt_of_le hlt b.size, h.nd _ rfl, h.nr _ rfl⟩⟩
/-- What act leaves of both, of that row, and of what was made since. -/
def ActM (w W V w' : World) (mb p : Nat) (L : List Se) (r : Nat) (M : List Se) (a : Ac) (e : Ending) : Prop := ∃ b, e = .returned (.bool b) ∧ TwoM w w' mb p (actP L M a).1 r (actP L M a).2 ∧ ∀ k, W.heap.size ≤ k → k < V.heap.size → w'.heap[k]? = V.heap[k]?
theorem TwoM.act (h : TwoM w W mb p L r M) (b : Below W.heap.size W W') (a : Ac) (hf : a.Fits) (h0 : a.kind ≠ 0) : Calls Try.prog 11 #[.pointer (some ⟨p, 0, none⟩), .pointer (some ⟨r, 0, none⟩), acv a] W' fun e w' => ActM w W W' w' mb p L r M a e := by
  have hlt := h.lt
  obtain ⟨hm, lo, F, G, h⟩ := h
  have h' := (h.below b).base (fun k => k = mb ∨ W.heap.size ≤ k ∧ k < W'.heap.size) fun k hk => by
    rcases hk with rfl | hk
    · exact ⟨Nat.lt_of_lt_of_le hlt b.size, h.nd _ rfl, h.nr _ rfl⟩
    · exact ⟨hk.2, fun hf => by have := h.d.lts k hf; omega, fun hf => by have := h.r.lts k hf; omega⟩
  refine (act_any a w W' _ W' p r F G L M h' hf).mono fun e w' ⟨bb, he, _, F', G', T⟩ => ⟨bb, he, ⟨?_, lo, F', G', T.base _ fun k hk => ?_⟩, fun k h1 h2 => (T.ns k (.inr ⟨h1, h2⟩)).2⟩
  · exact ((hm.same (b.block mb hlt)).same (T.ns mb (.inl rfl)).2).sub (subM_act L M a h0)
  · subst hk
    exact ⟨Nat.lt_of_lt_of_le (T.ns _ (.inl rfl)).1 T.bs, T.nd _ (.inl rfl), T.nr _ (.inl rfl)⟩
theorem TwoM.add (h : TwoM w W mb p L r M) (b : Below W.heap.size W W') (c : Int) (q : ByteArray) (m : Int) (hc : I64 c) (hq : q.size ≤ maxLen) : Calls Try.prog 18 #[.pointer (some ⟨p, 0, none⟩), .int .i64 c, .string q, .int .i64 m] W' fun e w' => e = .returned (.int .i64 (addE L c q m)) ∧ MostAt w' mb L ∧ (∃ F G, Two w w' (fun k => k = mb) w' p F (addL L c q m) r G M) ∧ ∀ k, W.heap.size ≤ k → k < W'.heap.size → w'.heap[k]? = W'.heap[k]? := by
  have hlt := h.lt
  obtain ⟨hm, lo, F, G, h⟩ := h
  have h' := h.below b
  refine (add_any p F L c q m W' h'.d h'.ok1 hc hq).mono fun e w' ⟨he, F', hd, mv⟩ => ⟨he, ?_, ⟨F', G, (h'.goD hd mv (h'.ok1.add c m q)).base _ fun k hk => ?_⟩, fun k h1 h2 => mv.block k h2 (fun hf => by have := h.d.lts k hf; omega)⟩
  · exact (hm.same (b.block mb hlt)).same (mv.block mb (Nat.lt_of_lt_of_le hlt b.size) (h.nd _ rfl))
  · subst hk
    obtain ⟨h1, _⟩ := mv.miss (h.nd _ rfl) (Nat.lt_of_lt_of_le hlt b.size)
    exact ⟨Nat.lt_of_lt_of_le (Nat.lt_of_lt_of_le hlt b.size) mv.size, h1, h.nr _ rfl⟩
theorem two_set {F G : Nat → Prop} (h : Two w W (fun k => k = mb) W p F L r G M) (lo : w.heap.size ≤ mb) (i : Nat) (x : Value) : Two w (W.setCell ⟨mb, i, none⟩ x) (fun k => k = mb) (W.setCell ⟨mb, i, none⟩ x) p F L r G M :=
  ⟨h.d.same fun k hk => Below.heap_setCell _ _ _ _ (fun e => h.nd mb rfl (by have e' : k = mb := e; rw [← e']; exact hk)), h.r.same fun k hk => Below.heap_setCell _ _ _ _ (fun e => h.nr mb rfl (by have e' : k = mb := e; rw [← e']; exact hk)), h.ok1, h.ok2, h.fd, h.fr, h.ap, h.bel.setCell lo _, Nat.le_refl _, fun k hk => ⟨by have := (h.ns k hk).1; simpa using this, rfl⟩, h.nd, h.nr⟩
end
theorem twoM_new {w W V : World} {p r : Nat} (h : TwoX w W p [] r []) {C : Array Value} (hC : C.size = 1001) (fold : W.alloc (.cells C 3) = V) : TwoM w V W.heap.size p [] r [] := by
  obtain ⟨F, G, h⟩ := h
  have b : Below W.heap.size W V := by rw [← fold]; exact (Below.refl _ _).alloc (Nat.le_refl _) _
  refine ⟨⟨C, by rw [← fold]; exact heap_alloc_new W _, hC, fun s hs => by cases hs⟩, h.bel.size, F, G, (h.below b).base _ fun k hk => ?_⟩
  subst hk
  exact ⟨by rw [← fold]; simp, fun hf => by have := h.d.lts _ hf; omega, fun hf => by have := h.r.lts _ hf; omega⟩
theorem run_make_most (w : World) : ∃ C : Array Value, (Instr.makeSlice 36 (.int .i64 1001) (.int .i64 1001)).run Try.prog w = .ok (.slice (some ⟨w.heap.size, 0, none⟩) 1001 1001) (w.alloc (.cells C 3)) ∧ C.size = 1001 := by
  obtain ⟨i, hi, hz, hsz, hby⟩ := intInfo
  have hr := run_make (P := Try.prog) w 36 3 i _ Try.underlying36 hi hz .i64 .i64 1001 1001 (by omega) (by omega) (by rw [hby]; omega) (by omega)
  exact ⟨_, hr, by rw [size_madeCells, hsz]; rfl⟩
end Go.Proofs.Ytooaiomghbjpiaa

/-
  THE STATEMENT ConsumerHolds, walked.
-/
namespace Go.Proofs.Ytooaiomghbjpiaa
open Go.RowKit Go.Maps Go.Sort Go.Shelf
set_option maxRecDepth 20000

def BoxA (W : World) (bx : Nat) (a : Ac) : Prop := W.heap[bx]? = some (.cells #[.int .i64 a.kind, .int .i64 a.c, .string a.q, .int .i64 a.n, .int .u64 a.t] 33 (0, 0))
theorem BoxA.cells {W : World} {bx : Nat} {a : Ac} (h : BoxA W bx a) : W.cell? ⟨bx, 0, none⟩ = some (.int .i64 a.kind) ∧ W.cell? ⟨bx, 1, none⟩ = some (.int .i64 a.c) ∧ W.cell? ⟨bx, 2, none⟩ = some (.string a.q) ∧ W.cell? ⟨bx, 3, none⟩ = some (.int .i64 a.n) ∧ W.cell? ⟨bx, 4, none⟩ = some (.int .u64 a.t) := by
  unfold BoxA at h
  simp [World.cell?, h]
/-- Behind the first test: added; or not, of either kind. -/
def MidP (w X wx : World) (mb p : Nat) (L : List Se) (r : Nat) (M : List Se) (a : Ac) (bx : Nat) (u : Value) : Prop := BoxA wx bx a ∧ ((u = .bool true ∧ a.kind = 0 ∧ addE L a.c a.q a.n = 0 ∧ MostAt wx mb L ∧ ∃ F G, Two w wx (fun k => k = mb) wx p F (addL L a.c a.q a.n) r G M) ∨ (u = .bool false ∧ a.kind = 0 ∧ TwoM w wx mb p L r M) ∨ (u = .bool false ∧ a.kind ≠ 0 ∧ wx = X))
/-- Behind it all. -/
def AftP (w wx : World) (mb p r : Nat) (a : Ac) (bx : Nat) : Prop := ∃ L' M', TwoM w wx mb p L' r M' ∧ BoxA wx bx a
set_option linter.unusedSimpArgs false in
set_option maxHeartbeats 16000000 in
theorem holds_law (v : Value) (acts : List Ac) (w : World) (hr : K.RowOf acells w v acts) (hf : ∀ a ∈ acts, a.Fits) :
    Calls Try.prog 4 #[v] w fun e w' => e = .returned (.bool true) ∧ Below w.heap.size w w' := by
  obtain ⟨va, vc, rfl⟩ := hr.slice
  have hl : acts.length ≤ maxLen := (acs_at hr).2.1
  have l63 : acts.length ≤ 9223372036854775807 := by unfold maxLen at hl; omega
  have HR : Hid (∀ W, Below w.heap.size w W → ∀ i (hi : i < acts.length), ∃ b off, va = some ⟨b, off, none⟩ ∧ W.cell? ⟨b, off + i * 5, none⟩ = some (.int .i64 acts[i].kind) ∧ W.cell? ⟨b, off + i * 5 + 1, none⟩ = some (.int .i64 acts[i].c) ∧ W.cell? ⟨b, off + i * 5 + 2, none⟩ = some (.string acts[i].q) ∧ W.cell? ⟨b, off + i * 5 + 3, none⟩ = some (.int .i64 acts[i].n) ∧ W.cell? ⟨b, off + i * 5 + 4, none⟩ = some (.int .u64 acts[i].t)) := fun W b => (acs_at (hr.below b (Nat.le_refl _))).2.2
  have HFt : Hid (∀ a ∈ acts, a.Fits) := hf
  have kLi : Hid (∀ V, Below w.heap.size w V → Calls Try.prog 9 #[.slice va acts.length vc] V fun e w' => ∃ b, e = .returned (.bool b) ∧ (b = true → acts.length ≤ 250) ∧ Below V.heap.size V w') := fun V hV => light_any _ acts V (hr.below hV (Nat.le_refl _)) hf
  clear hr hf hl
  obtain ⟨n, hn⟩ : ∃ z, acts.length = z := ⟨_, rfl⟩
  rw [hn] at kLi l63 ⊢
  go_enter Try.func4, Try.ntmps4
  go_wp2_with fail
  refine (Lv.new w).mono ?_
  rintro e w1 ⟨p, rfl, h1⟩
  obtain ⟨W2, fold2⟩ : ∃ W2, w1.alloc (.cells #[.slice none 0 0] 28) = W2 := ⟨_, rfl⟩
  have T2 := two_new h1 fold2
  clear h1
  go_wp2_with fail
  clear fold2
  refine (kLi.out W2 T2.bel).mono ?_
  rintro e w3 ⟨rb, rfl, _, b3⟩
  have T3 := T2.below b3
  clear T2 b3 kLi
  obtain ⟨r, hrr⟩ : ∃ z, w1.heap.size = z := ⟨_, rfl⟩
  rw [hrr] at T3 ⊢
  clear hrr
  cases rb with
  | false =>
    have hb3 := T3.bel
    clear T3
    go_wp2_with (go_at_call 10; refine (lives_any _).mono ?_; rintro e w4 ⟨rfl, b4⟩)
    go_ret
    exact ⟨rfl, hb3.trans (b4.mono hb3.size)⟩
  | true =>
    obtain ⟨C, hmk, hC⟩ := run_make_most w3
    obtain ⟨V3, foldV⟩ : ∃ V, w3.alloc (.cells C 3) = V := ⟨_, rfl⟩
    have T4 : Hid (TwoM w V3 w3.heap.size p [] r []) := twoM_new T3 hC foldV
    rw [foldV] at hmk
    obtain ⟨mb, hmb⟩ : ∃ z, w3.heap.size = z := ⟨_, rfl⟩
    rw [hmb] at hmk T4
    clear T3 hC foldV
    go_wp2
    clear hmk hmb
    go_loopw [35] (fun u35 wr => ∃ (k : Nat) (L M : List Se), u35 = .int .i64 (k : Int) ∧ k ≤ n ∧ Hid (TwoM w wr mb p L r M)) (fun u35 _ => n - (intOf u35).toNat)
    case atStart => exact ⟨0, [], [], rfl, Nat.zero_le _, T4⟩
    case round =>
      as_aux_lemma =>
        obtain ⟨k, L, M, rfl, hk, HT⟩ := hrel
        clear T4
        by_cases hlt2 : k < n
        · have hlt : (k : Int) < (n : Int) := by omega
          have hkl : k < acts.length := by omega
          obtain ⟨b, off, hva, i0, i1, i2, i3, i4⟩ := HR.out wr HT.out.bel k hkl
          have hfa := HFt.out _ (List.getElem_mem hkl)
          obtain ⟨a, ha⟩ : ∃ z, acts[k] = z := ⟨_, rfl⟩
          rw [ha] at i0 i1 i2 i3 i4 hfa
          clear ha
          obtain ⟨ak, ac, aq, an, at'⟩ := a
          simp only at i0 i1 i2 i3 i4
          subst hva
          obtain ⟨X, foldX⟩ : ∃ X, wr.alloc (.cells #[.int .i64 ak, .int .i64 ac, .string aq, .int .i64 an, .int .u64 at'] 33) = X := ⟨_, rfl⟩
          have bX : Below wr.heap.size wr X := by rw [← foldX]; exact (Below.refl _ _).alloc (Nat.le_refl _) _
          have hbx : BoxA X wr.heap.size ⟨ak, ac, aq, an, at'⟩ := by unfold BoxA; rw [← foldX]; exact heap_alloc_new wr _
          have hsX : wr.heap.size < X.heap.size := by rw [← foldX]; simp
          obtain ⟨x0, x1, x2, x3, x4⟩ := hbx.cells
          simp only at x0 x1 x2 x3 x4
          have kAdd := HT.out.add bX ac aq an hfa.c hfa.ql
          have kA : Hid (ak ≠ 0 → _) := fun h0 => HT.out.act bX ⟨ak, ac, aq, an, at'⟩ hfa h0
          have HBX : Hid (BoxA X wr.heap.size ⟨ak, ac, aq, an, at'⟩ ∧ wr.heap.size < X.heap.size ∧ TwoM w wr mb p L r M ∧ Below wr.heap.size wr X) := ⟨hbx, hsX, HT.out, bX⟩
          have HF : Hid _ := hfa
          obtain ⟨W0, hW0⟩ : ∃ z, z = wr := ⟨_, rfl⟩
          subst hW0
          clear hbx hsX bX HT hfa
          go_upto_region 8 with fail
          clear foldX i0 i1 i2 i3 i4
          go_cut [35, 52] from 35 to 219 (fun u35 u52 wx => u35 = .int .i64 (k : Int) ∧ Hid (MidP w X wx mb p L r M ⟨ak, ac, aq, an, at'⟩ W0.heap.size u52))
          case first =>
            as_aux_lemma =>
              by_cases h0 : ak = 0
              · have hb0 : (ak == (0 : Int)) = true := by simpa using h0
                have HK0 : Hid (ak = 0) := h0
                have HE : Hid (∀ z, addE L ac aq an = z → addE L ac aq an = z) := fun z h => h
                obtain ⟨z, hz⟩ : ∃ z, addE L ac aq an = z := ⟨_, rfl⟩
                have HZ : Hid (addE L ac aq an = z) := hz
                rw [hz] at kAdd
                clear hz HE h0
                go_wp2_with fail
                refine kAdd.mono ?_
                rintro e w4 ⟨rfl, m4, t4, kp⟩
                have hbx4 : BoxA w4 W0.heap.size ⟨ak, ac, aq, an, at'⟩ := (kp _ (Nat.le_refl _) HBX.out.2.1).trans HBX.out.1
                have HM : Hid (BoxA w4 W0.heap.size ⟨ak, ac, aq, an, at'⟩ ∧ MostAt w4 mb L ∧ ∃ F G, Two w w4 (fun k => k = mb) w4 p F (addL L ac aq an) r G M) := ⟨hbx4, m4, t4⟩
                clear m4 t4 kp hbx4 kAdd x0 x1 x2 x3 x4
                by_cases hE : z = 0
                · have hEb : (z == (0 : Int)) = true := by simpa using hE
                  have HD : Hid (∀ u, u = Value.bool true → MidP w X w4 mb p L r M ⟨ak, ac, aq, an, at'⟩ W0.heap.size u) := fun u hu => ⟨HM.out.1, .inl ⟨hu, HK0.out, HZ.out.trans hE, HM.out.2⟩⟩
                  clear hE
                  go_wp2
                  go_meet
                  exact ⟨rfl, HD.out _ rfl⟩
                · have hEb : (z == (0 : Int)) = false := by simpa using hE
                  have HD : Hid (∀ u, u = Value.bool false → MidP w X w4 mb p L r M ⟨ak, ac, aq, an, at'⟩ W0.heap.size u) := fun u hu => ⟨HM.out.1, .inr (.inl ⟨hu, HK0.out, HM.out.2.1, HBX.out.2.2.1.2.1, by
                    have := HM.out.2.2
                    have e : addL L ac aq an = L := by unfold addL; rw [if_neg (by rw [HZ.out]; exact hE)]
                    rw [e] at this
                    exact this⟩)⟩
                  clear hE
                  go_wp2
                  go_meet
                  exact ⟨rfl, HD.out _ rfl⟩
              · have hb0 : (ak == (0 : Int)) = false := by simpa using h0
                have HD : Hid (∀ u, u = Value.bool false → MidP w X X mb p L r M ⟨ak, ac, aq, an, at'⟩ W0.heap.size u) := fun u hu => ⟨HBX.out.1, .inr (.inr ⟨hu, h0, rfl⟩)⟩
                clear h0
                go_wp2
                go_meet
                exact ⟨rfl, HD.out _ rfl⟩
          case rest =>
            as_aux_lemma =>
              obtain ⟨rfl, HMid⟩ := hcut
              clear x0 x1 x2 x3 x4 kAdd
              go_upto_if 52 with fail
              go_cut [35] from 35 to 219 (fun u35 wx => u35 = .int .i64 (k : Int) ∧ Hid (AftP w wx mb p r ⟨ak, ac, aq, an, at'⟩ W0.heap.size))
              case first =>
                as_aux_lemma =>
                  rcases HMid.out with ⟨hbox, (⟨hu, h0, hE, m4, F, G, t4⟩ | ⟨hu, h0, T⟩ | ⟨hu, h0, hX⟩)⟩
                  · simp only at h0 hE
                    obtain ⟨hm1, _, _⟩ := addE_zero hE
                    obtain ⟨j1, j2, _, j3, j4⟩ := mayS_true hm1
                    obtain ⟨cn, hcn⟩ : ∃ cn : Nat, ac = (cn : Int) := ⟨ac.toNat, by omega⟩
                    subst hcn
                    obtain ⟨y0, y1, y2, y3, y4⟩ := hbox.cells
                    simp only at y0 y1 y2 y3 y4
                    have hcn' : cn ≤ 1000 := by omega
                    obtain ⟨xo, e0, e1⟩ := m4.has hcn'
                    have hlo := HBX.out.2.2.1.2.1
                    have hlt4 := HBX.out.2.2.1.lt
                    have HP : Hid (AftP w (wc.setCell ⟨mb, cn, none⟩ (.int .i64 an)) mb p r ⟨ak, (cn : Int), aq, an, at'⟩ W0.heap.size) := ⟨_, M, ⟨m4.put hcn' hE (fun s hs => (HBX.out.2.2.1.ok.1.ok s hs).c1), hlo, F, G, two_set t4 hlo cn _⟩, by
                      unfold BoxA at hbox ⊢
                      rw [Below.heap_setCell _ _ _ _ (by show W0.heap.size ≠ mb; omega)]
                      exact hbox⟩
                    have g1 : ¬ (cn : Int) < 1 := by omega
                    have g2 : ¬ (1000 : Int) < (cn : Int) := by omega
                    have g3 : ¬ an < 1 := by omega
                    have g4 : (cn : Int) < 1001 := by omega
                    subst hu
                    clear hbox h0 hE m4 t4 hm1 j1 j2 j3 j4 hcn' HMid hlo hlt4
                    go_wp2
                    go_meet
                    exact ⟨rfl, HP⟩
                  · simp only at h0
                    have hb0 : (ak != (0 : Int)) = false := by simpa using h0
                    have hb1 : (ak == (0 : Int)) = true := by simpa using h0
                    obtain ⟨y0, y1, y2, y3, y4⟩ := hbox.cells
                    simp only at y0 y1 y2 y3 y4
                    have HP : Hid (AftP w wc mb p r ⟨ak, ac, aq, an, at'⟩ W0.heap.size) := ⟨L, M, T, hbox⟩
                    subst hu
                    clear hbox h0 T HMid
                    go_wp2
                    go_meet
                    exact ⟨rfl, HP⟩
                  · simp only at h0
                    have hb0 : (ak != (0 : Int)) = true := by simpa using h0
                    have hb1 : (ak == (0 : Int)) = false := by simpa using h0
                    obtain ⟨y0, y1, y2, y3, y4⟩ := hbox.cells
                    simp only at y0 y1 y2 y3 y4
                    have hA := kA.out h0
                    unfold acv at hA
                    simp only at hA
                    have HP : Hid (∀ w5, TwoM w w5 mb p (actP L M ⟨ak, ac, aq, an, at'⟩).1 r (actP L M ⟨ak, ac, aq, an, at'⟩).2 → (∀ k, W0.heap.size ≤ k → k < X.heap.size → w5.heap[k]? = X.heap[k]?) → AftP w w5 mb p r ⟨ak, ac, aq, an, at'⟩ W0.heap.size) := fun w5 T5 kp => ⟨_, _, T5, (kp _ (Nat.le_refl _) HBX.out.2.1).trans HBX.out.1⟩
                    unfold ActM at hA
                    generalize actP L M ⟨ak, ac, aq, an, at'⟩ = LM at *
                    subst hu hX
                    clear hbox h0 HMid
                    go_wp2_with fail
                    refine hA.mono ?_
                    rintro e w5 ⟨bb, rfl, T5, kp⟩
                    have HP5 : Hid (AftP w w5 mb p r ⟨ak, ac, aq, an, at'⟩ W0.heap.size) := HP.out w5 T5 kp
                    clear T5 kp hA HP
                    go_wp2
                    go_meet
                    exact ⟨rfl, HP5⟩
              case rest =>
                as_aux_lemma =>
                  obtain ⟨rfl, HAft⟩ := hcut
                  obtain ⟨L', M', T, hbox⟩ := HAft.out
                  have HT5 : Hid (TwoM w wc mb p L' r M') := T
                  have HB5 : Hid (BoxA wc W0.heap.size ⟨ak, ac, aq, an, at'⟩) := hbox
                  have kC := T.lv.clients
                  obtain ⟨l, hl⟩ : ∃ z, clientsL L' = z := ⟨_, rfl⟩
                  have HL : Hid (clientsL L' = l) := hl
                  rw [hl] at kC
                  obtain ⟨nl, hnl⟩ : ∃ z, l.length = z := ⟨_, rfl⟩
                  have HN : Hid (l.length = nl ∧ nl ≤ 32) := ⟨hnl, by rw [← hnl, ← hl, clientsL_len]; exact T.ok.1.few⟩
                  clear HMid HAft kA HBX hbox hl
                  obtain ⟨U, hU⟩ : ∃ z, z = wc := ⟨_, rfl⟩
                  subst hU
                  clear T
                  go_wp2_with fail
                  refine kC.mono ?_
                  rintro e V ⟨vl, rfl, ol, bV, _⟩
                  obtain ⟨la, lc, hvl⟩ := ol.row.sliceInts
                  rw [hnl] at hvl
                  subst hvl
                  have HV : Hid (TwoM w V mb p L' r M' ∧ BoxA V W0.heap.size ⟨ak, ac, aq, an, at'⟩ ∧ Row V (.slice la nl lc) (icells l)) := ⟨HT5.out.below bV, (bV.block _ (Array.getElem?_eq_some_iff.1 HB5.out).1).trans HB5.out, ol.row⟩
                  have n32 : nl ≤ 32 := HN.out.2
                  clear ol bV kC HT5 HB5 hnl
                  go_wp2
                  go_loopw [83] (fun u83 wr => ∃ i : Nat, u83 = .int .i64 (i : Int) ∧ i ≤ nl ∧ Hid (Below V.heap.size V wr)) (fun u83 _ => nl - (intOf u83).toNat)
                  case atStart => exact ⟨0, rfl, Nat.zero_le _, Below.refl _ _⟩
                  case round =>
                    as_aux_lemma =>
                      obtain ⟨i, rfl, hi, HB⟩ := hrel
                      by_cases hin : i < nl
                      · have hin' : (i : Int) < (nl : Int) := by omega
                        have hil : i < l.length := by have := HN.out.1; omega
                        have hok := HV.out.1.ok.1
                        have hmem : l[i] ∈ clientsL L' := by rw [HL.out]; exact List.getElem_mem hil
                        obtain ⟨s, hs, hsc, hho, hhq, hht, hso⟩ := hold_seat hok hmem
                        have j1 := hso.c1
                        have j2 := hso.c2
                        obtain ⟨cn, hcn⟩ : ∃ cn : Nat, s.c = (cn : Int) := ⟨s.c.toNat, by omega⟩
                        obtain ⟨bs, os, cs, hv, hc1, hc2, hcs⟩ := (HV.out.2.2.below HB.out (Nat.le_refl _)).atInts (by omega)
                        have cc := hcs i hil
                        have kH := (HV.out.1.lv.go HB.out).holds l[i] ⟨by show _ ≤ l[i]; omega, by show l[i] ≤ _; omega⟩
                        rw [← hsc, hcn] at cc
                        rw [hho, ← hsc, hcn] at kH
                        rw [← hsc, hcn] at hhq hht
                        have hup := List.pairwise_iff_getElem.1 (clientsL_up hok)
                        have HAP : Hid (∀ j (hj : j < l.length), j < i → I64 l[j] ∧ l[j] < (cn : Int) ∧ ∀ t ∈ htL L' (cn : Int), hqL L' l[j] = hqL L' (cn : Int) → t ∉ htL L' l[j]) := fun j hj hji => by
                          have hmj : l[j] ∈ clientsL L' := by rw [HL.out]; exact List.getElem_mem hj
                          obtain ⟨e1, e2⟩ := clients_i64 hok hmj
                          have hlt : l[j] < l[i] := by
                            have := hup j i (by rw [HL.out]; exact hj) (by rw [HL.out]; exact hil) hji
                            simp only [HL.out] at this
                            exact this
                          have hci : l[i] = (cn : Int) := by rw [← hsc, hcn]
                          refine ⟨⟨by show _ ≤ l[j]; omega, by show l[j] ≤ _; omega⟩, by omega, fun t ht hq => hold_apart hok (c := (cn : Int)) (d := l[j]) (by rw [← hci]; exact hmem) hmj (by omega) hq.symm ht⟩
                        obtain ⟨ts, hts⟩ : ∃ z, htL L' (cn : Int) = z := ⟨_, rfl⟩
                        obtain ⟨tl, htl⟩ : ∃ z, ts.length = z := ⟨_, rfl⟩
                        have HTS : Hid (ts.length = tl ∧ ts.Pairwise (· < ·) ∧ ∀ t ∈ ts, 0 < t) := ⟨htl, by rw [← hts, hht]; exact hso.up, fun t ht => by rw [← hts, hht] at ht; exact (hso.pos t ht).1⟩
                        have hlen : (tl : Int) ≤ s.m := by rw [← htl, ← hts, hht]; exact hso.len
                        have tl100 : tl ≤ 100 := by have := hso.m2; omega
                        have hmost := HV.out.1.1.cell hs hcn
                        have HPrev : Hid (∀ j (hj : j < l.length), wr.cell? ⟨bs, os + j, none⟩ = some (.int .i64 l[j])) := fun j hj => hcs j hj
                        rw [hts] at kH HAP
                        rw [htl] at kH
                        rw [HN.out.1] at hv hc1
                        injection hv with hv1 _ hv2
                        subst hv1 hv2
                        generalize s.m = sm at *
                        have HQ : Hid (hqL L' (cn : Int) = hqL L' (cn : Int)) := rfl
                        obtain ⟨hq, hhq2⟩ : ∃ z, hqL L' (cn : Int) = z := ⟨_, rfl⟩
                        rw [hhq2] at kH HAP
                        have c1 : ¬ (cn : Int) < 1 := by omega
                        have c2 : ¬ (1000 : Int) < (cn : Int) := by omega
                        have c3 : (cn : Int) < 1001 := by omega
                        have c4 : ¬ sm < (tl : Int) := by omega
                        have c4d : decide (sm < (tl : Int)) = false := decide_eq_false c4
                        have c1d : decide ((cn : Int) < 1) = false := decide_eq_false c1
                        have c2d : decide ((1000 : Int) < (cn : Int)) = false := decide_eq_false c2
                        have c5 : (i : Int) ≤ (lc : Int) := by omega
                        clear hmem hs hsc hho hhq hht hso hcs hts htl hok hup hcn hlen hhq2 HQ j1 j2
                        obtain ⟨Wa, hWa⟩ : ∃ z, z = wr := ⟨_, rfl⟩
                        subst hWa
                        go_wp2_with fail
                        refine kH.mono ?_
                        rintro e w9 ⟨a1, k1, rfl, o1, b9⟩
                        obtain ⟨W9, fold9⟩ : ∃ W, w9.alloc (.cells #[.string hq, .slice a1 tl k1] 40) = W := ⟨_, rfl⟩
                        have b9' : Below w9.heap.size w9 W9 := by rw [← fold9]; exact (Below.refl _ _).alloc (Nat.le_refl _) _
                        have hb9 : W9.heap[w9.heap.size]? = some (.cells #[.string hq, .slice a1 tl k1] 40 (0, 0)) := by rw [← fold9]; exact heap_alloc_new w9 _
                        have ba9 : Below Wa.heap.size Wa W9 := b9.trans (b9'.mono b9.size)
                        have bV9 : Below V.heap.size V W9 := HB.out.trans (ba9.mono HB.out.size)
                        have g0 : W9.cell? ⟨w9.heap.size, 0, none⟩ = some (.string hq) := by simp [World.cell?, hb9]
                        have g1 : W9.cell? ⟨w9.heap.size, 1, none⟩ = some (.slice a1 tl k1) := by simp [World.cell?, hb9]
                        have gm := cell_on bV9 hmost
                        have H9 : Hid (Row W9 (.slice a1 tl k1) (ucells ts) ∧ Below V.heap.size V W9 ∧ ∀ j (hj : j < l.length), W9.cell? ⟨bs, os + j, none⟩ = some (.int .i64 l[j])) := ⟨o1.row.below b9' (Nat.le_refl _), bV9, fun j hj => cell_on ba9 (HPrev.out j hj)⟩
                        clear kH o1 b9 b9' hb9 ba9 bV9 HPrev hmost cc HB
                        obtain ⟨hx, hhx⟩ : ∃ z, w9.heap.size = z := ⟨_, rfl⟩
                        rw [hhx] at g0 g1
                        go_wp2
                        clear fold9 hhx
                        go_cut [83, 126] from 83 to 185 (fun u83 u126 wx => u83 = .int .i64 (i : Int) ∧ u126 = .bool false ∧ ∃ q, wx = W9.drewN q)
                        case first =>
                          as_aux_lemma =>
                            by_cases hi0 : 0 < i
                            · obtain ⟨m, hm⟩ : ∃ m, i = m + 1 := ⟨i - 1, by omega⟩
                              have hml : m < l.length := by omega
                              have pc := H9.out.2.2 m hml
                              have pl := (HAP.out m hml (by omega)).2.1
                              obtain ⟨d, hd⟩ : ∃ z, l[m] = z := ⟨_, rfl⟩
                              rw [hd] at pc pl
                              have pl' : ¬ (cn : Int) ≤ d := by omega
                              have pld : decide ((cn : Int) ≤ d) = false := decide_eq_false pl'
                              have hm0 : (0 : Int) < (m : Int) + 1 := by omega
                              have hm0d : decide ((0 : Int) < (m : Int) + 1) = true := decide_eq_true hm0
                              have hmn : (m : Int) < (nl : Int) := by omega
                              subst hm
                              clear pl hd hml hi0
                              go_quiet (fail)
                              go_wp2
                              go_meet
                              exact ⟨by go_num, rfl, _, rfl⟩
                            · obtain rfl : i = 0 := by omega
                              go_quiet (fail)
                              go_wp2
                              go_meet
                              exact ⟨rfl, rfl, _, rfl⟩
                        case rest =>
                          as_aux_lemma =>
                            obtain ⟨rfl, rfl, q9, rfl⟩ := hcut
                            go_wp2
                            go_loopw [130] (fun u130 wr => ∃ kk : Nat, u130 = .int .i64 (kk : Int) ∧ kk ≤ tl ∧ Hid (Below W9.heap.size W9 wr)) (fun u130 _ => tl - (intOf u130).toNat)
                            case atStart => exact ⟨0, rfl, Nat.zero_le _, drewN_below W9 q9⟩
                            case round =>
                              as_aux_lemma =>
                                obtain ⟨kk, rfl, hkk, HK⟩ := hrel
                                obtain ⟨Wb, hWb⟩ : ∃ z, z = wr := ⟨_, rfl⟩
                                subst hWb
                                have g0b := cell_on HK.out g0
                                have g1b := cell_on HK.out g1
                                by_cases hkt : kk < tl
                                · have hkt' : (kk : Int) < (tl : Int) := by omega
                                  have hktl : kk < ts.length := by have := HTS.out.1; omega
                                  obtain ⟨tb, to', tc, htv, _, _, htc⟩ := (H9.out.1.below HK.out (Nat.le_refl _)).atU (by omega)
                                  rw [HTS.out.1] at htv
                                  injection htv with hv1 _ hv2
                                  subst hv1 hv2
                                  have tt := htc kk hktl
                                  have tpos := HTS.out.2.2 _ (List.getElem_mem hktl)
                                  have HPT : Hid (∀ j (hj : j < ts.length), Wb.cell? ⟨tb, to' + j, none⟩ = some (.int .u64 ts[j])) := fun j hj => htc j hj
                                  have HAT : Hid (∀ j (hj : j < l.length), j < i → hqL L' l[j] = hq → ts[kk] ∉ htL L' l[j]) := fun j hj hji h => (HAP.out j hj hji).2.2 _ (List.getElem_mem hktl) h
                                  have HUP : Hid (∀ j (hj : j < ts.length), j < kk → ts[j] < ts[kk]) := fun j hj hjk => List.pairwise_iff_getElem.1 HTS.out.2.1 j kk hj hktl hjk
                                  obtain ⟨t, ht⟩ : ∃ z, ts[kk] = z := ⟨_, rfl⟩
                                  rw [ht] at tt tpos HAT HUP
                                  have t0 : (t == (0 : Int)) = false := by simp; omega
                                  clear htc ht tpos
                                  go_upto_region 24 with fail
                                  go_cut [130, 150] from 130 to 184 (fun u130 u150 wx => u130 = .int .i64 (kk : Int) ∧ u150 = .bool false ∧ wx = Wb)
                                  case first =>
                                    as_aux_lemma =>
                                      by_cases hk0 : 0 < kk
                                      · obtain ⟨m, hm⟩ : ∃ m, kk = m + 1 := ⟨kk - 1, by omega⟩
                                        have hml : m < ts.length := by omega
                                        have pc := HPT.out m hml
                                        have pl := HUP.out m hml (by omega)
                                        obtain ⟨d, hd⟩ : ∃ z, ts[m] = z := ⟨_, rfl⟩
                                        rw [hd] at pc pl
                                        have pl' : ¬ t ≤ d := by omega
                                        have pld : decide (t ≤ d) = false := decide_eq_false pl'
                                        have hm0 : (0 : Int) < (m : Int) + 1 := by omega
                                        have hm0d : decide ((0 : Int) < (m : Int) + 1) = true := decide_eq_true hm0
                                        have hmn : (m : Int) < (tl : Int) := by omega
                                        subst hm
                                        clear pl hd hml hk0
                                        go_wp2
                                        go_meet
                                        exact ⟨by go_num, rfl, rfl⟩
                                      · obtain rfl : kk = 0 := by omega
                                        go_wp2
                                        go_meet
                                        exact ⟨rfl, rfl, rfl⟩
                                  case rest =>
                                    as_aux_lemma =>
                                      obtain ⟨rfl, rfl, hwc⟩ := hcut
                                      subst hwc
                                      go_wp2
                                      go_loopw [155] (fun u155 wr => ∃ j : Nat, u155 = .int .i64 (j : Int) ∧ j ≤ i ∧ Hid (Below W9.heap.size W9 wr)) (fun u155 _ => i - (intOf u155).toNat)
                                      case atStart => exact ⟨0, rfl, Nat.zero_le _, HK⟩
                                      case round =>
                                        as_aux_lemma =>
                                          obtain ⟨j, rfl, hji, HJ⟩ := hrel
                                          obtain ⟨Wc, hWc⟩ : ∃ z, z = wr := ⟨_, rfl⟩
                                          subst hWc
                                          have g0c := cell_on HJ.out g0
                                          by_cases hjn : j < i
                                          · have hjn' : (j : Int) < (i : Int) := by omega
                                            have hjl : j < l.length := by omega
                                            have dc := cell_on HJ.out (H9.out.2.2 j hjl)
                                            have kH2 := (HV.out.1.lv.go (H9.out.2.1.trans (HJ.out.mono H9.out.2.1.size))).holds l[j] (HAP.out j hjl hjn).1
                                            have hln := htL_len HV.out.1.ok.1 l[j]
                                            have hat := HAT.out j hjl hjn
                                            obtain ⟨d, hd⟩ : ∃ z, l[j] = z := ⟨_, rfl⟩
                                            rw [hd] at dc kH2 hat hln
                                            obtain ⟨tl2, htl2⟩ : ∃ z, (htL L' d).length = z := ⟨_, rfl⟩
                                            rw [htl2] at kH2 hln
                                            have HT2 : Hid ((htL L' d).length = tl2 ∧ (hqL L' d = hq → t ∉ htL L' d)) := ⟨htl2, hat⟩
                                            generalize hqL L' d = hq2 at *
                                            generalize htL L' d = ts2 at *
                                            generalize holdB L' d = hb2 at *
                                            clear hd htl2 hat
                                            go_wp2_with fail
                                            refine kH2.mono ?_
                                            rintro e w11 ⟨a2, k2, rfl, o2, b11⟩
                                            obtain ⟨W11, fold11⟩ : ∃ W, w11.alloc (.cells #[.string hq2, .slice a2 tl2 k2] 40) = W := ⟨_, rfl⟩
                                            have b11' : Below w11.heap.size w11 W11 := by rw [← fold11]; exact (Below.refl _ _).alloc (Nat.le_refl _) _
                                            have hb11 : W11.heap[w11.heap.size]? = some (.cells #[.string hq2, .slice a2 tl2 k2] 40 (0, 0)) := by rw [← fold11]; exact heap_alloc_new w11 _
                                            have bc11 : Below Wc.heap.size Wc W11 := b11.trans (b11'.mono b11.size)
                                            have e0 : W11.cell? ⟨w11.heap.size, 0, none⟩ = some (.string hq2) := by simp [World.cell?, hb11]
                                            have e1 : W11.cell? ⟨w11.heap.size, 1, none⟩ = some (.slice a2 tl2 k2) := by simp [World.cell?, hb11]
                                            have g0d := cell_on bc11 g0c
                                            have H11 : Hid (Row W11 (.slice a2 tl2 k2) (ucells ts2) ∧ Below W9.heap.size W9 W11) := ⟨o2.row.below b11' (Nat.le_refl _), HJ.out.trans (bc11.mono HJ.out.size)⟩
                                            clear kH2 o2 b11 b11' hb11 bc11
                                            obtain ⟨xb, hxb⟩ : ∃ z, w11.heap.size = z := ⟨_, rfl⟩
                                            rw [hxb] at e0 e1
                                            go_wp2
                                            clear fold11 hxb
                                            go_loopw [168] (fun u168 wr => ∃ jj : Nat, u168 = .int .i64 (jj : Int) ∧ jj ≤ tl2 ∧ wr = W11) (fun u168 _ => tl2 - (intOf u168).toNat)
                                            case atStart => exact ⟨0, rfl, Nat.zero_le _, rfl⟩
                                            case round =>
                                              as_aux_lemma =>
                                                obtain ⟨jj, rfl, hjj, rfl⟩ := hrel
                                                by_cases hjt : jj < tl2
                                                · have hjt' : (jj : Int) < (tl2 : Int) := by omega
                                                  have hjt2 : jj < ts2.length := by have := HT2.out.1; omega
                                                  obtain ⟨ub, uo, uc, huv, _, _, huc⟩ := H11.out.1.atU (by omega)
                                                  rw [HT2.out.1] at huv
                                                  injection huv with hv1 _ hv2
                                                  subst hv1 hv2
                                                  have uu := huc jj hjt2
                                                  have hun : hq2 = hq → ts2[jj] ≠ t := fun h e => HT2.out.2 h (by rw [← e]; exact List.getElem_mem hjt2)
                                                  obtain ⟨u, hu⟩ : ∃ z, ts2[jj] = z := ⟨_, rfl⟩
                                                  rw [hu] at uu hun
                                                  have HW : (hq2.toList == hq.toList) = decide (hq2 = hq) := txt_dec _ _
                                                  clear huc hu
                                                  by_cases hqq : hq2 = hq
                                                  · have hB : (hq2.toList == hq.toList) = true := by rw [HW]; simpa using hqq
                                                    have hub : (u == t) = false := by simpa using hun hqq
                                                    clear HW hqq hun
                                                    go_wp2
                                                    go_roundw
                                                    case rel => exact ⟨jj + 1, by go_num, by omega, by first | rfl | trivial⟩
                                                    case measure => simp [intOf]; omega
                                                  · have hB : (hq2.toList == hq.toList) = false := by rw [HW]; simpa using hqq
                                                    clear HW hqq hun
                                                    go_wp2
                                                    go_roundw
                                                    case rel => exact ⟨jj + 1, by go_num, by omega, by first | rfl | trivial⟩
                                                    case measure => simp [intOf]; omega
                                                · have hjt' : ¬ (jj : Int) < (tl2 : Int) := by omega
                                                  have H11b : Hid (Below W9.heap.size W9 wr) := H11.out.2
                                                  go_wp2
                                                  go_roundw
                                                  case rel => exact ⟨j + 1, by go_num, by omega, H11b⟩
                                                  case measure => simp [intOf]; omega
                                          · have hjn' : ¬ (j : Int) < (i : Int) := by omega
                                            go_wp2
                                            go_roundw
                                            case rel => exact ⟨kk + 1, by go_num, by omega, HJ⟩
                                            case measure => simp [intOf]; omega
                                · have hkt' : ¬ (kk : Int) < (tl : Int) := by omega
                                  have HBE : Hid (Below V.heap.size V Wb) := H9.out.2.1.trans (HK.out.mono H9.out.2.1.size)
                                  go_wp2
                                  go_roundw
                                  case rel => exact ⟨i + 1, by go_num, by omega, HBE⟩
                                  case measure => simp [intOf]; omega
                      · have hin' : ¬ (i : Int) < (nl : Int) := by omega
                        have kN := (HV.out.1.lv.go HB.out).next aq
                        have hbw : BoxA wr W0.heap.size ⟨ak, ac, aq, an, at'⟩ := (HB.out.block _ (Array.getElem?_eq_some_iff.1 HV.out.2.1).1).trans HV.out.2.1
                        obtain ⟨y0, y1, y2, y3, y4⟩ := hbw.cells
                        simp only at y0 y1 y2 y3 y4
                        have HBw : Hid (BoxA wr W0.heap.size ⟨ak, ac, aq, an, at'⟩) := hbw
                        have hok := HV.out.1.ok.1
                        obtain ⟨Wa, hWa⟩ : ∃ z, z = wr := ⟨_, rfl⟩
                        subst hWa
                        clear hbw
                        cases hnx : nextC L' aq with
                        | none =>
                          rw [nextV_none hnx] at kN
                          clear hnx hok
                          go_wp2_with fail
                          refine kN.mono ?_
                          rintro e w6 ⟨rfl, b6, _⟩
                          have HTE : Hid (TwoM w w6 mb p L' r M') := (HV.out.1.below HB.out).below b6
                          clear kN b6
                          go_wp2
                          go_roundw
                          case rel => exact ⟨k + 1, L', M', by go_num, by omega, HTE⟩
                          case measure => simp [intOf]; omega
                        | some s =>
                          obtain ⟨_, hs, hsm, hho, hhq, hht, hlen⟩ := next_seat hok hnx
                          have hso := hok.ok s hs
                          have j1 := hso.c1
                          have j2 := hso.c2
                          obtain ⟨cn, hcn⟩ : ∃ cn : Nat, s.c = (cn : Int) := ⟨s.c.toNat, by omega⟩
                          rw [nextV_some hnx, hcn] at kN
                          have hmost := cell_on HB.out (HV.out.1.1.cell hs hcn)
                          have kH : Hid (∀ Y, Below Wa.heap.size Wa Y → _) := fun Y b => ((HV.out.1.lv.go HB.out).go b).holds s.c ⟨by show _ ≤ s.c; omega, by show s.c ≤ _; omega⟩
                          rw [hho, hhq, hht, hcn] at kH
                          obtain ⟨tl, htl⟩ : ∃ z, s.t.length = z := ⟨_, rfl⟩
                          rw [htl] at kH hlen
                          have tl100 : tl ≤ 100 := by have := hso.m2; omega
                          generalize s.m = sm at *
                          generalize s.t = ts at *
                          have c3 : (cn : Int) < 1001 := by omega
                          have c4 : ¬ sm ≤ (tl : Int) := by omega
                          have c4d : decide (sm ≤ (tl : Int)) = false := decide_eq_false c4
                          clear hs hsm hho hhq hht hso hcn hlen hnx hok j1 j2 htl
                          go_wp2_with fail
                          refine kN.mono ?_
                          rintro e w6 ⟨rfl, b6, _⟩
                          have hH := kH.out w6 b6
                          have HB6 : Hid (Below Wa.heap.size Wa w6) := b6
                          clear kN b6
                          go_wp2_with fail
                          refine hH.mono ?_
                          rintro e w7 ⟨a1, k1, rfl, _, b7⟩
                          obtain ⟨W7, fold7⟩ : ∃ W, w7.alloc (.cells #[.string aq, .slice a1 tl k1] 40) = W := ⟨_, rfl⟩
                          have b7' : Below w7.heap.size w7 W7 := by rw [← fold7]; exact (Below.refl _ _).alloc (Nat.le_refl _) _
                          have hb7 : W7.heap[w7.heap.size]? = some (.cells #[.string aq, .slice a1 tl k1] 40 (0, 0)) := by rw [← fold7]; exact heap_alloc_new w7 _
                          have ba7 : Below Wa.heap.size Wa W7 := (HB6.out.trans (b7.mono HB6.out.size)).trans (b7'.mono (Nat.le_trans HB6.out.size b7.size))
                          have g0 : W7.cell? ⟨w7.heap.size, 0, none⟩ = some (.string aq) := by simp [World.cell?, hb7]
                          have g1 : W7.cell? ⟨w7.heap.size, 1, none⟩ = some (.slice a1 tl k1) := by simp [World.cell?, hb7]
                          have gm := cell_on ba7 hmost
                          have gq := cell_on ba7 y2
                          have HTE : Hid (∀ q, TwoM w (W7.drewN q) mb p L' r M') := fun q => ((HV.out.1.below HB.out).below ba7).below (drewN_below W7 q)
                          clear hH b7 b7' hb7 ba7 hmost
                          obtain ⟨hx, hhx⟩ : ∃ z, w7.heap.size = z := ⟨_, rfl⟩
                          rw [hhx] at g0 g1
                          go_wp2
                          clear fold7 hhx
                          go_quiet (fail)
                          go_wp2
                          go_roundw
                          case rel => exact ⟨k + 1, L', M', by go_num, by omega, HTE.out _⟩
                          case measure => simp [intOf]; omega
        · have hlt : ¬ (k : Int) < (n : Int) := by omega
          go_wp2_with (go_at_call 10; refine (lives_any _).mono ?_; rintro e w4 ⟨rfl, b4⟩)
          go_ret
          exact ⟨rfl, HT.out.bel.trans (b4.mono HT.out.bel.size)⟩
end Go.Proofs.Ytooaiomghbjpiaa
