/-
  Hold and Drop, by their contracts.
-/
import Derived.Test.YtooaiomghbjpiaaHeld17
namespace Go.Proofs.Ytooaiomghbjpiaa
open Go.RowKit Go.Maps Go.Sort Go.Shelf
set_option maxRecDepth 20000

/-- All tags of a line can be sorted. -/
def SortsL (L : List Se) : Prop := ∀ s ∈ L, SortsU s.t
/-- What is told of a seat: its queue, its tags in a new row. -/
def TellS (L : List Se) (c : Int) (z : Nat) (w' : World) (u : Value) : Prop := match findC L c with
  | none => u = .agg #[.string ⟨#[]⟩, .slice none 0 0]
  | some s => ∃ v, u = .agg #[.string s.q, v] ∧ Own1 w' z 31 v (ucells s.t)
def holdB (L : List Se) (c : Int) : Bool := (findC L c).isSome
theorem held_box {w W : World} {va : Option Addr} {nt vc z : Nat} {ts : List Int} {qq : ByteArray} (own : Own1 W z 31 (.slice va nt vc) (ucells ts)) (hz : w.heap.size < z) : Own1 ((W.setCell ⟨w.heap.size, 0, none⟩ (.string qq)).setCell ⟨w.heap.size, 1, none⟩ (.slice va nt vc)) w.heap.size 31 (.slice va nt vc) (ucells ts) := by
  refine own1_lower (own1_same own fun g hg => ?_) (by omega)
  have hg' := (own1_blk own hg).1
  rw [Below.heap_setCell _ _ _ _ (by show g ≠ w.heap.size; omega), Below.heap_setCell _ _ _ _ (by show g ≠ w.heap.size; omega)]
set_option maxHeartbeats 2000000 in
theorem hold_any (p : Nat) (F : Nat → Prop) (L : List Se) (c : Int) (w : World) (h : Dk w p F L) (ok : LOk L) (hc : I64 c) (hS : SortsL L) :
    Calls Try.prog 15 #[.pointer (some ⟨p, 0, none⟩), .int .i64 c] w fun e w' => ∃ u, e = .returned (.tuple #[u, .bool (holdB L c)]) ∧ TellS L c w.heap.size w' u ∧ Below w.heap.size w w' := by
  obtain ⟨mb, v, X, hd, rfl, rfl⟩ := h
  obtain ⟨W, fold⟩ : ∃ W, w.alloc (.cells #[.string ⟨#[]⟩, .slice none 0 0] 40) = W := ⟨_, rfl⟩
  have bW : Below w.heap.size w W := by rw [← fold]; exact (Below.refl _ w).alloc (Nat.le_refl _) _
  have hZ : W.heap[w.heap.size]? = some (.cells #[.string ⟨#[]⟩, .slice none 0 0] 40 (0, 0)) := by rw [← fold]; exact heap_alloc_new w _
  have hsz : W.heap.size = w.heap.size + 1 := by rw [← fold]; simp
  have hdW : DkAt W p mb v X := hd.same fun k hk => bW.block k (hd.lts k hk)
  have hF := find_at hdW ok hc
  have hfs := findX_s X c
  have z0 : W.cell? ⟨w.heap.size, 0, none⟩ = some (.string ⟨#[]⟩) := by simp [World.cell?, hZ]
  have z1 : W.cell? ⟨w.heap.size, 1, none⟩ = some (.slice none 0 0) := by simp [World.cell?, hZ]
  have zf0 : W.frozen? ⟨w.heap.size, 0, none⟩ = false := by simp [World.frozen?, hZ]
  have zf1 : W.frozen? ⟨w.heap.size, 1, none⟩ = false := by simp [World.frozen?, hZ]
  have H0 : Hid (Below w.heap.size w W ∧ W.heap.size = w.heap.size + 1 ∧ W.heap[w.heap.size]? = some (.cells #[.string ⟨#[]⟩, .slice none 0 0] 40 (0, 0))) := ⟨bW, hsz, hZ⟩
  cases hf : findX X c with
  | none =>
    rw [hf] at hF hfs
    have e1 : holdB (X.map Sx.s) c = false := by unfold holdB; rw [← hfs]; rfl
    have HT : Hid (∀ w', TellS (X.map Sx.s) c w.heap.size w' (.agg #[.string ⟨#[]⟩, .slice none 0 0])) := fun w' => by unfold TellS; rw [← hfs]; rfl
    rw [e1]
    simp only [Option.map_none, ptrO, Option.isSome_none, Bool.false_eq_true, if_false] at hF
    clear hd hdW hfs hf e1 bW hZ hsz
    go_enter Try.func15, Try.ntmps15
    go_wp2_with fail
    refine hF.mono ?_
    rintro e V ⟨rfl, rfl⟩
    clear fold hF
    go_wp2
    refine bodyPost_ret (v := .tuple #[.agg #[.string ⟨#[]⟩, .slice none 0 0], .bool false]) (by simp [results, Try.results15, go_sem, z0, z1]) rfl ?_
    exact ⟨_, rfl, HT.out _, (H0.out.1.setCell (Nat.le_refl _) _).setCell (Nat.le_refl _) _⟩
  | some x =>
    rw [hf] at hF hfs
    obtain ⟨hx, hxc⟩ := findX_some hf
    have hs := hdW.seats x hx
    have hH := held_at hs (ok.ok x.s (List.mem_map.2 ⟨x, hx, rfl⟩)) (hS x.s (List.mem_map.2 ⟨x, hx, rfl⟩))
    simp only [Option.map_some, ptrO, Option.isSome_some, if_true] at hF hfs
    have e1 : holdB (X.map Sx.s) c = true := by unfold holdB; rw [← hfs]; rfl
    have HT : Hid (∀ w' v, Own1 w' w.heap.size 31 v (ucells x.s.t) → TellS (X.map Sx.s) c w.heap.size w' (.agg #[.string x.s.q, v])) := fun w' v hv => by unfold TellS; rw [← hfs]; exact ⟨v, rfl, hv⟩
    rw [e1]
    generalize x.p = q at *
    generalize x.s.q = qq at *
    generalize x.s.t = ts at *
    clear hd hdW hfs hf e1 bW hZ hsz hs
    go_enter Try.func15, Try.ntmps15
    go_wp2_with fail
    refine hF.mono ?_
    rintro e V ⟨rfl, rfl⟩
    clear fold hF
    go_wp2_with fail
    refine hH.mono ?_
    rintro e w3 ⟨v3, rfl, own3, b3⟩
    obtain ⟨va, vc, hv⟩ := own1_slice own3
    generalize (ucells ts).length = nt at hv
    subst hv
    have z3 : w3.heap[w.heap.size]? = some (.cells #[.string ⟨#[]⟩, .slice none 0 0] 40 (0, 0)) := (b3.block _ (by rw [H0.out.2.1]; omega)).trans H0.out.2.2
    have y0 : w3.cell? ⟨w.heap.size, 0, none⟩ = some (.string ⟨#[]⟩) := by simp [World.cell?, z3]
    have y1 : w3.cell? ⟨w.heap.size, 1, none⟩ = some (.slice none 0 0) := by simp [World.cell?, z3]
    have yf0 : w3.frozen? ⟨w.heap.size, 0, none⟩ = false := by simp [World.frozen?, z3]
    have yf1 : w3.frozen? ⟨w.heap.size, 1, none⟩ = false := by simp [World.frozen?, z3]
    have HO : Hid (Own1 w3 V.heap.size 31 (.slice va nt vc) (ucells ts) ∧ Below V.heap.size V w3) := ⟨own3, b3⟩
    clear hH own3 b3 z3
    go_wp2
    refine bodyPost_ret (v := .tuple #[.agg #[.string qq, .slice va nt vc], .bool true]) (by simp [results, Try.results15, go_sem, y0, y1]) rfl ?_
    refine ⟨_, rfl, HT.out _ _ (held_box HO.out.1 (by rw [H0.out.2.1]; omega)), ?_⟩
    exact ((H0.out.1.trans (HO.out.2.mono (by rw [H0.out.2.1]; omega))).setCell (Nat.le_refl _) _).setCell (Nat.le_refl _) _
/-- A seat has gone. -/
theorem drop_end {w w3 w4 : World} {p mb : Nat} {v v4 : Value} {X : List Sx} {x : Sx} (hd : DkAt w p mb v X) (ok : LOk (X.map Sx.s)) (hx : x ∈ X) (hC : CAt w3 mb ((ccs X).filter fun y => !decide (y.1 = x.s.c))) (g3 : w.grownBy w3 (some mb))
    (hp4 : w4.heap[p]? = some (.cells #[.map (some mb), v4] 60 (0, 0))) (own4 : Own1 w4 w3.heap.size 78 v4 (pcs (cutX X x.p))) (mv4 : Moved w3 w4 (fun k => k = p) (fun k => k = p)) :
    (∃ F', Dk w4 p F' (cutC (X.map Sx.s) x.s.c) ∧ Moved w w4 (footD p mb v X) F' ∧ (∀ k, F' k → k < w4.heap.size)) ∧ SeAt w4 x := by
  have hpm := hd.m_ne
  have all : ∀ y ∈ X, SeAt w4 y := fun y hy => by
    have n := hd.seat_ne hy
    have l := (hd.seats y hy).lts
    have e : ∀ k, k < w.heap.size → k ≠ p → k ≠ mb → w4.heap[k]? = w.heap[k]? := fun k hk h1 h2 => (mv4.block k (Nat.lt_of_lt_of_le hk g3.size) h1).trans (g3.block k hk (by simpa using h2))
    exact (hd.seats y hy).same (e _ l.1 n.1 n.2.1) (e _ l.2 n.2.2.1 n.2.2.2.1)
  have hd4 : DkAt w4 p mb v4 (cutX X x.p) := by
    refine ⟨hp4, ?_, own1_lower own4 (Nat.zero_le _), fun y hy => all y (List.mem_filter.1 hy).1, hd.ap.filter _, fun y hy => hd.nm y (List.mem_filter.1 hy).1⟩
    rw [cutX_c hd ok hx]
    exact hC.same (mv4.block mb (Nat.lt_of_lt_of_le hd.mp.lt g3.size) hpm)
  refine ⟨⟨_, ⟨mb, v4, _, hd4, cutX_s hd ok hx, rfl⟩, ?_, hd4.lts⟩, all x hx⟩
  refine ⟨mv4.os.trans g3.os, mv4.tape.trans g3.tape, mv4.output.trans g3.output, Nat.le_trans g3.size mv4.size, fun k hk hn => ?_, fun k hk => ?_⟩
  · exact (mv4.block k (Nat.lt_of_lt_of_le hk g3.size) (fun e => hn (.inl e))).trans (g3.block k hk (fun e => hn (by injection e with e; exact .inr (.inl e))))
  · rcases hk with rfl | rfl | hk | ⟨z, hz, hk⟩
    · exact .inl (.inl rfl)
    · exact .inl (.inr (.inl rfl))
    · have := (own1_blk own4 hk).1
      have := g3.size
      exact .inr (by omega)
    · exact .inl (.inr (.inr (.inr ⟨z, (List.mem_filter.1 hz).1, hk⟩)))
set_option maxHeartbeats 2000000 in
theorem drop_any (p : Nat) (F : Nat → Prop) (L : List Se) (c : Int) (w : World) (h : Dk w p F L) (ok : LOk L) (hc : I64 c) (hS : SortsL L) :
    Calls Try.prog 21 #[.pointer (some ⟨p, 0, none⟩), .int .i64 c] w fun e w' => ∃ u, e = .returned (.tuple #[u, .int .i64 (dropE L c)]) ∧ TellS L c w.heap.size w' u ∧ ∃ F', Dk w' p F' (cutC L c) ∧ Moved w w' F F' := by
  obtain ⟨mb, v, X, hd, rfl, rfl⟩ := h
  obtain ⟨W, fold⟩ : ∃ W, w.alloc (.cells #[.string ⟨#[]⟩, .slice none 0 0] 40) = W := ⟨_, rfl⟩
  have bW : Below w.heap.size w W := by rw [← fold]; exact (Below.refl _ w).alloc (Nat.le_refl _) _
  have hZ : W.heap[w.heap.size]? = some (.cells #[.string ⟨#[]⟩, .slice none 0 0] 40 (0, 0)) := by rw [← fold]; exact heap_alloc_new w _
  have hsz : W.heap.size = w.heap.size + 1 := by rw [← fold]; simp
  have hdW : DkAt W p mb v X := hd.same fun k hk => bW.block k (hd.lts k hk)
  have hF := find_at hdW ok hc
  have hfs := findX_s X c
  have z0 : W.cell? ⟨w.heap.size, 0, none⟩ = some (.string ⟨#[]⟩) := by simp [World.cell?, hZ]
  have z1 : W.cell? ⟨w.heap.size, 1, none⟩ = some (.slice none 0 0) := by simp [World.cell?, hZ]
  have zf0 : W.frozen? ⟨w.heap.size, 0, none⟩ = false := by simp [World.frozen?, hZ]
  have zf1 : W.frozen? ⟨w.heap.size, 1, none⟩ = false := by simp [World.frozen?, hZ]
  have H0 : Hid (Below w.heap.size w W ∧ W.heap.size = w.heap.size + 1 ∧ W.heap[w.heap.size]? = some (.cells #[.string ⟨#[]⟩, .slice none 0 0] 40 (0, 0))) := ⟨bW, hsz, hZ⟩
  cases hf : findX X c with
  | none =>
    rw [hf] at hF hfs
    have e1 : dropE (X.map Sx.s) c = 3 := by unfold dropE; rw [← hfs]; rfl
    have e2 : cutC (X.map Sx.s) c = X.map Sx.s := by
      unfold cutC
      rw [List.filter_eq_self]
      intro s hs
      simpa using findC_none hfs.symm s hs
    have HT : Hid (∀ w', TellS (X.map Sx.s) c w.heap.size w' (.agg #[.string ⟨#[]⟩, .slice none 0 0])) := fun w' => by unfold TellS; rw [← hfs]; rfl
    have HM : Hid (∀ w', Below w.heap.size w w' → ∃ F', Dk w' p F' (X.map Sx.s) ∧ Moved w w' (footD p mb v X) F') := fun w' b => ⟨_, ⟨mb, v, X, hd.same fun k hk => b.block k (hd.lts k hk), rfl, rfl⟩, Moved.of_below b⟩
    rw [e1, e2]
    simp only [Option.map_none, ptrO, Option.isSome_none, Bool.false_eq_true, if_false] at hF
    clear hd hdW hfs hf e1 e2 bW hZ hsz
    go_enter Try.func21, Try.ntmps21
    go_wp2_with fail
    refine hF.mono ?_
    rintro e V ⟨rfl, rfl⟩
    clear fold hF
    go_wp2
    refine bodyPost_ret (v := .tuple #[.agg #[.string ⟨#[]⟩, .slice none 0 0], .int .i64 3]) (by simp [results, Try.results21, go_sem, z0, z1]) rfl ?_
    exact ⟨_, rfl, HT.out _, HM.out _ ((H0.out.1.setCell (Nat.le_refl _) _).setCell (Nat.le_refl _) _)⟩
  | some x =>
    rw [hf] at hF hfs
    obtain ⟨hx, hxc⟩ := findX_some hf
    simp only [Option.map_some, ptrO, Option.isSome_some, if_true] at hF hfs
    have e1 : dropE (X.map Sx.s) c = 0 := by unfold dropE; rw [← hfs]; rfl
    have hso := ok.ok x.s (List.mem_map.2 ⟨x, hx, rfl⟩)
    have hSx := hS x.s (List.mem_map.2 ⟨x, hx, rfl⟩)
    have HT : Hid (∀ w' v, Own1 w' w.heap.size 31 v (ucells x.s.t) → TellS (X.map Sx.s) c w.heap.size w' (.agg #[.string x.s.q, v])) := fun w' v hv => by unfold TellS; rw [← hfs]; exact ⟨v, rfl, hv⟩
    obtain ⟨cm, _⟩ := hdW.cells
    obtain ⟨f, hdel⟩ := hdW.mp.del (ccs_cl ok) hc
    have hd1 := fun ty => (hdel ty).1
    have HL : Hid (∀ ty, Calls Try.prog 42 #[.pointer (some ⟨p, 0, none⟩), .pointer (some ⟨x.p, 0, none⟩)] (f ty) fun e w' => e = .returned (.tuple #[]) ∧ (∃ F', Dk w' p F' (cutC (X.map Sx.s) c) ∧ Moved W w' (footD p mb v X) F' ∧ (∀ k, F' k → k < w'.heap.size)) ∧ SeAt w' x ∧ w'.heap[w.heap.size]? = some (.cells #[.string ⟨#[]⟩, .slice none 0 0] 40 (0, 0)) ∧ W.heap.size ≤ w'.heap.size) := fun ty => by
      obtain ⟨_, hC, g3⟩ := hdel ty
      have far : ∀ k, k < W.heap.size → k ≠ mb → (f ty).heap[k]? = W.heap[k]? := fun k hk hne => g3.block k hk (by simpa using hne)
      have hpm := hdW.m_ne
      refine (leave_any p x.p _ v X (f ty) ((far p (hdW.lts p (.inl rfl)) hpm.symm).trans hdW.blk) (own1_same hdW.row fun g hg => far g (hdW.lts g (.inr (.inr (.inl hg)))) (hdW.row_ne hg).2.1) (fun y hy => ((hdW.seats y hy).sb).same (far _ (hdW.seats y hy).lts.1 (hdW.seat_ne hy).2.1)) (((hdW.seats x hx).sb).same (far _ (hdW.seats x hx).lts.1 (hdW.seat_ne hx).2.1)) (by have := ok.few; rw [List.length_map] at this; omega)).mono ?_
      rintro e w4 ⟨he, v4, hp4, own4, mv4⟩
      rw [← hxc] at hC
      obtain ⟨h1, h2⟩ := drop_end hdW ok hx hC g3 hp4 own4 mv4
      rw [hxc] at h1
      refine ⟨he, h1, h2, ?_, Nat.le_trans g3.size mv4.size⟩
      have hpl : p < w.heap.size := hd.lts p (.inl rfl)
      have hml := hd.mp.lt
      exact (mv4.block _ (by have := g3.size; omega) (by omega)).trans ((far _ (by omega) (by omega)).trans hZ)
    have HM : Hid (∀ w4 w5 F', Dk w4 p F' (cutC (X.map Sx.s) c) → Moved W w4 (footD p mb v X) F' → (∀ k, F' k → k < w4.heap.size) → Below w4.heap.size w4 w5 → ∀ y0 y1, ∃ F', Dk ((w5.setCell ⟨w.heap.size, 0, none⟩ y0).setCell ⟨w.heap.size, 1, none⟩ y1) p F' (cutC (X.map Sx.s) c) ∧ Moved w ((w5.setCell ⟨w.heap.size, 0, none⟩ y0).setCell ⟨w.heap.size, 1, none⟩ y1) (footD p mb v X) F') := fun w4 w5 F' h1 h2 h3 b y0 y1 => by
      have hbox : ∀ k, k ≠ w.heap.size → ((w5.setCell ⟨w.heap.size, 0, none⟩ y0).setCell ⟨w.heap.size, 1, none⟩ y1).heap[k]? = w5.heap[k]? := fun k hk => by rw [Below.heap_setCell _ _ _ _ hk, Below.heap_setCell _ _ _ _ hk]
      have hne : ∀ k, F' k → k ≠ w.heap.size := fun k hk e => by
        rcases h2.sub k hk with hk' | hk'
        · have := hd.lts k hk'; omega
        · omega
      have mv : Moved w ((w5.setCell ⟨w.heap.size, 0, none⟩ y0).setCell ⟨w.heap.size, 1, none⟩ y1) (footD p mb v X) F' := by
        refine ⟨b.os.trans (h2.os.trans bW.os), b.tape.trans (h2.tape.trans bW.tape), b.output.trans (h2.output.trans bW.output), ?_, fun k hk hn => ?_, fun k hk => ?_⟩
        · have := b.size; have := h2.size; simp; omega
        · rw [hbox k (by omega)]
          exact (b.block k (by have := h2.size; omega)).trans ((h2.block k (by omega) hn).trans (bW.block k hk))
        · rcases h2.sub k hk with hk' | hk'
          · exact .inl hk'
          · exact .inr (by omega)
      exact ⟨F', h1.same fun k hk => (hbox k (hne k hk)).trans (b.block k (h3 k hk)), mv⟩
    rw [e1]
    have HSO : Hid (∀ w4, SeAt w4 x → Calls Try.prog 34 #[.pointer (some ⟨x.p, 0, none⟩)] w4 fun e w' => ∃ v, e = .returned (.agg #[.string x.s.q, v]) ∧ Own1 w' w4.heap.size 31 v (ucells x.s.t) ∧ Below w4.heap.size w4 w') := fun w4 h4 => held_at h4 hso hSx
    generalize cutC (X.map Sx.s) c = LC at *
    clear hd hdW hfs hf e1 bW hZ hsz hdel hso hSx hxc
    go_enter Try.func21, Try.ntmps21
    go_wp2_with fail
    refine hF.mono ?_
    rintro e V ⟨rfl, rfl⟩
    clear fold hF
    go_wp2_with fail
    refine (HL.out _).mono ?_
    rintro e w4 ⟨rfl, ⟨F', k1, k2, k3⟩, k4, k5, k6⟩
    have hHe := HSO.out w4 k4
    have HK4 : Hid (Dk w4 p F' LC ∧ Moved V w4 (footD p mb v X) F' ∧ (∀ k, F' k → k < w4.heap.size) ∧ w4.heap[w.heap.size]? = some (.cells #[.string ⟨#[]⟩, .slice none 0 0] 40 (0, 0)) ∧ V.heap.size ≤ w4.heap.size) := ⟨k1, k2, k3, k5, k6⟩
    clear k1 k2 k3 k4 k5 k6 HL HSO hd1
    generalize x.p = q at *
    generalize x.s.q = qq at *
    generalize x.s.t = ts at *
    go_wp2_with fail
    refine hHe.mono ?_
    rintro e w5 ⟨v5, rfl, own5, b5⟩
    obtain ⟨va, vc, hv⟩ := own1_slice own5
    generalize (ucells ts).length = nt at hv
    subst hv
    have hlt4 : w.heap.size < w4.heap.size := by have := HK4.out.2.2.2.2; have := H0.out.2.1; omega
    have z3 : w5.heap[w.heap.size]? = some (.cells #[.string ⟨#[]⟩, .slice none 0 0] 40 (0, 0)) := (b5.block _ hlt4).trans HK4.out.2.2.2.1
    have y0 : w5.cell? ⟨w.heap.size, 0, none⟩ = some (.string ⟨#[]⟩) := by simp [World.cell?, z3]
    have y1 : w5.cell? ⟨w.heap.size, 1, none⟩ = some (.slice none 0 0) := by simp [World.cell?, z3]
    have yf0 : w5.frozen? ⟨w.heap.size, 0, none⟩ = false := by simp [World.frozen?, z3]
    have yf1 : w5.frozen? ⟨w.heap.size, 1, none⟩ = false := by simp [World.frozen?, z3]
    have HO : Hid (Own1 w5 w4.heap.size 31 (.slice va nt vc) (ucells ts) ∧ Below w4.heap.size w4 w5 ∧ w.heap.size < w4.heap.size) := ⟨own5, b5, hlt4⟩
    clear hHe own5 b5 z3 hlt4
    go_wp2
    refine bodyPost_ret (v := .tuple #[.agg #[.string qq, .slice va nt vc], .int .i64 0]) (by simp [results, Try.results21, go_sem, y0, y1]) rfl ?_
    exact ⟨_, rfl, HT.out _ _ (held_box HO.out.1 HO.out.2.2), HM.out w4 w5 F' HK4.out.1 HK4.out.2.1 HK4.out.2.2.1 HO.out.2.1 _ _⟩
end Go.Proofs.Ytooaiomghbjpiaa
