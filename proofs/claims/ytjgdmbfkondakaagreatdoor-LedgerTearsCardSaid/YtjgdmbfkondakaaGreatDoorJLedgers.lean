/-
  A LEDGER in memory, told by its own fields and its store's.
-/
import Derived.Test.YtjgdmbfkondakaaGreatDoorJNums
import Derived.Test.YtjgdmbfkondakaaGreatDoorJTells
namespace Go.Proofs.YtjgdmbfkondakaaGreatDoor
open Go.RowKit

/-- A ledger's own fields: the bytes that wait, and how many records they are. -/
structure Lg where
  part : Int
  last : Int
  wait : List UInt8
  cnt : Nat
  dead : Bool
def lcell (p : Nat) (V : Value) (l : Lg) : List Value := [.pointer (some ⟨p, 0, none⟩), .int .i64 l.part, .int .i64 l.last, V, .int .i64 (l.cnt : Int), .bool l.dead]
structure LdAt (w : World) (q : Nat) (V : Value) (l : Lg) (p : Nat) (F : Nat → Prop) (m : M) : Prop where
  blk : w.heap[q]? = some (.cells (lcell p V l).toArray 56 (0, 0))
  buf : Buf w V l.wait
  st : St w p F m
  nq : ¬ F q
  nv : ∀ g, V.ownBlock = some g → ¬ F g
def lfoot (q : Nat) (V : Value) (F : Nat → Prop) (k : Nat) : Prop := k = q ∨ V.ownBlock = some k ∨ F k
/-- A ledger at q, on the store at p; G: its blocks. -/
def Ld (w : World) (q : Nat) (l : Lg) (p : Nat) (G : Nat → Prop) (m : M) : Prop := ∃ V F, LdAt w q V l p F m ∧ G = lfoot q V F
section
variable {w w' : World} {q p : Nat} {V V' : Value} {l l' : Lg} {F F' : Nat → Prop} {m m' : M}
theorem LdAt.lt (h : LdAt w q V l p F m) : q < w.heap.size := (Array.getElem?_eq_some_iff.1 h.blk).1
theorem LdAt.lts (h : LdAt w q V l p F m) : ∀ k, lfoot q V F k → k < w.heap.size := by
  rintro k (rfl | hk | hk)
  · exact h.lt
  · exact h.buf.lt hk
  · exact h.st.lts k hk
theorem LdAt.vq (h : LdAt w q V l p F m) {g : Nat} (hg : V.ownBlock = some g) : g ≠ q := by
  rintro rfl
  obtain ⟨c, hc⟩ := h.buf.blk hg
  rw [h.blk] at hc
  simp at hc
theorem LdAt.same (h : LdAt w q V l p F m) (hs : ∀ k, lfoot q V F k → w'.heap[k]? = w.heap[k]?) : LdAt w' q V l p F m :=
  ⟨(hs q (.inl rfl)).trans h.blk, h.buf.same fun g hg => hs g (.inr (.inl hg)), h.st.same fun k hk => hs k (.inr (.inr hk)), h.nq, h.nv⟩
theorem LdAt.kept (h : LdAt w q V l p F m) (b : Below w.heap.size w w') : LdAt w' q V l p F m := h.same fun k hk => b.block k (h.lts k hk)
theorem LdAt.cells (h : LdAt w q V l p F m) : w.cell? ⟨q, 0, none⟩ = some (.pointer (some ⟨p, 0, none⟩)) ∧ w.cell? ⟨q, 1, none⟩ = some (.int .i64 l.part) ∧ w.cell? ⟨q, 2, none⟩ = some (.int .i64 l.last) ∧ w.cell? ⟨q, 3, none⟩ = some V ∧ w.cell? ⟨q, 4, none⟩ = some (.int .i64 (l.cnt : Int)) ∧ w.cell? ⟨q, 5, none⟩ = some (.bool l.dead) := by
  have hb := h.blk
  refine ⟨?_, ?_, ?_, ?_, ?_, ?_⟩ <;> (simp only [World.cell?]; rw [hb]; rfl)
theorem LdAt.frozen (h : LdAt w q V l p F m) (i : Nat) : w.frozen? ⟨q, i, none⟩ = false := by
  simp only [World.frozen?]
  rw [h.blk]
  simp
/-- The store has changed. -/
theorem LdAt.go (h : LdAt w q V l p F m) (s : St w' p F' m') (mv : Moved w w' F F') : LdAt w' q V l p F' m' ∧ Moved w w' (lfoot q V F) (lfoot q V F') := by
  refine ⟨⟨(mv.block q h.lt h.nq).trans h.blk, h.buf.same fun g hg => mv.block g (h.buf.lt hg) (h.nv g hg), s, fun hf => ?_, fun g hg hf => ?_⟩, mv.os, mv.tape, mv.output, mv.size, fun k hk hn => mv.block k hk fun hf => hn (.inr (.inr hf)), ?_⟩
  · rcases mv.sub q hf with hf | hf
    · exact h.nq hf
    · have := h.lt; omega
  · rcases mv.sub g hf with hf | hf
    · exact h.nv g hg hf
    · have := h.buf.lt hg; omega
  · rintro k (hk | hk | hk)
    · exact .inl (.inl hk)
    · exact .inl (.inr (.inl hk))
    · exact (mv.sub k hk).imp (fun h => .inr (.inr h)) id
/-- Its own fields have changed; the bytes that wait lie where they lay, or in new memory. -/
theorem LdAt.turn (h : LdAt w q V l p F m) (hq : w'.heap[q]? = some (.cells (lcell p V' l').toArray 56 (0, 0))) (ho : ∀ k, k < w.heap.size → k ≠ q → V.ownBlock ≠ some k → w'.heap[k]? = w.heap[k]?) (hb : Buf w' V' l'.wait) (hv : V'.ownBlock = V.ownBlock ∨ V'.ownBlock = none ∨ ∃ g, V'.ownBlock = some g ∧ w.heap.size ≤ g) (h1 : w'.os = w.os) (h2 : w'.tape = w.tape) (h3 : w'.output = w.output) (hz : w.heap.size ≤ w'.heap.size) : LdAt w' q V' l' p F m ∧ Moved w w' (lfoot q V F) (lfoot q V' F) := by
  have hF : ∀ k, F k → w'.heap[k]? = w.heap[k]? := fun k hk => ho k (h.st.lts k hk) (fun e => h.nq (e ▸ hk)) (fun e => h.nv k e hk)
  refine ⟨⟨hq, hb, h.st.same hF, h.nq, fun g hg hf => ?_⟩, h1, h2, h3, hz, fun k hk hn => ho k hk (fun e => hn (.inl e)) (fun e => hn (.inr (.inl e))), ?_⟩
  · rcases hv with e | e | ⟨g', e, e2⟩
    · rw [e] at hg; exact h.nv g hg hf
    · rw [e] at hg; cases hg
    · rw [e] at hg
      injection hg with hg
      have := h.st.lts g hf
      omega
  · rintro k (hk | hk | hk)
    · exact .inl (.inl hk)
    · rcases hv with e | e | ⟨g', e, e2⟩
      · rw [e] at hk; exact .inl (.inr (.inl hk))
      · rw [e] at hk; cases hk
      · rw [e] at hk; injection hk with hk; exact .inr (by omega)
    · exact .inl (.inr (.inr hk))
/-- One of its own cells was written, none that waits. -/
theorem LdAt.set (h : LdAt w q V l p F m) {i : Nat} {u : Value} (hl : (lcell p V l).set i u = lcell p V l') (hw : l'.wait = l.wait) (W : World) (hW : W.heap = (w.setCell ⟨q, i, none⟩ u).heap) (h1 : W.os = w.os) (h2 : W.tape = w.tape) (h3 : W.output = w.output) : LdAt W q V l' p F m ∧ Moved w W (lfoot q V F) (lfoot q V F) := by
  have ho : ∀ k, k ≠ q → W.heap[k]? = w.heap[k]? := fun k hk => by rw [hW, Below.heap_setCell _ _ _ _ hk]
  refine h.turn (V' := V) ?_ (fun k _ hk _ => ho k hk) ?_ (.inl rfl) h1 h2 h3 (by rw [hW]; simp)
  · rw [hW, ← hl]
    exact heap_set_list (i := i) h.blk u
  · rw [hw]
    exact h.buf.same fun g hg => ho g (h.vq hg)
theorem LdAt.to (h : LdAt w q V l p F m) : Ld w q l p (lfoot q V F) m := ⟨V, F, h, rfl⟩
end
theorem Ld.lts {w : World} {q p : Nat} {l : Lg} {G : Nat → Prop} {m : M} (h : Ld w q l p G m) : ∀ k, G k → k < w.heap.size := by
  obtain ⟨V, F, h, rfl⟩ := h
  exact h.lts
theorem Ld.same {w w' : World} {q p : Nat} {l : Lg} {G : Nat → Prop} {m : M} (h : Ld w q l p G m) (hs : ∀ k, G k → w'.heap[k]? = w.heap[k]?) : Ld w' q l p G m := by
  obtain ⟨V, F, h, rfl⟩ := h
  exact ⟨V, F, h.same hs, rfl⟩
theorem Ld.kept {w w' : World} {q p : Nat} {l : Lg} {G : Nat → Prop} {m : M} (h : Ld w q l p G m) (b : Below w.heap.size w w') : Ld w' q l p G m := h.same fun k hk => b.block k (h.lts k hk)
/-- A box with one value in it. -/
theorem boxed_moved {w w' : World} {F F' : Nat → Prop} {B : Nat} {t : TypeId} {v : Value} (h : Boxed w B t v) (mv : Moved w w' F F') (hn : ¬ F B) : Boxed w' B t v := (mv.block B h.lt hn).trans h
end Go.Proofs.YtjgdmbfkondakaaGreatDoor

/-
  Steps on a ledger; made, check, refuse, Pending, by their contracts.
-/
namespace Go.Proofs.YtjgdmbfkondakaaGreatDoor
open Go.RowKit

/-- Without power it is dead. -/
def Lg.die (l : Lg) (r : Int) : Lg := { l with dead := l.dead || decide (r = 9) }
theorem LdAt.die {w : World} {q p : Nat} {V : Value} {l : Lg} {F : Nat → Prop} {m : M} (h : LdAt w q V l p F m) (r : Int) : w.cell? ⟨q, 5, none⟩ = some (.bool l.dead) ∧ w.frozen? ⟨q, 5, none⟩ = false ∧ LdAt (w.setCell ⟨q, 5, none⟩ (.bool (l.dead || decide (r = 9)))) q V (l.die r) p F m ∧ Moved w (w.setCell ⟨q, 5, none⟩ (.bool (l.dead || decide (r = 9)))) (lfoot q V F) (lfoot q V F) := by
  obtain ⟨h1, h2⟩ := h.set (i := 5) (u := .bool (l.dead || decide (r = 9))) (l' := l.die r) rfl rfl _ rfl rfl rfl rfl
  exact ⟨h.cells.2.2.2.2.2, h.frozen 5, h1, h2⟩
theorem row_kept {w W : World} {v : Value} {cs : List Value} {G G' : Nat → Prop} (h : Row w v cs) (mv : Moved w W G G') (hn : ∀ ad n c, v = .slice (some ad) n c → ¬ G ad.block) : Row W v cs := by
  rcases h with h | ⟨a, cap, rfl, h1, h2, h3⟩
  · exact .inl h
  · refine .inr ⟨a, cap, rfl, h1, h2, fun j u hj => ?_⟩
    have h4 := h3 j u hj
    have h5 : (a.add j).block = a.block := Addr.block_add a j
    have h6 := World.block_lt_of_cell? _ _ h4
    rw [h5] at h6
    have h8 := mv.block a.block h6 (hn a _ _ rfl)
    rw [← h4]
    simp only [World.cell?, h5]
    rw [h8]
/-- Steps on a ledger: T says what it is ahead of each, U what an error leaves. -/
theorem lsteps (q p : Nat) (v : Value) (fs : List Cl) (w : World) (V : Value) (l : Lg) (F : Nat → Prop) (m : M) (T : Nat → Lg → M → Prop) (U : Int → Lg → M → Prop) (hn : fs.length ≤ 1000)
    (ef : ∀ c ∈ fs, ∀ args w, (callFunc c.f args).run Tryz.prog w = .ok (.enter c.f args) w)
    (h : LdAt w q V l p F m) (hrow : Row w v (clv fs)) (hout : ∀ ad n c, v = .slice (some ad) n c → ¬ lfoot q V F ad.block) (he : Env w) (h6 : ∀ k, lfoot q V F k → 6 ≤ k) (h0 : T 0 l m)
    (hstep : ∀ k (hk : k < fs.length) W l1 m1 V1 F1, T k l1 m1 → LdAt W q V1 l1 p F1 m1 → Moved w W (lfoot q V F) (lfoot q V1 F1) → Env W → Calls Tryz.prog fs[k].f (fs[k].bd ++ fs[k].caps) W fun e W' => ∃ r : Int, e = .returned (.int .i64 r) ∧ ∃ V2 l2 F2 m2, LdAt W' q V2 l2 p F2 m2 ∧ Moved W W' (lfoot q V1 F1) (lfoot q V2 F2) ∧ (r = 0 → T (k + 1) l2 m2) ∧ (r ≠ 0 → U r l2 m2)) :
    Calls Tryz.prog 34 #[.pointer (some ⟨q, 0, none⟩), v] w fun e w' => ∃ r : Int, e = .returned (.int .i64 r) ∧ ∃ V2 l2 F2 m2, LdAt w' q V2 l2 p F2 m2 ∧ Moved w w' (lfoot q V F) (lfoot q V2 F2) ∧ ((r = 0 ∧ T fs.length l2 m2) ∨ (r ≠ 0 ∧ ∃ l1, U r l1 m2 ∧ l2 = l1.die r)) := by
  refine steps_any q v fs w (fun k W => ∃ V1 l1 F1 m1, LdAt W q V1 l1 p F1 m1 ∧ Moved w W (lfoot q V F) (lfoot q V1 F1) ∧ T k l1 m1) (fun r W => ∃ V1 l1 F1 m1, LdAt W q V1 l1 p F1 m1 ∧ Moved w W (lfoot q V F) (lfoot q V1 F1) ∧ U r l1 m1) _ hn ef ⟨V, l, F, m, h, .refl _ _, h0⟩ ?_ ?_ ?_ ?_
  · rintro k W ⟨V1, l1, F1, m1, _, mv, _⟩
    exact row_kept hrow mv hout
  · rintro k hk W ⟨V1, l1, F1, m1, hl, mv, ht⟩
    refine (hstep k hk W l1 m1 V1 F1 ht hl mv (he.moved mv h6)).mono ?_
    rintro e W' ⟨r, rfl, V2, l2, F2, m2, h2, mv2, hT, hU⟩
    exact ⟨r, rfl, fun hr => ⟨V2, l2, F2, m2, h2, mv.trans mv2, hT hr⟩, fun hr => ⟨V2, l2, F2, m2, h2, mv.trans mv2, hU hr⟩⟩
  · rintro W ⟨V1, l1, F1, m1, hl, mv, ht⟩
    exact ⟨V1, l1, F1, m1, hl, mv, .inl ⟨rfl, ht⟩⟩
  · rintro r W hr ⟨V1, l1, F1, m1, hl, mv, hu⟩
    obtain ⟨c5, f5, h5, mv5⟩ := hl.die r
    exact ⟨l1.dead, c5, f5, V1, l1.die r, F1, m1, h5, mv.trans mv5, .inr ⟨hr, l1, hu, rfl⟩⟩
section
variable {w : World} {q p : Nat} {V : Value} {l : Lg} {F : Nat → Prop} {m : M}
set_option maxRecDepth 20000 in
theorem madeL_at (h : LdAt w q V l p F m) : Calls Tryz.prog 60 #[.pointer (some ⟨q, 0, none⟩)] w fun e w' => e = .returned (.bool true) ∧ w' = w := by
  obtain ⟨c0, _⟩ := h.cells
  clear h
  go_enter Tryz.func60, Tryz.ntmps60
  go_wp2
  go_ret
  exact ⟨rfl, rfl⟩
set_option maxRecDepth 20000 in
theorem pending_at (h : LdAt w q V l p F m) : Calls Tryz.prog 27 #[.pointer (some ⟨q, 0, none⟩)] w fun e w' => e = .returned (.int .i64 (l.cnt : Int)) ∧ w' = w := by
  obtain ⟨_, _, _, _, c4, _⟩ := h.cells
  have hM := madeL_at h
  clear h
  go_enter Tryz.func27, Tryz.ntmps27
  go_wp2_with (go_at_call 60; refine hM.mono ?_; rintro e w ⟨rfl, rfl⟩)
  go_ret
  exact ⟨rfl, rfl⟩
/-- What is wrong ahead of all. -/
def offE (l : Lg) (m : M) : Int := if l.dead || m.dark then 9 else 0
def Lg.checked (l : Lg) (m : M) : Lg := if l.dead || m.dark then { l with dead := true } else l
set_option maxRecDepth 20000 in
theorem check1_at (B : Nat) (h : LdAt w q V l p F m) (hb : Boxed w B 30 (.pointer (some ⟨q, 0, none⟩))) : Calls Tryz.prog 77 #[.pointer (some ⟨B, 0, none⟩)] w fun e w' => e = .returned (.int .i64 (offE l m)) ∧ w' = w := by
  obtain ⟨c0, _, _, _, _, c5⟩ := h.cells
  have hO := on_any p F m w h.st
  have b0 := hb.cell
  unfold offE
  clear h hb
  cases hd : l.dead with
  | true =>
    rw [hd] at c5
    clear hO
    go_enter Tryz.func77, Tryz.ntmps77
    go_wp2
    go_ret
    exact ⟨rfl, rfl⟩
  | false =>
    rw [hd] at c5
    cases hk : m.dark with
    | true =>
      rw [hk] at hO
      go_enter Tryz.func77, Tryz.ntmps77
      go_wp2_with (go_at_call 16; refine hO.mono ?_; rintro e w ⟨rfl, rfl⟩)
      go_ret
      exact ⟨rfl, rfl⟩
    | false =>
      rw [hk] at hO
      go_enter Tryz.func77, Tryz.ntmps77
      go_wp2_with (go_at_call 16; refine hO.mono ?_; rintro e w ⟨rfl, rfl⟩)
      go_ret
      exact ⟨rfl, rfl⟩
theorem ef_check1 : ∀ args w, (callFunc 77 args).run Tryz.prog w = .ok (.enter 77 args) w := enters_of Tryz.func77 (by kernel_rfl) rfl
theorem fnrow (w : World) (u : Value) (n : Nat) (hn : n = w.heap.size) : Row (w.alloc (.cells #[u] 40)) (.slice (some ⟨n, 0, none⟩) 1 1) [u] := by
  subst hn
  exact row_one w 40 u
set_option maxRecDepth 20000 in
set_option maxHeartbeats 1000000 in
theorem checkL_at (h : LdAt w q V l p F m) (he : Env w) (h6 : ∀ k, lfoot q V F k → 6 ≤ k) : Calls Tryz.prog 33 #[.pointer (some ⟨q, 0, none⟩)] w fun e w' => e = .returned (.int .i64 (offE l m)) ∧ ∃ V' F', LdAt w' q V' (l.checked m) p F' m ∧ Moved w w' (lfoot q V F) (lfoot q V' F') := by
  obtain ⟨W0, fold0⟩ : ∃ W0, w.alloc (.cells #[.pointer (some ⟨q, 0, none⟩)] 30) = W0 := ⟨_, rfl⟩
  have b0 : Below w.heap.size w W0 := by rw [← fold0]; exact (Below.refl _ _).alloc (Nat.le_refl _) _
  have x0 : Boxed W0 w.heap.size 30 (.pointer (some ⟨q, 0, none⟩)) := by rw [← fold0]; exact heap_alloc_new w _
  have hM := madeL_at (h.kept b0)
  obtain ⟨W1, fold1⟩ : ∃ W1, W0.alloc (.cells #[.func (.func 77) #[] #[.pointer (some ⟨w.heap.size, 0, none⟩)]] 40) = W1 := ⟨_, rfl⟩
  have b1 : Below W0.heap.size W0 W1 := by rw [← fold1]; exact (Below.refl _ _).alloc (Nat.le_refl _) _
  have x1 : Boxed W1 w.heap.size 30 (.pointer (some ⟨q, 0, none⟩)) := (b1.block _ x0.lt).trans x0
  have b01 := keptW b0 b1
  have h1 := h.kept b01
  have s0 : W0.heap.size = w.heap.size + 1 := by rw [← fold0]; simp
  have hrow : Row W1 (.slice (some ⟨W0.heap.size, 0, none⟩) 1 1) (clv [⟨77, #[], #[.pointer (some ⟨w.heap.size, 0, none⟩)]⟩]) := by rw [← fold1]; exact fnrow W0 _ _ rfl
  have hout : ∀ k, w.heap.size ≤ k → ¬ lfoot q V F k := fun k hk hf => by have := h.lts k hf; omega
  have hS := lsteps q p (.slice (some ⟨W0.heap.size, 0, none⟩) 1 1) [⟨77, #[], #[.pointer (some ⟨w.heap.size, 0, none⟩)]⟩] W1 V l F m (fun k l1 m1 => l1 = l ∧ m1 = m ∧ (k = 1 → offE l m = 0)) (fun r l1 m1 => l1 = l ∧ m1 = m ∧ r = offE l m) (by simp)
    (fun c hc => by rw [List.mem_singleton.1 hc]; exact ef_check1) h1 hrow (fun ad n c e => by injection e with e; injection e with e; rw [← e]; exact hout _ (by show w.heap.size ≤ W0.heap.size; omega)) (he.below b01) h6 ⟨rfl, rfl, fun e => by simp at e⟩ (by
      rintro k hk W l1 m1 V1 F1 ⟨rfl, rfl, _⟩ hl mv _
      obtain rfl : k = 0 := by simpa using hk
      have hbx := boxed_moved x1 mv (hout _ (Nat.le_refl _))
      refine (check1_at w.heap.size hl hbx).mono ?_
      rintro e W' ⟨rfl, rfl⟩
      exact ⟨_, rfl, V1, l1, F1, m1, hl, .refl _ _, fun hr => ⟨rfl, rfl, fun _ => hr⟩, fun _ => ⟨rfl, rfl, rfl⟩⟩)
  have y0 := x0.cell
  have HB : Hid (Below w.heap.size w W1) := b01
  clear x0 x1 b0 b1 h1 hrow hout s0 h he b01
  go_enter Tryz.func33, Tryz.ntmps33
  go_wp2_with (first
    | (go_at_call 60; refine hM.mono ?_; rintro e wm ⟨rfl, rfl⟩)
    | (go_at_call 34; refine hS.mono ?_; rintro e w4 ⟨r, rfl, V2, l2, F2, m2, h2, mv2, hq⟩))
  go_ret
  rcases hq with ⟨rfl, rfl, rfl, hz⟩ | ⟨hr, l1, ⟨rfl, rfl, rfl⟩, rfl⟩
  · have h0 := hz rfl
    refine ⟨by rw [h0]; rfl, V2, F2, ?_, (Moved.of_below HB.out).trans mv2⟩
    have : l2.checked m2 = l2 := by
      unfold offE at h0
      unfold Lg.checked
      split at h0
      · cases h0
      · rename_i hn; rw [if_neg hn]
    rw [this]
    exact h2
  · refine ⟨rfl, V2, F2, ?_, (Moved.of_below HB.out).trans mv2⟩
    have : l1.checked m2 = l1.die (offE l1 m2) := by
      unfold offE at hr ⊢
      unfold Lg.checked Lg.die
      split
      · simp
      · rename_i hn; rw [if_neg hn] at hr; exact absurd rfl hr
    rw [this]
    exact h2
/-- What is wrong with bytes that are to be kept. -/
def refE (l : Lg) (m : M) (n : Nat) : Int := if offE l m ≠ 0 then offE l m else if 1048512 < n ∨ 1000 ≤ l.cnt then 5 else 0
theorem offE_zero {l : Lg} {m : M} (h : offE l m = 0) : l.checked m = l ∧ l.dead = false ∧ m.dark = false := by
  unfold offE at h
  unfold Lg.checked
  split at h
  · cases h
  · rename_i hn
    rw [if_neg hn]
    simpa using hn
set_option maxRecDepth 20000 in
theorem refuse_at (h : LdAt w q V l p F m) (he : Env w) (h6 : ∀ k, lfoot q V F k → 6 ≤ k) (bv : Value) (n : Nat) (hbv : ∃ a c, bv = .slice a n c) : Calls Tryz.prog 31 #[.pointer (some ⟨q, 0, none⟩), bv] w fun e w' => e = .returned (.int .i64 (refE l m n)) ∧ ∃ V' F', LdAt w' q V' (l.checked m) p F' m ∧ Moved w w' (lfoot q V F) (lfoot q V' F') := by
  obtain ⟨ba, bc, rfl⟩ := hbv
  have hC := checkL_at h he h6
  unfold refE
  by_cases h0 : offE l m = 0
  · rw [if_neg (by simp [h0])]
    obtain ⟨hl, _, _⟩ := offE_zero h0
    rw [hl, h0] at hC
    rw [hl]
    clear hl h0 h
    by_cases h1 : 1048512 < n
    · have h1' : (1048512 : Int) < (n : Int) := by omega
      rw [if_pos (.inl h1)]
      go_enter Tryz.func31, Tryz.ntmps31
      go_wp2_with (go_at_call 33; refine hC.mono ?_; rintro e w1 ⟨rfl, V', F', hh, mv⟩)
      go_ret
      exact ⟨rfl, V', F', hh, mv⟩
    · have h1' : ¬ (1048512 : Int) < (n : Int) := by omega
      by_cases h2 : 1000 ≤ l.cnt
      · have h2' : (1000 : Int) ≤ (l.cnt : Int) := by omega
        rw [if_pos (.inr h2)]
        go_enter Tryz.func31, Tryz.ntmps31
        go_wp2_with fail
        refine hC.mono ?_
        rintro e w1 ⟨rfl, V', F', hh, mv⟩
        have c4 := hh.cells.2.2.2.2.1
        go_wp2
        go_ret
        exact ⟨rfl, V', F', hh, mv⟩
      · have h2' : ¬ (1000 : Int) ≤ (l.cnt : Int) := by omega
        rw [if_neg (by omega)]
        go_enter Tryz.func31, Tryz.ntmps31
        go_wp2_with fail
        refine hC.mono ?_
        rintro e w1 ⟨rfl, V', F', hh, mv⟩
        have c4 := hh.cells.2.2.2.2.1
        go_wp2
        go_ret
        exact ⟨rfl, V', F', hh, mv⟩
  · rw [if_pos h0]
    generalize offE l m = z at *
    clear h
    go_enter Tryz.func31, Tryz.ntmps31
    go_wp2_with (go_at_call 33; refine hC.mono ?_; rintro e w1 ⟨rfl, V', F', hh, mv⟩)
    go_ret
    exact ⟨rfl, V', F', hh, mv⟩
end
end Go.Proofs.YtjgdmbfkondakaaGreatDoor

/-
  WHAT A LEDGER DOES, told plainly over the store's model. Of no program.
-/
namespace Go.Proofs.YtjgdmbfkondakaaGreatDoor
open Go.RowKit

/-- A part is made, and is the last one then. -/
def beginL (l : Lg) (m : M) (n : Int) : Int × Lg × M :=
  if (m.make (nameB n)).1 ≠ 0 then ((m.make (nameB n)).1, l.die (m.make (nameB n)).1, (m.make (nameB n)).2)
  else if (m.make (nameB n)).2.commit.1 ≠ 0 then ((m.make (nameB n)).2.commit.1, l.die (m.make (nameB n)).2.commit.1, (m.make (nameB n)).2.commit.2)
  else (0, { l with last := n }, (m.make (nameB n)).2.commit.2)
namespace M
theorem make_count (m : M) (n : ByteArray) : (m.make n).2.count ≤ m.count + 1 := by
  unfold M.make
  repeat' split
  all_goals first | exact Nat.le_succ _ | exact M.step_count m _ rfl
theorem write_count (m : M) (n : ByteArray) (b : List UInt8) : (m.write n b).2.count ≤ m.count + 1 := by
  unfold M.write
  repeat' split
  all_goals first | exact Nat.le_succ _ | exact M.step_count m _ rfl
theorem cut_count (m : M) (n : ByteArray) (k : Int) : (m.cut n k).2.count ≤ m.count + 1 := by
  unfold M.cut
  repeat' split
  all_goals first | exact Nat.le_succ _ | exact M.step_count m _ rfl
theorem sync_count (m : M) (n : ByteArray) : (m.sync n).2.count ≤ m.count + 1 := by
  unfold M.sync
  repeat' split
  all_goals first | exact Nat.le_succ _ | exact M.step_count m _ rfl
theorem move_count (m : M) (n t : ByteArray) : (m.move n t).2.count ≤ m.count + 1 := by
  unfold M.move
  repeat' split
  all_goals first | exact Nat.le_succ _ | exact M.step_count m _ rfl
theorem drop_count (m : M) (n : ByteArray) : (m.drop n).2.count ≤ m.count + 1 := by
  unfold M.drop
  repeat' split
  all_goals first | exact Nat.le_succ _ | exact M.step_count m _ rfl
theorem commit_count (m : M) : m.commit.2.count ≤ m.count + 1 := by
  unfold M.commit
  repeat' split
  all_goals first | exact Nat.le_succ _ | exact M.step_count m _ rfl
end M
theorem beginL_ok {l : Lg} {m : M} (ok : m.Ok) (n : Int) : (beginL l m n).2.2.Ok := by
  have h1 := M.make_ok ok (nameB n)
  have h2 := M.commit_ok h1
  unfold beginL
  repeat' split
  all_goals first | exact h1 | exact h2
theorem beginL_count (l : Lg) (m : M) (n : Int) : (beginL l m n).2.2.count ≤ m.count + 2 := by
  have h1 := M.make_count m (nameB n)
  have h2 := M.commit_count (m.make (nameB n)).2
  unfold beginL
  repeat' split
  all_goals (simp only; omega)
/-- The next part, if the last one has enough. -/
def turnL (l : Lg) (m : M) : Int × Lg × M :=
  if (m.read (nameB l.last)).2 ≠ 0 ∨ ((m.read (nameB l.last)).1.length : Int) ≤ l.part then ((m.read (nameB l.last)).2, l, m)
  else (if (beginL l m (l.last + 1)).1 = 9 then 9 else 0, (beginL l m (l.last + 1)).2.1, (beginL l m (l.last + 1)).2.2)
theorem turnL_ok {l : Lg} {m : M} (ok : m.Ok) : (turnL l m).2.2.Ok := by
  unfold turnL
  split
  · exact ok
  · exact beginL_ok ok _
theorem turnL_count (l : Lg) (m : M) : (turnL l m).2.2.count ≤ m.count + 2 := by
  have := beginL_count l m (l.last + 1)
  unfold turnL
  split
  · simp only; omega
  · exact this
/-- None waits. -/
def Lg.clean (l : Lg) : Lg := { l with wait := [], cnt := 0 }
/-- All that wait are sure. -/
def flush3 (l : Lg) (m : M) : Int × Lg × M := if (turnL l.clean m).1 ≠ 0 then ((turnL l.clean m).1, (turnL l.clean m).2.1.die (turnL l.clean m).1, (turnL l.clean m).2.2) else (0, (turnL l.clean m).2.1, (turnL l.clean m).2.2)
def flush2 (l : Lg) (m : M) : Int × Lg × M := if (m.sync (nameB l.last)).1 ≠ 0 then ((m.sync (nameB l.last)).1, l.die (m.sync (nameB l.last)).1, (m.sync (nameB l.last)).2) else flush3 l (m.sync (nameB l.last)).2
def flush1 (l : Lg) (m : M) : Int × Lg × M := if (m.write (nameB l.last) l.wait).1 ≠ 0 then ((m.write (nameB l.last) l.wait).1, l.die (m.write (nameB l.last) l.wait).1, (m.write (nameB l.last) l.wait).2) else flush2 l (m.write (nameB l.last) l.wait).2
def flushL (l : Lg) (m : M) : Int × Lg × M := if offE l m ≠ 0 then (offE l m, l.checked m, m) else if l.cnt = 0 then (0, l, m) else flush1 l m
theorem flush3_ok {l : Lg} {m : M} (ok : m.Ok) : (flush3 l m).2.2.Ok := by
  have := turnL_ok (l := l.clean) ok
  unfold flush3
  split <;> exact this
theorem flush2_ok {l : Lg} {m : M} (ok : m.Ok) : (flush2 l m).2.2.Ok := by
  have h := M.sync_ok ok (nameB l.last)
  unfold flush2
  split
  · exact h
  · exact flush3_ok h
theorem flush1_ok {l : Lg} {m : M} (ok : m.Ok) : (flush1 l m).2.2.Ok := by
  have h := M.write_ok ok (nameB l.last) l.wait
  unfold flush1
  split
  · exact h
  · exact flush2_ok h
theorem flushL_ok {l : Lg} {m : M} (ok : m.Ok) : (flushL l m).2.2.Ok := by
  unfold flushL
  split
  · exact ok
  · split
    · exact ok
    · exact flush1_ok ok
theorem flush3_count (l : Lg) (m : M) : (flush3 l m).2.2.count ≤ m.count + 2 := by
  have := turnL_count l.clean m
  unfold flush3
  split <;> exact this
theorem flush1_count (l : Lg) (m : M) : (flush1 l m).2.2.count ≤ m.count + 4 := by
  have h1 := M.write_count m (nameB l.last) l.wait
  have h2 := M.sync_count (m.write (nameB l.last) l.wait).2 (nameB l.last)
  have h3 := flush3_count l ((m.write (nameB l.last) l.wait).2.sync (nameB l.last)).2
  unfold flush1
  split
  · simp only; omega
  · unfold flush2
    split
    · simp only; omega
    · omega
theorem flushL_count (l : Lg) (m : M) : (flushL l m).2.2.count ≤ m.count + 4 := by
  have := flush1_count l m
  unfold flushL
  split
  · simp only; omega
  · split
    · simp only; omega
    · exact this
end Go.Proofs.YtjgdmbfkondakaaGreatDoor
