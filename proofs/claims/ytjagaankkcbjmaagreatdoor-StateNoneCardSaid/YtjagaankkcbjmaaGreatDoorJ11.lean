/-
  A TABLE in memory; New, made, Good, leads, Exchanges, Bindings, has, Find, by their contracts.
-/
import Derived.Test.YtjagaankkcbjmaaGreatDoorJ9
import Derived.Test.YtjagaankkcbjmaaGreatDoorJ10
import Derived.Test.YtjagaankkcbjmaaGreatDoorJ6
import Derived.Test.YtjagaankkcbjmaaGreatDoorJ3
import Derived.WalkSpells
import Derived.WalkKit
namespace Go.Proofs.YtjagaankkcbjmaaGreatDoor.K
end Go.Proofs.YtjagaankkcbjmaaGreatDoor.K
namespace Go.Proofs.YtjagaankkcbjmaaGreatDoor.B
open Go.Proofs.YtjagaankkcbjmaaGreatDoor.K
open Go.RowKit Go.Sort Go.Maps

def findX (l : List Ex) (s : ByteArray) : Option Ex := l.find? fun x => decide (x.name = s)
theorem findX_some {l : List Ex} {s : ByteArray} {x : Ex} (h : findX l s = some x) : x ∈ l ∧ x.name = s := ⟨List.mem_of_find?_eq_some h, by simpa using List.find?_some h⟩
theorem findX_none {l : List Ex} {s : ByteArray} (h : findX l s = none) : ∀ x ∈ l, x.name ≠ s := fun x hx => by simpa using List.find?_eq_none.1 h x hx
theorem XAt.look {w : World} {b : Nat} {l : List Ex} (h : XAt w b l) (hl : XL l) {s : ByteArray} (hs : s.size ≤ maxLen) :
    (Instr.lookup 168 (.map (some b)) (.string s) true).run Tryz.prog w = .ok (.tuple #[xv ((findX l s).getD zeroEx), .bool (findX l s).isSome]) w := by
  obtain ⟨v, ps, h1, h2⟩ := World.ownsMap.look_ok h xKeyed Tryz.underlying168 (Tryz.zeroValue34 w) (zd := .held zeroEx) (zp := []) (rdEx_xv zeroEx) (keyOf_str hs)
  obtain ⟨x, rfl, hx⟩ := rdEx_inv h2
  rw [h1]
  have hk : KeysOf Tryz.prog 9 (.string s.data.toList) := ⟨_, keyOf_str hs⟩
  cases hf : findX l s with
  | none =>
    have hne : ∀ y ∈ l, xkl y ≠ .string s.data.toList := fun y hy e => findX_none hf y hy (str_inj e)
    rw [atKey_none hne] at hx
    simp at hx
    rw [has_DofG_false xKeyed.one hk hne, ← hx.1]
    rfl
  | some y =>
    obtain ⟨hy, rfl⟩ := findX_some hf
    rw [show Lit.string y.name.data.toList = xkl y from rfl, atKey_mem xKeyed.one hl.keys hl.diff hy] at hx
    simp [xd] at hx
    rw [(has_DofG xKeyed.one hk).2 ⟨y, hy, rfl⟩, ← hx.1]
    rfl
theorem BAt.look {w : World} {b : Nat} {l : List Bd} (h : BAt w b l) (hl : BL l) {x : Bd} (hx : x.Fit) :
    (Instr.lookup 169 (.map (some b)) (bv x) true).run Tryz.prog w = .ok (.tuple #[.agg #[], .bool (decide (x ∈ l))]) w := by
  obtain ⟨v, ps, h1, h2⟩ := World.ownsMap.look_ok h bKeyed Tryz.underlying169 (Tryz.zeroValue204 w) (zd := .agg []) (zp := []) unitElem_mk (keyOf_bd hx)
  obtain ⟨rfl, _⟩ := unitElem_inv h2
  rw [h1]
  have hk : KeysOf Tryz.prog 36 (bkl x) := ⟨_, keyOf_bd hx⟩
  by_cases hm : x ∈ l
  · rw [(has_DofG bKeyed.one hk).2 ⟨x, hm, rfl⟩, decide_eq_true hm]
  · rw [has_DofG_false bKeyed.one hk (fun y hy e => hm (by rw [← bkl_inj (hl.fit y hy) hx e]; exact hy)), decide_eq_false hm]
theorem XAt.len {w : World} {b : Nat} {l : List Ex} (h : XAt w b l) (ty : TypeId) : (Builtin.len_ #[168] ty #[.map (some b)]).run Tryz.prog w = .ok (.int .i64 (l.length : Nat)) w := by
  have := World.ownsMap.len h Tryz.underlying168 ty
  rwa [size_DofG] at this
theorem BAt.len {w : World} {b : Nat} {l : List Bd} (h : BAt w b l) (ty : TypeId) : (Builtin.len_ #[169] ty #[.map (some b)]).run Tryz.prog w = .ok (.int .i64 (l.length : Nat)) w := by
  have := World.ownsMap.len h Tryz.underlying169 ty
  rwa [size_DofG] at this
theorem XAt.perm {w : World} {b n : Nat} {l l' : List Ex} (h : w.ownsMap Tryz.prog 9 rdEx b n (DofG xkl xd l')) (hl : XL l) (hp : l'.Perm l) : XAt w b l := by
  rw [DofG_perm xKeyed.one hl.keys hl.diff hp] at h
  exact ownsMapG_fit h
theorem BAt.perm {w : World} {b n : Nat} {l l' : List Bd} (h : w.ownsMap Tryz.prog 36 unitElem b n (DofG bkl bd l')) (hl : BL l) (hp : l'.Perm l) : BAt w b l := by
  rw [DofG_perm bKeyed.one hl.keys hl.diff hp] at h
  exact ownsMapG_fit h

/-- May an exchange be? -/
def goodX (x : Ex) : Bool := nameB (txt x.name) && (decide (x.kind = 1) || decide (x.kind = 2) || decide (x.kind = 3))
/-- May a pattern be, of a kind? -/
def mayP (kind : Int) (p : ByteArray) : Bool := if kind = 1 then keyB (txt p) else if kind = 2 then p.toList.isEmpty else patB (txt p)
/-- A table. -/
structure Tb where
  xs : List Ex
  bs : List Bd
structure Tb.Ok (s : Tb) : Prop where
  ox : Ord cmpX s.xs
  ob : Ord cmpB s.bs
  good : ∀ x ∈ s.xs, goodX x = true
  fit : ∀ b ∈ s.bs, b.Fit
  leads : ∀ b ∈ s.bs, ∃ x ∈ s.xs, x.name = b.ex
  nx : s.xs.length ≤ 8
  nb : s.bs.length ≤ 32
theorem name_short {s : ByteArray} (h : nameB (txt s) = true) : s.size ≤ 20 := by
  unfold nameB at h
  rw [txt_length] at h
  simp at h
  exact h.1
theorem good_short {x : Ex} (h : goodX x = true) : x.name.size ≤ 20 := by
  unfold goodX at h
  rw [Bool.and_eq_true] at h
  exact name_short h.1
theorem xl_of {l : List Ex} (ho : Ord cmpX l) (hg : ∀ x ∈ l, goodX x = true) : XL l :=
  ⟨ho.imp fun {a b} h e => by rw [show cmpX a b = 0 by unfold cmpX; rw [str_inj e]; exact cmpS3.self _] at h; exact absurd h (by decide), fun x hx => by have := good_short (hg x hx); unfold maxLen; omega⟩
theorem bl_of {l : List Bd} (ho : Ord cmpB l) (hf : ∀ b ∈ l, b.Fit) : BL l := by
  refine ⟨?_, hf⟩
  have : l.Pairwise fun a b => a ∈ l ∧ b ∈ l ∧ cmpB a b < 0 := List.Pairwise.imp_of_mem (fun ha hb h => ⟨ha, hb, h⟩) ho
  exact this.imp fun {a b} ⟨ha, hb, h⟩ e => by rw [bkl_inj (hf a ha) (hf b hb) e, cmpB3.self] at h; exact absurd h (by decide)
theorem Tb.Ok.xl {s : Tb} (h : s.Ok) : XL s.xs := xl_of h.ox h.good
theorem Tb.Ok.bl {s : Tb} (h : s.Ok) : BL s.bs := bl_of h.ob h.fit

structure TAt (w : World) (p bx bb : Nat) (s : Tb) : Prop where
  blk : w.heap[p]? = some (.cells #[.map (some bx), .map (some bb)] 171 (0, 0))
  x : XAt w bx s.xs
  b : BAt w bb s.bs
  ne : bx ≠ bb
def footT (p bx bb : Nat) (k : Nat) : Prop := k = p ∨ k = bx ∨ k = bb
def T (w : World) (p : Nat) (F : Nat → Prop) (s : Tb) : Prop := ∃ bx bb, TAt w p bx bb s ∧ ∀ k, F k ↔ footT p bx bb k
theorem TAt.lts {w : World} {p bx bb : Nat} {s : Tb} (h : TAt w p bx bb s) : ∀ k, footT p bx bb k → k < w.heap.size := by
  rintro k (rfl | rfl | rfl)
  · exact (Array.getElem?_eq_some_iff.1 h.blk).1
  · exact h.x.lt
  · exact h.b.lt
theorem T.lts {w : World} {p : Nat} {F : Nat → Prop} {s : Tb} (h : T w p F s) : ∀ k, F k → k < w.heap.size := by
  obtain ⟨bx, bb, hq, hF⟩ := h
  exact fun k hk => hq.lts k ((hF k).1 hk)
theorem TAt.same {w w' : World} {p bx bb : Nat} {s : Tb} (h : TAt w p bx bb s) (hs : ∀ k, footT p bx bb k → w'.heap[k]? = w.heap[k]?) : TAt w' p bx bb s :=
  ⟨by rw [hs p (.inl rfl)]; exact h.blk, h.x.same (hs bx (.inr (.inl rfl))), h.b.same (hs bb (.inr (.inr rfl))), h.ne⟩
theorem T.same {w w' : World} {p : Nat} {F : Nat → Prop} {s : Tb} (h : T w p F s) (hs : ∀ k, F k → w'.heap[k]? = w.heap[k]?) : T w' p F s := by
  obtain ⟨bx, bb, hq, hF⟩ := h
  exact ⟨bx, bb, hq.same fun k hk => hs k ((hF k).2 hk), hF⟩
theorem T.kept {w w' : World} {p : Nat} {F : Nat → Prop} {s : Tb} (h : T w p F s) (hb : Below w.heap.size w w') : T w' p F s := h.same fun k hk => hb.block k (h.lts k hk)
theorem cells2 {w : World} {b : Nat} {v0 v1 : Value} {t : TypeId} (h : w.heap[b]? = some (.cells #[v0, v1] t (0, 0))) : w.cell? ⟨b, 0, none⟩ = some v0 ∧ w.cell? ⟨b, 1, none⟩ = some v1 := by
  simp [World.cell?, h]
theorem TAt.ne_x {w : World} {p bx bb : Nat} {s : Tb} (h : TAt w p bx bb s) : bx ≠ p := by
  rintro rfl
  obtain ⟨es, clock, hb, _⟩ := h.x
  rw [h.blk] at hb
  cases hb
def newT : Tb := ⟨[], []⟩
theorem newT_ok : newT.Ok := ⟨List.Pairwise.nil, List.Pairwise.nil, by simp [newT], by simp [newT], by simp [newT], by simp [newT], by simp [newT]⟩

set_option maxRecDepth 20000 in
set_option maxHeartbeats 400000 in
theorem new_any (w : World) : Calls Tryz.prog 34 #[] w fun e w' => ∃ p, e = .returned (.pointer (some ⟨p, 0, none⟩)) ∧ ∃ F, T w' p F newT ∧ (∀ k, F k → w.heap.size ≤ k) ∧ Below w.heap.size w w' := by
  have hmm := @run_makeMap Tryz.prog
  go_enter Tryz.func34, Tryz.ntmps34
  go_wp2
  go_ret
  refine ⟨w.heap.size + 1 + 1, rfl, footT (w.heap.size + 1 + 1) w.heap.size (w.heap.size + 1), ⟨_, _, ⟨?_, ?_, ?_, by omega⟩, fun _ => Iff.rfl⟩, ?_, ?_⟩
  · have h := heap_alloc_new ((w.alloc (.map #[] 0)).alloc (.map #[] 0)) (.cells #[.map (some w.heap.size), .map (some (w.heap.size + 1))] 171)
    rw [World.size_alloc, World.size_alloc] at h
    exact h
  · exact ((xAt_new w).same (Below.heap_alloc _ _ _ (by simp))).same (Below.heap_alloc _ _ _ (by simp; omega))
  · have h := bAt_new (w.alloc (.map #[] 0))
    rw [World.size_alloc] at h
    exact h.same (Below.heap_alloc _ _ _ (by simp))
  · rintro k (rfl | rfl | rfl) <;> omega
  · exact (((Below.refl _ w).alloc (Nat.le_refl _) _).alloc (by simp) _).alloc (by simp; omega) _

set_option maxRecDepth 20000 in
set_option maxHeartbeats 400000 in
theorem made_any (p : Nat) (F : Nat → Prop) (s : Tb) (w : World) (h : T w p F s) : Calls Tryz.prog 123 #[.pointer (some ⟨p, 0, none⟩)] w fun e w' => e = .returned (.bool true) ∧ w' = w := by
  obtain ⟨bx, bb, hq, _⟩ := h
  obtain ⟨c0, c1⟩ := cells2 hq.blk
  clear hq
  have hnn : ∀ w, (binOp .neq 168 (.map (some bx)) (.map none)).run Tryz.prog w = .ok (.bool true) w := fun w => run_neq_map_nil w 168 9 34 (some bx) Tryz.underlying168
  go_enter Tryz.func123, Tryz.ntmps123
  go_wp2
  go_ret
  exact ⟨rfl, rfl⟩



set_option maxRecDepth 20000 in
set_option maxHeartbeats 1000000 in
theorem good_any (x : Ex) (w : World) (hs : x.name.size ≤ maxLen) : Calls Tryz.prog 172 #[xv x] w fun e w' => e = .returned (.bool (goodX x)) ∧ Below w.heap.size w w' := by
  have hN := fun w => name_any x.name w hs
  have b0 : ∀ o, Below w.heap.size w (w.alloc o) := fun o => (Below.refl _ _).alloc (Nat.le_refl _) _
  unfold goodX
  generalize nameB (txt x.name) = nb at hN ⊢
  by_cases h : x.kind = 1 ∨ x.kind = 2 ∨ x.kind = 3
  · have e : (decide (x.kind = 1) || decide (x.kind = 2) || decide (x.kind = 3)) = true := by rcases h with h | h | h <;> simp [h]
    rw [e, Bool.and_true]
    rcases h with h | h | h
    all_goals go_enter Tryz.func172, Tryz.ntmps172
    all_goals go_wp2_with (go_at_call 144; refine (hN _).mono ?_; rintro e w' ⟨rfl, hb⟩)
    all_goals go_ret
    all_goals exact ⟨rfl, (b0 _).trans (hb.mono (by simp))⟩
  · obtain ⟨h1, h2, h3⟩ : ¬ x.kind = 1 ∧ ¬ x.kind = 2 ∧ ¬ x.kind = 3 := ⟨fun e => h (.inl e), fun e => h (.inr (.inl e)), fun e => h (.inr (.inr e))⟩
    have e : (decide (x.kind = 1) || decide (x.kind = 2) || decide (x.kind = 3)) = false := by simp [h1, h2, h3]
    rw [e, Bool.and_false]
    clear h
    go_enter Tryz.func172, Tryz.ntmps172
    go_wp2
    go_ret
    exact ⟨rfl, b0 _⟩


set_option maxRecDepth 20000 in
set_option maxHeartbeats 1000000 in
theorem exchanges_any (p : Nat) (F : Nat → Prop) (s : Tb) (w : World) (h : T w p F s) (ok : s.Ok) :
    Calls Tryz.prog 57 #[.pointer (some ⟨p, 0, none⟩)] w fun e w' => ∃ v', e = .returned v' ∧ OwnX w' w.heap.size v' s.xs ∧ Below w.heap.size w w' := by
  have hM := made_any p F s w h
  obtain ⟨bx, bb, hq, _⟩ := h
  obtain ⟨c0, c1⟩ := cells2 hq.blk
  have b1 : Below w.heap.size w (w.alloc (.cells #[.map (some bx)] 168)) := (Below.refl _ _).alloc (Nat.le_refl _) _
  have hm : MapAtEx w (some bx) s.xs := .inr ⟨bx, rfl, hq.x⟩
  have hS := sortedFunc_anyEx w.heap.size (some bx) s.xs ok.xl ok.ox (by have := ok.nx; omega) _ (cell_of_list (C := [.map (some bx)]) (heap_alloc_new w _) 0) (hm.below b1)
  clear hq
  go_enter Tryz.func57, Tryz.ntmps57
  go_wp2_with fail
  refine hM.mono ?_
  rintro e w ⟨rfl, rfl⟩
  go_wp2_with fail
  refine (values_anyEx (some bx) w).mono ?_
  rintro e w1 ⟨rfl, rfl⟩
  go_wp2_with fail
  refine hS.mono ?_
  rintro e w2 ⟨v, rfl, own, b⟩
  obtain ⟨va, vc, rfl⟩ := own.rng.slice
  go_wp2
  go_ret
  exact ⟨_, rfl, own.mono b1.size, b1.trans (b.mono b1.size)⟩

set_option maxRecDepth 20000 in
set_option maxHeartbeats 1000000 in
theorem bindings_any (p : Nat) (F : Nat → Prop) (s : Tb) (w : World) (h : T w p F s) (ok : s.Ok) :
    Calls Tryz.prog 58 #[.pointer (some ⟨p, 0, none⟩)] w fun e w' => ∃ v', e = .returned v' ∧ OwnB w' w.heap.size v' s.bs ∧ Below w.heap.size w w' := by
  have hM := made_any p F s w h
  obtain ⟨bx, bb, hq, _⟩ := h
  obtain ⟨c0, c1⟩ := cells2 hq.blk
  have b1 : Below w.heap.size w (w.alloc (.cells #[.map (some bb)] 169)) := (Below.refl _ _).alloc (Nat.le_refl _) _
  have hm : MapAtBd w (some bb) s.bs := .inr ⟨bb, rfl, hq.b⟩
  have hS := sortedFunc_anyBd w.heap.size (some bb) s.bs ok.bl ok.ob (by have := ok.nb; omega) _ (cell_of_list (C := [.map (some bb)]) (heap_alloc_new w _) 0) (hm.below b1)
  clear hq
  go_enter Tryz.func58, Tryz.ntmps58
  go_wp2_with fail
  refine hM.mono ?_
  rintro e w ⟨rfl, rfl⟩
  go_wp2_with fail
  refine (values_anyBd (some bb) w).mono ?_
  rintro e w1 ⟨rfl, rfl⟩
  go_wp2_with fail
  refine hS.mono ?_
  rintro e w2 ⟨v, rfl, own, b⟩
  obtain ⟨va, vc, rfl⟩ := own.rng.slice
  go_wp2
  go_ret
  exact ⟨_, rfl, own.mono b1.size, b1.trans (b.mono b1.size)⟩
end Go.Proofs.YtjagaankkcbjmaaGreatDoor.B

/-
  WHAT IS OF NO PROGRAM: sets of numbers as ranges that do not touch.
-/
namespace Go.Proofs.YtjagaankkcbjmaaGreatDoor.S

/-- Is m in one of the ranges? -/
def Mem (l : List (Nat × Nat)) (m : Nat) : Prop := ∃ r ∈ l, r.1 ≤ m ∧ m ≤ r.2
def memB (l : List (Nat × Nat)) (m : Nat) : Bool := l.any fun r => decide (r.1 ≤ m) && decide (m ≤ r.2)
theorem memB_iff (l : List (Nat × Nat)) (m : Nat) : memB l m = true ↔ Mem l m := by
  simp only [memB, Mem, List.any_eq_true, Bool.and_eq_true, decide_eq_true_eq]
theorem memB_false (l : List (Nat × Nat)) (m : Nat) : memB l m = false ↔ ¬ Mem l m := by
  rw [← memB_iff, Bool.not_eq_true]
theorem mem_nil (m : Nat) : ¬ Mem [] m := by rintro ⟨r, h, _⟩; cases h
theorem mem_cons (r : Nat × Nat) (l : List (Nat × Nat)) (m : Nat) : Mem (r :: l) m ↔ (r.1 ≤ m ∧ m ≤ r.2) ∨ Mem l m := by
  simp [Mem]
theorem mem_append (a b : List (Nat × Nat)) (m : Nat) : Mem (a ++ b) m ↔ Mem a m ∨ Mem b m := by
  constructor
  · rintro ⟨r, h, h'⟩
    rcases List.mem_append.1 h with h | h
    · exact .inl ⟨r, h, h'⟩
    · exact .inr ⟨r, h, h'⟩
  · rintro (⟨r, h, h'⟩ | ⟨r, h, h'⟩)
    · exact ⟨r, List.mem_append.2 (.inl h), h'⟩
    · exact ⟨r, List.mem_append.2 (.inr h), h'⟩

/-- From b on, rising, and no two touch. -/
def Apart : Nat → List (Nat × Nat) → Prop
  | _, [] => True
  | b, r :: t => b ≤ r.1 ∧ r.1 ≤ r.2 ∧ Apart (r.2 + 2) t
theorem Apart.mono : ∀ {l : List (Nat × Nat)} {b c : Nat}, Apart b l → c ≤ b → Apart c l
  | [], _, _, _, _ => trivial
  | _ :: _, _, _, h, hc => ⟨Nat.le_trans hc h.1, h.2⟩
theorem Apart.low : ∀ {l : List (Nat × Nat)} {b m : Nat}, Apart b l → Mem l m → b ≤ m
  | [], _, m, _, h => absurd h (mem_nil m)
  | r :: t, b, m, h, hm => by
    rcases (mem_cons r t m).1 hm with hm | hm
    · have := h.1; omega
    · have := h.2.2.low hm; have h1 := h.1; have h2 := h.2.1; omega
theorem Apart.lowR : ∀ {l : List (Nat × Nat)} {b : Nat} {r : Nat × Nat}, Apart b l → r ∈ l → b ≤ r.1 ∧ r.1 ≤ r.2
  | s :: t, b, r, h, hm => by
    rcases List.mem_cons.1 hm with rfl | hm
    · exact ⟨h.1, h.2.1⟩
    · have := h.2.2.lowR hm; have h1 := h.1; have h2 := h.2.1; exact ⟨by omega, this.2⟩
theorem Apart.append : ∀ {a : List (Nat × Nat)} {b : List (Nat × Nat)} {n : Nat}, Apart n (a ++ b) → Apart n b
  | [], _, _, h => h
  | r :: t, b, n, h => (h.2.2.append (a := t)).mono (by have h1 := h.1; have h2 := h.2.1; omega)
theorem Apart.left : ∀ {a : List (Nat × Nat)} {b : List (Nat × Nat)} {n : Nat}, Apart n (a ++ b) → Apart n a
  | [], _, _, _ => trivial
  | _ :: t, _, _, h => ⟨h.1, h.2.1, h.2.2.left (a := t)⟩

/-- Two rows of such ranges with the same numbers are one. -/
theorem Apart.unique : ∀ {l k : List (Nat × Nat)} {b c : Nat}, Apart b l → Apart c k → (∀ m, Mem l m ↔ Mem k m) → l = k
  | [], [], _, _, _, _, _ => rfl
  | [], s :: u, _, _, _, hk, h => absurd ((h s.1).2 ((mem_cons s u s.1).2 (.inl ⟨Nat.le_refl _, hk.2.1⟩))) (mem_nil _)
  | r :: t, [], _, _, hl, _, h => absurd ((h r.1).1 ((mem_cons r t r.1).2 (.inl ⟨Nat.le_refl _, hl.2.1⟩))) (mem_nil _)
  | r :: t, s :: u, b, c, hl, hk, h => by
    have hl2 := hl.2.1
    have hk2 := hk.2.1
    have f : ∀ m, ((r.1 ≤ m ∧ m ≤ r.2) ∨ Mem t m) ↔ ((s.1 ≤ m ∧ m ≤ s.2) ∨ Mem u m) := fun m => by rw [← mem_cons, ← mem_cons]; exact h m
    have lt : ∀ m, Mem t m → r.2 + 2 ≤ m := fun m => hl.2.2.low
    have lu : ∀ m, Mem u m → s.2 + 2 ≤ m := fun m => hk.2.2.low
    have e1 : r.1 = s.1 := by
      have a := (f r.1).1 (.inl ⟨Nat.le_refl _, hl2⟩)
      have a' := (f s.1).2 (.inl ⟨Nat.le_refl _, hk2⟩)
      have g1 : s.1 ≤ r.1 := by rcases a with a | a
                                · exact a.1
                                · have := lu _ a; omega
      have g2 : r.1 ≤ s.1 := by rcases a' with a | a
                                · exact a.1
                                · have := lt _ a; omega
      omega
    have e2 : r.2 = s.2 := by
      rcases Nat.lt_trichotomy r.2 s.2 with g | g | g
      · rcases (f (r.2 + 1)).2 (.inl ⟨by omega, by omega⟩) with a | a
        · omega
        · have := lt _ a; omega
      · exact g
      · rcases (f (s.2 + 1)).1 (.inl ⟨by omega, by omega⟩) with a | a
        · omega
        · have := lu _ a; omega
    have e : r = s := by cases r; cases s; simp at e1 e2; rw [e1, e2]
    subst e
    rw [hl.2.2.unique hk.2.2 fun m => ?_]
    constructor
    · intro hm
      rcases (f m).1 (.inr hm) with a | a
      · have := lt _ hm; omega
      · exact a
    · intro hm
      rcases (f m).2 (.inr hm) with a | a
      · have := lu _ hm; omega
      · exact a

/-- How many numbers. -/
def sizeL : List (Nat × Nat) → Nat
  | [] => 0
  | r :: t => (r.2 - r.1 + 1) + sizeL t

/-- The ranges B and n as one. -/
def growL (B : List (Nat × Nat)) (n : Nat) : Nat × Nat := B.foldl (fun g r => (min g.1 r.1, max g.2 r.2)) (n, n)

/-- n, which is not there, put in the place of those that it touches. -/
theorem put_one : ∀ (A B C : List (Nat × Nat)) (n b : Nat), Apart b (A ++ (B ++ C)) → b ≤ n → ¬ Mem (A ++ (B ++ C)) n → (∀ r ∈ A, r.2 + 1 < n) → (∀ r ∈ B, n ≤ r.2 + 1 ∧ r.1 ≤ n + 1) → (∀ r ∈ C, n + 1 < r.1) →
    Apart b (A ++ growL B n :: C) ∧ (∀ m, Mem (A ++ growL B n :: C) m ↔ Mem (A ++ (B ++ C)) m ∨ m = n) ∧ sizeL (A ++ growL B n :: C) = sizeL (A ++ (B ++ C)) + 1
  | [], [], C, n, b, h, hb, hn, _, _, hC => by
    refine ⟨⟨hb, Nat.le_refl _, ?_⟩, fun m => ?_, ?_⟩
    · cases C with
      | nil => trivial
      | cons r t => have := hC r (by simp); exact ⟨this, h.2.1, h.2.2⟩
    · simp only [growL, List.foldl_nil, List.nil_append, mem_cons]
      constructor
      · rintro (⟨h1, h2⟩ | h1)
        · exact .inr (Nat.le_antisymm h2 h1)
        · exact .inl h1
      · rintro (h1 | rfl)
        · exact .inr h1
        · exact .inl ⟨Nat.le_refl _, Nat.le_refl _⟩
    · simp [growL, sizeL]; omega
  | [], [r], C, n, b, h, hb, hn, _, hB, hC => by
    have hr := hB r (by simp)
    have hr2 := h.2.1
    have hr0 := h.1
    have hne : ¬ (r.1 ≤ n ∧ n ≤ r.2) := fun hh => hn ((mem_cons r C n).2 (.inl hh))
    simp only [growL, List.foldl_cons, List.foldl_nil, List.nil_append, List.cons_append] at *
    refine ⟨⟨?_, ?_, ?_⟩, fun m => ?_, ?_⟩
    · simp only; omega
    · simp only; omega
    · cases C with
      | nil => trivial
      | cons s t =>
        have := hC s (by simp)
        have h3 := h.2.2
        exact ⟨by have := h3.1; simp only; omega, h3.2.1, h3.2.2⟩
    · rw [mem_cons, mem_cons]
      simp only
      constructor
      · rintro (⟨h1, h2⟩ | h1)
        · by_cases hm : m = n
          · exact .inr hm
          · exact .inl (.inl ⟨by omega, by omega⟩)
        · exact .inl (.inr h1)
      · rintro ((h1 | h1) | rfl)
        · exact .inl ⟨by omega, by omega⟩
        · exact .inr h1
        · exact .inl ⟨by omega, by omega⟩
    · simp only [sizeL]; omega
  | [], [r, s], C, n, b, h, hb, hn, _, hB, hC => by
    have hr := hB r (by simp)
    have hs := hB s (by simp)
    have hr2 := h.2.1
    have hr0 := h.1
    have hs0 := h.2.2.1
    have hs2 := h.2.2.2.1
    have hne : ¬ (r.1 ≤ n ∧ n ≤ r.2) := fun hh => hn ((mem_cons r (s :: C) n).2 (.inl hh))
    simp only [growL, List.foldl_cons, List.foldl_nil, List.nil_append, List.cons_append] at *
    refine ⟨⟨?_, ?_, ?_⟩, fun m => ?_, ?_⟩
    · simp only; omega
    · simp only; omega
    · cases C with
      | nil => trivial
      | cons u t =>
        have := hC u (by simp)
        have h3 := h.2.2.2.2
        exact ⟨by have := h3.1; simp only; omega, h3.2.1, h3.2.2⟩
    · rw [mem_cons, mem_cons, mem_cons]
      simp only
      constructor
      · rintro (⟨h1, h2⟩ | h1)
        · by_cases hm : m = n
          · exact .inr hm
          · by_cases hlt : m < n
            · exact .inl (.inl ⟨by omega, by omega⟩)
            · exact .inl (.inr (.inl ⟨by omega, by omega⟩))
        · exact .inl (.inr (.inr h1))
      · rintro ((h1 | h1 | h1) | rfl)
        · exact .inl ⟨by omega, by omega⟩
        · exact .inl ⟨by omega, by omega⟩
        · exact .inr h1
        · exact .inl ⟨by omega, by omega⟩
    · simp only [sizeL]; omega
  | [], r :: s :: u :: _, C, n, b, h, hb, hn, _, hB, hC => by
    exfalso
    have h1 := hB r (by simp)
    have h2 := hB s (by simp)
    have h3 := hB u (by simp)
    have g1 := h.2.2.1
    have g2 := h.2.2.2.1
    have g3 := h.2.2.2.2.1
    have g4 := h.2.1
    omega
  | r :: A, B, C, n, b, h, hb, hn, hA, hB, hC => by
    have hr := hA r (by simp)
    rw [List.cons_append, mem_cons] at hn
    obtain ⟨i1, i2, i3⟩ := put_one A B C n (r.2 + 2) h.2.2 (by omega) (fun hh => hn (.inr hh)) (fun q hq => hA q (by simp [hq])) hB hC
    refine ⟨⟨h.1, h.2.1, i1⟩, fun m => ?_, ?_⟩
    · rw [List.cons_append, List.cons_append, mem_cons, mem_cons, i2 m]
      constructor
      · rintro (h1 | h1 | h1)
        · exact .inl (.inl h1)
        · exact .inl (.inr h1)
        · exact .inr h1
      · rintro ((h1 | h1) | h1)
        · exact .inl h1
        · exact .inr (.inl h1)
        · exact .inr (.inr h1)
    · rw [List.cons_append, List.cons_append, sizeL, sizeL, i3]; omega

/-- How many ranges end below n; how many begin not beyond n and one. -/
def fromL (l : List (Nat × Nat)) (n : Nat) : Nat := l.countP fun r => decide (r.2 < n - 1)
def toL (l : List (Nat × Nat)) (n : Nat) : Nat := l.countP fun r => decide (r.1 - 1 ≤ n)
def belowL (l : List (Nat × Nat)) (n : Nat) : Nat := l.countP fun r => decide (r.2 < n)

theorem countP_far {p : Nat × Nat → Bool} : ∀ {l : List (Nat × Nat)}, (∀ r ∈ l, p r = false) → l.countP p = 0
  | [], _ => rfl
  | r :: t, h => by rw [List.countP_cons, countP_far (l := t) fun q hq => h q (by simp [hq]), h r (by simp)]; simp

/-- A row that falls into those of which p says true, then those of which it says false. -/
theorem split_at {p : Nat × Nat → Bool} : ∀ {l : List (Nat × Nat)}, (∀ i j (hi : i < l.length) (hj : j < l.length), i ≤ j → p l[j] = true → p l[i] = true) →
    (∀ r ∈ l.take (l.countP p), p r = true) ∧ (∀ r ∈ l.drop (l.countP p), p r = false)
  | [], _ => ⟨fun r h => by simp at h, fun r h => by simp at h⟩
  | r :: t, h => by
    have ht := split_at (p := p) (l := t) fun i j hi hj hij hp => by
      have := h (i + 1) (j + 1) (by simpa using hi) (by simpa using hj) (by omega) (by simpa using hp)
      simpa using this
    by_cases hr : p r = true
    · rw [List.countP_cons, if_pos hr]
      refine ⟨fun q hq => ?_, fun q hq => ht.2 q (by simpa using hq)⟩
      rw [List.take_succ_cons, List.mem_cons] at hq
      rcases hq with rfl | hq
      · exact hr
      · exact ht.1 q hq
    · have hall : ∀ q ∈ t, p q = false := by
        intro q hq
        obtain ⟨i, hi, rfl⟩ := List.mem_iff_getElem.1 hq
        rw [Bool.eq_false_iff]
        intro hp
        exact hr (by have := h 0 (i + 1) (by simp) (by simpa using hi) (by omega) (by simpa using hp); simpa using this)
      rw [List.countP_cons, if_neg hr, countP_far hall]
      refine ⟨fun q hq => by simp at hq, fun q hq => ?_⟩
      rw [Nat.zero_add, List.drop_zero, List.mem_cons] at hq
      rcases hq with rfl | hq
      · simpa using hr
      · exact hall q hq

theorem Apart.rising : ∀ {l : List (Nat × Nat)} {b i j : Nat} (hi : i < l.length) (hj : j < l.length), Apart b l → i < j → l[i].2 + 2 ≤ l[j].1
  | [], _, _, _, hi, _, _, _ => absurd hi (by simp)
  | r :: t, b, 0, j + 1, hi, hj, h, _ => by
    simp only [List.getElem_cons_zero, List.getElem_cons_succ]
    exact (h.2.2.lowR (List.getElem_mem _)).1
  | r :: t, b, i + 1, j + 1, hi, hj, h, hij => by
    simp only [List.getElem_cons_succ]
    exact h.2.2.rising (by simpa using hi) (by simpa using hj) (by omega)
theorem Apart.risingLo {l : List (Nat × Nat)} {b i j : Nat} (hi : i < l.length) (hj : j < l.length) (h : Apart b l) (hij : i ≤ j) : l[i].1 ≤ l[j].1 ∧ l[i].2 ≤ l[j].2 := by
  rcases Nat.eq_or_lt_of_le hij with rfl | hlt
  · exact ⟨Nat.le_refl _, Nat.le_refl _⟩
  · have h1 := h.rising hi hj hlt
    have h2 := h.lowR (List.getElem_mem hi)
    have h3 := h.lowR (List.getElem_mem hj)
    omega

/-- Add: what stands ahead of the places, those between them as one, what stands behind them. -/
def addL (l : List (Nat × Nat)) (n : Nat) : List (Nat × Nat) := l.take (fromL l n) ++ growL ((l.take (toL l n)).drop (fromL l n)) n :: l.drop (toL l n)

theorem from_le_to {l : List (Nat × Nat)} {n b : Nat} (h : Apart b l) : fromL l n ≤ toL l n := by
  unfold fromL toL
  refine List.countP_mono_left fun r hr hp => ?_
  have := h.lowR hr
  simp at hp ⊢
  omega
theorem to_le (l : List (Nat × Nat)) (n : Nat) : toL l n ≤ l.length := List.countP_le_length

theorem add_split {l : List (Nat × Nat)} {n b : Nat} (h : Apart b l) : l.take (fromL l n) ++ ((l.take (toL l n)).drop (fromL l n) ++ l.drop (toL l n)) = l := by
  rw [← List.append_assoc]
  conv => rhs; rw [← List.take_append_drop (toL l n) l]
  congr 1
  conv => rhs; rw [← List.take_append_drop (fromL l n) (l.take (toL l n))]
  rw [List.take_take, Nat.min_eq_left (from_le_to h)]

theorem addL_ok {l : List (Nat × Nat)} {n : Nat} (h : Apart 1 l) (hn : n ≠ 0) (hm : ¬ Mem l n) :
    Apart 1 (addL l n) ∧ (∀ m, Mem (addL l n) m ↔ Mem l m ∨ m = n) ∧ sizeL (addL l n) = sizeL l + 1 := by
  have hs := add_split (n := n) h
  have f1 := split_at (p := fun r => decide (r.2 < n - 1)) (l := l) fun i j hi hj hij hp => by
    have := h.risingLo hi hj hij; simp at hp ⊢; omega
  have f2 := split_at (p := fun r => decide (r.1 - 1 ≤ n)) (l := l) fun i j hi hj hij hp => by
    have := h.risingLo hi hj hij; simp at hp ⊢; omega
  have := put_one (l.take (fromL l n)) ((l.take (toL l n)).drop (fromL l n)) (l.drop (toL l n)) n 1 (by rw [hs]; exact h) (by omega) (by rw [hs]; exact hm)
    (fun r hr => by have := f1.1 r hr; simp at this; omega)
    (fun r hr => by
      have g2 := f2.1 r (List.mem_of_mem_drop hr)
      have g1 := f1.2 r (by
        have : (l.take (toL l n)).drop (fromL l n) = (l.drop (fromL l n)).take (toL l n - fromL l n) := List.drop_take
        rw [this] at hr
        exact List.mem_of_mem_take hr)
      have hr1 := h.lowR (List.mem_of_mem_take (List.mem_of_mem_drop hr))
      simp at g1 g2
      omega)
    (fun r hr => by have := f2.2 r hr; simp at this; omega)
  rw [hs] at this
  exact this

theorem growL_bound : ∀ (B : List (Nat × Nat)) (g : Nat × Nat) (N : Nat), (∀ r ∈ B, r.2 < N) → g.2 < N → (B.foldl (fun g r => (min g.1 r.1, max g.2 r.2)) g).2 < N
  | [], _, _, _, h => h
  | r :: t, g, N, hB, h => by
    rw [List.foldl_cons]
    refine growL_bound t _ N (fun q hq => hB q (by simp [hq])) ?_
    have := hB r (by simp)
    show max g.2 r.2 < N
    omega
/-- Ends below N. -/
def Upto (N : Nat) (l : List (Nat × Nat)) : Prop := ∀ r ∈ l, r.2 < N
theorem addL_upto {l : List (Nat × Nat)} {n N : Nat} (h : Upto N l) (hn : n < N) : Upto N (addL l n) := by
  intro r hr
  unfold addL at hr
  rcases List.mem_append.1 hr with hr | hr
  · exact h r (List.mem_of_mem_take hr)
  · rcases List.mem_cons.1 hr with rfl | hr
    · exact growL_bound _ _ N (fun q hq => h q (List.mem_of_mem_take (List.mem_of_mem_drop hq))) hn
    · exact h r (List.mem_of_mem_drop hr)

/-- A search tells whether n is there. -/
theorem has_iff {l : List (Nat × Nat)} {n b : Nat} (h : Apart b l) : memB l n = if hh : belowL l n < l.length then decide (l[belowL l n].1 ≤ n) else false := by
  have f := split_at (p := fun r => decide (r.2 < n)) (l := l) fun i j hi hj hij hp => by
    have := h.risingLo hi hj hij; simp at hp ⊢; omega
  rw [Bool.eq_iff_iff, memB_iff]
  have key : Mem l n ↔ ∃ hh : belowL l n < l.length, l[belowL l n].1 ≤ n := by
    constructor
    · rintro ⟨r, hr, h1, h2⟩
      obtain ⟨i, hi, rfl⟩ := List.mem_iff_getElem.1 hr
      have hge : belowL l n ≤ i := by
        rcases Nat.lt_or_ge i (belowL l n) with hlt | hge
        · exfalso
          have := f.1 l[i] (List.mem_take_iff_getElem.2 ⟨i, by rw [Nat.lt_min]; exact ⟨hlt, hi⟩, rfl⟩)
          simp at this; omega
        · exact hge
      refine ⟨by omega, ?_⟩
      have := h.risingLo (i := belowL l n) (by omega) hi hge
      omega
    · rintro ⟨hh, h1⟩
      refine ⟨l[belowL l n], List.getElem_mem hh, h1, ?_⟩
      have := f.2 l[belowL l n] (List.mem_drop_iff_getElem.2 ⟨0, by have := hh; unfold belowL at this; omega, by simp [belowL]⟩)
      simp at this; omega
  rw [key]
  by_cases hh : belowL l n < l.length
  · simp [hh]
  · simp [hh]

/-- Low, Top, Gaps. -/
def lowL : List (Nat × Nat) → Nat
  | [] => 0
  | r :: _ => if r.1 = 1 then r.2 else 0
def topL (l : List (Nat × Nat)) : Nat := match l.getLast? with | some r => r.2 | none => 0
def gapsL (l : List (Nat × Nat)) : Nat := l.countP fun r => decide (r.1 ≠ 1)

end Go.Proofs.YtjagaankkcbjmaaGreatDoor.S
