/-
  A TABLE in memory; New, made, Good, leads, Exchanges, Bindings, has, Find, by their contracts.
-/
import Derived.Test.YtiaagiijjledkaaGreatDoorXIter
import Derived.Test.YtiaagiijjledkaaGreatDoorBIter
import Derived.Test.YtiaagiijjledkaaGreatDoorMoved
import Derived.Test.YtiaagiijjledkaaGreatDoorKeys
import Derived.WalkSpells
namespace Go.Proofs.YtiaagiijjledkaaGreatDoor
open Go.RowKit Go.Sort Go.Maps

def findX (l : List Ex) (s : ByteArray) : Option Ex := l.find? fun x => decide (x.name = s)
theorem findX_some {l : List Ex} {s : ByteArray} {x : Ex} (h : findX l s = some x) : x ∈ l ∧ x.name = s := ⟨List.mem_of_find?_eq_some h, by simpa using List.find?_some h⟩
theorem findX_none {l : List Ex} {s : ByteArray} (h : findX l s = none) : ∀ x ∈ l, x.name ≠ s := fun x hx => by simpa using List.find?_eq_none.1 h x hx
theorem XAt.look {w : World} {b : Nat} {l : List Ex} (h : XAt w b l) (hl : XL l) {s : ByteArray} (hs : s.size ≤ maxLen) :
    (Instr.lookup 50 (.map (some b)) (.string s) true).run Tryz.prog w = .ok (.tuple #[xv ((findX l s).getD zeroEx), .bool (findX l s).isSome]) w := by
  obtain ⟨v, ps, h1, h2⟩ := World.ownsMap.look_ok h xKeyed Tryz.underlying50 (Tryz.zeroValue33 w) (zd := .held zeroEx) (zp := []) (rdEx_xv zeroEx) (keyOf_str hs)
  obtain ⟨x, rfl, hx⟩ := rdEx_inv h2
  rw [h1]
  have hk : KeysOf Tryz.prog 9 (.string s.data.toList) := ⟨_, keyOf_str hs⟩
  cases hf : findX l s with
  | none =>
    have hne : ∀ y ∈ l, xkl y ≠ .string s.data.toList := fun y hy e => findX_none hf y hy (str_inj e)
    rw [atKey_none hne] at hx
    simp at hx
    rw [has_DofG_false xKeyed.one hk hne, ← hx.1]
    rfl
  | some y =>
    obtain ⟨hy, rfl⟩ := findX_some hf
    rw [show Lit.string y.name.data.toList = xkl y from rfl, atKey_mem xKeyed.one hl.keys hl.diff hy] at hx
    simp [xd] at hx
    rw [(has_DofG xKeyed.one hk).2 ⟨y, hy, rfl⟩, ← hx.1]
    rfl
theorem BAt.look {w : World} {b : Nat} {l : List Bd} (h : BAt w b l) (hl : BL l) {x : Bd} (hx : x.Fit) :
    (Instr.lookup 51 (.map (some b)) (bv x) true).run Tryz.prog w = .ok (.tuple #[.agg #[], .bool (decide (x ∈ l))]) w := by
  obtain ⟨v, ps, h1, h2⟩ := World.ownsMap.look_ok h bKeyed Tryz.underlying51 (Tryz.zeroValue68 w) (zd := .agg []) (zp := []) unitElem_mk (keyOf_bd hx)
  obtain ⟨rfl, _⟩ := unitElem_inv h2
  rw [h1]
  have hk : KeysOf Tryz.prog 35 (bkl x) := ⟨_, keyOf_bd hx⟩
  by_cases hm : x ∈ l
  · rw [(has_DofG bKeyed.one hk).2 ⟨x, hm, rfl⟩, decide_eq_true hm]
  · rw [has_DofG_false bKeyed.one hk (fun y hy e => hm (by rw [← bkl_inj (hl.fit y hy) hx e]; exact hy)), decide_eq_false hm]
theorem XAt.len {w : World} {b : Nat} {l : List Ex} (h : XAt w b l) (ty : TypeId) : (Builtin.len_ #[50] ty #[.map (some b)]).run Tryz.prog w = .ok (.int .i64 (l.length : Nat)) w := by
  have := World.ownsMap.len h Tryz.underlying50 ty
  rwa [size_DofG] at this
theorem BAt.len {w : World} {b : Nat} {l : List Bd} (h : BAt w b l) (ty : TypeId) : (Builtin.len_ #[51] ty #[.map (some b)]).run Tryz.prog w = .ok (.int .i64 (l.length : Nat)) w := by
  have := World.ownsMap.len h Tryz.underlying51 ty
  rwa [size_DofG] at this
theorem XAt.perm {w : World} {b n : Nat} {l l' : List Ex} (h : w.ownsMap Tryz.prog 9 rdEx b n (DofG xkl xd l')) (hl : XL l) (hp : l'.Perm l) : XAt w b l := by
  rw [DofG_perm xKeyed.one hl.keys hl.diff hp] at h
  exact ownsMapG_fit h
theorem BAt.perm {w : World} {b n : Nat} {l l' : List Bd} (h : w.ownsMap Tryz.prog 35 unitElem b n (DofG bkl bd l')) (hl : BL l) (hp : l'.Perm l) : BAt w b l := by
  rw [DofG_perm bKeyed.one hl.keys hl.diff hp] at h
  exact ownsMapG_fit h

/-- May an exchange be? -/
def goodX (x : Ex) : Bool := nameB (txt x.name) && (decide (x.kind = 1) || decide (x.kind = 2) || decide (x.kind = 3))
/-- May a pattern be, of a kind? -/
def mayP (kind : Int) (p : ByteArray) : Bool := if kind = 1 then keyB (txt p) else if kind = 2 then p.toList.isEmpty else patB (txt p)
/-- A table. -/
structure Tb where
  xs : List Ex
  bs : List Bd
structure Tb.Ok (s : Tb) : Prop where
  ox : Ord cmpX s.xs
  ob : Ord cmpB s.bs
  good : ∀ x ∈ s.xs, goodX x = true
  fit : ∀ b ∈ s.bs, b.Fit
  leads : ∀ b ∈ s.bs, ∃ x ∈ s.xs, x.name = b.ex
  nx : s.xs.length ≤ 8
  nb : s.bs.length ≤ 32
theorem name_short {s : ByteArray} (h : nameB (txt s) = true) : s.size ≤ 20 := by
  unfold nameB at h
  rw [txt_length] at h
  simp at h
  exact h.1
theorem good_short {x : Ex} (h : goodX x = true) : x.name.size ≤ 20 := by
  unfold goodX at h
  rw [Bool.and_eq_true] at h
  exact name_short h.1
theorem xl_of {l : List Ex} (ho : Ord cmpX l) (hg : ∀ x ∈ l, goodX x = true) : XL l :=
  ⟨ho.imp fun {a b} h e => by rw [show cmpX a b = 0 by unfold cmpX; rw [str_inj e]; exact cmpS3.self _] at h; exact absurd h (by decide), fun x hx => by have := good_short (hg x hx); unfold maxLen; omega⟩
theorem bl_of {l : List Bd} (ho : Ord cmpB l) (hf : ∀ b ∈ l, b.Fit) : BL l := by
  refine ⟨?_, hf⟩
  have : l.Pairwise fun a b => a ∈ l ∧ b ∈ l ∧ cmpB a b < 0 := List.Pairwise.imp_of_mem (fun ha hb h => ⟨ha, hb, h⟩) ho
  exact this.imp fun {a b} ⟨ha, hb, h⟩ e => by rw [bkl_inj (hf a ha) (hf b hb) e, cmpB3.self] at h; exact absurd h (by decide)
theorem Tb.Ok.xl {s : Tb} (h : s.Ok) : XL s.xs := xl_of h.ox h.good
theorem Tb.Ok.bl {s : Tb} (h : s.Ok) : BL s.bs := bl_of h.ob h.fit

structure TAt (w : World) (p bx bb : Nat) (s : Tb) : Prop where
  blk : w.heap[p]? = some (.cells #[.map (some bx), .map (some bb)] 53 (0, 0))
  x : XAt w bx s.xs
  b : BAt w bb s.bs
  ne : bx ≠ bb
def footT (p bx bb : Nat) (k : Nat) : Prop := k = p ∨ k = bx ∨ k = bb
def T (w : World) (p : Nat) (F : Nat → Prop) (s : Tb) : Prop := ∃ bx bb, TAt w p bx bb s ∧ ∀ k, F k ↔ footT p bx bb k
theorem TAt.lts {w : World} {p bx bb : Nat} {s : Tb} (h : TAt w p bx bb s) : ∀ k, footT p bx bb k → k < w.heap.size := by
  rintro k (rfl | rfl | rfl)
  · exact (Array.getElem?_eq_some_iff.1 h.blk).1
  · exact h.x.lt
  · exact h.b.lt
theorem T.lts {w : World} {p : Nat} {F : Nat → Prop} {s : Tb} (h : T w p F s) : ∀ k, F k → k < w.heap.size := by
  obtain ⟨bx, bb, hq, hF⟩ := h
  exact fun k hk => hq.lts k ((hF k).1 hk)
theorem TAt.same {w w' : World} {p bx bb : Nat} {s : Tb} (h : TAt w p bx bb s) (hs : ∀ k, footT p bx bb k → w'.heap[k]? = w.heap[k]?) : TAt w' p bx bb s :=
  ⟨by rw [hs p (.inl rfl)]; exact h.blk, h.x.same (hs bx (.inr (.inl rfl))), h.b.same (hs bb (.inr (.inr rfl))), h.ne⟩
theorem T.same {w w' : World} {p : Nat} {F : Nat → Prop} {s : Tb} (h : T w p F s) (hs : ∀ k, F k → w'.heap[k]? = w.heap[k]?) : T w' p F s := by
  obtain ⟨bx, bb, hq, hF⟩ := h
  exact ⟨bx, bb, hq.same fun k hk => hs k ((hF k).2 hk), hF⟩
theorem T.kept {w w' : World} {p : Nat} {F : Nat → Prop} {s : Tb} (h : T w p F s) (hb : Below w.heap.size w w') : T w' p F s := h.same fun k hk => hb.block k (h.lts k hk)
theorem cells2 {w : World} {b : Nat} {v0 v1 : Value} {t : TypeId} (h : w.heap[b]? = some (.cells #[v0, v1] t (0, 0))) : w.cell? ⟨b, 0, none⟩ = some v0 ∧ w.cell? ⟨b, 1, none⟩ = some v1 := by
  simp [World.cell?, h]
theorem TAt.ne_x {w : World} {p bx bb : Nat} {s : Tb} (h : TAt w p bx bb s) : bx ≠ p := by
  rintro rfl
  obtain ⟨es, clock, hb, _⟩ := h.x
  rw [h.blk] at hb
  cases hb
theorem TAt.ne_b {w : World} {p bx bb : Nat} {s : Tb} (h : TAt w p bx bb s) : bb ≠ p := by
  rintro rfl
  obtain ⟨es, clock, hb, _⟩ := h.b
  rw [h.blk] at hb
  cases hb
def newT : Tb := ⟨[], []⟩
theorem newT_ok : newT.Ok := ⟨List.Pairwise.nil, List.Pairwise.nil, by simp [newT], by simp [newT], by simp [newT], by simp [newT], by simp [newT]⟩

set_option maxRecDepth 20000 in
set_option maxHeartbeats 400000 in
theorem new_any (w : World) : Calls Tryz.prog 6 #[] w fun e w' => ∃ p, e = .returned (.pointer (some ⟨p, 0, none⟩)) ∧ ∃ F, T w' p F newT ∧ (∀ k, F k → w.heap.size ≤ k) ∧ Below w.heap.size w w' := by
  have hmm := @run_makeMap Tryz.prog
  go_enter Tryz.func6, Tryz.ntmps6
  go_wp2
  go_ret
  refine ⟨w.heap.size + 1 + 1, rfl, footT (w.heap.size + 1 + 1) w.heap.size (w.heap.size + 1), ⟨_, _, ⟨?_, ?_, ?_, by omega⟩, fun _ => Iff.rfl⟩, ?_, ?_⟩
  · have h := heap_alloc_new ((w.alloc (.map #[] 0)).alloc (.map #[] 0)) (.cells #[.map (some w.heap.size), .map (some (w.heap.size + 1))] 53)
    rw [World.size_alloc, World.size_alloc] at h
    exact h
  · exact ((xAt_new w).same (Below.heap_alloc _ _ _ (by simp))).same (Below.heap_alloc _ _ _ (by simp; omega))
  · have h := bAt_new (w.alloc (.map #[] 0))
    rw [World.size_alloc] at h
    exact h.same (Below.heap_alloc _ _ _ (by simp))
  · rintro k (rfl | rfl | rfl) <;> omega
  · exact (((Below.refl _ w).alloc (Nat.le_refl _) _).alloc (by simp) _).alloc (by simp; omega) _

set_option maxRecDepth 20000 in
set_option maxHeartbeats 400000 in
theorem made_any (p : Nat) (F : Nat → Prop) (s : Tb) (w : World) (h : T w p F s) : Calls Tryz.prog 29 #[.pointer (some ⟨p, 0, none⟩)] w fun e w' => e = .returned (.bool true) ∧ w' = w := by
  obtain ⟨bx, bb, hq, _⟩ := h
  obtain ⟨c0, c1⟩ := cells2 hq.blk
  clear hq
  have hnn : ∀ w, (binOp .neq 50 (.map (some bx)) (.map none)).run Tryz.prog w = .ok (.bool true) w := fun w => run_neq_map_nil w 50 9 33 (some bx) Tryz.underlying50
  go_enter Tryz.func29, Tryz.ntmps29
  go_wp2
  go_ret
  exact ⟨rfl, rfl⟩

set_option maxRecDepth 20000 in
set_option maxHeartbeats 400000 in
theorem made_nil (w : World) : Calls Tryz.prog 29 #[.pointer none] w fun e w' => e = .returned (.bool false) ∧ w' = w := by
  go_enter Tryz.func29, Tryz.ntmps29
  go_wp2
  go_ret
  exact ⟨rfl, rfl⟩

set_option maxRecDepth 20000 in
set_option maxHeartbeats 400000 in
theorem made_zero (p : Nat) (w : World) (c0 : w.cell? ⟨p, 0, none⟩ = some (.map none)) : Calls Tryz.prog 29 #[.pointer (some ⟨p, 0, none⟩)] w fun e w' => e = .returned (.bool false) ∧ w' = w := by
  have hnn : ∀ w, (binOp .neq 50 (.map none) (.map none)).run Tryz.prog w = .ok (.bool false) w := fun w => run_neq_map_nil w 50 9 33 none Tryz.underlying50
  go_enter Tryz.func29, Tryz.ntmps29
  go_wp2
  go_ret
  exact ⟨rfl, rfl⟩

set_option maxRecDepth 20000 in
set_option maxHeartbeats 1000000 in
theorem good_any (x : Ex) (w : World) (hs : x.name.size ≤ maxLen) : Calls Tryz.prog 14 #[xv x] w fun e w' => e = .returned (.bool (goodX x)) ∧ Below w.heap.size w w' := by
  have hN := fun w => name_any x.name w hs
  have b0 : ∀ o, Below w.heap.size w (w.alloc o) := fun o => (Below.refl _ _).alloc (Nat.le_refl _) _
  unfold goodX
  generalize nameB (txt x.name) = nb at hN ⊢
  by_cases h : x.kind = 1 ∨ x.kind = 2 ∨ x.kind = 3
  · have e : (decide (x.kind = 1) || decide (x.kind = 2) || decide (x.kind = 3)) = true := by rcases h with h | h | h <;> simp [h]
    rw [e, Bool.and_true]
    rcases h with h | h | h
    all_goals go_enter Tryz.func14, Tryz.ntmps14
    all_goals go_wp2_with (go_at_call 37; refine (hN _).mono ?_; rintro e w' ⟨rfl, hb⟩)
    all_goals go_ret
    all_goals exact ⟨rfl, (b0 _).trans (hb.mono (by simp))⟩
  · obtain ⟨h1, h2, h3⟩ : ¬ x.kind = 1 ∧ ¬ x.kind = 2 ∧ ¬ x.kind = 3 := ⟨fun e => h (.inl e), fun e => h (.inr (.inl e)), fun e => h (.inr (.inr e))⟩
    have e : (decide (x.kind = 1) || decide (x.kind = 2) || decide (x.kind = 3)) = false := by simp [h1, h2, h3]
    rw [e, Bool.and_false]
    clear h
    go_enter Tryz.func14, Tryz.ntmps14
    go_wp2
    go_ret
    exact ⟨rfl, b0 _⟩

set_option maxRecDepth 20000 in
set_option maxHeartbeats 1000000 in
theorem leads_any (k : Int) (p : ByteArray) (w : World) (hs : p.size ≤ maxLen) : Calls Tryz.prog 40 #[.int .i64 k, .string p] w fun e w' => e = .returned (.bool (mayP k p)) ∧ Below w.heap.size w w' := by
  have hK := fun w => key_any p w hs
  have hP := fun w => pattern_any p w hs
  unfold mayP
  by_cases h1 : k = 1
  · rw [if_pos h1]
    go_enter Tryz.func40, Tryz.ntmps40
    go_wp2_with (go_at_call 58; refine (hK _).mono ?_; rintro e w' ⟨rfl, hb⟩)
    go_ret
    exact ⟨rfl, hb⟩
  · rw [if_neg h1]
    by_cases h2 : k = 2
    · rw [if_pos h2]
      go_enter Tryz.func40, Tryz.ntmps40
      go_wp2
      go_ret
      exact ⟨rfl, Below.refl _ _⟩
    · rw [if_neg h2]
      go_enter Tryz.func40, Tryz.ntmps40
      go_wp2_with (go_at_call 59; refine (hP _).mono ?_; rintro e w' ⟨rfl, hb⟩)
      go_ret
      exact ⟨rfl, hb⟩

set_option maxRecDepth 20000 in
set_option maxHeartbeats 1000000 in
theorem exchanges_any (p : Nat) (F : Nat → Prop) (s : Tb) (w : World) (h : T w p F s) (ok : s.Ok) :
    Calls Tryz.prog 11 #[.pointer (some ⟨p, 0, none⟩)] w fun e w' => ∃ v', e = .returned v' ∧ OwnX w' w.heap.size v' s.xs ∧ Below w.heap.size w w' := by
  have hM := made_any p F s w h
  obtain ⟨bx, bb, hq, _⟩ := h
  obtain ⟨c0, c1⟩ := cells2 hq.blk
  have b1 : Below w.heap.size w (w.alloc (.cells #[.map (some bx)] 50)) := (Below.refl _ _).alloc (Nat.le_refl _) _
  have hm : MapAtEx w (some bx) s.xs := .inr ⟨bx, rfl, hq.x⟩
  have hS := sortedFunc_anyEx w.heap.size (some bx) s.xs ok.xl ok.ox (by have := ok.nx; omega) _ (cell_of_list (C := [.map (some bx)]) (heap_alloc_new w _) 0) (hm.below b1)
  clear hq
  go_enter Tryz.func11, Tryz.ntmps11
  go_wp2_with fail
  refine hM.mono ?_
  rintro e w ⟨rfl, rfl⟩
  go_wp2_with fail
  refine (values_anyEx (some bx) w).mono ?_
  rintro e w1 ⟨rfl, rfl⟩
  go_wp2_with fail
  refine hS.mono ?_
  rintro e w2 ⟨v, rfl, own, b⟩
  obtain ⟨va, vc, rfl⟩ := own.rng.slice
  go_wp2
  go_ret
  exact ⟨_, rfl, own.mono b1.size, b1.trans (b.mono b1.size)⟩

set_option maxRecDepth 20000 in
set_option maxHeartbeats 1000000 in
theorem bindings_any (p : Nat) (F : Nat → Prop) (s : Tb) (w : World) (h : T w p F s) (ok : s.Ok) :
    Calls Tryz.prog 12 #[.pointer (some ⟨p, 0, none⟩)] w fun e w' => ∃ v', e = .returned v' ∧ OwnB w' w.heap.size v' s.bs ∧ Below w.heap.size w w' := by
  have hM := made_any p F s w h
  obtain ⟨bx, bb, hq, _⟩ := h
  obtain ⟨c0, c1⟩ := cells2 hq.blk
  have b1 : Below w.heap.size w (w.alloc (.cells #[.map (some bb)] 51)) := (Below.refl _ _).alloc (Nat.le_refl _) _
  have hm : MapAtBd w (some bb) s.bs := .inr ⟨bb, rfl, hq.b⟩
  have hS := sortedFunc_anyBd w.heap.size (some bb) s.bs ok.bl ok.ob (by have := ok.nb; omega) _ (cell_of_list (C := [.map (some bb)]) (heap_alloc_new w _) 0) (hm.below b1)
  clear hq
  go_enter Tryz.func12, Tryz.ntmps12
  go_wp2_with fail
  refine hM.mono ?_
  rintro e w ⟨rfl, rfl⟩
  go_wp2_with fail
  refine (values_anyBd (some bb) w).mono ?_
  rintro e w1 ⟨rfl, rfl⟩
  go_wp2_with fail
  refine hS.mono ?_
  rintro e w2 ⟨v, rfl, own, b⟩
  obtain ⟨va, vc, rfl⟩ := own.rng.slice
  go_wp2
  go_ret
  exact ⟨_, rfl, own.mono b1.size, b1.trans (b.mono b1.size)⟩
end Go.Proofs.YtiaagiijjledkaaGreatDoor
