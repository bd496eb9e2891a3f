/-
  PACKAGE span: what makes a row or a set anew: another, Ranges, Copy, New.
-/
import Derived.Test.YtjagaankkcbjmaaGreatDoorJ12
import Derived.Laws.CopyOwn
import Derived.Deep.RegionLaw
import Derived.Lib.AppendZerosOnto
import Derived.Lib.Overlaps
namespace Go.Proofs.YtjagaankkcbjmaaGreatDoor.S
open Go.RowKit
set_option maxRecDepth 20000

/-- A set that a call made: its block, its row of the call's own. -/
structure SetAt (w : World) (B : Nat) (v : Value) (l : List (Nat × Nat)) : Prop where
  blk : w.heap[B]? = some (.cells #[.bool true, v] 253 (0, 0))
  own : Own2 w 0 v l
theorem SetAt.lies {w : World} {B : Nat} {v : Value} {l : List (Nat × Nat)} (h : SetAt w B v l) : Lies w (.pointer (some ⟨B, 0, none⟩)) l := .inr ⟨B, true, v, rfl, h.blk, h.own.rng⟩
theorem SetAt.lt {w : World} {B : Nat} {v : Value} {l : List (Nat × Nat)} (h : SetAt w B v l) : B < w.heap.size := (Array.getElem?_eq_some_iff.1 h.blk).1
theorem SetAt.ne {w : World} {B : Nat} {v : Value} {l : List (Nat × Nat)} (h : SetAt w B v l) : v.ownBlock ≠ some B := by
  rcases h.own.2 with ⟨rfl, _⟩ | ⟨g, cap, cur, rfl, _, hg, _⟩
  · simp [Value.ownBlock]
  · intro he
    simp only [Value.ownBlock, Option.some.injEq] at he
    subst he
    rw [h.blk] at hg
    simp at hg
theorem SetAt.kept {w w' : World} {B C : Nat} {v : Value} {l : List (Nat × Nat)} (h : SetAt w B v l) (hb : Below C w w') (hC : w.heap.size ≤ C) : SetAt w' B v l :=
  ⟨by rw [hb.block B (by have := h.lt; omega)]; exact h.blk, h.own.kept hb hC⟩
/-- .. whatever else changes, as long as its own blocks do not. -/
theorem SetAt.same {w w' : World} {B : Nat} {v : Value} {l : List (Nat × Nat)} (h : SetAt w B v l) (hB : w'.heap[B]? = w.heap[B]?) (hs : ∀ g, v.ownBlock = some g → w'.heap[g]? = w.heap[g]?) : SetAt w' B v l :=
  ⟨by rw [hB]; exact h.blk, h.own.same hs⟩
/-- A set's blocks lie from base on. -/
def From0 (base B : Nat) (v : Value) : Prop := base ≤ B ∧ ∀ g, v.ownBlock = some g → base ≤ g

set_option maxHeartbeats 400000 in
theorem another_any (v : Value) (l : List (Nat × Nat)) (w : World) (hr : Rng w v l) (hlen : l.length ≤ 1000000) :
    Calls Tryz.prog 216 #[v] w fun e w' => ∃ v', e = .returned v' ∧ Own2 w' w.heap.size v' l ∧ Below w.heap.size w w' := by
  by_cases hp : 0 < l.length
  · obtain ⟨b, off, cap, rfl, h1, h2, hc⟩ := hr.at hp
    obtain ⟨i, hi, hz, hsz, hby⟩ := rngInfo
    have hne : ¬ ((l.length : Int) = 0) := by omega
    have hl1 := rcells_length l
    have HC : Hid (∀ j u, (rcells l)[j]? = some u → w.cell? ((⟨b, off, none⟩ : Addr).add j) = some u) := fun j u hj => by rw [Addr.add_lit]; exact hc j u hj
    clear hc hr
    go_enter Tryz.func216, Tryz.ntmps216
    go_wp2_with (at_builtin; refine wpList_append_grows _ rfl (.tmp 7) (.tmp 8) 63 rfl 150 i _ 2 16 Tryz.underlying63 hi hz hsz hby rfl (by decide) _ 0 0 [] rfl (fun _ => ⟨rfl, rfl⟩) rfl (fun _ _ j u hj => by simp at hj) ⟨b, off, none⟩ l.length cap (rcells l) rfl hl1 HC.out (rcells_one l) (by omega) (by unfold maxLen; omega) (by omega) ?_; intro v' w' own' grown'; obtain ⟨va, vc, hva⟩ : ∃ a c, v' = .slice a l.length c := (by rcases own'.2 with ⟨_, h0⟩ | ⟨g, c, cur, h, _⟩; exact absurd h0 (by omega); exact ⟨_, _, by rw [h, Nat.zero_add]⟩); subst hva)
    all_goals go_ret
    all_goals (refine ⟨_, rfl, ?_, ⟨grown'.os, grown'.tape, grown'.output, grown'.size, fun k hk => grown'.block k hk (by simp)⟩⟩; unfold Own2; rw [Nat.zero_add] at own'; exact own')
  · obtain rfl : l = [] := List.eq_nil_of_length_eq_zero (by omega)
    obtain ⟨a, cap, rfl⟩ := hr.slice
    simp only [List.length_nil]
    go_enter Tryz.func216, Tryz.ntmps216
    go_wp2
    go_ret
    exact ⟨_, rfl, own2_nil _ _, Below.refl _ _⟩

set_option maxHeartbeats 400000 in
theorem ranges_any (s : Value) (l : List (Nat × Nat)) (w : World) (hs : Lies w s l) (hlen : l.length ≤ 1000000) :
    Calls Tryz.prog 135 #[s] w fun e w' => ∃ v', e = .returned v' ∧ Own2 w' w.heap.size v' l ∧ Below w.heap.size w w' := by
  go_enter Tryz.func135, Tryz.ntmps135
  go_wp2_with fail
  refine (list_any s l w hs).mono ?_
  rintro e w' ⟨v, rfl, hr, rfl⟩
  go_wp2_with fail
  refine (another_any v l _ hr hlen).mono ?_
  rintro e w2 ⟨v', rfl, own, b⟩
  obtain ⟨va, vc, rfl⟩ := own.rng.slice
  go_wp2
  go_ret
  exact ⟨_, rfl, own, b⟩

theorem setAt_new {w : World} {v : Value} {l : List (Nat × Nat)} (h : Own2 w 0 v l) : SetAt (w.alloc (.cells #[.bool true, v] 253)) w.heap.size v l := ⟨heap_alloc_new w _, h.alloc _⟩


set_option maxHeartbeats 400000 in
theorem new_any (w : World) :
    Calls Tryz.prog 90 #[] w fun e w' => e = .returned (.pointer (some ⟨w.heap.size, 0, none⟩)) ∧ SetAt w' w.heap.size (.slice none 0 0) [] ∧ w' = w.alloc (.cells #[.bool true, .slice none 0 0] 253) := by
  go_enter Tryz.func90, Tryz.ntmps90
  go_wp2
  go_ret
  exact ⟨rfl, setAt_new (own2_nil _ _), rfl⟩
end Go.Proofs.YtjagaankkcbjmaaGreatDoor.S

/-
  'copy', 'clear' and 'append' at slices of ranges, in a row that is known whole.
-/
namespace Go.Proofs.YtjagaankkcbjmaaGreatDoor.S
open Go.RowKit
set_option maxRecDepth 20000

/-- Nothing but block g has changed. -/
structure Only (g : Nat) (w w' : World) : Prop where
  os : w'.os = w.os
  tape : w'.tape = w.tape
  output : w'.output = w.output
  size : w'.heap.size = w.heap.size
  block : ∀ k, k ≠ g → w'.heap[k]? = w.heap[k]?
theorem Only.refl (g : Nat) (w : World) : Only g w w := ⟨rfl, rfl, rfl, rfl, fun _ _ => rfl⟩
theorem Only.trans {g : Nat} {a b c : World} (h : Only g a b) (k : Only g b c) : Only g a c :=
  ⟨k.os.trans h.os, k.tape.trans h.tape, k.output.trans h.output, k.size.trans h.size, fun i hi => (k.block i hi).trans (h.block i hi)⟩
theorem Only.drew {g : Nat} {a b : World} (h : Only g a b) : Only g a b.drew := ⟨h.os, h.tape, h.output, h.size, h.block⟩
theorem only_setRow (w : World) (g : Nat) (cs : Array Value) : Only g w (w.setRow g cs) := ⟨rfl, rfl, rfl, by simp [World.setRow], fun k hk => setRow_other w g k cs hk⟩
theorem Only.grown {g : Nat} {w w' : World} (h : Only g w w') : w.grownBy w' (some g) :=
  ⟨h.os, h.tape, h.output, Nat.le_of_eq h.size.symm, fun k _ hne => h.block k (fun he => hne (by rw [he]))⟩

theorem cell_of_list {w : World} {g : Nat} {C : List Value} {t : TypeId} (h : w.heap[g]? = some (.cells C.toArray t (0, 0))) (k : Nat) : w.cell? ⟨g, k, none⟩ = C[k]? := by
  simp [World.cell?, h]
theorem frozen_of_list {w : World} {g : Nat} {C : Array Value} {t : TypeId} (h : w.heap[g]? = some (.cells C t (0, 0))) (k : Nat) : w.frozen? ⟨g, k, none⟩ = false := by
  simp [World.frozen?, h]

theorem splice_at {α : Type} (A M D : List α) (k : Nat) : splice (A ++ M) (A.length + k) D = A ++ (M.take k ++ (D ++ M.drop (k + D.length))) := by
  unfold splice
  rw [List.take_append, List.drop_append, List.take_of_length_le (by omega), List.drop_eq_nil_of_le (by omega)]
  simp [Nat.add_assoc]
theorem splice_in {α : Type} (L A M D : List α) (k o : Nat) (hL : L = A ++ M) (ho : o = A.length + k) : splice L o D = A ++ (M.take k ++ (D ++ M.drop (k + D.length))) := by
  subst hL ho
  exact splice_at A M D k

section
variable {P : Program}
theorem run_copy2_row (w : World) (dT sT ty elem : TypeId) (g o dLen dCap : Nat) (a : Addr) (sLen sCap : Nat) (cur : List Value) (t : TypeId) (cs : List Value)
    (hu : P.underlying dT = some (.slice elem)) (hs : (P.info? elem).map (·.size) = some 2) (hg : w.heap[g]? = some (.cells cur.toArray t (0, 0))) (hn : cs.length = Nat.min sLen dLen * 2)
    (hsrc : ∀ j v, cs[j]? = some v → w.cell? (a.add j) = some v) (hfit : o + cs.length ≤ cur.length) (h1 : ∀ v ∈ cs, v.oneCell' = true) :
    (Builtin.copy_ #[dT, sT] ty #[.slice (some ⟨g, o, none⟩) dLen dCap, .slice (some a) sLen sCap]).run P w = .ok (goInt (Nat.min sLen dLen)) (w.setRow g (splice cur o cs).toArray) := by
  have hl := run_firstCells_some (P := P) w 2 (Nat.min sLen dLen) a sLen sCap cs hn hsrc
  have hst := run_storeCells_at P g o t cs 0 cur.toArray w hg (by simpa using hfit) h1
  simp only [Nat.add_zero] at hst
  rw [List.append_assoc] at hst
  cases hq : P.info? elem with
  | none => simp [hq] at hs
  | some i =>
    have hi : i.size = 2 := by simpa [hq] using hs
    simp only [Builtin.copy_]
    simp [run_underlying hu, Builtin.lenOf, sizeOf, typeInfo, hq, hi, hl, hst, splice]
theorem run_copy2_none (w : World) (dT sT ty elem : TypeId) (d a : Option Addr) (dLen dCap sLen sCap : Nat) (hu : P.underlying dT = some (.slice elem)) (hs : (P.info? elem).map (·.size) = some 2) (hn : Nat.min sLen dLen = 0) :
    (Builtin.copy_ #[dT, sT] ty #[.slice d dLen dCap, .slice a sLen sCap]).run P w = .ok (goInt 0) w := by
  cases hq : P.info? elem with
  | none => simp [hq] at hs
  | some i =>
    have hl : ∀ (x : Addr), (loadCells x 0).run P w = .ok #[] w := fun x => by simpa using run_loadCells_list (P := P) w x [] (by simp)
    cases d <;> cases a <;> simp [Builtin.copy_, run_underlying hu, Builtin.lenOf, Builtin.firstCells, sizeOf, typeInfo, hq, hn, storeCells, hl]

theorem wpList_copy2 {w : World} {ops : Array Oper} {rest : List Oper} {o : Oper} {a : Act} {Q : Exit → Act → World → Prop} (hgd : o.guard = none) (d s : Operand) (dT sT : TypeId)
    (ho : o.op = .call { callee := .builtin .copy, args := #[d, s], argTypes := #[dT, sT] }) (elem : TypeId) (hu : P.underlying dT = some (.slice elem)) (hsz : (P.info? elem).map (·.size) = some 2)
    (dp sp : Option Addr) (dLen dCap sLen sCap : Nat) (hd : a.eval d = .slice dp dLen dCap) (hs : a.eval s = .slice sp sLen sCap)
    (g off : Nat) (cur : List Value) (t : TypeId) (hg : w.heap[g]? = some (.cells cur.toArray t (0, 0))) (cs : List Value) (hn : cs.length = Nat.min sLen dLen * 2)
    (hpos : 0 < cs.length → dp = some ⟨g, off, none⟩ ∧ ∃ ad, sp = some ad ∧ ∀ j v, cs[j]? = some v → w.cell? (ad.add j) = some v)
    (hfit : off + cs.length ≤ cur.length) (h1 : ∀ v ∈ cs, v.oneCell' = true)
    (h : ∀ w' m, Hid (w'.heap[g]? = some (.cells (splice cur off cs).toArray t (0, 0))) → Only g w w' → wpList P ops Q rest (a.put o.dst (goInt m)) w') :
    wpList P ops Q (o :: rest) a w := by
  refine wpList_plain hgd fun K hK => ?_
  by_cases h0 : cs.length = 0
  · obtain rfl : cs = [] := List.eq_nil_of_length_eq_zero h0
    have hrun := run_copy2_none (P := P) w dT sT o.type elem dp sp dLen dCap sLen sCap hu hsz (by simp at hn; omega)
    unfold Oper.wp
    simp [execOp, ho, resolve, invoke, builtin, hd, hs, hrun, Result.andThen]
    exact hK _ _ (h w 0 (show _ = _ by simpa [splice] using hg) (Only.refl _ _))
  · obtain ⟨rfl, ad, rfl, hsrc⟩ := hpos (by omega)
    have hrun := run_copy2_row (P := P) w dT sT o.type elem g off dLen dCap ad sLen sCap cur t cs hu hsz hg hn hsrc hfit h1
    unfold Oper.wp
    simp [execOp, ho, resolve, invoke, builtin, hd, hs, hrun, Result.andThen]
    exact hK _ _ (h _ _ (setRow_heap w g _ _ t _ hg) (only_setRow _ _ _))

theorem step_copy2 {w : World} {ops : Array Oper} {o : Oper} {a : Act} {K : Act → World → Prop} {Q : Exit → Act → World → Prop} {E : Prop} (hgd : o.guard = none) (d s : Operand) (dT sT : TypeId)
    (ho : o.op = .call { callee := .builtin .copy, args := #[d, s], argTypes := #[dT, sT] }) (elem : TypeId) (hu : P.underlying dT = some (.slice elem)) (hsz : (P.info? elem).map (·.size) = some 2)
    (dp sp : Option Addr) (dLen dCap sLen sCap : Nat) (hd : a.eval d = .slice dp dLen dCap) (hs : a.eval s = .slice sp sLen sCap)
    (g off : Nat) (cur : List Value) (t : TypeId) (hg : w.heap[g]? = some (.cells cur.toArray t (0, 0))) (cs : List Value) (hn : cs.length = Nat.min sLen dLen * 2)
    (hpos : 0 < cs.length → dp = some ⟨g, off, none⟩ ∧ ∃ ad, sp = some ad ∧ ∀ j v, cs[j]? = some v → w.cell? (ad.add j) = some v)
    (hfit : off + cs.length ≤ cur.length) (h1 : ∀ v ∈ cs, v.oneCell' = true)
    (h : ∀ w' m, Hid (w'.heap[g]? = some (.cells (splice cur off cs).toArray t (0, 0))) → Only g w w' → K (a.put o.dst (goInt m)) w') :
    if Region.wanted o (yielded ops a.tmps) = true then Oper.wp P o a w K Q else E := by
  have hw : Region.wanted o (yielded ops a.tmps) = true := by simp [Region.wanted, hgd]
  rw [if_pos hw]
  by_cases h0 : cs.length = 0
  · obtain rfl : cs = [] := List.eq_nil_of_length_eq_zero h0
    have hrun := run_copy2_none (P := P) w dT sT o.type elem dp sp dLen dCap sLen sCap hu hsz (by simp at hn; omega)
    unfold Oper.wp
    simp [execOp, ho, resolve, invoke, builtin, hd, hs, hrun, Result.andThen]
    exact h w 0 (show _ = _ by simpa [splice] using hg) (Only.refl _ _)
  · obtain ⟨rfl, ad, rfl, hsrc⟩ := hpos (by omega)
    have hrun := run_copy2_row (P := P) w dT sT o.type elem g off dLen dCap ad sLen sCap cur t cs hu hsz hg hn hsrc hfit h1
    unfold Oper.wp
    simp [execOp, ho, resolve, invoke, builtin, hd, hs, hrun, Result.andThen]
    exact h _ _ (setRow_heap w g _ _ t _ hg) (only_setRow _ _ _)

theorem wpList_clear2 {w : World} {ops : Array Oper} {rest : List Oper} {o : Oper} {a : Act} {Q : Exit → Act → World → Prop} (hgd : o.guard = none) (d : Operand) (dT : TypeId)
    (ho : o.op = .call { callee := .builtin .clear, args := #[d], argTypes := #[dT] }) (elem : TypeId) (hu : P.underlying dT = some (.slice elem)) (z : Value) (hz : ∀ w, (zeroValue elem).run P w = .ok z w) (hz2 : z.cells.size = 2) (hz1 : ∀ k : Nat, (z.cells[k % z.cells.size]!).oneCell' = true)
    (dp : Option Addr) (n c : Nat) (hd : a.eval d = .slice dp n c)
    (g off : Nat) (cur : List Value) (t : TypeId) (hg : w.heap[g]? = some (.cells cur.toArray t (0, 0))) (hpos : 0 < n → dp = some ⟨g, off, none⟩) (hfit : off + n * 2 ≤ cur.length)
    (h : ∀ w' zs, zs.length = n * 2 → Hid (w'.heap[g]? = some (.cells (splice cur off zs).toArray t (0, 0))) → Only g w w' → wpList P ops Q rest (a.put o.dst (.tuple #[])) w') :
    wpList P ops Q (o :: rest) a w := by
  refine wpList_plain hgd fun K hK => ?_
  by_cases h0 : n = 0
  · subst h0
    have hrun : (Builtin.clear_ #[dT] o.type #[.slice dp 0 c]).run P w = .ok (.tuple #[]) w := by
      cases dp <;> simp [Builtin.clear_, run_underlying hu]
    unfold Oper.wp
    simp [execOp, ho, resolve, invoke, builtin, hd, hrun, Result.andThen]
    exact hK _ _ (h w [] (by simp) (show _ = _ by simpa [splice] using hg) (Only.refl _ _))
  · obtain rfl := hpos (by omega)
    have hzl : (Builtin.zeroCells z.cells n).toList.length = n * 2 := by simp [Builtin.zeroCells, hz2]
    have hst := run_storeCells_at P g off t (Builtin.zeroCells z.cells n).toList 0 cur.toArray w hg (by rw [hzl]; simpa using hfit) (fun v hv => by
      simp [Builtin.zeroCells] at hv
      obtain ⟨k, _, rfl⟩ := hv
      exact hz1 k)
    simp only [Nat.add_zero] at hst
    rw [List.append_assoc] at hst
    have hrun : (Builtin.clear_ #[dT] o.type #[.slice (some ⟨g, off, none⟩) n c]).run P w = .ok (.tuple #[]) (w.setRow g (splice cur off (Builtin.zeroCells z.cells n).toList).toArray) := by
      obtain ⟨m, rfl⟩ : ∃ m, n = m + 1 := ⟨n - 1, by omega⟩
      simp only [Builtin.clear_]
      simp [run_underlying hu, hz, hst, splice]
    unfold Oper.wp
    simp [execOp, ho, resolve, invoke, builtin, hd, hrun, Result.andThen]
    exact hK _ _ (h _ _ hzl (setRow_heap w g _ _ t _ hg) (only_setRow _ _ _))

/-- 'append(s[:i], v...)' where there is room: in place. -/
theorem wpList_append2_room {w : World} {ops : Array Oper} {rest : List Oper} {o : Oper} {a : Act} {Q : Exit → Act → World → Prop} (hgd : o.guard = none) (s x : Operand) (t : TypeId)
    (ho : o.op = .call { callee := .builtin .append, args := #[s, x], argTypes := #[t, t] }) (e : TypeId) (i : TypeInfo) (ht : P.underlying t = some (.slice e)) (hi : P.info? e = some i) (hsz : i.size = 2)
    (g n c : Nat) (hs : a.eval s = .slice (some ⟨g, 0, none⟩) n c) (cur : List Value) (hg : w.heap[g]? = some (.cells cur.toArray e (0, 0)))
    (ad : Addr) (m sc : Nat) (hx : a.eval x = .slice (some ad) m sc) (cs : List Value) (hl : cs.length = m * 2) (hsrc : ∀ j u, cs[j]? = some u → w.cell? (ad.add j) = some u) (h1 : ∀ u ∈ cs, u.oneCell' = true) (hroom : n + m ≤ c) (hfit : n * 2 + cs.length ≤ cur.length)
    (h : ∀ w', Hid (w'.heap[g]? = some (.cells (splice cur (n * 2) cs).toArray e (0, 0))) → Only g w w' → wpList P ops Q rest (a.put o.dst (.slice (some ⟨g, 0, none⟩) (n + m) c)) w') :
    wpList P ops Q (o :: rest) a w := by
  refine wpList_plain hgd fun K hK => ?_
  have hrun := run_append_room (P := P) w t o.type e i ht hi g n c cur.toArray hg ad m sc cs (by rw [hsz]; exact hl) hsrc h1 hroom (by rw [hsz]; simpa using hfit)
  rw [hsz] at hrun
  simp only [List.append_assoc] at hrun
  unfold Oper.wp
  simp [execOp, ho, resolve, invoke, builtin, hs, hx, hrun, Result.andThen]
  exact hK _ _ (h _ (setRow_heap w g _ _ e _ hg) (only_setRow _ _ _))
end
end Go.Proofs.YtjagaankkcbjmaaGreatDoor.S
