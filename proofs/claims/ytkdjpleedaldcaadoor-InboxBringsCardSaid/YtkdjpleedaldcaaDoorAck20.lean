/-
  wereSent, arrive, slide, Ack and Reset, by their contracts.
-/
import Derived.Test.YtkdjpleedaldcaaDoorSend20
import Derived.Laws.CopyOwn
namespace Go.Proofs.YtkdjpleedaldcaaDoor.W
open Go.RowKit
set_option maxRecDepth 20000


/-- 'copy' into a block that is known whole, as a step of a region that draws: nothing else changes. -/
theorem step_copyO {P : Program} {ops : Array Oper} {o : Oper} {a : Act} {w : World} {K : Act → World → Prop} {Q : Exit → Act → World → Prop} {E : Prop} (hgd : o.guard = none) (d s : Operand) (dT sT : TypeId)
    (ho : o.op = .call { callee := .builtin .copy, args := #[d, s], argTypes := #[dT, sT] }) (elem : TypeId) (hu : P.underlying dT = some (.slice elem)) (hsz : (P.info? elem).map (·.size) = some 1)
    (dp sp : Option Addr) (dLen dCap sLen sCap : Nat) (hd : a.eval d = .slice dp dLen dCap) (hs : a.eval s = .slice sp sLen sCap)
    (g off : Nat) (cur : List Value) (t : TypeId) (hg : w.heap[g]? = some (.cells cur.toArray t (0, 0))) (cs : List Value) (hn : cs.length = Nat.min sLen dLen)
    (hpos : 0 < cs.length → dp = some ⟨g, off, none⟩ ∧ ∃ ad, sp = some ad ∧ ∀ j v, cs[j]? = some v → w.cell? (ad.add j) = some v)
    (hfit : off + cs.length ≤ cur.length) (h1 : ∀ v ∈ cs, v.oneCell' = true)
    (h : ∀ w', Hid (w'.heap[g]? = some (.cells (splice cur off cs).toArray t (0, 0))) → Only g w w' → K (a.put o.dst (goInt cs.length)) w') :
    if Region.wanted o (yielded ops a.tmps) = true then Oper.wp P o a w K Q else E := by
  have hw : Region.wanted o (yielded ops a.tmps) = true := by simp [Region.wanted, hgd]
  rw [if_pos hw]
  by_cases h0 : cs.length = 0
  · obtain rfl : cs = [] := List.eq_nil_of_length_eq_zero h0
    have hrun := run_copy_none (P := P) w dT sT o.type elem dp sp dLen dCap sLen sCap hu hsz (by simpa using hn.symm)
    unfold Oper.wp
    simp [execOp, ho, resolve, invoke, builtin, hd, hs, hrun, Result.andThen]
    exact h w (show _ = _ by simpa [splice] using hg) (Only.refl _ _)
  · obtain ⟨rfl, ad, rfl, hsrc⟩ := hpos (by omega)
    have hrun := run_copy_row (P := P) w dT sT o.type elem g off dLen dCap ad sLen sCap cur.toArray t cs hu hsz hg hn hsrc (by simpa using hfit) h1
    unfold Oper.wp
    simp [execOp, ho, resolve, invoke, builtin, hd, hs, hrun, Result.andThen]
    exact h _ (show _ = _ by simpa [splice] using setRow_heap w g _ _ t _ hg) ⟨rfl, rfl, rfl, by simp [World.setRow], fun k _ hk => setRow_other w g k _ hk⟩


section

variable {w : World} {p : Nat} {m : Wn}

theorem were_at (h : WAt w p m) (hset : IsSet m.sent) (n : Int) (hT : Tab w) : Calls Tryd.prog 27 #[.pointer (some ⟨p, 0, none⟩), .int .i64 n] w fun e w' => e = .returned (.bool (mayA m n)) ∧ Below w.heap.size w w' := by
  have c0 : w.cell? ⟨p, 0, none⟩ = some (.int .i64 m.s) := h.cell (i := 0) (by decide)
  have c3 : w.cell? ⟨p, 3, none⟩ = some (.int .u64 m.sent) := h.cell (i := 3) (by decide)
  have hR := callsIn_wide.1 (run_in m.sent w hset hT)
  clear h
  have hm : mayA m n = (decide (0 ≤ n) && (decide (n ≤ m.s) && decide (n ≤ runS m.sent))) := by unfold mayA; simp [Bool.decide_and]
  go_enter Tryd.func27, Tryd.ntmps27
  go_wp2_with (go_at_call 33; refine hR.mono ?_; rintro e w1 ⟨rfl, b1⟩)
  all_goals go_ret
  all_goals first
    | exact ⟨ret_bool (by rw [hm]; simp_all), b1⟩
    | exact ⟨ret_bool (by rw [hm]; simp_all), Below.refl _ _⟩
    | exact ⟨ret_bool (by simp; omega), Below.refl _ _⟩


theorem wf_set2 (m : Wn) (b i : Nat) (_h : i < 37) : wf { m with b := b } i = if i = 2 then .int .u16 b else wf m i := by rcases i with _ | _ | _ | _ | _ | i <;> first | rfl | exact (if_neg (by omega)).symm

theorem wf_set3 (m : Wn) (b i : Nat) (_h : i < 37) : wf { m with sent := b } i = if i = 3 then .int .u64 b else wf m i := by rcases i with _ | _ | _ | _ | _ | i <;> first | rfl | exact (if_neg (by omega)).symm

theorem wf_set4 (m : Wn) (b i : Nat) (_h : i < 37) : wf { m with there := b } i = if i = 4 then .int .u64 b else wf m i := by rcases i with _ | _ | _ | _ | _ | i <;> first | rfl | exact (if_neg (by omega)).symm


theorem arrive_at (h : WAt w p m) (hs : IsSet m.sent) (ht : IsSet m.there) (n set : Nat) (hx : IsSet set) (hn : n < 1000) : Calls Tryd.prog 28 #[.pointer (some ⟨p, 0, none⟩), .int .i64 ((n : Int) + 1), .int .u64 set] w fun e w' =>
    e = .returned (.tuple #[]) ∧ WAt w' p { m with there := theresS m n set } ∧ Only p w w' := by
  have c3 : w.cell? ⟨p, 3, none⟩ = some (.int .u64 m.sent) := h.cell (i := 3) (by decide)
  have c4 : w.cell? ⟨p, 4, none⟩ = some (.int .u64 m.there) := h.cell (i := 4) (by decide)
  have f4 := h.free 4
  have hA : Hid (WAt w p m) := h
  clear h
  have hsl := slideS_set (-((n : Int) + 1)) hx
  have e1 : bits .and .u64 (slideS set (-((n : Int) + 1)) : Int) (m.sent : Int) = ((slideS set (-((n : Int) + 1)) &&& m.sent : Nat) : Int) := u64_and_nat _ _ hsl hs
  have e2 : bits .or .u64 (m.there : Int) ((slideS set (-((n : Int) + 1)) &&& m.sent : Nat) : Int) = (theresS m n set : Int) := u64_or_nat _ _ ht (Nat.lt_of_le_of_lt Nat.and_le_right hs)
  have e0 : IntKind.i64.wrap (-((n : Int) + 1)) = -((n : Int) + 1) := by rw [IntKind.wrap_i64]; omega
  have hS : ∀ w, Calls Tryd.prog 34 #[.int .u64 set, .int .i64 (-((n : Int) + 1))] w fun e w' => e = .returned (.int .u64 (slideS set (-((n : Int) + 1)))) ∧ w' = w := fun w => slide_any _ _ _
  generalize slideS set (-((n : Int) + 1)) = sl at *
  have hE3 : (w.setCell ⟨p, 4, none⟩ (.int .u64 (theresS m n set))).cell? ⟨p, 3, none⟩ = some (.int .u64 m.sent) := by rw [World.cell?_setCell_other _ _ _ _ (by simp)]; exact c3
  have hE4 : (w.setCell ⟨p, 4, none⟩ (.int .u64 (theresS m n set))).frozen? ⟨p, 4, none⟩ = false := by rw [World.frozen?_setCell]; exact f4
  go_enter Tryd.func28, Tryd.ntmps28
  go_wp2
  -- ARRIVE
  refine wp_region_noPanic ?_
  refine wp_region_held_drew (S := fun w' => w'.cell? ⟨p, 3, none⟩ = some (.int .u64 m.sent) ∧ w'.frozen? ⟨p, 4, none⟩ = false) (by kernel_rfl) ⟨c3, f4⟩ (fun hHeld => ?_)
  refine wpAnyH_take (i := 0) (v := .pointer (some ⟨p, 0, none⟩)) (by simp only [List.getElem?_toArray, List.getElem?_cons_zero]; rfl) (by kernel_rfl) (by kernel_rfl) (by kernel_rfl) (fun _ _ _ h => h) (Or.inl ⟨by rfl, ?_⟩) (by assumption) ?_
  · (intro wq hSq; clear hSq; go_simp; try with_reducible rfl)
  try simp only [Act.put, List.setIfInBounds_toArray, List.set_cons_zero, List.set_cons_succ]
  refine wpAnyH_take (i := 1) (v := .pointer (some ⟨p, 0, none⟩)) (by simp only [List.getElem?_toArray, List.getElem?_cons_succ, List.getElem?_cons_zero]; rfl) (by kernel_rfl) (by kernel_rfl) (by kernel_rfl) (fun _ _ _ h => h) (Or.inl ⟨by rfl, ?_⟩) (by assumption) ?_
  · (intro wq hSq; clear hSq; go_simp; try with_reducible rfl)
  try simp only [Act.put, List.setIfInBounds_toArray, List.set_cons_zero, List.set_cons_succ]
  refine wpAnyH_take (i := 2) (v := .pointer (some ⟨p, 4, none⟩)) (by simp only [List.getElem?_toArray, List.getElem?_cons_succ, List.getElem?_cons_zero]; rfl) (by kernel_rfl) (by kernel_rfl) (by kernel_rfl) (fun _ _ _ h => h) (Or.inl ⟨by rfl, ?_⟩) (by assumption) ?_
  · (intro wq hSq; clear hSq; go_simp; try with_reducible rfl)
  try simp only [Act.put, List.setIfInBounds_toArray, List.set_cons_zero, List.set_cons_succ]
  refine wpAnyH_take (i := 4) (v := .int .u64 set) (by simp only [List.getElem?_toArray, List.getElem?_cons_succ, List.getElem?_cons_zero]; rfl) (by kernel_rfl) (by kernel_rfl) (by kernel_rfl) (fun _ _ _ h => h) (Or.inl ⟨by rfl, ?_⟩) (by assumption) ?_
  · (intro wq hSq; clear hSq; go_simp; try with_reducible rfl)
  try simp only [Act.put, List.setIfInBounds_toArray, List.set_cons_zero, List.set_cons_succ]
  refine wpAnyH_take (i := 5) (v := .int .i64 ((n : Int) + 1)) (by simp only [List.getElem?_toArray, List.getElem?_cons_succ, List.getElem?_cons_zero]; rfl) (by kernel_rfl) (by kernel_rfl) (by kernel_rfl) (fun _ _ _ h => h) (Or.inl ⟨by rfl, ?_⟩) (by assumption) ?_
  · (intro wq hSq; clear hSq; go_simp; try with_reducible rfl)
  try simp only [Act.put, List.setIfInBounds_toArray, List.set_cons_zero, List.set_cons_succ]
  refine wpAnyH_take (i := 6) (v := .int .i64 (-((n : Int) + 1))) (by simp only [List.getElem?_toArray, List.getElem?_cons_succ, List.getElem?_cons_zero]; rfl) (by kernel_rfl) (by kernel_rfl) (by kernel_rfl) (fun _ _ _ h => h) (Or.inl ⟨by rfl, ?_⟩) (by assumption) ?_
  · (intro wq hSq; clear hSq; go_simp; try with_reducible rfl)
  try simp only [Act.put, List.setIfInBounds_toArray, List.set_cons_zero, List.set_cons_succ]
  refine wpAnyH_take (i := 8) (v := .pointer (some ⟨p, 0, none⟩)) (by simp only [List.getElem?_toArray, List.getElem?_cons_succ, List.getElem?_cons_zero]; rfl) (by kernel_rfl) (by kernel_rfl) (by kernel_rfl) (fun _ _ _ h => h) (Or.inl ⟨by rfl, ?_⟩) (by assumption) ?_
  · (intro wq hSq; clear hSq; go_simp; try with_reducible rfl)
  try simp only [Act.put, List.setIfInBounds_toArray, List.set_cons_zero, List.set_cons_succ]
  refine wpAnyH_take (i := 9) (v := .pointer (some ⟨p, 0, none⟩)) (by simp only [List.getElem?_toArray, List.getElem?_cons_succ, List.getElem?_cons_zero]; rfl) (by kernel_rfl) (by kernel_rfl) (by kernel_rfl) (fun _ _ _ h => h) (Or.inl ⟨by rfl, ?_⟩) (by assumption) ?_
  · (intro wq hSq; clear hSq; go_simp; try with_reducible rfl)
  try simp only [Act.put, List.setIfInBounds_toArray, List.set_cons_zero, List.set_cons_succ]
  refine wpAnyH_take (i := 10) (v := .pointer (some ⟨p, 3, none⟩)) (by simp only [List.getElem?_toArray, List.getElem?_cons_succ, List.getElem?_cons_zero]; rfl) (by kernel_rfl) (by kernel_rfl) (by kernel_rfl) (fun _ _ _ h => h) (Or.inl ⟨by rfl, ?_⟩) (by assumption) ?_
  · (intro wq hSq; clear hSq; go_simp; try with_reducible rfl)
  try simp only [Act.put, List.setIfInBounds_toArray, List.set_cons_zero, List.set_cons_succ]
  refine wpAnyH_take (i := 11) (v := .int .u64 m.sent) (by simp only [List.getElem?_toArray, List.getElem?_cons_succ, List.getElem?_cons_zero]; rfl) (by kernel_rfl) (by kernel_rfl) (by kernel_rfl) (fun _ _ _ h => h) (Or.inl ⟨by rfl, ?_⟩) (by assumption) ?_
  · (intro wq hSq; obtain ⟨q3, q4⟩ := hSq; go_simp; try with_reducible rfl)
  try simp only [Act.put, List.setIfInBounds_toArray, List.set_cons_zero, List.set_cons_succ]
  refine wpAnyH_ready (rs := [3, 7]) (by kernel_rfl) (by simp) ?_
  refine AllReadyH.cons rfl (fun KK hK => ?_) ?_
  · skip
    go_simp
    refine hK.out _ _ hHeld (fun hHeld => ?_)
    clear hK KK
    try simp only [Act.put, List.setIfInBounds_toArray, List.set_cons_zero, List.set_cons_succ]
    refine wpAnyH_ready (rs := [7]) (by kernel_rfl) (by simp) ?_
    refine AllReadyH.cons rfl (fun KK hK => ?_) AllReadyH.nil
    go_simp
    go_at_call 34
    refine (hS _).mono ?_
    rintro e w' ⟨rfl, rfl⟩
    dsimp only
    refine hK.out _ _ hHeld (fun hHeld => ?_)
    clear hK KK
    try simp only [Act.put, List.setIfInBounds_toArray, List.set_cons_zero, List.set_cons_succ]
    refine wpAnyH_take (i := 12) (v := .int .u64 (sl &&& m.sent : Nat)) (by simp only [List.getElem?_toArray, List.getElem?_cons_succ, List.getElem?_cons_zero]; rfl) (by kernel_rfl) (by kernel_rfl) (by kernel_rfl) (fun _ _ _ h => h) (Or.inl ⟨by rfl, ?_⟩) (by assumption) ?_
    · (intro wq hSq; clear hSq; go_simp; try with_reducible rfl)
    try simp only [Act.put, List.setIfInBounds_toArray, List.set_cons_zero, List.set_cons_succ]
    refine wpAnyH_take (i := 13) (v := .int .u64 (theresS m n set)) (by simp only [List.getElem?_toArray, List.getElem?_cons_succ, List.getElem?_cons_zero]; rfl) (by kernel_rfl) (by kernel_rfl) (by kernel_rfl) (fun _ _ _ h => h) (Or.inl ⟨by rfl, ?_⟩) (by assumption) ?_
    · (intro wq hSq; clear hSq; go_simp; try with_reducible rfl)
    try simp only [Act.put, List.setIfInBounds_toArray, List.set_cons_zero, List.set_cons_succ]
    refine wpAnyH_take (i := 14) (v := .pointer (some ⟨p, 0, none⟩)) (by simp only [List.getElem?_toArray, List.getElem?_cons_succ, List.getElem?_cons_zero]; rfl) (by kernel_rfl) (by kernel_rfl) (by kernel_rfl) (fun _ _ _ h => h) (Or.inl ⟨by rfl, ?_⟩) (by assumption) ?_
    · (intro wq hSq; clear hSq; go_simp; try with_reducible rfl)
    try simp only [Act.put, List.setIfInBounds_toArray, List.set_cons_zero, List.set_cons_succ]
    refine wpAnyH_take (i := 15) (v := .pointer (some ⟨p, 4, none⟩)) (by simp only [List.getElem?_toArray, List.getElem?_cons_succ, List.getElem?_cons_zero]; rfl) (by kernel_rfl) (by kernel_rfl) (by kernel_rfl) (fun _ _ _ h => h) (Or.inl ⟨by rfl, ?_⟩) (by assumption) ?_
    · (intro wq hSq; clear hSq; go_simp; try with_reducible rfl)
    try simp only [Act.put, List.setIfInBounds_toArray, List.set_cons_zero, List.set_cons_succ]
    refine wpAnyH_ready (rs := [16]) (by kernel_rfl) (by simp) ?_
    refine AllReadyH.cons rfl (fun KK hK => ?_) AllReadyH.nil
    go_simp
    refine hK.out _ _ ⟨hE3, hE4⟩ (fun hHeld => ?_)
    clear hK KK
    try simp only [Act.put, List.setIfInBounds_toArray]
    refine wpAnyH_done (by kernel_rfl) ?_ _
    refine NoPanic.normal ?_
    clear hHeld
    go_wp2
    go_end0
    refine ⟨rfl, ?_, ?_⟩
    · exact (hA.out.set 4 (.int .u64 (theresS m n set)) (wf_set4 m _)).same rfl
    · exact (Only.set w p 4 _).trans (Only.of_below (Below.refl _ _).drew)
  refine AllReadyH.cons rfl (fun KK hK => ?_) AllReadyH.nil
  go_simp
  go_at_call 34
  refine (hS _).mono ?_
  rintro e w' ⟨rfl, rfl⟩
  dsimp only
  refine hK.out _ _ hHeld (fun hHeld => ?_)
  clear hK KK
  try simp only [Act.put, List.setIfInBounds_toArray, List.set_cons_zero, List.set_cons_succ]
  refine wpAnyH_take (i := 12) (v := .int .u64 (sl &&& m.sent : Nat)) (by simp only [List.getElem?_toArray, List.getElem?_cons_succ, List.getElem?_cons_zero]; rfl) (by kernel_rfl) (by kernel_rfl) (by kernel_rfl) (fun _ _ _ h => h) (Or.inl ⟨by rfl, ?_⟩) (by assumption) ?_
  · (intro wq hSq; clear hSq; go_simp; try with_reducible rfl)
  try simp only [Act.put, List.setIfInBounds_toArray, List.set_cons_zero, List.set_cons_succ]
  refine wpAnyH_ready (rs := [3]) (by kernel_rfl) (by simp) ?_
  refine AllReadyH.cons rfl (fun KK hK => ?_) AllReadyH.nil
  go_simp
  refine hK.out _ _ hHeld (fun hHeld => ?_)
  clear hK KK
  try simp only [Act.put, List.setIfInBounds_toArray, List.set_cons_zero, List.set_cons_succ]
  refine wpAnyH_take (i := 13) (v := .int .u64 (theresS m n set)) (by simp only [List.getElem?_toArray, List.getElem?_cons_succ, List.getElem?_cons_zero]; rfl) (by kernel_rfl) (by kernel_rfl) (by kernel_rfl) (fun _ _ _ h => h) (Or.inl ⟨by rfl, ?_⟩) (by assumption) ?_
  · (intro wq hSq; clear hSq; go_simp; try with_reducible rfl)
  try simp only [Act.put, List.setIfInBounds_toArray, List.set_cons_zero, List.set_cons_succ]
  refine wpAnyH_take (i := 14) (v := .pointer (some ⟨p, 0, none⟩)) (by simp only [List.getElem?_toArray, List.getElem?_cons_succ, List.getElem?_cons_zero]; rfl) (by kernel_rfl) (by kernel_rfl) (by kernel_rfl) (fun _ _ _ h => h) (Or.inl ⟨by rfl, ?_⟩) (by assumption) ?_
  · (intro wq hSq; clear hSq; go_simp; try with_reducible rfl)
  try simp only [Act.put, List.setIfInBounds_toArray, List.set_cons_zero, List.set_cons_succ]
  refine wpAnyH_take (i := 15) (v := .pointer (some ⟨p, 4, none⟩)) (by simp only [List.getElem?_toArray, List.getElem?_cons_succ, List.getElem?_cons_zero]; rfl) (by kernel_rfl) (by kernel_rfl) (by kernel_rfl) (fun _ _ _ h => h) (Or.inl ⟨by rfl, ?_⟩) (by assumption) ?_
  · (intro wq hSq; clear hSq; go_simp; try with_reducible rfl)
  try simp only [Act.put, List.setIfInBounds_toArray, List.set_cons_zero, List.set_cons_succ]
  refine wpAnyH_ready (rs := [16]) (by kernel_rfl) (by simp) ?_
  refine AllReadyH.cons rfl (fun KK hK => ?_) AllReadyH.nil
  go_simp
  refine hK.out _ _ ⟨hE3, hE4⟩ (fun hHeld => ?_)
  clear hK KK
  try simp only [Act.put, List.setIfInBounds_toArray]
  refine wpAnyH_done (by kernel_rfl) ?_ _
  refine NoPanic.normal ?_
  clear hHeld
  go_wp2
  go_end0
  refine ⟨rfl, ?_, ?_⟩
  · exact (hA.out.set 4 (.int .u64 (theresS m n set)) (wf_set4 m _)).same rfl
  · exact (Only.set w p 4 _).trans (Only.of_below (Below.refl _ _).drew)
  -- ARRIVED


/-- The ticks are copied down. -/
def downL (m : Wn) (n : Nat) : List Value := (List.range (32 - n)).map fun i => .int .i64 (m.tick (i + n))

theorem downL_len (m : Wn) (n : Nat) : (downL m n).length = 32 - n := by simp [downL]

theorem downL_splice (m : Wn) (n : Nat) (hn : n ≤ 32) (a b c : Nat) : splice (wcells ⟨m.s, m.t, a, b, c, m.tick⟩) 5 (downL m n) = wcells ⟨m.s, m.t, a, b, c, fun i => if i + n < 32 then m.tick (i + n) else m.tick i⟩ := by
  apply List.ext_getElem?
  intro i
  unfold splice
  have h5 : ((wcells ⟨m.s, m.t, a, b, c, m.tick⟩).take 5).length = 5 := by simp [wcells]
  by_cases h1 : i < 5
  · rw [List.getElem?_append_left (by omega), List.getElem?_take, if_pos h1]
    unfold wcells
    simp only [List.getElem?_map, List.getElem?_range (show i < 37 by omega), Option.map_some]
    congr 1
    rcases i with _ | _ | _ | _ | _ | i <;> first | rfl | omega
  · rw [List.getElem?_append_right (by omega), h5]
    by_cases h2 : i - 5 < 32 - n
    · rw [List.getElem?_append_left (by rw [downL_len]; omega)]
      unfold wcells downL
      simp only [List.getElem?_map, List.getElem?_range h2, List.getElem?_range (show i < 37 by omega), Option.map_some]
      obtain ⟨k, rfl⟩ : ∃ k, i = k + 5 := ⟨i - 5, by omega⟩
      show some (Value.int .i64 (m.tick (k + 5 - 5 + n))) = some (.int .i64 ((if k + n < 32 then m.tick (k + n) else m.tick k : Nat) : Int))
      rw [if_pos (by omega), show k + 5 - 5 + n = k + n by omega]
    · rw [List.getElem?_append_right (by rw [downL_len]; omega), downL_len, List.getElem?_drop]
      rw [show 5 + (32 - n) + (i - 5 - (32 - n)) = i by omega]
      unfold wcells
      by_cases h3 : i < 37
      · simp only [List.getElem?_map, List.getElem?_range h3, Option.map_some]
        obtain ⟨k, rfl⟩ : ∃ k, i = k + 5 := ⟨i - 5, by omega⟩
        show some (Value.int .i64 (m.tick k)) = some (.int .i64 ((if k + n < 32 then m.tick (k + n) else m.tick k : Nat) : Int))
        rw [if_neg (by omega)]
      · simp [h3]


theorem slide_at (h : WAt w p m) (n : Nat) (hn : n ≤ 32) : Calls Tryd.prog 29 #[.pointer (some ⟨p, 0, none⟩), .int .i64 n] w fun e w' =>
    e = .returned (.tuple #[]) ∧ WAt w' p (slidM m n) ∧ Only p w w' := by
  have c2 : w.cell? ⟨p, 2, none⟩ = some (.int .u16 m.b) := h.cell (i := 2) (by decide)
  have f2 := h.free 2
  obtain ⟨B, hB⟩ : ∃ B, B = (m.b + n) % 65536 := ⟨_, rfl⟩
  have hm2 : moveI m.b n = (B : Int) := by rw [hB]; unfold moveI; omega
  have hMv := move_any m.b n w
  rw [hm2] at hMv
  have hA1 : Hid (WAt (w.setCell ⟨p, 2, none⟩ (.int .u16 B)) p { m with b := B }) := h.set 2 _ (wf_set2 m B)
  have ho1 : Hid (Only p w (w.setCell ⟨p, 2, none⟩ (.int .u16 B))) := Only.set _ _ _ _
  have HB0 : slidM m n = ⟨m.s, m.t, B, slideS m.sent n, slideS m.there n, fun i => if i + n < 32 then m.tick (i + n) else m.tick i⟩ := by unfold slidM; rw [hB]
  have HB : Hid _ := HB0
  clear HB0
  obtain ⟨S, hS⟩ : ∃ S, S = slideS m.sent n := ⟨_, rfl⟩
  obtain ⟨T, hT⟩ : ∃ T, T = slideS m.there n := ⟨_, rfl⟩
  rw [← hS, ← hT] at HB
  have HS : Hid _ := hS
  have HT : Hid _ := hT
  clear h hB hm2 hS hT
  go_enter Tryd.func29, Tryd.ntmps29
  go_upto_region 1 with (go_at_call 22; refine hMv.mono ?_; rintro e w ⟨rfl, rfl⟩)
  generalize hw1 : w.setCell ⟨p, 2, none⟩ (.int .u16 B) = w1 at hA1 ho1
  clear hw1
  have c3 : w1.cell? ⟨p, 3, none⟩ = some (.int .u64 m.sent) := hA1.out.cell (i := 3) (by decide)
  have f3 := hA1.out.free 3
  have hS1 : Calls Tryd.prog 34 #[.int .u64 m.sent, .int .i64 n] w1 fun e w' => e = .returned (.int .u64 S) ∧ w' = w1 := by rw [HS.out]; exact slide_any _ _ _
  have hA2 : Hid (WAt (w1.setCell ⟨p, 3, none⟩ (.int .u64 S)) p { m with b := B, sent := S }) := hA1.out.set 3 _ (wf_set3 { m with b := B } S)
  have ho2 : Hid (Only p w (w1.setCell ⟨p, 3, none⟩ (.int .u64 S))) := ho1.out.trans (Only.set _ _ _ _)
  go_upto_region 2 with (go_at_call 34; refine hS1.mono ?_; rintro e w1 ⟨rfl, rfl⟩)
  generalize hw2 : w1.setCell ⟨p, 3, none⟩ (.int .u64 S) = w2 at hA2 ho2
  clear hw2
  have c4 : w2.cell? ⟨p, 4, none⟩ = some (.int .u64 m.there) := hA2.out.cell (i := 4) (by decide)
  have f4 := hA2.out.free 4
  have hT1 : Calls Tryd.prog 34 #[.int .u64 m.there, .int .i64 n] w2 fun e w' => e = .returned (.int .u64 T) ∧ w' = w2 := by rw [HT.out]; exact slide_any _ _ _
  have hA3 : Hid (WAt (w2.setCell ⟨p, 4, none⟩ (.int .u64 T)) p { m with b := B, sent := S, there := T }) := hA2.out.set 4 _ (wf_set4 { m with b := B, sent := S } T)
  have ho3 : Hid (Only p w (w2.setCell ⟨p, 4, none⟩ (.int .u64 T))) := ho2.out.trans (Only.set _ _ _ _)
  go_upto_region 3 with (go_at_call 34; refine hT1.mono ?_; rintro e w2 ⟨rfl, rfl⟩)
  generalize hw3 : w2.setCell ⟨p, 4, none⟩ (.int .u64 T) = w3 at hA3 ho3
  clear hw3
  have hn' : (n : Int) ≤ 32 := by omega
  have hn0 : ¬ (32 : Int) < (n : Int) := by omega
  have hone : ∀ v ∈ downL m n, v.oneCell' = true := fun v hv => by
    unfold downL at hv
    simp only [List.mem_map] at hv
    obtain ⟨i, _, rfl⟩ := hv
    rfl
  have hlen37 : (wcells ⟨m.s, m.t, B, S, T, m.tick⟩).length = 37 := by simp [wcells]
  have hsrc : ∀ (X : World), WAt X p ⟨m.s, m.t, B, S, T, m.tick⟩ → ∀ j v, (downL m n)[j]? = some v → X.cell? (Addr.add ⟨p, 5 + n, none⟩ j) = some v := fun X hX j v hj => by
    have hjn : j < 32 - n := by
      have := (List.getElem?_eq_some_iff.1 hj).1
      rwa [downL_len] at this
    have e : v = .int .i64 (m.tick (j + n)) := by
      unfold downL at hj
      simp only [List.getElem?_map, List.getElem?_range hjn, Option.map_some, Option.some.injEq] at hj
      exact hj.symm
    rw [e, Go.WideShapes.add_plain, show 5 + n + j = 5 + (j + n) by omega]
    exact hX.tick (by omega)
  obtain ⟨ad, had⟩ : ∃ ad : Addr, ad = if 32 = n then ⟨p, 5, none⟩ else Addr.add ⟨p, 5, none⟩ (n * 1) := ⟨_, rfl⟩
  have hSl : ∀ W, (Instr.sliceAt 48 (.pointer (some ⟨p, 5, none⟩)) (some (.int .i64 (n : Int))) none none).run Tryd.prog W = .ok (.slice (some ad) (32 - n) (32 - n)) W := fun W => by
    rw [run_sliceAt_array_l W 48 ⟨p, 5, none⟩ (by kernel_rfl) .i64 (n : Int) (by omega) (by rw [show (Tryd.prog.arrayLen 48 : Int) = 32 by kernel_rfl]; omega), had]
    rw [show (sizeOf (Tryd.prog.elem 48)).run Tryd.prog W = .ok 1 W from by kernel_rfl]
    rfl
  have HA : Hid (0 < 32 - n → ad = ⟨p, 5 + n, none⟩) := fun h => by rw [had, if_neg (by omega), Go.WideShapes.add_plain, Nat.mul_one]
  clear had
  -- SLID
  refine wp_region_noPanic ?_
  refine wp_region_held_drew (S := fun _ => True) (by kernel_rfl) trivial (fun hHeld => ?_)
  refine wpAnyH_take (i := 0) (v := .pointer (some ⟨p, 0, none⟩)) (by simp only [List.getElem?_toArray, List.getElem?_cons_zero]; rfl) (by kernel_rfl) (by kernel_rfl) (by kernel_rfl) (fun _ _ _ h => h) (Or.inl ⟨by rfl, ?_⟩) (by assumption) ?_
  · (intro wq hSq; clear hSq; go_simp; try with_reducible rfl)
  try simp only [Act.put, List.setIfInBounds_toArray, List.set_cons_zero, List.set_cons_succ]
  refine wpAnyH_take (i := 1) (v := .pointer (some ⟨p, 0, none⟩)) (by simp only [List.getElem?_toArray, List.getElem?_cons_succ, List.getElem?_cons_zero]; rfl) (by kernel_rfl) (by kernel_rfl) (by kernel_rfl) (fun _ _ _ h => h) (Or.inl ⟨by rfl, ?_⟩) (by assumption) ?_
  · (intro wq hSq; clear hSq; go_simp; try with_reducible rfl)
  try simp only [Act.put, List.setIfInBounds_toArray, List.set_cons_zero, List.set_cons_succ]
  refine wpAnyH_take (i := 2) (v := .pointer (some ⟨p, 5, none⟩)) (by simp only [List.getElem?_toArray, List.getElem?_cons_succ, List.getElem?_cons_zero]; rfl) (by kernel_rfl) (by kernel_rfl) (by kernel_rfl) (fun _ _ _ h => h) (Or.inl ⟨by rfl, ?_⟩) (by assumption) ?_
  · (intro wq hSq; clear hSq; go_simp; try with_reducible rfl)
  try simp only [Act.put, List.setIfInBounds_toArray, List.set_cons_zero, List.set_cons_succ]
  refine wpAnyH_take (i := 3) (v := .slice (some ⟨p, 5, none⟩) 32 32) (by simp only [List.getElem?_toArray, List.getElem?_cons_succ, List.getElem?_cons_zero]; rfl) (by kernel_rfl) (by kernel_rfl) (by kernel_rfl) (fun _ _ _ h => h) (Or.inl ⟨by rfl, ?_⟩) (by assumption) ?_
  · (intro wq hSq; clear hSq; go_simp; try with_reducible rfl)
  try simp only [Act.put, List.setIfInBounds_toArray, List.set_cons_zero, List.set_cons_succ]
  refine wpAnyH_take (i := 4) (v := .pointer (some ⟨p, 0, none⟩)) (by simp only [List.getElem?_toArray, List.getElem?_cons_succ, List.getElem?_cons_zero]; rfl) (by kernel_rfl) (by kernel_rfl) (by kernel_rfl) (fun _ _ _ h => h) (Or.inl ⟨by rfl, ?_⟩) (by assumption) ?_
  · (intro wq hSq; clear hSq; go_simp; try with_reducible rfl)
  try simp only [Act.put, List.setIfInBounds_toArray, List.set_cons_zero, List.set_cons_succ]
  refine wpAnyH_take (i := 5) (v := .pointer (some ⟨p, 0, none⟩)) (by simp only [List.getElem?_toArray, List.getElem?_cons_succ, List.getElem?_cons_zero]; rfl) (by kernel_rfl) (by kernel_rfl) (by kernel_rfl) (fun _ _ _ h => h) (Or.inl ⟨by rfl, ?_⟩) (by assumption) ?_
  · (intro wq hSq; clear hSq; go_simp; try with_reducible rfl)
  try simp only [Act.put, List.setIfInBounds_toArray, List.set_cons_zero, List.set_cons_succ]
  refine wpAnyH_take (i := 6) (v := .pointer (some ⟨p, 5, none⟩)) (by simp only [List.getElem?_toArray, List.getElem?_cons_succ, List.getElem?_cons_zero]; rfl) (by kernel_rfl) (by kernel_rfl) (by kernel_rfl) (fun _ _ _ h => h) (Or.inl ⟨by rfl, ?_⟩) (by assumption) ?_
  · (intro wq hSq; clear hSq; go_simp; try with_reducible rfl)
  try simp only [Act.put, List.setIfInBounds_toArray, List.set_cons_zero, List.set_cons_succ]
  refine wpAnyH_take (i := 7) (v := .int .i64 n) (by simp only [List.getElem?_toArray, List.getElem?_cons_succ, List.getElem?_cons_zero]; rfl) (by kernel_rfl) (by kernel_rfl) (by kernel_rfl) (fun _ _ _ h => h) (Or.inl ⟨by rfl, ?_⟩) (by assumption) ?_
  · (intro wq hSq; clear hSq; go_simp; try with_reducible rfl)
  try simp only [Act.put, List.setIfInBounds_toArray, List.set_cons_zero, List.set_cons_succ]
  refine wpAnyH_take (i := 8) (v := .slice (some ad) (32 - n) (32 - n)) (by simp only [List.getElem?_toArray, List.getElem?_cons_succ, List.getElem?_cons_zero]; rfl) (by kernel_rfl) (by kernel_rfl) (by kernel_rfl) (fun _ _ _ h => h) (Or.inl ⟨by rfl, ?_⟩) (by assumption) ?_
  · (intro wq hSq; clear hSq; go_simp; try with_reducible rfl)
  try simp only [Act.put, List.setIfInBounds_toArray, List.set_cons_zero, List.set_cons_succ]
  refine wpAnyH_ready (rs := [9]) (by kernel_rfl) (by simp) ?_
  refine AllReadyH.cons rfl (fun KK hK => ?_) AllReadyH.nil
  refine step_copyO rfl (.tmp 34) (.tmp 39) 30 30 rfl 3 Tryd.underlying30 (by kernel_rfl) (some ⟨p, 5, none⟩) (some ad) 32 32 (32 - n) (32 - n) rfl rfl p 5 (wcells ⟨m.s, m.t, B, S, T, m.tick⟩) 50 (hA3.out.same rfl) (downL m n) (by rw [downL_len]; exact (Nat.min_eq_left (by omega)).symm) (fun hpos => ⟨rfl, ad, rfl, by rw [HA.out (by rw [downL_len] at hpos; omega)]; exact hsrc _ (hA3.out.same rfl)⟩) (by rw [downL_len, hlen37]; omega) hone ?_
  intro w4 hg4 ho4
  refine hK.out _ _ trivial (fun hHeld => ?_)
  clear hK KK
  try simp only [Act.put, List.setIfInBounds_toArray]
  refine wpAnyH_done (by kernel_rfl) ?_ _
  refine NoPanic.normal ?_
  clear hHeld
  go_wp2
  go_end0
  refine ⟨rfl, ?_, ho3.out.trans ((Only.of_below (Below.refl _ _).drew).trans ho4)⟩
  rw [HB.out]
  have h5 := hg4.out
  rw [downL_splice m n hn] at h5
  exact h5
  -- SLIDDEN


theorem Only.row_set (p : Nat) (w : World) (cs : Array Value) : Only p w (w.setRow p cs) := ⟨rfl, rfl, rfl, by simp [World.setRow], fun k _ hk => setRow_other w p k _ hk⟩


/-- What Ack tells, and what it leaves. -/
def ackN (m : Wn) (num : Nat) : Int := if mayA m (farI m.b num) then farI m.b num else 0

def ackW (m : Wn) (num set : Nat) : Wn := if mayA m (farI m.b num) then ackM m (farI m.b num).toNat set else m

theorem mayA_in {m : Wn} {n : Int} (h : mayA m n = true) : 0 ≤ n ∧ n ≤ m.s ∧ n ≤ runS m.sent := by unfold mayA at h; simpa using h

theorem ackW_ok {m : Wn} (h : m.Ok) (num set : Nat) : (ackW m num set).Ok := by
  unfold ackW
  split
  · exact ack_ok h _ _
  · exact h

theorem ack_at (h : WAt w p m) (ok : m.Ok) (num set : Nat) (hset : IsSet set) (hT : Tab w) : Calls Tryd.prog 13 #[.pointer (some ⟨p, 0, none⟩), .int .u16 num, .int .u64 set] w fun e w' =>
    e = .returned (.int .i64 (ackN m num)) ∧ WAt w' p (ackW m num set) ∧ Only p w w' := by
  have hs1 := ok.s1
  have hs2 := ok.s2
  have hM := made_at h
  rw [decide_eq_true (by omega)] at hM
  have c2 : w.cell? ⟨p, 2, none⟩ = some (.int .u16 m.b) := h.cell (i := 2) (by decide)
  have hF := far_any m.b num w
  have hW := were_at h ok.setS (farI m.b num) hT
  have hA : Hid (WAt w p m) := h
  have hO : Hid m.Ok := ok
  unfold ackN ackW
  clear h ok
  generalize farI m.b num = n at *
  cases hb : mayA m n with
  | false =>
    rw [hb] at hW
    go_enter Tryd.func13, Tryd.ntmps13
    go_wp2_with (first
      | (go_at_call 18; refine hM.mono ?_; rintro e w ⟨rfl, rfl⟩)
      | (go_at_call 26; refine hF.mono ?_; rintro e w ⟨rfl, rfl⟩)
      | (go_at_call 27; refine hW.mono ?_; rintro e w1 ⟨rfl, b1⟩))
    go_ret
    exact ⟨rfl, hA.out.below b1 hA.out.lt, Only.of_below b1⟩
  | true =>
    rw [hb] at hW
    obtain ⟨n0, n1, n2⟩ := mayA_in hb
    obtain ⟨k, rfl⟩ : ∃ k : Nat, n = k := ⟨n.toNat, by omega⟩
    rw [Int.toNat_natCast, if_pos rfl, if_pos rfl]
    have HO2 := theres_ok hO.out k set
    go_enter Tryd.func13, Tryd.ntmps13
    go_wp2_with (first
      | (go_at_call 18; refine hM.mono ?_; rintro e w ⟨rfl, rfl⟩)
      | (go_at_call 26; refine hF.mono ?_; rintro e w ⟨rfl, rfl⟩)
      | (go_at_call 27; refine hW.mono ?_; rintro e w1 ⟨rfl, b1⟩; have a1 : Hid (WAt w1 p m) := hA.out.below b1 hA.out.lt)
      | (go_at_call 28; refine (arrive_at a1.out hO.out.setS hO.out.setT k set hset (by omega)).mono ?_; rintro e w2 ⟨rfl, a2, o2⟩)
      | (go_at_call 29; refine (slide_at a2 k (by omega)).mono ?_; rintro e w3 ⟨rfl, a3, o3⟩))
    go_ret
    exact ⟨rfl, a3, (Only.of_below b1).trans (o2.trans o3)⟩

end

end Go.Proofs.YtkdjpleedaldcaaDoor.W
