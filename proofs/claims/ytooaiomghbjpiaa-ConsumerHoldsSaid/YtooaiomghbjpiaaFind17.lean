/-
  Who is next, and whether a tag is held: slices.IndexFunc and slices.ContainsFunc over the line, by contracts of their own.
-/
import Derived.Test.YtooaiomghbjpiaaLeave17b
namespace Go.Proofs.Ytooaiomghbjpiaa
open Go.RowKit Go.Maps Go.Sort Go.Shelf
set_option maxRecDepth 20000

theorem txt_dec (a b : ByteArray) : (a.toList == b.toList) = decide (a = b) := by
  rw [Bool.eq_iff_iff, beq_iff_eq, decide_eq_true_iff]
  refine ⟨fun h => ?_, fun h => by rw [h]⟩
  rw [ByteArray.toList_eq, ByteArray.toList_eq] at h
  cases a; cases b
  simpa using h
theorem txt_dec' (a b : ByteArray) : (a.data.toList == b.data.toList) = decide (a = b) := by rw [← txt_dec, ByteArray.toList_eq, ByteArray.toList_eq]
/-- What a predicate on seats answers, wherever nothing old has changed. -/
def Asks (g : Nat) (lb : Array Value) (pd : Sx → Bool) (X : List Sx) (w : World) : Prop := ∀ x ∈ X, ∀ W, Below w.heap.size w W → Calls Try.prog g (#[.pointer (some ⟨x.p, 0, none⟩)] ++ lb) W fun e w' => e = .returned (.bool (pd x)) ∧ Below W.heap.size W w'
/-- Where the first one is. -/
def IdxP (X : List Sx) (pd : Sx → Bool) (z : Int) : Prop := (∃ (i : Nat) (x : Sx), z = (i : Int) ∧ X[i]? = some x ∧ X.find? pd = some x) ∨ (z = -1 ∧ X.find? pd = none)
theorem find_take {X : List Sx} {pd : Sx → Bool} {i : Nat} (h : i < X.length) (hn : (X.take i).find? pd = none) : (X.take (i + 1)).find? pd = if pd X[i] then some X[i] else none := by
  rw [List.take_succ_eq_append_getElem h, List.find?_append, hn]
  simp [List.find?_cons]
  cases pd X[i] <;> rfl
theorem find_prefix {X : List Sx} {pd : Sx → Bool} {i : Nat} {x : Sx} (h : (X.take i).find? pd = some x) : X.find? pd = some x := by
  have := List.take_append_drop i X
  conv => lhs; rw [← this]
  rw [List.find?_append, h]
  rfl
set_option maxHeartbeats 1000000 in
theorem idxP_any (g : Nat) (lb : Array Value) (pd : Sx → Bool) (X : List Sx) (v : Value) (w : World) (eg : ∀ args w, (callFunc g args).run Try.prog w = .ok (.enter g args) w) (hr : Row w v (pcs X)) (hA : Asks g lb pd X w) :
    Calls Try.prog 38 #[v, .func (.func g) #[] lb] w fun e w' => ∃ z, e = .returned (.int .i64 z) ∧ IdxP X pd z ∧ Below w.heap.size w w' := by
  obtain ⟨a, cap, hv⟩ := hr.slice
  rw [pcs_length] at hv
  subst hv
  obtain ⟨n, hn⟩ : ∃ z, X.length = z := ⟨_, rfl⟩
  rw [hn] at hr ⊢
  have H0 : Hid (Row w (.slice a n cap) (pcs X) ∧ X.length = n ∧ Asks g lb pd X w) := ⟨hr, hn, hA⟩
  clear hr hn hA
  go_enter Try.func38, Try.ntmps38
  go_wp2
  go_loopg [5, 8] n (fun gg _ u8 wr => ∃ i : Nat, u8 = .int .i64 (i : Int) ∧ i ≤ n ∧ gg = n - i ∧ Hid ((X.take i).find? pd = none) ∧ Hid (Below w.heap.size w wr))
  case atStart => exact ⟨0, rfl, Nat.zero_le _, rfl, rfl, Below.refl _ _⟩
  case round =>
    obtain ⟨i, rfl, hi, rfl, HI, HB⟩ := hrel
    by_cases hlt : i < n
    · have hlt' : (i : Int) < (n : Int) := by omega
      have hil : i < X.length := by rw [H0.out.2.1]; exact hlt
      obtain ⟨x, hx⟩ : ∃ x, X[i] = x := ⟨_, rfl⟩
      obtain ⟨b, off, cap', hv, hc1, hc2, hcs⟩ := H0.out.1.at (by rw [pcs_length]; omega)
      have hc0 : w.cell? ⟨b, off + i, none⟩ = some (.pointer (some ⟨x.p, 0, none⟩)) := by
        rw [hcs i (by rw [pcs_length]; exact hil), ← hx]
        simp [pcs]
      rw [pcs_length, H0.out.2.1] at hv hc1
      injection hv with hv1 _ hv2
      subst hv1 hv2
      have hc : wr.cell? ⟨b, off + i, none⟩ = some (.pointer (some ⟨x.p, 0, none⟩)) := (HB.out.cell (p := ⟨b, off + i, none⟩) (World.block_lt_of_cell? _ _ hc0)).trans hc0
      have hi7 : i < 9223372036854775807 := by unfold maxLen at hc2; omega
      have hC := H0.out.2.2 x (by rw [← hx]; exact List.getElem_mem hil) wr HB.out
      have HT : Hid ((X.take (i + 1)).find? pd = (if pd x then some x else none) ∧ X[i]? = some x ∧ i < 9223372036854775807) := ⟨by rw [find_take hil HI.out, hx], by rw [List.getElem?_eq_getElem hil, hx], hi7⟩
      generalize pd x = r at hC HT
      clear hx hcs hc1 hc2 hi7 hc0
      cases r
      · go_wp2_with (go_at_fn g; refine hC.mono ?_; rintro e w2 ⟨rfl, b2⟩; have HB2 : Hid (Below w.heap.size w w2) := HB.out.trans (b2.mono HB.out.size); clear hC b2)
        go_roundg (n - (i + 1))
        case measure => omega
        case rel => exact ⟨i + 1, congrArg (Value.int IntKind.i64) (by have := HT.out.2.2; unfold wrap64; omega), by omega, rfl, HT.out.1, HB2⟩
      · go_wp2_with (go_at_fn g; refine hC.mono ?_; rintro e w2 ⟨rfl, b2⟩; have HB2 : Hid (Below w.heap.size w w2) := HB.out.trans (b2.mono HB.out.size); clear hC b2)
        go_ret
        exact ⟨_, rfl, .inl ⟨i, x, rfl, HT.out.2.1, find_prefix HT.out.1⟩, HB2.out⟩
    · have hlt' : ¬ (i : Int) < (n : Int) := by omega
      obtain rfl : i = n := by omega
      have HF : Hid (X.find? pd = none) := by
        have := HI.out
        rw [List.take_of_length_le (by rw [H0.out.2.1]; exact Nat.le_refl _)] at this
        exact this
      go_wp2
      go_ret
      exact ⟨_, rfl, .inr ⟨rfl, HF.out⟩, HB.out⟩
theorem IdxP.any {X : List Sx} {pd : Sx → Bool} {z : Int} (h : IdxP X pd z) : decide (0 ≤ z) = X.any pd := by
  rcases h with ⟨i, x, rfl, _, hf⟩ | ⟨rfl, hf⟩
  · rw [decide_eq_true (by omega), eq_comm, List.any_eq_true]
    exact ⟨x, List.mem_of_find?_eq_some hf, List.find?_some hf⟩
  · rw [decide_eq_false (by omega), eq_comm, List.any_eq_false]
    exact fun x hx => by simpa using List.find?_eq_none.1 hf x hx
theorem conP_any (g : Nat) (lb : Array Value) (pd : Sx → Bool) (X : List Sx) (v : Value) (w : World) (eg : ∀ args w, (callFunc g args).run Try.prog w = .ok (.enter g args) w) (hr : Row w v (pcs X)) (hA : Asks g lb pd X w) :
    Calls Try.prog 52 #[v, .func (.func g) #[] lb] w fun e w' => e = .returned (.bool (X.any pd)) ∧ Below w.heap.size w w' := by
  have hI := idxP_any g lb pd X v w eg hr hA
  obtain ⟨a, cap, hv⟩ := hr.slice
  subst hv
  generalize (pcs X).length = n at hI ⊢
  clear hr hA eg
  go_enter Try.func52, Try.ntmps52
  go_wp2_with fail
  refine hI.mono ?_
  rintro e w2 ⟨z, rfl, hz, b⟩
  have HZ : Hid (decide (0 ≤ z) = X.any pd ∧ Below w.heap.size w w2) := ⟨hz.any, b⟩
  clear hI hz b
  go_wp2
  go_ret
  exact ⟨ret_bool HZ.out.1, HZ.out.2⟩

theorem next1 (x : Sx) (q : ByteArray) (B : Nat) (W : World) (h : SeAt W x) (hm : I64 x.s.m) (hc : W.cell? ⟨B, 0, none⟩ = some (.string q)) :
    Calls Try.prog 39 #[.pointer (some ⟨x.p, 0, none⟩), .pointer (some ⟨B, 0, none⟩)] W fun e w' => e = .returned (.bool (readyB q x.s)) ∧ Below W.heap.size W w' := by
  obtain ⟨_, c1, _, _⟩ := h.cells
  have hF : ∀ n, Calls Try.prog 40 #[.pointer (some ⟨x.p, 0, none⟩)] (W.drewN n) fun e w' => e = .returned (.bool (fullB x.s)) ∧ ∃ m, w' = (W.drewN n).drewN m := fun n => full_at (h.same (w' := W.drewN n) rfl rfl) hm
  have hW : (x.s.q.toList == q.toList) = wantB q x.s := txt_dec _ _
  unfold readyB
  generalize fullB x.s = fl at *
  generalize x.p = px at *
  clear h
  cases hw : wantB q x.s with
  | true =>
    rw [hw] at hW
    go_enter Try.func39, Try.ntmps39
    go_wp2
    go_quiet ((go_at_call 40; exact Calls.quiet_of (hF _)))
    go_wp2
    go_ret
    exact ⟨ret_bool (by simp), ⟨rfl, rfl, rfl, Nat.le_refl _, fun _ _ => rfl⟩⟩
  | false =>
    rw [hw] at hW
    go_enter Try.func39, Try.ntmps39
    go_wp2
    go_quiet ((go_at_call 40; exact Calls.quiet_of (hF _)))
    go_wp2
    go_ret
    exact ⟨ret_bool (by simp), ⟨rfl, rfl, rfl, Nat.le_refl _, fun _ _ => rfl⟩⟩
theorem holds1 (x : Sx) (q : ByteArray) (t : Int) (B C : Nat) (W : World) (h : SeAt W x) (ht : U64 t) (hc : W.cell? ⟨B, 0, none⟩ = some (.string q)) (hd : W.cell? ⟨C, 0, none⟩ = some (.int .u64 t)) :
    Calls Try.prog 53 #[.pointer (some ⟨x.p, 0, none⟩), .pointer (some ⟨B, 0, none⟩), .pointer (some ⟨C, 0, none⟩)] W fun e w' => e = .returned (.bool (ownB q t x.s)) ∧ Below W.heap.size W w' := by
  obtain ⟨_, c1, _, _⟩ := h.cells
  have hH : ∀ n, Calls Try.prog 43 #[.pointer (some ⟨x.p, 0, none⟩), .int .u64 t] (W.drewN n) fun e w' => e = .returned (.bool (hasB x.s t)) ∧ Below W.heap.size W w' := fun n => (has_at (h.same (w' := W.drewN n) rfl rfl) ht).mono fun e w' ⟨h1, h2⟩ => ⟨h1, (show Below W.heap.size W (W.drewN n) from ⟨rfl, rfl, rfl, Nat.le_refl _, fun _ _ => rfl⟩).trans h2⟩
  have hW : (x.s.q.toList == q.toList) = wantB q x.s := txt_dec _ _
  have b0 : Below W.heap.size W W.drew := ⟨rfl, rfl, rfl, Nat.le_refl _, fun _ _ => rfl⟩
  have k1 := hH 1
  unfold ownB
  generalize hasB x.s t = fl at *
  generalize x.p = px at *
  clear h
  cases hw : wantB q x.s with
  | true =>
    rw [hw] at hW
    go_enter Try.func53, Try.ntmps53
    go_wp2
    go_region_held3 (fun w' => w'.cell? ⟨px, 1, none⟩ = some (.string x.s.q) ∧ w'.cell? ⟨B, 0, none⟩ = some (.string q) ∧ w'.cell? ⟨C, 0, none⟩ = some (.int .u64 t)) (go_keep) (first
      | (go_at_call 43; refine (hH 1).mono ?_; rintro e w2 ⟨rfl, b2⟩; have q1 := (b2.cell (p := ⟨px, 1, none⟩) (World.block_lt_of_cell? _ _ c1)).trans c1; have q2 := (b2.cell (p := ⟨B, 0, none⟩) (World.block_lt_of_cell? _ _ hc)).trans hc; have q3 := (b2.cell (p := ⟨C, 0, none⟩) (World.block_lt_of_cell? _ _ hd)).trans hd))
    all_goals go_wp2
    all_goals go_ret
    all_goals exact ⟨ret_bool (by simp), b2⟩
  | false =>
    rw [hw] at hW
    go_enter Try.func53, Try.ntmps53
    go_wp2
    go_quiet (fail)
    go_wp2
    go_ret
    exact ⟨ret_bool (by simp), ⟨rfl, rfl, rfl, Nat.le_refl _, fun _ _ => rfl⟩⟩
end Go.Proofs.Ytooaiomghbjpiaa
