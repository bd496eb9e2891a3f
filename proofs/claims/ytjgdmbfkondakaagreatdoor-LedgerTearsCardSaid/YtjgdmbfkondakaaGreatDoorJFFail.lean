/-
  bytes.Equal, bytes.HasPrefix, bytes.Clone; what a failure leaves of a file: by their contracts.
-/
import Derived.Test.YtjgdmbfkondakaaGreatDoorJLay
import Derived.Lib.SliceRun
namespace Go.Proofs.YtjgdmbfkondakaaGreatDoor
open Go.RowKit Go.Maps

theorem equal_any (x y : Value) (xs ys : List UInt8) (w : World) (hx : Holds w x xs) (hy : Holds w y ys) :
    Calls Tryz.prog 104 #[x, y] w fun e w' => e = .returned (.bool (xs == ys)) ∧ w' = w := by
  have kx := run_string_of hx 31 9 5 Tryz.underlying31 Tryz.underlying5 Tryz.underlying9
  have ky := run_string_of hy 31 9 5 Tryz.underlying31 Tryz.underlying5 Tryz.underlying9
  go_enter Tryz.func104, Tryz.ntmps104
  go_wp2
  go_ret
  exact ⟨ret_bool rfl, rfl⟩
theorem prefix_take (xs ys : List UInt8) : ys.isPrefixOf xs = (decide (ys.length ≤ xs.length) && (xs.take ys.length == ys)) := by
  rw [Bool.eq_iff_iff, List.isPrefixOf_iff_prefix, Bool.and_eq_true, decide_eq_true_eq, beq_iff_eq, List.prefix_iff_eq_take]
  constructor
  · intro h
    have := congrArg List.length h
    rw [List.length_take] at this
    exact ⟨by omega, h.symm⟩
  · exact fun h => h.2.symm
theorem prefix_any (x y : Value) (xs ys : List UInt8) (w : World) (hx : Buf w x xs) (hy : Buf w y ys) (h1 : xs.length ≤ 1073741824) (h2 : ys.length ≤ 1073741824) :
    Calls Tryz.prog 88 #[x, y] w fun e w' => e = .returned (.bool (ys.isPrefixOf xs)) ∧ w' = w := by
  rw [prefix_take]
  obtain ⟨a, c, rfl⟩ := hx.slice
  obtain ⟨a2, c2, rfl⟩ := hy.slice
  by_cases hl : ys.length ≤ xs.length
  · rw [decide_eq_true hl, Bool.true_and]
    have hE := equal_any _ _ _ _ w (hx.take hl).holds hy.holds
    have hl' : (ys.length : Int) ≤ (xs.length : Int) := by omega
    have hcap : xs.length ≤ c := by
      rcases hx with ⟨hv, rfl⟩ | ⟨g, cap, cur, hv, hb, h1, h2, h3, h4⟩
      · injection hv with e1 e2 e3; omega
      · injection hv with e1 e2 e3; omega
    clear hx hy
    generalize (xs.take ys.length == ys) = r at *
    go_enter Tryz.func88, Tryz.ntmps88
    go_wp2_with (go_at_call 104; refine hE.mono ?_; rintro e w ⟨rfl, rfl⟩)
    go_ret
    exact ⟨rfl, rfl⟩
  · rw [decide_eq_false hl, Bool.false_and]
    have hl' : ¬ (ys.length : Int) ≤ (xs.length : Int) := by omega
    clear hx hy
    go_enter Tryz.func88, Tryz.ntmps88
    go_wp2
    go_ret
    exact ⟨rfl, rfl⟩

set_option maxRecDepth 20000 in
theorem clone_any (x : Value) (xs : List UInt8) (w : World) (hx : Holds w x xs) (h1 : xs.length ≤ 1073741824) :
    Calls Tryz.prog 67 #[x] w fun e w' => ∃ v, e = .returned v ∧ Holds w' v xs ∧ Below w.heap.size w w' := by
  rcases hx with ⟨rfl, rfl⟩ | ⟨a, cap, rfl, h2, h3, h4⟩
  · have hq := fun W => Lib.run_eql_slice_nil (P := Tryz.prog) W 31 5 none 0 0 0 0 Tryz.underlying31
    go_enter Tryz.func67, Tryz.ntmps67
    go_wp2
    go_ret
    exact ⟨_, rfl, .inl ⟨rfl, rfl⟩, Below.refl _ _⟩
  · obtain ⟨W, fold⟩ : ∃ W, w.alloc (.cells #[] 5) = W := ⟨_, rfl⟩
    have bW : Below w.heap.size w W := by rw [← fold]; exact (Below.refl _ _).alloc (Nat.le_refl _) _
    have own : Owns W w.heap.size 5 (.slice (some ⟨w.heap.size, 0, none⟩) 0 0) [] := by rw [← fold]; exact owns_made w w.heap.size 5 #[] 0 (Nat.le_refl _) (Nat.zero_le _) rfl
    have hx : Holds W (.slice (some a) xs.length cap) xs := Holds.below (.inr ⟨a, cap, rfl, h2, h3, h4⟩) bW (Nat.le_refl _)
    have hq := fun W => Lib.run_eql_slice_nil (P := Tryz.prog) W 31 5 (some a) xs.length cap 0 0 Tryz.underlying31
    clear h2 h3 h4
    go_enter Tryz.func67, Tryz.ntmps67
    go_wp2_with (at_builtin; refine wpList_append_bytes rfl _ _ 31 5 isU8 rfl w.heap.size _ _ [] xs rfl rfl own hx (by simp; omega) bW.size ?_; intro v2 w2 own2 bel2 sz2)
    go_ret
    exact ⟨_, rfl, own2.holds, bW.trans bel2⟩

/-- Nothing but one block was changed. -/
theorem moved_one {w w' : World} {q : Nat} (hos : w'.os = w.os) (ht : w'.tape = w.tape) (ho : w'.output = w.output) (hs : w'.heap.size = w.heap.size) (hb : ∀ k, k ≠ q → w'.heap[k]? = w.heap[k]?) : Moved w w' (fun k => k = q) (fun k => k = q) :=
  ⟨hos, ht, ho, Nat.le_of_eq hs.symm, fun k _ hn => hb k hn, fun _ h => .inl h⟩
theorem FileAt.failed {w V : World} {q : Nat} {b s : Value} {x : Fl} (h : FileAt w q b s x) (k : Int) (hV : V.heap = w.heap) (hos : V.os = w.os) (ht : V.tape = w.tape) (hou : V.output = w.output) {v : Value} (hv : Buf w v (leftF k x)):
    FileAt ((V.setCell ⟨q, 0, none⟩ v).setCell ⟨q, 1, none⟩ v) q v v (failF k x) ∧ Moved w ((V.setCell ⟨q, 0, none⟩ v).setCell ⟨q, 1, none⟩ v) (fun k => k = q) (fun k => k = q) ∧ ((V.setCell ⟨q, 0, none⟩ v).setCell ⟨q, 1, none⟩ v).heap.size = w.heap.size := by
  have ho : ∀ k, k ≠ q → ((V.setCell ⟨q, 0, none⟩ v).setCell ⟨q, 1, none⟩ v).heap[k]? = w.heap[k]? := fun k hk => by
    rw [Below.heap_setCell _ _ _ _ hk, Below.heap_setCell _ _ _ _ hk, hV]
  have hb0 : V.heap[q]? = some (.cells [b, s].toArray 91 (0, 0)) := by rw [hV]; exact h.blk
  have hb := heap_set_list (i := 1) (heap_set_list (i := 0) hb0 v) v
  have hsz : ((V.setCell ⟨q, 0, none⟩ v).setCell ⟨q, 1, none⟩ v).heap.size = w.heap.size := by simp [hV]
  have hB : Buf ((V.setCell ⟨q, 0, none⟩ v).setCell ⟨q, 1, none⟩ v) v (leftF k x) := hv.same fun g hg => ho g fun e => by
    subst e
    obtain ⟨cur, hc⟩ := hv.blk hg
    rw [h.blk] at hc
    simp at hc
  exact ⟨⟨hb, hB, hB, fun _ _ _ => .inl (Nat.le_refl _)⟩, moved_one (by exact hos) (by exact ht) (by exact hou) hsz ho, hsz⟩

set_option maxRecDepth 20000 in
set_option maxHeartbeats 4000000 in
theorem ffail_at (q : Nat) (b s : Value) (x : Fl) (k : Int) (w : World) (h : FileAt w q b s x) (h1 : x.now.length ≤ 1073741824) (h2 : x.sure.length ≤ 1073741824) (hk : -9223372036854775808 ≤ k ∧ k < 9223372036854775808) :
    Calls Tryz.prog 55 #[.pointer (some ⟨q, 0, none⟩), .int .i64 k] w fun e w' => e = .returned (.tuple #[]) ∧ ∃ v, FileAt w' q v v (failF k x) ∧ (∀ g, v.ownBlock = some g → b.ownBlock = some g ∨ s.ownBlock = some g) ∧ Moved w w' (fun k => k = q) (fun k => k = q) ∧ w'.heap.size = w.heap.size := by
  obtain ⟨c0, c1⟩ := h.cells
  have f0 := h.free 0
  have f1 := h.free 1
  have hP := fun V (hV : V.heap = w.heap) => prefix_any b s x.now x.sure V (h.b.same fun g _ => by rw [hV]) (h.s.same fun g _ => by rw [hV]) h1 h2
  obtain ⟨ab, cb, rfl⟩ := h.b.slice
  obtain ⟨sa, cs, rfl⟩ := h.s.slice
  have mixed : Tryz.prog.follows .mixedOrders = true := by kernel_rfl
  cases hp : x.sure.isPrefixOf x.now with
  | false =>
    have hl : leftF k x = x.sure := by unfold leftF; rw [hp]; rfl
    have HE : Hid _ := fun n => h.failed k (V := w.drewN n) rfl rfl rfl rfl (v := Value.slice sa x.sure.length cs) (by rw [hl]; exact h.s)
    rw [hp] at hP
    have HP : Hid _ := hP
    clear h hP hl hp
    generalize x.now.length = ln at *
    generalize x.sure.length = ls at *
    go_enter Tryz.func55, Tryz.ntmps55
    go_wp2
    go_quiet (first | (go_at_call 88; refine Calls.quiet_of_same (HP.out _ (World.heap_drewN _ _))))
    all_goals go_wp2
    all_goals go_end0
    all_goals exact ⟨rfl, _, (HE.out _).1, fun g hg => .inr hg, (HE.out _).2⟩
  | true =>
    have hpre := List.isPrefixOf_iff_prefix.1 hp
    have hle := hpre.length_le
    obtain ⟨j, hj⟩ : ∃ j : Nat, j = x.sure.length + min k.toNat (x.now.length - x.sure.length) := ⟨_, rfl⟩
    have hl : leftF k x = x.now.take j := by unfold leftF; rw [hp, hj]; rfl
    have hjl : j ≤ x.now.length := by omega
    have hcap : x.now.length ≤ cb := by
      rcases h.b with ⟨hv, h0⟩ | ⟨g, cap, cur, hv, hb, h1, h2, h3, h4⟩
      · injection hv with e1 e2 e3; omega
      · injection hv with e1 e2 e3; omega
    have HE : Hid _ := fun n => h.failed k (V := w.drewN n) rfl rfl rfl rfl (v := Value.slice ab j cb) (by rw [hl]; exact h.b.take hjl)
    rw [hp] at hP
    have HP : Hid _ := hP
    clear h hP hl hp hpre
    generalize x.now.length = ln at *
    generalize x.sure.length = ls at *
    have hw1 : IntKind.i64.wrap ((ln : Int) - (ls : Int)) = (ln : Int) - (ls : Int) := by rw [IntKind.wrap_i64]; omega
    obtain ⟨mx, hmx⟩ : ∃ mx : Int, (if k < 0 then 0 else k) = mx := ⟨_, rfl⟩
    obtain ⟨mn, hmn⟩ : ∃ mn : Int, (if (ln : Int) - (ls : Int) < mx then (ln : Int) - (ls : Int) else mx) = mn := ⟨_, rfl⟩
    have hj' : (j : Int) = (ls : Int) + mn := by
      by_cases hk0 : k < 0
      · rw [if_pos hk0] at hmx
        by_cases hb9 : (ln : Int) - (ls : Int) < mx
        · rw [if_pos hb9] at hmn; omega
        · rw [if_neg hb9] at hmn; omega
      · rw [if_neg hk0] at hmx
        by_cases hb9 : (ln : Int) - (ls : Int) < mx
        · rw [if_pos hb9] at hmn; omega
        · rw [if_neg hb9] at hmn; omega
    have hw2 : IntKind.i64.wrap ((ls : Int) + mn) = (j : Int) := by rw [IntKind.wrap_i64]; omega
    have hj1 : (j : Int) ≤ (cb : Int) := by omega
    clear hj hj' hk
    go_enter Tryz.func55, Tryz.ntmps55
    go_wp2
    go_quiet (first | (go_at_call 88; refine Calls.quiet_of_same (HP.out _ (World.heap_drewN _ _))))
    go_wp2
    go_quiet (fail)
    go_wp2
    go_region
    all_goals go_wp2
    all_goals go_end0
    all_goals exact ⟨rfl, _, (HE.out _).1, fun g hg => .inl (by cases ab <;> exact hg), (HE.out _).2⟩
end Go.Proofs.YtjgdmbfkondakaaGreatDoor
