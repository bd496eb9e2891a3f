/-
  Next and holds, by their contracts.
-/
import Derived.Test.YtooaiomghbjpiaaFind17
namespace Go.Proofs.Ytooaiomghbjpiaa
open Go.RowKit Go.Maps Go.Sort Go.Shelf
set_option maxRecDepth 20000

theorem LOk.i64 {X : List Sx} (ok : LOk (X.map Sx.s)) {x : Sx} (hx : x ∈ X) : I64 x.s.m ∧ I64 x.s.c := by
  have h := ok.ok x.s (List.mem_map.2 ⟨x, hx, rfl⟩)
  have h1 := h.m1; have h2 := h.m2; have h3 := h.c1; have h4 := h.c2
  exact ⟨⟨by omega, by omega⟩, ⟨by omega, by omega⟩⟩
theorem find_map {X : List Sx} {pd : Se → Bool} : (X.map Sx.s).find? pd = (X.find? fun x => pd x.s).map Sx.s := by rw [List.find?_map]; rfl
/-- What Next tells. -/
def nextV (L : List Se) (q : ByteArray) : Value := match nextC L q with
  | some s => .tuple #[.int .i64 s.c, .bool true]
  | none => .tuple #[.int .i64 0, .bool false]
set_option maxHeartbeats 1000000 in
theorem next_any (p : Nat) (F : Nat → Prop) (L : List Se) (q : ByteArray) (w : World) (h : Dk w p F L) (ok : LOk L) :
    Calls Try.prog 19 #[.pointer (some ⟨p, 0, none⟩), .string q] w fun e w' => e = .returned (nextV L q) ∧ Below w.heap.size w w' := by
  obtain ⟨mb, v, X, hd, rfl, _⟩ := h
  obtain ⟨W, fold⟩ : ∃ W, w.alloc (.cells #[.string q] 9) = W := ⟨_, rfl⟩
  have b0 : Below w.heap.size w W := by rw [← fold]; exact (Below.refl _ w).alloc (Nat.le_refl _) _
  have hdW : DkAt W p mb v X := hd.same fun k hk => b0.block k (hd.lts k hk)
  have hB : W.cell? ⟨w.heap.size, 0, none⟩ = some (.string q) := by rw [← fold]; simp
  have hM := made_at hdW
  have hA : Asks 39 #[.pointer (some ⟨w.heap.size, 0, none⟩)] (fun x => readyB q x.s) X W := fun x hx V bV => next1 x q w.heap.size V ((hdW.seats x hx).kept bV) (ok.i64 hx).1 ((bV.cell (p := ⟨w.heap.size, 0, none⟩) (World.block_lt_of_cell? _ _ hB)).trans hB)
  have eg : ∀ args w, (callFunc 39 args).run Try.prog w = .ok (.enter 39 args) w := enters_of Try.func39 (by kernel_rfl) rfl
  have hI := idxP_any 39 #[.pointer (some ⟨w.heap.size, 0, none⟩)] (fun x => readyB q x.s) X v W eg hdW.row.row hA
  obtain ⟨_, c1⟩ := hdW.cells
  have hnx : nextC (X.map Sx.s) q = (X.find? fun x => readyB q x.s).map Sx.s := find_map
  have H0 : Hid (Below w.heap.size w W ∧ DkAt W p mb v X ∧ nextC (X.map Sx.s) q = (X.find? fun x => readyB q x.s).map Sx.s) := ⟨b0, hdW, hnx⟩
  obtain ⟨a, cap, hv⟩ := own1_slice hdW.row
  rw [pcs_length] at hv
  subst hv
  have HN : Hid ((∀ x, (X.find? fun x => readyB q x.s) = some x → nextV (X.map Sx.s) q = .tuple #[.int .i64 x.s.c, .bool true]) ∧ ((X.find? fun x => readyB q x.s) = none → nextV (X.map Sx.s) q = .tuple #[.int .i64 0, .bool false])) := ⟨fun x hx => by unfold nextV; rw [hnx, hx]; rfl, fun hx => by unfold nextV; rw [hnx, hx]; rfl⟩
  generalize nextV (X.map Sx.s) q = r at HN ⊢
  generalize X.length = n at *
  clear hA eg hdW hB b0 hnx hd
  go_enter Try.func19, Try.ntmps19
  go_wp2_with fail
  refine hM.mono ?_
  clear hM
  rintro e V ⟨rfl, rfl⟩
  go_wp2_with fail
  refine hI.mono ?_
  clear hI
  rintro e w2 ⟨z, rfl, hz, b2⟩
  have hd2 : DkAt w2 p mb (.slice a n cap) X := H0.out.2.1.same fun k hk => b2.block k (H0.out.2.1.lts k hk)
  obtain ⟨_, c12⟩ := hd2.cells
  have HB : Hid (Below w.heap.size w w2) := H0.out.1.trans (b2.mono H0.out.1.size)
  rcases hz with ⟨i, x, rfl, hx, hf⟩ | ⟨rfl, hf⟩
  · obtain rfl := HN.out.1 x hf
    have hil : i < X.length := (List.getElem?_eq_some_iff.1 hx).1
    obtain ⟨b, off, cap', hv, hc1, hc2, hcs⟩ := hd2.row.row.at (by rw [pcs_length]; omega)
    rw [pcs_length] at hv
    injection hv with hv1 hv3 hv2
    subst hv1 hv2
    have hc : w2.cell? ⟨b, off + i, none⟩ = some (.pointer (some ⟨x.p, 0, none⟩)) := by
      rw [hcs i (by rw [pcs_length]; exact hil)]
      simp [pcs, (List.getElem?_eq_some_iff.1 hx).2]
    obtain ⟨s0, _, _, _⟩ := (hd2.seats x (List.mem_of_find?_eq_some hf)).cells
    have hin : (i : Int) < (n : Int) := by omega
    have hi0 : ¬ ((i : Int) < 0) := by omega
    clear hcs hc1 hc2 hx hf hd2 b2 hil hv3
    go_wp2
    go_ret2
    exact ⟨rfl, HB.out⟩
  · obtain rfl := HN.out.2 hf
    clear hd2 b2 hf
    go_wp2
    go_ret2
    exact ⟨rfl, HB.out⟩
set_option maxHeartbeats 1000000 in
theorem holds_any (p : Nat) (F : Nat → Prop) (L : List Se) (q : ByteArray) (t : Int) (w : World) (h : Dk w p F L) (ht : U64 t) :
    Calls Try.prog 41 #[.pointer (some ⟨p, 0, none⟩), .string q, .int .u64 t] w fun e w' => e = .returned (.bool (heldB L q t)) ∧ Below w.heap.size w w' := by
  obtain ⟨mb, v, X, hd, rfl, _⟩ := h
  obtain ⟨W0, fold0⟩ : ∃ W, w.alloc (.cells #[.string q] 9) = W := ⟨_, rfl⟩
  have b0 : Below w.heap.size w W0 := by rw [← fold0]; exact (Below.refl _ w).alloc (Nat.le_refl _) _
  have hB0 : W0.cell? ⟨w.heap.size, 0, none⟩ = some (.string q) := by rw [← fold0]; simp
  obtain ⟨W, fold⟩ : ∃ W, W0.alloc (.cells #[.int .u64 t] 31) = W := ⟨_, rfl⟩
  have b1 : Below W0.heap.size W0 W := by rw [← fold]; exact (Below.refl _ W0).alloc (Nat.le_refl _) _
  have hC : W.cell? ⟨W0.heap.size, 0, none⟩ = some (.int .u64 t) := by rw [← fold]; simp
  have hB : W.cell? ⟨w.heap.size, 0, none⟩ = some (.string q) := (b1.cell (p := ⟨w.heap.size, 0, none⟩) (World.block_lt_of_cell? _ _ hB0)).trans hB0
  have bW : Below w.heap.size w W := b0.trans (b1.mono b0.size)
  have hdW : DkAt W p mb v X := hd.same fun k hk => bW.block k (hd.lts k hk)
  have hA : Asks 53 #[.pointer (some ⟨w.heap.size, 0, none⟩), .pointer (some ⟨W0.heap.size, 0, none⟩)] (fun x => ownB q t x.s) X W := fun x hx V bV => holds1 x q t w.heap.size W0.heap.size V ((hdW.seats x hx).kept bV) ht ((bV.cell (p := ⟨w.heap.size, 0, none⟩) (World.block_lt_of_cell? _ _ hB)).trans hB) ((bV.cell (p := ⟨W0.heap.size, 0, none⟩) (World.block_lt_of_cell? _ _ hC)).trans hC)
  have eg : ∀ args w, (callFunc 53 args).run Try.prog w = .ok (.enter 53 args) w := enters_of Try.func53 (by kernel_rfl) rfl
  have hI := conP_any 53 #[.pointer (some ⟨w.heap.size, 0, none⟩), .pointer (some ⟨W0.heap.size, 0, none⟩)] (fun x => ownB q t x.s) X v W eg hdW.row.row hA
  obtain ⟨_, c1⟩ := hdW.cells
  have e : heldB (X.map Sx.s) q t = X.any fun x => ownB q t x.s := by unfold heldB; rw [List.any_map]; rfl
  rw [e]
  obtain ⟨a, cap, hv⟩ := own1_slice hdW.row
  subst hv
  generalize (pcs X).length = n at *
  generalize (X.any fun x => ownB q t x.s) = r at *
  have H0 : Hid (Below w.heap.size w W) := bW
  clear hA eg hdW hB b0 hd b1 hB0 hC e bW
  go_enter Try.func41, Try.ntmps41
  go_wp2_with fail
  refine hI.mono ?_
  clear hI
  rintro e w2 ⟨rfl, b2⟩
  go_wp2
  go_ret
  exact ⟨rfl, H0.out.trans (b2.mono H0.out.size)⟩
end Go.Proofs.Ytooaiomghbjpiaa
