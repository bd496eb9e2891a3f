/-
  Settle, by its contract: a tag goes.
-/
import Derived.Test.YtooaiomghbjpiaaNext17
namespace Go.Proofs.Ytooaiomghbjpiaa
open Go.RowKit Go.Maps Go.Sort Go.Shelf
set_option maxRecDepth 20000

/-- One seat's tags are others now. -/
def retag (X : List Sx) (x : Sx) (l : List Int) : List Sx := X.map fun y => if y.p = x.p then { y with s := { y.s with t := l } } else y
section
variable {w w' : World} {p mb : Nat} {v : Value} {X : List Sx}
theorem retag_p (X : List Sx) (x : Sx) (l : List Int) : pcs (retag X x l) = pcs X := by
  unfold pcs retag
  rw [List.map_map]
  refine List.map_congr_left fun y _ => ?_
  show (Value.pointer (some ⟨(if y.p = x.p then { y with s := { y.s with t := l } } else y).p, 0, none⟩)) = _
  by_cases e : y.p = x.p
  · rw [if_pos e]
  · rw [if_neg e]
theorem retag_c (X : List Sx) (x : Sx) (l : List Int) : ccs (retag X x l) = ccs X := by
  unfold ccs retag
  rw [List.map_map]
  refine List.map_congr_left fun y _ => ?_
  show ((if y.p = x.p then { y with s := { y.s with t := l } } else y).s.c, (if y.p = x.p then { y with s := { y.s with t := l } } else y).p) = _
  by_cases e : y.p = x.p
  · rw [if_pos e]
  · rw [if_neg e]
theorem retag_mem {x z : Sx} {l : List Int} (h : z ∈ retag X x l) : ∃ y ∈ X, z.p = y.p ∧ z.b = y.b ∧ ((y.p = x.p ∧ z = { y with s := { y.s with t := l } }) ∨ (y.p ≠ x.p ∧ z = y)) := by
  obtain ⟨y, hy, rfl⟩ := List.mem_map.1 h
  by_cases e : y.p = x.p
  · rw [if_pos e]; exact ⟨y, hy, rfl, rfl, .inl ⟨e, rfl⟩⟩
  · rw [if_neg e]; exact ⟨y, hy, rfl, rfl, .inr ⟨e, rfl⟩⟩
theorem retag_pair (X : List Sx) (x : Sx) (l : List Int) (h : X.Pairwise fun x y => x.p ≠ y.p ∧ x.b ≠ y.b) : (retag X x l).Pairwise fun x y => x.p ≠ y.p ∧ x.b ≠ y.b := by
  unfold retag
  rw [List.pairwise_map]
  refine h.imp fun {a b} hab => ?_
  have e1 : ∀ y : Sx, (if y.p = x.p then { y with s := { y.s with t := l } } else y).p = y.p ∧ (if y.p = x.p then { y with s := { y.s with t := l } } else y).b = y.b := fun y => by
    by_cases e : y.p = x.p
    · rw [if_pos e]; exact ⟨rfl, rfl⟩
    · rw [if_neg e]; exact ⟨rfl, rfl⟩
  rw [(e1 a).1, (e1 a).2, (e1 b).1, (e1 b).2]
  exact hab
theorem retag_s (h : DkAt w p mb v X) {x : Sx} (hx : x ∈ X) (l : List Int) (ok : LOk (X.map Sx.s)) : (retag X x l).map Sx.s = (X.map Sx.s).map fun s => if s.c = x.s.c then { s with t := l } else s := by
  unfold retag
  rw [List.map_map, List.map_map]
  refine List.map_congr_left fun y hy => ?_
  show (if y.p = x.p then { y with s := { y.s with t := l } } else y).s = if y.s.c = x.s.c then { y.s with t := l } else y.s
  by_cases e : y.p = x.p
  · rw [if_pos e, h.ptr_inj hy hx e, if_pos rfl]
  · rw [if_neg e, if_neg fun hc => e ?_]
    have hcl := (ccs_cl ok).diff
    unfold Diff ccs at hcl
    rw [List.pairwise_map] at hcl
    obtain ⟨i, hi, rfl⟩ := List.getElem_of_mem hy
    obtain ⟨j, hj, rfl⟩ := List.getElem_of_mem hx
    rcases Nat.lt_trichotomy i j with hij | rfl | hij
    · exact absurd (by unfold ckl; rw [hc]) (List.pairwise_iff_getElem.1 hcl i j hi hj hij)
    · rfl
    · exact absurd (by unfold ckl; rw [hc]) (List.pairwise_iff_getElem.1 hcl j i hj hi hij)
theorem DkAt.tags (h : DkAt w p mb v X) {x : Sx} (hx : x ∈ X) {l : List Int} (hT : TAt w' x.b l) (hg : w.grownBy w' (some x.b)) : DkAt w' p mb v (retag X x l) := by
  have far : ∀ k, footD p mb v X k → k ≠ x.b → w'.heap[k]? = w.heap[k]? := fun k hk hne => hg.block k (h.lts k hk) (by simpa using hne)
  obtain ⟨n1, n2, n3, n4, n5⟩ := h.seat_ne hx
  refine ⟨(far p (.inl rfl) n3.symm).trans h.blk, ?_, ?_, ?_, retag_pair X x l h.ap, ?_⟩
  · rw [retag_c]; exact h.mp.same (far mb (.inr (.inl rfl)) n4.symm)
  · rw [retag_p]; exact own1_same h.row fun g hg' => far g (.inr (.inr (.inl hg'))) ((h.row_ne hg').2.2 x hx).2
  · intro z hz
    obtain ⟨y, hy, _, _, ⟨e, rfl⟩ | ⟨e, rfl⟩⟩ := retag_mem hz
    · obtain rfl := h.ptr_inj hy hx e
      refine ⟨(far y.p (.inr (.inr (.inr ⟨y, hy, .inl rfl⟩))) (n5 y hy)).trans (h.seats y hy).blk, hT⟩
    · refine (h.seats z hy).same (far _ (.inr (.inr (.inr ⟨z, hy, .inl rfl⟩))) ((h.seat_ne hy).2.2.2.2 x hx)) (far _ (.inr (.inr (.inr ⟨z, hy, .inr rfl⟩))) (h.pair hy hx e))
  · intro z hz
    obtain ⟨y, hy, _, e2, _⟩ := retag_mem hz
    rw [e2]; exact h.nm y hy
theorem foot_retag (x : Sx) (l : List Int) : ∀ k, footD p mb v (retag X x l) k → footD p mb v X k := by
  rintro k (rfl | rfl | hk | ⟨z, hz, hk⟩)
  · exact .inl rfl
  · exact .inr (.inl rfl)
  · exact .inr (.inr (.inl hk))
  · obtain ⟨y, hy, e1, e2, _⟩ := retag_mem hz
    exact .inr (.inr (.inr ⟨y, hy, by rw [← e1, ← e2]; exact hk⟩))
end
/-- What Settle tells. -/
def settleV (L : List Se) (c t : Int) : Value := match findC L c with
  | none => .tuple #[.string ⟨#[]⟩, .int .i64 3]
  | some s => if hasB s t then .tuple #[.string s.q, .int .i64 0] else .tuple #[.string ⟨#[]⟩, .int .i64 10]
set_option maxHeartbeats 1000000 in
theorem settle_any (p : Nat) (F : Nat → Prop) (L : List Se) (c t : Int) (w : World) (h : Dk w p F L) (ok : LOk L) (hc : I64 c) (ht : U64 t) :
    Calls Try.prog 22 #[.pointer (some ⟨p, 0, none⟩), .int .i64 c, .int .u64 t] w fun e w' => e = .returned (settleV L c t) ∧ ∃ F', Dk w' p F' (settleL L c t) ∧ Moved w w' F F' := by
  obtain ⟨mb, v, X, hd, rfl, rfl⟩ := h
  have hF := find_at hd ok hc
  have hfs := findX_s X c
  have HK : Hid (∃ F', Dk w p F' (X.map Sx.s) ∧ Moved w w (footD p mb v X) F') := ⟨_, ⟨mb, v, X, hd, rfl, rfl⟩, .refl _ _⟩
  cases hf : findX X c with
  | none =>
    rw [hf] at hF hfs
    have e1 : settleV (X.map Sx.s) c t = .tuple #[.string ⟨#[]⟩, .int .i64 3] := by unfold settleV; rw [← hfs]; rfl
    have e2 : settleL (X.map Sx.s) c t = X.map Sx.s := by unfold settleL settleE; rw [← hfs]; rfl
    rw [e1, e2]
    simp only [Option.map_none, ptrO, Option.isSome_none, Bool.false_eq_true, if_false] at hF
    clear hd hfs hf e1 e2
    go_enter Try.func22, Try.ntmps22
    go_wp2_with (go_at_call 33; refine hF.mono ?_; rintro e w ⟨rfl, rfl⟩)
    go_ret2
    exact ⟨rfl, HK.out⟩
  | some x =>
    rw [hf] at hF hfs
    obtain ⟨hx, hxc⟩ := findX_some hf
    have hs := hd.seats x hx
    have hH := has_at hs ht
    have hso := ok.ok x.s (List.mem_map.2 ⟨x, hx, rfl⟩)
    simp only [Option.map_some, ptrO, Option.isSome_some, if_true] at hF
    cases hh : hasB x.s t with
    | false =>
      have e1 : settleV (X.map Sx.s) c t = .tuple #[.string ⟨#[]⟩, .int .i64 10] := by unfold settleV; rw [← hfs]; simp [hh]
      have e2 : settleL (X.map Sx.s) c t = X.map Sx.s := by unfold settleL settleE; rw [← hfs]; simp [hh]
      rw [e1, e2]
      rw [hh] at hH
      have HM : Hid (∀ w', Below w.heap.size w w' → ∃ F', Dk w' p F' (X.map Sx.s) ∧ Moved w w' (footD p mb v X) F') := fun w' b => ⟨_, ⟨mb, v, X, hd.same fun k hk => b.block k (hd.lts k hk), rfl, rfl⟩, Moved.of_below b⟩
      clear hd hfs hf e1 e2 hs hso
      generalize x.p = q at *
      go_enter Try.func22, Try.ntmps22
      go_wp2_with (first | (go_at_call 33; refine hF.mono ?_; rintro e w ⟨rfl, rfl⟩) | (go_at_call 43; refine hH.mono ?_; rintro e w2 ⟨rfl, b2⟩))
      go_ret2
      exact ⟨rfl, HM.out _ b2⟩
    | true =>
      have e1 : settleV (X.map Sx.s) c t = .tuple #[.string x.s.q, .int .i64 0] := by unfold settleV; rw [← hfs]; simp [hh]
      have e2 : settleL (X.map Sx.s) c t = (retag X x (cutU t x.s.t)).map Sx.s := by
        rw [retag_s hd hx _ ok]
        unfold settleL settleE
        rw [← hfs]
        simp only [Option.map_some, hh, if_true]
        refine List.map_congr_left fun s hs' => ?_
        rw [hxc]
        by_cases e : s.c = c
        · rw [if_pos e, if_pos e]
          obtain rfl := ok.unique hs' (List.mem_map.2 ⟨x, hx, rfl⟩) (e.trans hxc.symm)
          rfl
        · rw [if_neg e, if_neg e]
      rw [e1, e2]
      rw [hh] at hH
      have HM : Hid (∀ w2, Below w.heap.size w w2 → w2.cell? ⟨x.p, 3, none⟩ = some (.map (some x.b)) ∧ ∃ f : TypeId → World, ∀ ty, (Builtin.delete_ #[85, 31] ty #[.map (some x.b), .int .u64 t]).run Try.prog w2 = .ok (.tuple #[]) (f ty) ∧ (f ty).cell? ⟨x.p, 1, none⟩ = some (.string x.s.q) ∧ Hid (∃ F', Dk (f ty) p F' ((retag X x (cutU t x.s.t)).map Sx.s) ∧ Moved w (f ty) (footD p mb v X) F')) := fun w2 b => by
        have hd2 : DkAt w2 p mb v X := hd.same fun k hk => b.block k (hd.lts k hk)
        have hs2 := hd2.seats x hx
        obtain ⟨f, hf⟩ := hs2.tags.del (tl_of_up hso.up hso.pos) ht
        refine ⟨hs2.cells.2.2.2, f, fun ty => ?_⟩
        obtain ⟨f1, f2, f3⟩ := hf ty
        have hd3 := hd2.tags hx f2 f3
        refine ⟨f1, ?_, ⟨_, ⟨mb, v, _, hd3, rfl, rfl⟩, ?_⟩⟩
        · rw [← hs2.cells.2.1]
          exact World.cell?_of_block (a := ⟨x.p, 1, none⟩) (f3.block x.p hs2.lts.1 (by simpa using (hd2.seat_ne hx).2.2.2.2 x hx))
        · refine (Moved.of_below b).trans ⟨f3.os, f3.tape, f3.output, f3.size, fun k hk hn => f3.block k hk (fun e => hn ?_), fun k hk => .inl (foot_retag x _ k hk)⟩
          injection e with e
          exact .inr (.inr (.inr ⟨x, hx, .inr e⟩))
      clear hd hfs hf e1 e2 hs hso
      generalize x.p = q at *
      generalize x.b = qb at *
      generalize x.s.q = qq at *
      go_enter Try.func22, Try.ntmps22
      go_wp2_with (first | (go_at_call 33; refine hF.mono ?_; rintro e w ⟨rfl, rfl⟩) | (go_at_call 43; refine hH.mono ?_; rintro e w2 ⟨rfl, b2⟩; obtain ⟨k3, f, hf⟩ := HM.out w2 b2; have hd1 := fun ty => (hf ty).1; have hd2 := fun ty => (hf ty).2.1; have hd3 := fun ty => (hf ty).2.2; clear hf))
      go_ret2
      exact ⟨rfl, (hd3 _).out⟩
end Go.Proofs.Ytooaiomghbjpiaa
