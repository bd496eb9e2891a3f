/-
  maps.Values at the map of items: its iterator, for every loop body.
-/
import Derived.Test.YtocdfcaakflgpaaMaps
import Derived.RangeFuncNested
import Derived.RangeFuncBound
import Derived.RangeFuncCalls
import Derived.RangeFuncLeaves
import Derived.Shelf.Abstract
import Derived.Shelf.AbstractIn
import Derived.Shelf.RegionOpen
import Derived.Sort.MapsRangeIn
import Derived.Sort.KeysCollected
import Derived.WalkKit
import Derived.OwnWalkIn
import Derived.TacticsInMore
import Derived.RegionIn
import Derived.LoopNIn
import Derived.LoopIn
namespace Go.Proofs.Ytocdfcaakflgpaa
open Go.RowKit Go.Maps Go.Sort Go.Shelf

/-- Those that have come: each once, each of the map's; who has not come is still to come. -/
def Come (out : List It) (left : Lit → Bool) (ps : List It) : Prop := (ps.map (·.tag)).Nodup ∧ (∀ x ∈ ps, x ∈ out) ∧ ∀ x ∈ out, x ∈ ps ↔ left (.int .u64 (x.tag : Int)) = false
theorem Come.start (out : List It) : Come out (Maps.has (Dof out)) [] := by
  refine ⟨List.nodup_nil, by simp, fun x hx => ?_⟩
  rw [has_Dof, hasT_of_mem hx]; simp
theorem Rise.unique {l : List It} (h : Rise l) {x y : It} (hx : x ∈ l) (hy : y ∈ l) (e : x.tag = y.tag) : x = y := by
  induction l with
  | nil => cases hx
  | cons z r ih =>
    obtain ⟨h1, h2⟩ := List.pairwise_cons.1 h
    rcases List.mem_cons.1 hx with hxz | hxr
    · rcases List.mem_cons.1 hy with hyz | hyr
      · rw [hxz, hyz]
      · have := h1 y hyr; rw [← hxz] at this; omega
    · rcases List.mem_cons.1 hy with hyz | hyr
      · have := h1 x hxr; rw [← hyz] at this; omega
      · exact ih h2 hxr hyr
theorem Come.step {out : List It} (hr : Rise out) {left : Lit → Bool} {ps : List It} (h : Come out left ps) {c : It} (hc : c ∈ out) (hl : left (.int .u64 (c.tag : Int)) = true) : Come out (fun z => left z && !z.sameKey (.int .u64 (c.tag : Int))) (ps ++ [c]) := by
  obtain ⟨h1, h2, h3⟩ := h
  have hn : c ∉ ps := fun hm => by have := (h3 c hc).1 hm; rw [hl] at this; cases this
  refine ⟨?_, ?_, ?_⟩
  · rw [List.map_append, List.nodup_append]
    refine ⟨h1, by simp, fun a ha b hb e => ?_⟩
    simp at hb
    subst e hb
    obtain ⟨y, hy, hyt⟩ := List.mem_map.1 ha
    exact hn (hr.unique (h2 y hy) hc hyt ▸ hy)
  · intro x hx
    rcases List.mem_append.1 hx with hx | hx
    · exact h2 x hx
    · rw [List.mem_singleton.1 hx]; exact hc
  · intro x hx
    rw [List.mem_append, h3 x hx, List.mem_singleton]
    simp only [sameKey_u64]
    by_cases e : x.tag = c.tag
    · have := hr.unique hx hc e
      subst this; simp
    · have : x ≠ c := fun h => e (by rw [h])
      have hb : (x.tag == c.tag) = false := by simpa using e
      simp [this, hb]
theorem Come.perm {out : List It} (hr : Rise out) {left : Lit → Bool} {ps : List It} (h : Come out left ps) (hl : ∀ kl, left kl = false) : ps.Perm out := by
  obtain ⟨h1, h2, h3⟩ := h
  have n1 : ps.Nodup := (List.pairwise_map.1 h1).imp (fun h e => h (by rw [e]))
  have n2 : out.Nodup := hr.imp (fun h e => by rw [e] at h; exact Nat.lt_irrefl _ h)
  rw [List.perm_ext_iff_of_nodup n1 n2]
  exact fun x => ⟨h2 x, fun hx => (h3 x hx).2 (hl _)⟩
set_option maxRecDepth 10000 in
theorem key_inv {key : Value} {kl : Lit} (h : keyOf Try.prog 29 key = some kl) : ∃ t : Nat, key = .int .u64 (t : Int) ∧ kl = .int .u64 (t : Int) := by
  have hu := Try.underlying29
  simp only [keyOf, hu, mapKey] at h
  cases key with
  | int q n =>
    simp at h
    obtain ⟨⟨rfl, hw⟩, rfl⟩ := h
    have h1 : IntKind.u64.min = 0 := rfl
    simp [Lit.wf, h1] at hw
    exact ⟨n.toNat, by congr 1; omega, by congr 1; omega⟩
  | _ => simp at h
/-- The entry that has come is an item of the list. -/
theorem entry_item {out : List It} {t : Nat} {c : It} {yd : DataW It} {yp : List MemPlace} (hv : rdIt (iv c) = some (yd, yp)) (hat : ∀ zd, (Dof out).atKey (.int .u64 (t : Int)) zd = yd) : c ∈ out ∧ c.tag = t := by
  rw [rdIt_iv] at hv
  simp at hv
  obtain ⟨rfl, rfl⟩ := hv
  have h1 := hat .nil
  rw [atKey_Dof] at h1
  cases hf : findT out t with
  | none => rw [hf] at h1; cases h1
  | some x =>
    rw [hf] at h1
    injection h1 with h1
    subst h1
    exact findT_some hf

set_option maxRecDepth 100000 in
set_option maxHeartbeats 1000000 in
theorem values1_in (F : Fence) (n : Nat) (h58 : F.fn 58) (hro : F.round = none) (hn : 1 ≤ n) (l Bm b : Nat) (out : List It) (hr : Rise out) (J Jx : List It → World → Prop)
    (hY : ∀ pre x W, J pre W → pre.length < out.length → YieldAt F (n - 1) Try.prog l #[iv x] W fun e W' =>
      (e = .returned (.bool true) ∧ J (pre ++ [x]) W' ∧ KeepsWalks W W') ∨ (e = .returned (.bool false) ∧ Jx (pre ++ [x]) W'))
    (W : World) (hJ : AbidesFrom W.heap.size J) (hm : W.cell? ⟨Bm, 0, none⟩ = some (.map (some b))) (hown : OutAt W b out) (h0 : J [] W) :
    CallsIn F n Try.prog 58 #[.func (.yield l) #[] #[], .pointer (some ⟨Bm, 0, none⟩)] W fun e W' => (∃ v, e = .returned v) ∧
      ((∃ xs, xs.Perm out ∧ J xs W') ∨ (∃ pre, True ∧ Jx pre W')) := by
  refine callsIn_of_wp Try.func58 rfl h58 ?_ hro
  simp only [Try.ntmps58, List.size_toArray, List.length_cons, List.length_nil, Nat.reduceAdd, Nat.reduceSub, Array.replicate_succ, Array.replicate_zero, List.push_toArray, List.append_toArray, List.nil_append, List.cons_append]
  have hD : Maps.size (Dof out) = out.length := size_Dof out
  gi_wp2_with (first
    | (gi_at_range; refine wpListIn_range_own _ rfl _ 62 rfl 29 38 keyed Try.underlying62 rdIt b out.length (Dof out) rfl hown ?_; intro w0 hrg0 hg0 hs0)
    | gi_in)
  go_frame
  gi_loopw [4] (fun _ wr => ∃ (left : Lit → Bool) (cnt : Nat) (ps : List It), wr.ranges Try.prog 29 rdIt b W.heap.size out.length (Dof out) left cnt ∧ ps.length + cnt ≤ out.length ∧ Come out left ps ∧ J ps wr)
    (fun _ wr => wr.rangeLeft b W.heap.size)
  case atStart =>
    exact ⟨_, _, [], hrg0, by rw [hD]; simp, Come.start out, hJ [] W w0 none h0 hg0 (fun r e => by cases e)⟩
  case round =>
    obtain ⟨left, cnt, ps, hrg, hcs, hC, hJs⟩ := hrel
    gi_wp2_with (first
      | (gi_at_next; refine wpListIn_next_ranges _ rfl _ rfl 29 keyed rdIt (fun t : Nat => Value.int .u64 (t : Int)) iv (fun key kl hk => by obtain ⟨t, ht, _⟩ := key_inv hk; exact ⟨t, ht⟩) (fun v y hv => by obtain ⟨c, hc, _⟩ := rdIt_inv hv; exact ⟨c, hc⟩) b W.heap.size out.length _ _ _ rfl hrg ?_ ?_)
      | gi_in)
    · intro hc0 hl0
      gi_wp2
      go_end0
      exact ⟨⟨_, rfl⟩, .inl ⟨ps, hC.perm hr hl0, hJs⟩⟩
    · intro x c kl yd yp w2 cnt2 hkey hlk hv hat hrg2 hlt hg2 hs2 hen
      obtain ⟨t, ht, rfl⟩ := key_inv hkey
      obtain rfl : x = t := by simp at ht; omega
      obtain ⟨hc, rfl⟩ := entry_item hv hat
      have hJ2 : J ps w2 := hJ ps wr w2 (some W.heap.size) hJs hg2 (fun r e => by cases e; exact ⟨Nat.le_refl _, hrg.iter_walk⟩)
      obtain ⟨w3, fold⟩ : ∃ w3, w2.alloc (.cells #[.int .u64 (c.tag : Int), .int .i64 c.m.o, .int .u64 c.m.s, .int .i64 c.m.hop, .string c.m.ex, .string c.m.key, .string c.m.body, .bool c.again] 38) = w3 := ⟨_, rfl⟩
      have hJ3 : J ps w3 := hJ ps w2 w3 none hJ2 (by rw [← fold]; exact World.grownBy_alloc _ _ _) (fun r e => by cases e)
      have hrg3 := hrg2.alloc (.cells #[.int .u64 (c.tag : Int), .int .i64 c.m.o, .int .u64 c.m.s, .int .i64 c.m.hop, .string c.m.ex, .string c.m.key, .string c.m.body, .bool c.again] 38)
      rw [fold] at hrg3
      have i3 : ItAt w3 w2.heap.size 0 c := by rw [← fold]; constructor <;> simp [World.cell?_alloc_at]
      obtain ⟨x0, x1, x2, x3, x4, x5, x6, x7⟩ := i3
      simp only [Nat.zero_add] at x0 x1 x2 x3 x4 x5 x6 x7
      obtain ⟨fn, tmps, assign, body, hy, hR⟩ := hY ps c w3 hJ3 (by omega)
      clear hs2 ht hkey hv hat
      gi_wp2
      refine hR.mono ?_
      have hC2 := hC.step hr hc hlk
      rintro e W3 (⟨rfl, hJ4, hk4⟩ | ⟨rfl, hJx4⟩)
      · gi_wp2
        have hrg4 := hrg3.of_walks hk4
        go_roundw
        case rel => exact ⟨_, cnt2, ps ++ [c], hrg4, by simp; omega, hC2, hJ4⟩
        case measure => rw [hrg4.left_eq, hrg.left_eq]; exact hlt
      · gi_wp2
        refine bodyPost_ret (results_none rfl _ _ _) rfl ?_
        exact ⟨⟨_, rfl⟩, .inr ⟨ps ++ [c], trivial, hJx4⟩⟩
end Go.Proofs.Ytocdfcaakflgpaa
