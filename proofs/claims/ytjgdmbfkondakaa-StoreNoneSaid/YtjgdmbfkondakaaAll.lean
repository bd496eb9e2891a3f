/-
  all, and the function that it hands back, by their contracts.
-/
import Derived.Test.YtjgdmbfkondakaaFFail
import Derived.Test.YtjgdmbfkondakaaLoops
namespace Go.Proofs.Ytjgdmbfkondakaa
open Go.RowKit Go.Maps Go.Shelf Go.Sort

attribute [local go_sem] Oper.semAt_some

theorem all_any (mb : Option Nat) (w : World) :
    Calls Try.prog 21 #[.map mb] w fun e w' => e = .returned (.func (.func 41) #[] #[.pointer (some ⟨w.heap.size, 0, none⟩)]) ∧ w' = w.alloc (.cells #[.map mb] 28) := by
  go_enter Try.func21, Try.ntmps21
  go_wp2
  go_ret
  exact ⟨rfl, rfl⟩
theorem ranges_kept {w w' : World} {b r n N cnt : Nat} {D : DataW (Option Nat)} {left : Lit → Bool} (h : w.ranges Try.prog 9 rdP b r n D left cnt) (hk : KpW N b w w') (hN : N ≤ r) : w'.ranges Try.prog 9 rdP b r n D left cnt := by
  obtain ⟨es, clock, since, seen, c0, hb, F, hs, hD, hr, rest⟩ := h
  exact ⟨es, clock, since, seen, c0, hk.same b _ (.inr rfl) hb rfl, F, hs, hD, hk.same r _ (.inl hN) hr rfl, rest⟩

set_option maxRecDepth 100000 in
set_option maxHeartbeats 2000000 in
theorem all_seq (n : Nat) (hn : 1 ≤ n) (Bd b : Nat) (out : List Pe) (hr : DL out) (w : World) (hBd : w.cell? ⟨Bd, 0, none⟩ = some (.map (some b))) (hown : DAt w b out) :
    SeqP Fence.wide n Try.prog 41 #[.pointer (some ⟨Bd, 0, none⟩)] (fun x : Pe => #[.string x.1, .pointer (some ⟨x.2, 0, none⟩)]) w.heap.size b (fun pre x => x ∈ out ∧ x ∉ pre) (fun xs => xs.Perm out) w := fun l J W hW hJ hY h0 => by
  have hm : W.cell? ⟨Bd, 0, none⟩ = some (.map (some b)) := (hW.cell (p := ⟨Bd, 0, none⟩) (World.block_lt_of_cell? _ _ hBd)).trans hBd
  have ho : DAt W b out := hown.same (hW.block b hown.lt)
  have hN : w.heap.size ≤ W.heap.size := hW.size
  clear hBd hown
  show CallsIn Fence.wide n Try.prog 41 #[.func (.yield l) #[] #[], .pointer (some ⟨Bd, 0, none⟩)] W _
  refine callsIn_of_wp Try.func41 rfl trivial ?_ rfl
  simp only [Try.ntmps41, List.size_toArray, List.length_cons, List.length_nil, Nat.reduceAdd, Nat.reduceSub, Array.replicate_succ, Array.replicate_zero, List.push_toArray, List.append_toArray, List.nil_append, List.cons_append]
  have hD : Maps.size (DofG pkl pd out) = out.length := size_DofG out
  gi_wp2_with (first
    | (gi_at_range; refine wpListIn_range_own _ rfl _ 28 rfl 9 51 sKeyed Try.underlying28 rdP b out.length (DofG pkl pd out) rfl ho ?_; intro w0 hrg0 hg0 hs0)
    | gi_in)
  gi_loopw [3, 4] (fun _ _ wr => ∃ (left : Lit → Bool) (cnt : Nat) (ps : List Pe), wr.ranges Try.prog 9 rdP b W.heap.size out.length (DofG pkl pd out) left cnt ∧ ComeG pkl out left ps ∧ J ps wr)
    (fun _ _ wr => wr.rangeLeft b W.heap.size)
  case atStart =>
    exact ⟨_, _, [], hrg0, ComeG.start sKeyed.one hr.keys, hJ [] W w0 none h0 hg0 (fun r e => by cases e)⟩
  case round =>
    obtain ⟨left, cnt, ps, hrg, hC, hJs⟩ := hrel
    gi_wp2_with (first
      | (gi_at_next; refine wpListIn_next_ranges _ rfl _ rfl 9 sKeyed rdP (fun s : ByteArray => Value.string s) ptrO (fun key kl hk => by obtain ⟨s, hs, _⟩ := skey_inv hk; exact ⟨s, hs⟩) (fun v y hv => by obtain ⟨c, hc, _⟩ := rdP_inv hv; exact ⟨c, hc⟩) b W.heap.size out.length _ _ _ rfl hrg ?_ ?_)
      | gi_in)
    · intro hc0 hl0
      gi_wp2
      go_end0
      exact ⟨⟨_, rfl⟩, ps, hC.perm hr.diff hl0, hJs⟩
    · intro s c kl yd yp w2 cnt2 hkey hlk hv hat hrg2 hlt hg2 hs2 hen
      obtain ⟨x, hx, hxk, hxv⟩ := p_entry hr hv hat
      obtain ⟨s', hs', hkl⟩ := skey_inv hkey
      obtain rfl : s = x.1 := by
        injection hs' with hs'
        subst hs'
        rw [hkl] at hxk
        exact (str_inj hxk).symm
      obtain rfl : c = some x.2 := by
        cases c with
        | none => cases hxv
        | some c => unfold ptrO at hxv; simp at hxv; rw [hxv]
      subst hxk
      have hJ2 : J ps w2 := hJ ps wr w2 (some W.heap.size) hJs hg2 (fun r e => by cases e; exact ⟨Nat.le_refl _, hrg.iter_walk⟩)
      have hnp : x ∉ ps := fun hm => by have := (hC.2.2 x hx).1 hm; rw [hlk] at this; cases this
      obtain ⟨fn, tmps, assign, body, hy, hR⟩ := hY ps x w2 hJ2 ⟨hx, hnp⟩
      clear hs2 hkey hv hat hs' hkl hxv
      unfold ptrO at *
      gi_wp2
      refine hR.mono ?_
      have hC2 := hC.step sKeyed.one hr.keys hr.diff hx hlk
      rintro e W3 ⟨rfl, hJ4, hk4⟩
      gi_wp2
      have hrg4 := ranges_kept hrg2 hk4 hN
      go_roundw
      case rel => exact ⟨_, cnt2, ps ++ [x], hrg4, hC2, hJ4⟩
      case measure => rw [hrg4.left_eq, hrg.left_eq]; exact hlt
end Go.Proofs.Ytjgdmbfkondakaa
