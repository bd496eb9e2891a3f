/-
  PACKAGE inbox: Ack, by its contract.
-/
import Derived.Test.YtkdjpleedaldcaaAck21
namespace Go.Proofs.Ytkdjpleedaldcaa
open Go.RowKit Go.Maps Go.Shelf
set_option maxRecDepth 20000

attribute [local go_sem] Oper.semAt_some

theorem places_stops (n : Nat) (hn : 1 ≤ n) (Bn p b : Nat) (m : Ib) (ok : m.Ok) (w w0 : World) (hg : IAt w p b m) (hb : Below w.heap.size w w0) (hBn : Bn < w0.heap.size) (hc : w0.cell? ⟨Bn, 0, none⟩ = some (.pointer (some ⟨p, 0, none⟩))) :
    SeqStopsK Fence.wide n Try.prog 35 #[.pointer (some ⟨Bn, 0, none⟩)] (fun x : Nat => #[Value.int .i64 (x : Int)]) (KeepB w.heap.size Bn) (fun ys => ys = liveI m) (fun pre => pre <+: liveI m) m.s w0 := fun l J Jx W hW hJ _ hY h0 =>
  places1_in n hn l Bn p b m ok w hg J Jx hY (fun s V V' h g => hJ s V V' none h g (fun r h => by cases h)) W (hb.trans (hW.mono hb.size)) ((hW.cell (p := ⟨Bn, 0, none⟩) hBn).trans hc) h0
/-- The set of those that have come, as an int may be. -/
def setW (l : List Nat) : Nat := l.foldl (fun a (k : Nat) => withS a (wrap64 ((k : Int) - 1))) 0
theorem setW_snoc (l : List Nat) (k : Nat) : setW (l ++ [k]) = withS (setW l) (wrap64 ((k : Int) - 1)) := by simp [setW]
theorem setW_set (l : List Nat) : IsSet (setW l) := by
  have : ∀ (l : List Nat) (a : Nat), IsSet a → IsSet (l.foldl (fun a (k : Nat) => withS a (wrap64 ((k : Int) - 1))) a) := by
    intro l
    induction l with
    | nil => exact fun a h => h
    | cons k l ih => exact fun a h => ih _ (withS_set _ h)
  exact this l 0 (by decide)
theorem setW_live {m : Ib} (ok : m.Ok) : setW (liveI m) = ackS m := by
  have : ∀ (l : List Nat) (a : Nat), (∀ k ∈ l, k < 64) → l.foldl (fun a (k : Nat) => withS a (wrap64 ((k : Int) - 1))) a = l.foldl (fun a (k : Nat) => withS a ((k : Int) - 1)) a := by
    intro l
    induction l with
    | nil => exact fun a _ => rfl
    | cons k l ih =>
      intro a h
      have hk := h k (by simp)
      rw [List.foldl_cons, List.foldl_cons, ih _ (fun j hj => h j (by simp [hj]))]
      congr 2
      unfold wrap64; omega
  refine this _ 0 fun k hk => ?_
  have := (mem_live.1 hk).1
  have := ok.s2
  omega
theorem boxed_fn {β : Type} (B : Nat) (t : TypeId) (v : β → Value) : Own (fun (s : β) W => Boxed W B t (v s)) := by
  intro s X Y row h hg hrow
  refine h.kept hg fun e => ?_
  obtain ⟨o, ho, hc⟩ := hrow B e.symm
  rw [show X.heap[B]? = _ from h] at ho
  cases ho
  cases hc
theorem keepsFrom_below {B : Nat} {W W' : World} (h : Below W.heap.size W W') : KeepsFrom B W W' := KeepsFrom.of_grownBy (row := none) ⟨h.os, h.tape, h.output, h.size, fun i hi _ => h.block i hi⟩ (fun j h => by cases h)

set_option maxRecDepth 100000 in
set_option maxHeartbeats 2000000 in
theorem ack_in (w : World) (p b : Nat) (m : Ib) (h : IAt w p b m) (ok : m.Ok) :
    CallsIn Fence.wide 3 Try.prog 19 #[.pointer (some ⟨p, 0, none⟩)] w fun e W' => e = .returned (.tuple #[.int .u16 m.n, .int .u64 (ackS m)]) ∧ Below w.heap.size w W' := by
  have hmx : Try.prog.follows .mixedOrders = true := by kernel_rfl
  have hM := imade_at h ok
  have HI : Hid (IAt w p b m) := h
  have HK : Hid m.Ok := ok
  have hplt := h.lt
  have hst := places_stops 2 (by decide) (w.heap.size + 1) p b m ok w
  clear h ok
  refine callsIn_of_wp_marks Try.func19 rfl trivial ?_ rfl
  simp only [Try.ntmps19, List.size_toArray, List.length_cons, List.length_nil, Nat.reduceAdd, Nat.reduceSub, Array.replicate_succ, Array.replicate_zero, List.push_toArray, List.append_toArray, List.nil_append, List.cons_append]
  gi_wp2_with (first
    | (refine ⟨trivial, ?_⟩; gi_at_call 26; refine (callsIn_wide.2 hM).mono ?_; rintro e w ⟨rfl, rfl⟩)
    | (refine ⟨trivial, ?_⟩; gi_at_call 31; refine (callsIn_wide.2 (places_any _ _)).mono ?_; rintro e w' ⟨rfl, rfl⟩))
  have bO := Boxed.new w 29 (.int .u64 0)
  have bN := Boxed.new (w.alloc (.cells #[.int .u64 0] 29)) 23 (.pointer (some ⟨p, 0, none⟩))
  simp only [World.size_alloc] at bN
  have hB0 : Below w.heap.size w ((w.alloc (.cells #[.int .u64 0] 29)).alloc (.cells #[.pointer (some ⟨p, 0, none⟩)] 23)) := ((Below.refl _ _).alloc (Nat.le_refl _) _).alloc (by simp) _
  refine wpIn_rangeFunc_ownG rfl (by decide) (gf := 35) (lb := #[.pointer (some ⟨w.heap.size + 1, 0, none⟩)]) rfl trivial (enters_of Try.func35 (by kernel_rfl) rfl)
    (hst _ HI.out hB0 bN.lt bN.cell) keepB_t (keepB_b (by simp; omega) bN.lt) (Below.refl _ _) (fun _ => rfl)
    (fun pre W => (Boxed W w.heap.size 29 (.int .u64 (setW pre)) ∧ Boxed W (w.heap.size + 1) 23 (.pointer (some ⟨p, 0, none⟩))) ∧ Below w.heap.size w W)
    (fun _ _ _ => False)
    (OwnFrom.and (OwnFrom.and (Own.from (boxed_fn _ _ _) _) (Own.from (boxed_fn _ _ _) _)) (ownFrom_below (Nat.le_refl _) (by simp; omega)))
    (fun _ _ _ _ _ hs _ _ => hs)
    ⟨⟨bO.alloc _, bN⟩, hB0⟩
    (fun x => { tmps := #[.pointer (some ⟨p, 0, none⟩), undef, .int .u16 0, .int .u64 0, .pointer (some ⟨w.heap.size, 0, none⟩), .int .i64 (x : Int), .pointer (some ⟨p, 0, none⟩), .bool true, .bool false, .pointer (some ⟨p, 0, none⟩), .func (.func 35) #[] #[.pointer (some ⟨w.heap.size + 1, 0, none⟩)], .int .i64 (x : Int), undef, undef, undef, undef, undef, undef, undef, undef, undef], defers := [] }) ?assign ?body ?done ?stop
  case assign =>
    intro l x W K hK
    gi_wp2
    exact hK
  case body =>
    rintro l pre x W ⟨⟨hO, hN⟩, hB⟩ hlt
    have hc := hO.cell
    have hsz : w.heap.size ≤ W.heap.size := hB.size
    have hWi := with_any (setW pre) (wrap64 ((x : Int) - 1)) W (setW_set pre)
    rw [← setW_snoc] at hWi
    generalize setW pre = s0 at *
    obtain ⟨s1, hs1⟩ : ∃ z, setW (pre ++ [x]) = z := ⟨_, rfl⟩
    rw [hs1] at hWi
    have HS1 : Hid (setW (pre ++ [x]) = s1) := hs1
    clear hs1
    gi_wp2_with (refine ⟨trivial, ?_⟩; gi_at_call 32; refine (CallsIn.inRound l (callsIn_wide.2 hWi)).mono ?_; rintro e w2 ⟨rfl, b2⟩; have hO2 : Boxed w2 w.heap.size 29 (.int .u64 s0) := (b2.block _ hO.lt).trans hO; have hc2 := hO2.cell; have hf2 := hO2.frozen)
    have hN2 : Boxed w2 (w.heap.size + 1) 23 (.pointer (some ⟨p, 0, none⟩)) := (b2.block _ hN.lt).trans hN
    have hO3 := hO2.set (.int .u64 s1)
    have hN3 : Boxed (w2.setCell ⟨w.heap.size, 0, none⟩ (.int .u64 s1)) (w.heap.size + 1) 23 (.pointer (some ⟨p, 0, none⟩)) := hN2.other (by omega) _
    have b3 : Below w.heap.size W (w2.setCell ⟨w.heap.size, 0, none⟩ (.int .u64 s1)) := (b2.mono hsz).setCell (p := ⟨w.heap.size, 0, none⟩) (Nat.le_refl _) _
    refine ⟨(keepsFrom_below b2).trans ((KeepsOthers.setCell w2 _ _).from _), ⟨b3, ?_⟩, ⟨by rw [HS1.out]; exact hO3, hN3⟩, hB.trans b3⟩
    rw [show (w2.setCell ⟨w.heap.size, 0, none⟩ (.int .u64 s1)).heap[w.heap.size + 1]? = _ from hN3, show W.heap[w.heap.size + 1]? = _ from hN]
  case done =>
    rintro D ys W hD rfl ⟨⟨hO, hN⟩, hB⟩ hK
    have hc := hO.cell
    have hI := HI.out.below hB HI.out.lt HI.out.map.lt
    obtain ⟨_, c1, _⟩ := hI.cells
    rw [setW_live HK.out] at hc
    gi_wp2
    gi_region_o
    all_goals gi_wp2
    all_goals (
      refine ⟨by simp, .inl ⟨_, _, rfl, run_takeDeferred hK, ?_⟩⟩
      exact ⟨_, results_tmp2 rfl _ _ _, rfl, hB.trans (((Below.refl _ W).drew.mono hB.size).trans (belowK_b (w := w) (Nat.le_refl _) W.drew D _ _ (by simp at hD; omega) hK rfl rfl))⟩)
  case stop =>
    rintro D c pre W _ _ h _
    exact h.elim
theorem ack_at {w : World} {p b : Nat} {m : Ib} (h : IAt w p b m) (ok : m.Ok) :
    Calls Try.prog 19 #[.pointer (some ⟨p, 0, none⟩)] w fun e W' => e = .returned (.tuple #[.int .u16 m.n, .int .u64 (ackS m)]) ∧ Below w.heap.size w W' :=
  callsIn_wide.1 (ack_in w p b m h ok)
end Go.Proofs.Ytkdjpleedaldcaa
