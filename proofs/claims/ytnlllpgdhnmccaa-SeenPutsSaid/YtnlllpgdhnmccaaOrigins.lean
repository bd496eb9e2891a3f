/-
  PACKAGE seen: Origins, by its contract.
-/
import Derived.Test.YtnlllpgdhnmccaaAll
import Derived.Test.YtnlllpgdhnmccaaRow
namespace Go.Proofs.Ytnlllpgdhnmccaa
open Go.RowKit Go.Shelf

attribute [local go_sem] Oper.semAt_some

/-- all's word, for a loop over what it hands back. -/
theorem all_stops (n : Nat) (hn : 1 ≤ n) (Bn : Nat) (b : Value) (s : Nat → Value) (f : Nat → List (Nat × Nat)) (w w0 : World) (hg : Gives w b s f) (hb : Below w.heap.size w w0) (hBn : Bn < w0.heap.size) (hc : w0.cell? ⟨Bn, 0, none⟩ = some b) :
    SeqStopsK Fence.wide n Try.prog 53 #[.pointer (some ⟨Bn, 0, none⟩)] (fun x : Nat => #[Value.int .i64 ((x : Int) + 1), s x]) (KeepB w.heap.size Bn) (fun ys => ys = liveL f) (fun pre => pre <+: liveL f) 8 w0 := fun l J Jx W hW _ _ hY h0 =>
  all1_in n hn l Bn b s f w hg J Jx (fun pre x W _ => hY pre x W) W (hb.trans (hW.mono hb.size)) ((hW.cell (p := ⟨Bn, 0, none⟩) hBn).trans hc) h0
theorem infoInt : (Try.prog.info? 3).map (fun i => (i.zero, i.size, i.bytes)) = some (some (.int .i64 0), 1, 8) := by kernel_rfl
theorem boxed_own {β : Type} (B : Nat) (t : TypeId) (v : Value) : Own (fun (_ : β) W => Boxed W B t v) := by
  intro s X Y row h hg hrow
  refine h.kept hg fun e => ?_
  obtain ⟨o, ho, hc⟩ := hrow B e.symm
  rw [show X.heap[B]? = _ from h] at ho
  cases ho
  cases hc
def places (l : List Nat) : List Int := l.map fun i : Nat => (i : Int) + 1
theorem places_len (l : List Nat) : (places l).length = l.length := by simp [places]
theorem places_snoc (l : List Nat) (x : Nat) : places (l ++ [x]) = places l ++ [(x : Int) + 1] := by simp [places]

set_option maxRecDepth 100000 in
set_option maxHeartbeats 2000000 in
theorem origins_in (q : Option Addr) (f : Nat → List (Nat × Nat)) (w : World) (h : Told w (.pointer q) f) :
    CallsIn Fence.wide 3 Try.prog 23 #[.pointer q] w fun e W' => ∃ v, e = .returned v ∧ Row W' v (icells (places (liveL f))) ∧ Below w.heap.size w W' := by
  obtain ⟨s, hg⟩ := h.gives
  obtain ⟨i0, hi, hz0, hz1, hz2⟩ := info_parts infoInt
  clear h
  refine callsIn_of_wp_marks Try.func23 rfl trivial ?_ rfl
  simp only [Try.ntmps23, List.size_toArray, List.length_cons, List.length_nil, Nat.reduceAdd, Nat.reduceSub, Array.replicate_succ, Array.replicate_zero, List.push_toArray, List.append_toArray, List.nil_append, List.cons_append]
  gi_wp2_with (refine ⟨trivial, ?_⟩; gi_at_call 39; refine (callsIn_wide.2 (all_any q _)).mono ?_; rintro e w' ⟨rfl, rfl⟩)
  have bO := Boxed.new w 54 (.slice none 0 0)
  have bN := Boxed.new (w.alloc (.cells #[.slice none 0 0] 54)) 27 (.pointer q)
  simp only [World.size_alloc] at bN
  have hB0 : Below w.heap.size w ((w.alloc (.cells #[.slice none 0 0] 54)).alloc (.cells #[.pointer q] 27)) := ((Below.refl _ _).alloc (Nat.le_refl _) _).alloc (by simp) _
  refine wpIn_rangeFunc_ownG rfl (by decide) (gf := 53) (lb := #[.pointer (some ⟨w.heap.size + 1, 0, none⟩)]) rfl trivial (enters_of Try.func53 (by kernel_rfl) rfl)
    (all_stops _ (by decide) (w.heap.size + 1) (.pointer q) s f w _ hg hB0 bN.lt bN.cell) keepB_t (keepB_b (by simp; omega) bN.lt) (Below.refl _ _) (fun _ => rfl)
    (fun pre W => ((∃ v, Boxed W w.heap.size 54 v ∧ W.ownsRow w.heap.size 3 1 v pre.length (icells (places pre)) ∧ True) ∧ Boxed W (w.heap.size + 1) 27 (.pointer q)) ∧ Below w.heap.size w W)
    (fun _ _ _ => False)
    (OwnFrom.and (OwnFrom.and (Own.from (holdsRow_own w.heap.size w.heap.size 54 3 1 (fun pre : List Nat => pre.length) (fun pre => icells (places pre)) (fun _ _ => True)) _) (Own.from (boxed_own _ _ _) _)) (ownFrom_below (Nat.le_refl _) (by simp; omega)))
    (fun _ _ _ _ _ hs _ _ => hs)
    ⟨⟨⟨_, bO.alloc _, World.ownsRow_nil _ _ _ _, trivial⟩, bN⟩, hB0⟩
    (fun x => { tmps := #[.pointer q, undef, .slice none 0 0, .pointer (some ⟨w.heap.size, 0, none⟩), .int .i64 ((x : Int) + 1), .pointer q, .func (.func 53) #[] #[.pointer (some ⟨w.heap.size + 1, 0, none⟩)], .int .i64 ((x : Int) + 1), s x, undef, undef, undef, undef, undef], defers := [] }) ?assign ?body ?done ?stop
  case assign =>
    intro l x W K hK
    gi_wp2
    exact hK
  case body =>
    rintro l pre x W ⟨⟨⟨v, hv, hrow, _⟩, hN⟩, hB⟩ hlt
    have hc := hv.cell
    have hsz : w.heap.size ≤ W.heap.size := hB.size
    obtain ⟨ga, gc, hgv⟩ : ∃ a cap, v = .slice a pre.length cap := by
      obtain ⟨a, cap, h⟩ := (row_of_owns (cs := icells (places pre)) (by rw [icells_length, places_len]; exact hrow)).slice
      rw [icells_length, places_len] at h
      exact ⟨a, cap, h⟩
    subst hgv
    gi_wp2_with (gi_at_builtin; refine wpListIn_append_own _ rfl _ _ 54 rfl w.heap.size 3 i0 (.int .i64 0) 1 8 Try.underlying54 hi hz0 hz1 hz2 rfl (by decide) _ _ _ rfl (hrow.alloc _) ⟨W.heap.size, 0, none⟩ 1 1 [.int .i64 ((x : Int) + 1)] rfl rfl (cell_one_new _ _ _) (by simp [Value.oneCell']) (by unfold maxLen; omega) (by omega) (by simp; omega) ?_; intro v' w1 hown' hgrow _; obtain ⟨g', cap', rfl⟩ := ownsRow_succ hown'; obtain ⟨hv1, hv2, hr2, hk2, hb2⟩ := hv.appended (by decide) hrow hsz (Nat.le_refl _) hown' hgrow; have hc1 := hv1.cell; have hf1 := hv1.frozen; have hN1 : Hid _ := (hN.alloc _).kept hgrow (hN.not_row (by decide) hrow))
    have hN2 : Boxed (w1.setCell ⟨w.heap.size, 0, none⟩ (.slice (some ⟨g', 0, none⟩) (pre.length + 1) cap')) (w.heap.size + 1) 27 (.pointer q) := (Below.heap_setCell _ _ _ _ (show w.heap.size + 1 ≠ w.heap.size by omega)).trans hN1.out
    refine ⟨hk2.from _, ⟨hb2, ?_⟩, ⟨⟨_, hv2, ?_, trivial⟩, hN2⟩, hB.trans hb2⟩
    · rw [show (w1.setCell ⟨w.heap.size, 0, none⟩ (.slice (some ⟨g', 0, none⟩) (pre.length + 1) cap')).heap[w.heap.size + 1]? = _ from hN2, show W.heap[w.heap.size + 1]? = _ from hN]
    · rw [places_snoc, icells_append, List.length_append]
      exact hr2
  case done =>
    rintro D ys W hD rfl ⟨⟨⟨v, hv, hrow, _⟩, hN⟩, hB⟩ hK
    have hc := hv.cell
    gi_wp2
    refine ⟨by simp, .inl ⟨_, _, rfl, run_takeDeferred hK, ?_⟩⟩
    refine ⟨_, results_tmp rfl _ _ _, v, rfl, ?_, hB.trans (belowK_b (w := w) (Nat.le_refl _) W D _ _ (by simp at hD; omega) hK rfl rfl)⟩
    refine row_of_owns (base := w.heap.size) (e := 3) ?_
    rw [icells_length, places_len]
    exact ownsRow_putObj hrow _ hK rfl
  case stop =>
    rintro D c pre W _ _ h _
    exact h.elim
theorem origins_any (b : Value) (f : Nat → List (Nat × Nat)) (w : World) (h : Told w b f) :
    Calls Try.prog 23 #[b] w fun e W' => ∃ v, e = .returned v ∧ Row W' v (icells (places (liveL f))) ∧ Below w.heap.size w W' := by
  obtain ⟨q, rfl⟩ := h.ptr
  exact callsIn_wide.1 (origins_in q f w h)
end Go.Proofs.Ytnlllpgdhnmccaa
