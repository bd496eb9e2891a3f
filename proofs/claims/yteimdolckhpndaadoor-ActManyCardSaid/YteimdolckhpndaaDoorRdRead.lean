/-
  Read, ReadMessage, by their contracts.
-/
import Derived.Test.YteimdolckhpndaaDoorRdAct
namespace Go.Proofs.YteimdolckhpndaaDoor
open Go.RowKit

theorem results_act_tmp {fn : Func} {p u : Tmp} (h : fn.results = #[.cell p 32, .tmp u]) (tmps : Array Value) (w : World) (g : Nat) (z : Ax) (hp : tmps.getD p undef = .pointer (some ⟨g, 0, none⟩)) (hg : w.heap[g]? = some (.cells (xcells z).toArray 32 (0, 0))) :
    (results fn tmps).run Tryd.prog w = .ok (.tuple #[av z, tmps.getD u undef]) w := by
  rw [results_cell_tmp h, hp]
  simp [asAddr, run_loadVar_row w g _ _ _ _ _ hg Tryd.underlying32 rfl info17, Result.andThen]
  rfl
theorem results_msg_tmp {fn : Func} {p u : Tmp} (h : fn.results = #[.cell p 30, .tmp u]) (tmps : Array Value) (w : World) (g : Nat) (m : Ms) (hp : tmps.getD p undef = .pointer (some ⟨g, 0, none⟩)) (hg : w.heap[g]? = some (.cells (mcells m).toArray 30 (0, 0))) :
    (results fn tmps).run Tryd.prog w = .ok (.tuple #[mv m, tmps.getD u undef]) w := by
  rw [results_cell_tmp h, hp]
  simp [asAddr, run_loadVar_row w g _ _ _ _ _ hg Tryd.underlying30 rfl info6, Result.andThen]
  rfl
/-- What is told of what was read. -/
def actOf (o : Option Ax) : Ax := o.getD (zA 0)
def errOf {α : Type} (o : Option α) : Int := if o.isSome then 0 else 7
def msgOf (o : Option (Ms × Nat)) : Ms := (o.map (·.1)).getD zM
def sizeOf' (o : Option (Ms × Nat)) : Nat := (o.map (·.2)).getD 0
theorem left_done (tn : Bool) (l : List UInt8) : decide (left tn l = some []) = (!tn && decide (l.length = 0)) := by
  cases tn <;> cases l <;> simp [left]
set_option maxRecDepth 20000 in
theorem ended_any (p : Nat) (s : Option (List UInt8)) (w : World) (hr : Rd 77 w p s) :
    Calls Tryd.prog 44 #[.pointer (some ⟨p, 0, none⟩)] w fun e w' => e = .returned (.bool (decide (s = some []))) ∧ w' = w := by
  obtain ⟨a, n, c, tn, l, blk, hh, hl, rfl, lo⟩ := hr
  clear lo
  obtain rfl : n = l.length := by obtain ⟨_, _, hv⟩ := hh.slice; injection hv
  have c0 : w.cell? ⟨p, 0, none⟩ = some (.slice a l.length c) := by simp only [World.cell?]; rw [blk]; rfl
  have c1 : w.cell? ⟨p, 1, none⟩ = some (.bool tn) := by simp only [World.cell?]; rw [blk]; rfl
  have HD : Hid _ := left_done tn l
  clear hh hl blk
  cases tn
  · have hd : ((l.length : Int) == 0) = decide (l.length = 0) := by
      by_cases h : l.length = 0
      · rw [h]; rfl
      · rw [decide_eq_false h, beq_eq_false_iff_ne]; omega
    have HE : Hid _ := hd
    clear hd
    go_enter Tryd.func44, Tryd.ntmps44
    go_wp2
    go_ret
    exact ⟨by rw [HD.out]; first | rfl | (rw [← HE.out]; rfl) | (rw [HE.out]; rfl) | simp, rfl⟩
  · go_enter Tryd.func44, Tryd.ntmps44
    go_wp2
    go_ret
    exact ⟨by rw [HD.out]; first | rfl | simp, rfl⟩
/-- A result's box and a reader that are made at once. -/
structure Made (T R : TypeId) (C : List Value) (w U : World) (v : Value) (bs : List UInt8) : Prop where
  rd : Rd R U (w.heap.size + 1) (some bs)
  box : U.heap[w.heap.size]? = some (.cells C.toArray T (0, 0))
  bel : Below w.heap.size w U
  size : U.heap.size = w.heap.size + 2
theorem made_new (T R : TypeId) (C : List Value) (w : World) (v : Value) (bs : List UInt8) (hv : Holds w v bs) (hl : bs.length ≤ 100000) : Made T R C w ((w.alloc (.cells C.toArray T)).alloc (.cells #[v, .bool false] R)) v bs := by
  have b0 := box_below w (.cells C.toArray T)
  have hs : (w.alloc (.cells C.toArray T)).heap.size = w.heap.size + 1 := World.size_alloc _ _
  have hr := rd_new R (w.alloc (.cells C.toArray T)) v bs (hv.below b0 (Nat.le_refl _)) hl
  rw [hs] at hr
  refine ⟨hr, heap_alloc2_old w _ _, keptW b0 (box_below _ _), by rw [World.size_alloc, hs]⟩
set_option maxRecDepth 20000 in
set_option maxHeartbeats 4000000 in
theorem read_any (v : Value) (bs : List UInt8) (w : World) (ht : Tab w) (hK : Kinds w) (hv : Holds w v bs) (hl : bs.length ≤ 100000) :
    Calls Tryd.prog 19 #[v] w fun e w' => e = .returned (.tuple #[av (actOf (readA bs)), .int .i64 (errOf (readA bs))]) ∧ Below w.heap.size w w' := by
  have M := made_new 32 77 (xcells (zA 0)) w v bs hv hl
  obtain ⟨U, fold⟩ : ∃ U, (w.alloc (.cells #[.int .i64 0, .string ⟨#[]⟩, .int .i64 0, .int .u64 0, .int .i64 0, .string ⟨#[]⟩, .int .i64 0, .bool false, .string ⟨#[]⟩, .string ⟨#[]⟩, .string ⟨#[]⟩, .int .i64 0, .int .u64 0, .int .i64 0, .string ⟨#[]⟩, .string ⟨#[]⟩, .string ⟨#[]⟩] 32)).alloc (.cells #[v, .bool false] 77) = U := ⟨_, rfl⟩
  have M : Made 32 77 (xcells (zA 0)) w U v bs := by rw [← fold]; exact M
  have hA := act_any (w.heap.size + 1) (some bs) U (ht.below M.bel ht.pos) (hK.below M.bel) M.rd
  have HM : Hid (Made 32 77 (xcells (zA 0)) w U v bs ∧ Kinds U) := ⟨M, hK.below M.bel⟩
  obtain ⟨va, vc, rfl⟩ := hv.slice
  clear M ht hK hv hl
  go_enter Tryd.func19, Tryd.ntmps19
  go_wp2_with fail
  try rw [fold]
  refine hA.mono ?_
  rintro e w1 ⟨z, s1, rfl, fz, af, rd, bar⟩
  clear hA
  have b1 : Below w.heap.size w w1 := bar.below HM.out.1.bel (by omega) (by have := HM.out.1.size; omega)
  have x1 := bar.box HM.out.1.box (by omega)
  have k1 : Kinds w1 := HM.out.2.bar HM.out.1.rd bar
  obtain ⟨V0, fold0⟩ : ∃ X, w1.alloc (.cells #[.int .i64 0, .string ⟨#[]⟩, .int .i64 0, .int .u64 0, .int .i64 0, .string ⟨#[]⟩, .int .i64 0, .bool false, .string ⟨#[]⟩, .string ⟨#[]⟩, .string ⟨#[]⟩, .int .i64 0, .int .u64 0, .int .i64 0, .string ⟨#[]⟩, .string ⟨#[]⟩, .string ⟨#[]⟩] 32) = X := ⟨_, rfl⟩
  have hz0 : V0.heap[w1.heap.size]? = some (.cells (xcells (zA 0)).toArray 32 (0, 0)) := by rw [← fold0]; exact heap_alloc_new w1 _
  have bV0 : Below w1.heap.size w1 V0 := by rw [← fold0]; exact box_below w1 _
  obtain ⟨V, hV⟩ : ∃ X, V0.setRow w1.heap.size (xcells z).toArray = X := ⟨_, rfl⟩
  have bV : Below w1.heap.size w1 V := by rw [← hV]; exact below_setRow bV0 (Nat.le_refl _) _
  have xV : V.heap[w1.heap.size]? = some (.cells (xcells z).toArray 32 (0, 0)) := by rw [← hV]; exact setRow_heap _ _ _ _ _ _ hz0
  have hE := ended_any (w.heap.size + 1) s1 V (rd.kept bV)
  have hG := goodA_any z V (k1.below bV) fz
  have x2 := (bV.block _ (Array.getElem?_eq_some_iff.1 x1).1).trans x1
  have HF : Hid (Below w.heap.size w V ∧ V.heap[w.heap.size]? = some (.cells (xcells (zA 0)).toArray 32 (0, 0)) ∧ V.heap[w1.heap.size]? = some (.cells (xcells z).toArray 32 (0, 0)) ∧ (readA bs = if s1 = some [] ∧ goodA z = true then some z else none) ∧ V0.heap[w1.heap.size]? = some (.cells (xcells (zA 0)).toArray 32 (0, 0)) ∧ V0.setRow w1.heap.size (xcells z).toArray = V ∧ w.heap.size < w1.heap.size) := ⟨keptW b1 bV, x2, xV, readA_aft af, hz0, hV, (Array.getElem?_eq_some_iff.1 x1).1⟩
  clear rd af fz bar b1 x1 k1 hz0 bV0 bV xV x2 hV
  go_wp2_with (refine wpList_store_row rfl 32 _ _ rfl w1.heap.size (xcells z).toArray rfl rfl 32 (xcells (zA 0)).toArray HF.out.2.2.2.2.1 info17 rfl (one17 z) ?_)
  rw [HF.out.2.2.2.2.2.1]
  refine hE.mono ?_
  rintro e V ⟨rfl, rfl⟩
  clear hE
  cases hd : decide (s1 = some [])
  · have HR : Hid (readA bs = none) := by
      have h1 : ¬ s1 = some [] := of_decide_eq_false hd
      show readA bs = none
      rw [HF.out.2.2.2.1, if_neg (fun h => h1 h.1)]
    clear hd hG
    go_wp2_with (refine wpList_store_row rfl 32 _ _ rfl w.heap.size (xcells (zA 0)).toArray rfl rfl 32 (xcells (zA 0)).toArray HF.out.2.1 info17 rfl (one17 _) ?_)
    refine bodyPost_ret (results_act_tmp rfl _ _ w.heap.size (zA 0) rfl (setRow_heap _ _ _ _ _ _ HF.out.2.1)) rfl ⟨?_, below_setRow HF.out.1 (Nat.le_refl _) _⟩
    rw [HR.out]
    rfl
  · have h1 : s1 = some [] := of_decide_eq_true hd
    have H1 : Hid (s1 = some []) := h1
    clear hd h1
    obtain ⟨y0, y1, y2, y3, y4, y5, y6, y7, y8, y9, y10, y11, y12, y13, y14, y15, y16⟩ := cells17 HF.out.2.2.1
    go_wp2_with fail
    refine hG.mono ?_
    rintro e X ⟨rfl, bX⟩
    clear hG y0 y1 y2 y3 y4 y5 y6 y7 y8 y9 y10 y11 y12 y13 y14 y15 y16
    have HX : Hid (Below w.heap.size w X ∧ X.heap[w.heap.size]? = some (.cells (xcells (zA 0)).toArray 32 (0, 0)) ∧ X.heap[w1.heap.size]? = some (.cells (xcells z).toArray 32 (0, 0))) := ⟨keptW HF.out.1 bX, (bX.block _ (Array.getElem?_eq_some_iff.1 HF.out.2.1).1).trans HF.out.2.1, (bX.block _ (Array.getElem?_eq_some_iff.1 HF.out.2.2.1).1).trans HF.out.2.2.1⟩
    clear bX
    cases hg : goodA z
    · have HR : Hid (readA bs = none) := by
        show readA bs = none
        rw [HF.out.2.2.2.1, if_neg (fun h => by rw [hg] at h; exact absurd h.2 (by simp))]
      clear hg
      go_wp2_with (refine wpList_store_row rfl 32 _ _ rfl w.heap.size (xcells (zA 0)).toArray rfl rfl 32 (xcells (zA 0)).toArray HX.out.2.1 info17 rfl (one17 _) ?_)
      refine bodyPost_ret (results_act_tmp rfl _ _ w.heap.size (zA 0) rfl (setRow_heap _ _ _ _ _ _ HX.out.2.1)) rfl ⟨?_, below_setRow HX.out.1 (Nat.le_refl _) _⟩
      rw [HR.out]
      rfl
    · have HR : Hid (readA bs = some z) := by
        show readA bs = some z
        rw [HF.out.2.2.2.1, if_pos ⟨H1.out, hg⟩]
      clear hg
      go_wp2_with (first | refine wpList_load_row rfl 32 _ rfl w1.heap.size rfl 32 (xcells z).toArray (0, 0) _ HX.out.2.2 Tryd.underlying32 rfl info17 ?_ | refine wpList_store_row rfl 32 _ _ rfl w.heap.size (xcells z).toArray rfl rfl 32 (xcells (zA 0)).toArray HX.out.2.1 info17 rfl (one17 z) ?_)
      refine bodyPost_ret (results_act_tmp rfl _ _ w.heap.size z rfl (setRow_heap _ _ _ _ _ _ HX.out.2.1)) rfl ⟨?_, below_setRow HX.out.1 (Nat.le_refl _) _⟩
      rw [HR.out]
      rfl
end Go.Proofs.YteimdolckhpndaaDoor
