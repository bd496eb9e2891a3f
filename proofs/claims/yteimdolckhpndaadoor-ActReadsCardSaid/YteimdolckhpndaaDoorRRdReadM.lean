/-
  The document's ReadMessage, by its contract.
-/
import Derived.Test.YteimdolckhpndaaDoorRRdMsg
import Derived.Test.YteimdolckhpndaaDoorRdReadM
import Derived.Test.YteimdolckhpndaaDoorRGoodX
import Derived.Deep.RegionHeld3
namespace Go.Proofs.YteimdolckhpndaaDoor
open Go.RowKit

set_option maxRecDepth 20000 in
set_option maxHeartbeats 4000000 in
theorem rreadM_any (v : Value) (bs : List UInt8) (w : World) (hv : Holds w v bs) (hl : bs.length ≤ 100000) :
    Calls Tryd.prog 22 #[v] w fun e w' => e = .returned (.tuple #[mv (msgOf (readM bs)), .int .i64 (sizeOf' (readM bs) : Int)]) ∧ Below w.heap.size w w' := by
  have M := made_new 30 81 (mcells zM) w v bs hv hl
  obtain ⟨U, fold⟩ : ∃ U, (w.alloc (.cells #[.int .i64 0, .int .u64 0, .int .i64 0, .string ⟨#[]⟩, .string ⟨#[]⟩, .string ⟨#[]⟩] 30)).alloc (.cells #[v, .bool false] 81) = U := ⟨_, rfl⟩
  have M : Made 30 81 (mcells zM) w U v bs := by rw [← fold]; exact M
  have hA := rmsgR_any (w.heap.size + 1) (some bs) U M.rd
  have HM : Hid (Made 30 81 (mcells zM) w U v bs ∧ bs.length ≤ 100000) := ⟨M, hl⟩
  obtain ⟨va, vc, rfl⟩ := hv.slice
  clear M hv hl
  go_enter Tryd.func22, Tryd.ntmps22
  go_wp2_with fail
  try rw [fold]
  refine hA.mono ?_
  rintro e w1 ⟨z, s1, rfl, fz, af, rd, bar⟩
  clear hA
  have b1 : Below w.heap.size w w1 := bar.below HM.out.1.bel (by omega) (by have := HM.out.1.size; omega)
  have x1 := bar.box HM.out.1.box (by omega)
  obtain ⟨V0, fold0⟩ : ∃ X, w1.alloc (.cells #[.int .i64 0, .int .u64 0, .int .i64 0, .string ⟨#[]⟩, .string ⟨#[]⟩, .string ⟨#[]⟩] 30) = X := ⟨_, rfl⟩
  have hz0 : V0.heap[w1.heap.size]? = some (.cells (mcells zM).toArray 30 (0, 0)) := by rw [← fold0]; exact heap_alloc_new w1 _
  have bV0 : Below w1.heap.size w1 V0 := by rw [← fold0]; exact box_below w1 _
  obtain ⟨V, hV⟩ : ∃ X, V0.setRow w1.heap.size (mcells z).toArray = X := ⟨_, rfl⟩
  have bV : Below w1.heap.size w1 V := by rw [← hV]; exact below_setRow bV0 (Nat.le_refl _) _
  have xV : V.heap[w1.heap.size]? = some (.cells (mcells z).toArray 30 (0, 0)) := by rw [← hV]; exact setRow_heap _ _ _ _ _ _ hz0
  have hG := rgoodM_any z V fz
  have x2 := (bV.block _ (Array.getElem?_eq_some_iff.1 x1).1).trans x1
  have rV := rd.kept bV
  have HF : Hid (Below w.heap.size w V ∧ V.heap[w.heap.size]? = some (.cells (mcells zM).toArray 30 (0, 0)) ∧ V.heap[w1.heap.size]? = some (.cells (mcells z).toArray 30 (0, 0)) ∧ Aft (some bs) msgP z s1 ∧ V0.heap[w1.heap.size]? = some (.cells (mcells zM).toArray 30 (0, 0)) ∧ V0.setRow w1.heap.size (mcells z).toArray = V ∧ w.heap.size < w1.heap.size) := ⟨keptW b1 bV, x2, xV, af, hz0, hV, (Array.getElem?_eq_some_iff.1 x1).1⟩
  obtain ⟨ra, n, rc, tn, l, blk, hh, hl, rfl, lo⟩ := rV
  clear lo
  obtain rfl : n = l.length := by obtain ⟨_, _, hv⟩ := hh.slice; injection hv
  have c1 : V.cell? ⟨w.heap.size + 1, 1, none⟩ = some (.bool tn) := by simp only [World.cell?]; rw [blk]; rfl
  have HD : Hid (V.heap[w.heap.size + 1]? = some (.cells #[.slice ra l.length rc, .bool tn] 81 (0, 0))) := blk
  clear rd af fz bar b1 x1 hz0 bV0 bV xV x2 blk hh hl
  cases tn
  rotate_left
  · have HR : Hid (readM bs = none) := readM_aft HF.out.2.2.2.1
    clear hG
    go_wp2_with (first | refine wpList_store_row rfl 30 _ _ rfl w1.heap.size (mcells z).toArray rfl rfl 30 (mcells zM).toArray HF.out.2.2.2.2.1 info6 rfl (one6 z) ?_ | refine wpList_store_row rfl 30 _ _ rfl w.heap.size (mcells zM).toArray rfl rfl 30 (mcells zM).toArray HF.out.2.1 info6 rfl (one6 zM) ?_)
    refine bodyPost_ret (results_msg_tmp rfl _ _ w.heap.size zM rfl (setRow_heap _ _ _ _ _ _ HF.out.2.1)) rfl ⟨?_, below_setRow HF.out.1 (Nat.le_refl _) _⟩
    rw [HR.out]
    rfl
  · have HR : Hid (readM bs = if goodM z = true then some (z, bs.length - l.length) else none) := readM_aft HF.out.2.2.2.1
    have HLe : Hid (l.length ≤ bs.length) := aft_le HF.out.2.2.2.1
    obtain ⟨y0, y1, y2, y3, y4, y5⟩ := cells6 HF.out.2.2.1
    go_wp2_with (refine wpList_store_row rfl 30 _ _ rfl w1.heap.size (mcells z).toArray rfl rfl 30 (mcells zM).toArray HF.out.2.2.2.2.1 info6 rfl (one6 z) ?_)
    refine hG.mono ?_
    rintro e X ⟨rfl, bX⟩
    clear hG y0 y1 y2 y3 y4 y5
    have HX : Hid (Below w.heap.size w X ∧ X.heap[w.heap.size]? = some (.cells (mcells zM).toArray 30 (0, 0)) ∧ X.heap[w1.heap.size]? = some (.cells (mcells z).toArray 30 (0, 0)) ∧ X.heap[w.heap.size + 1]? = some (.cells [.slice ra l.length rc, .bool false].toArray 81 (0, 0))) := ⟨keptW HF.out.1 bX, (bX.block _ (Array.getElem?_eq_some_iff.1 HF.out.2.1).1).trans HF.out.2.1, (bX.block _ (Array.getElem?_eq_some_iff.1 HF.out.2.2.1).1).trans HF.out.2.2.1, (bX.block _ (Array.getElem?_eq_some_iff.1 HD.out).1).trans HD.out⟩
    clear bX c1
    cases hg : goodM z
    · have HR2 : Hid (readM bs = none) := by
        show readM bs = none
        rw [HR.out, hg]
        rfl
      clear hg
      go_wp2_with (refine wpList_store_row rfl 30 _ _ rfl w.heap.size (mcells zM).toArray rfl rfl 30 (mcells zM).toArray HX.out.2.1 info6 rfl (one6 zM) ?_)
      refine bodyPost_ret (results_msg_tmp rfl _ _ w.heap.size zM rfl (setRow_heap _ _ _ _ _ _ HX.out.2.1)) rfl ⟨?_, below_setRow HX.out.1 (Nat.le_refl _) _⟩
      rw [HR2.out]
      rfl
    · have HR2 : Hid (readM bs = some (z, bs.length - l.length)) := by
        show readM bs = _
        rw [HR.out, hg]
        rfl
      clear hg
      obtain ⟨y0, y1, y2, y3, y4, y5⟩ := cells6 HX.out.2.2.1
      obtain ⟨c0, c1⟩ := cells2 HX.out.2.2.2
      obtain ⟨x0, x1, x2, x3, x4, x5⟩ := cells6 HX.out.2.1
      have fx := fun j => box_free HX.out.2.1 j
      have hwr : IntKind.i64.wrap ((bs.length : Int) - (l.length : Int)) = ((bs.length - l.length : Nat) : Int) := by have h1 := HLe.out; have h2 := HM.out.2; rw [IntKind.wrap_i64]; omega
      obtain ⟨D, hD⟩ : ∃ D, bs.length - l.length = D := ⟨_, rfl⟩
      rw [hD] at hwr HR2
      clear hD
      go_wp2
      have ne1 : w1.heap.size ≠ w.heap.size := by have := HF.out.2.2.2.2.2.2; omega
      have ne2 : ¬ w.heap.size = w1.heap.size := by have := HF.out.2.2.2.2.2.2; omega
      go_region_held3 (fun w' => w'.cell? ⟨w1.heap.size, 0, none⟩ = some (.int .i64 z.origin) ∧ w'.cell? ⟨w1.heap.size, 1, none⟩ = some (.int .u64 z.seq) ∧ w'.cell? ⟨w1.heap.size, 2, none⟩ = some (.int .i64 z.hop) ∧ w'.cell? ⟨w1.heap.size, 3, none⟩ = some (.string z.ex) ∧ w'.cell? ⟨w1.heap.size, 4, none⟩ = some (.string z.key) ∧ w'.cell? ⟨w1.heap.size, 5, none⟩ = some (.string z.body) ∧ w'.cell? ⟨w.heap.size + 1, 0, none⟩ = some (.slice ra l.length rc)) (go_keep) (first | fail)
      all_goals go_wp2
      obtain ⟨Y, hY⟩ : ∃ Y, (((((X.setCell ⟨w.heap.size, 0, none⟩ (.int .i64 z.origin)).setCell ⟨w.heap.size, 1, none⟩ (.int .u64 z.seq)).setCell ⟨w.heap.size, 2, none⟩ (.int .i64 z.hop)).setCell ⟨w.heap.size, 3, none⟩ (.string z.ex)).setCell ⟨w.heap.size, 4, none⟩ (.string z.key)).setCell ⟨w.heap.size, 5, none⟩ (.string z.body) = Y := ⟨_, rfl⟩
      have yg : Y.heap[w.heap.size]? = some (.cells (mcells z).toArray 30 (0, 0)) := by rw [← hY]; exact set_list (set_list (set_list (set_list (set_list (set_list HX.out.2.1 _) _) _) _) _) _
      have yb : Below w.heap.size w Y := by rw [← hY]; exact (((((HX.out.1.setCell (p := ⟨w.heap.size, 0, none⟩) (Nat.le_refl _) _).setCell (p := ⟨w.heap.size, 1, none⟩) (Nat.le_refl _) _).setCell (p := ⟨w.heap.size, 2, none⟩) (Nat.le_refl _) _).setCell (p := ⟨w.heap.size, 3, none⟩) (Nat.le_refl _) _).setCell (p := ⟨w.heap.size, 4, none⟩) (Nat.le_refl _) _).setCell (p := ⟨w.heap.size, 5, none⟩) (Nat.le_refl _) _
      rw [hY]
      refine bodyPost_ret (results_msg_tmp rfl _ Y.drew w.heap.size z rfl yg) rfl ⟨?_, yb.drew⟩
      rw [HR2.out]
      rfl
end Go.Proofs.YteimdolckhpndaaDoor
