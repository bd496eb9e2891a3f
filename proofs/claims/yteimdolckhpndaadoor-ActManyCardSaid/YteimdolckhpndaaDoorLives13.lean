/-
  lives, great, by their contracts.
-/
import Derived.Test.YteimdolckhpndaaDoorBytesA
import Derived.Test.YteimdolckhpndaaDoorRGoodA
namespace Go.Proofs.YteimdolckhpndaaDoor
open Go.RowKit

def qA : Ax := { zA 8 with name := ⟨#[113]⟩ }
def sA : Ax := { zA 11 with «to» := 2, n := 3 }
theorem qA_fits : qA.Fits := { zA_fits 8 (by decide) with nm := by show (1 : Nat) ≤ maxLen; unfold maxLen; omega }
theorem sA_fits : sA.Fits := { zA_fits 11 (by decide) with «to» := by decide, n := by decide }
theorem qA_good : goodA qA = true := by decide +kernel
theorem qA_bytes : bytesA qA = [8, 0, 1, 113] := by decide +kernel
theorem sA_bytes : bytesA sA = [11, 2, 0, 3] := by decide +kernel
theorem holds_four (w : World) (a b c d : UInt8) : Holds (w.alloc (.cells #[.int .u8 (a.toNat : Int), .int .u8 (b.toNat : Int), .int .u8 (c.toNat : Int), .int .u8 (d.toNat : Int)] 5)) (.slice (some ⟨w.heap.size, 0, none⟩) 4 4) [a, b, c, d] := by
  refine .inr ⟨⟨w.heap.size, 0, none⟩, 4, rfl, by simp, by unfold maxLen; omega, fun j u hj => ?_⟩
  rw [Addr.add_lit, Nat.zero_add]
  have := heap_alloc_new w (.cells #[.int .u8 (a.toNat : Int), .int .u8 (b.toNat : Int), .int .u8 (c.toNat : Int), .int .u8 (d.toNat : Int)] 5)
  simp only [World.cell?]
  rw [this]
  simpa [bcells] using hj
set_option maxRecDepth 20000 in
set_option maxHeartbeats 4000000 in
theorem lives_any (w : World) (ht : Tab w) (hK : Kinds w) : Calls Tryd.prog 9 #[] w fun e w' => e = .returned (.bool true) ∧ Below w.heap.size w w' := by
  obtain ⟨V0, fold0⟩ : ∃ X, w.alloc (.cells #[.int .i64 0, .string ⟨#[]⟩, .int .i64 0, .int .u64 0, .int .i64 0, .string ⟨#[]⟩, .int .i64 0, .bool false, .string ⟨#[]⟩, .string ⟨#[]⟩, .string ⟨#[]⟩, .int .i64 0, .int .u64 0, .int .i64 0, .string ⟨#[]⟩, .string ⟨#[]⟩, .string ⟨#[]⟩] 32) = X := ⟨_, rfl⟩
  have z0 : V0.heap[w.heap.size]? = some (.cells (xcells (zA 0)).toArray 32 (0, 0)) := by rw [← fold0]; exact heap_alloc_new w _
  have b0 : Below w.heap.size w V0 := by rw [← fold0]; exact box_below w _
  obtain ⟨X0, foldX⟩ : ∃ X, V0.setRow w.heap.size (xcells qA).toArray = X := ⟨_, rfl⟩
  have bX : Below w.heap.size w X0 := by rw [← foldX]; exact below_setRow b0 (Nat.le_refl _) _
  have x0 : X0.heap[w.heap.size]? = some (.cells (xcells qA).toArray 32 (0, 0)) := by rw [← foldX]; exact setRow_heap _ _ _ _ _ _ z0
  obtain ⟨V1, fold1⟩ : ∃ X, X0.alloc (.cells #[.int .i64 0, .string ⟨#[]⟩, .int .i64 0, .int .u64 0, .int .i64 0, .string ⟨#[]⟩, .int .i64 0, .bool false, .string ⟨#[]⟩, .string ⟨#[]⟩, .string ⟨#[]⟩, .int .i64 0, .int .u64 0, .int .i64 0, .string ⟨#[]⟩, .string ⟨#[]⟩, .string ⟨#[]⟩] 32) = X := ⟨_, rfl⟩
  have z1 : V1.heap[X0.heap.size]? = some (.cells (xcells (zA 0)).toArray 32 (0, 0)) := by rw [← fold1]; exact heap_alloc_new X0 _
  have b1 : Below X0.heap.size X0 V1 := by rw [← fold1]; exact box_below X0 _
  obtain ⟨X1, foldY⟩ : ∃ X, V1.setRow X0.heap.size (xcells sA).toArray = X := ⟨_, rfl⟩
  have bY : Below X0.heap.size X0 X1 := by rw [← foldY]; exact below_setRow b1 (Nat.le_refl _) _
  have y1 : X1.heap[X0.heap.size]? = some (.cells (xcells sA).toArray 32 (0, 0)) := by rw [← foldY]; exact setRow_heap _ _ _ _ _ _ z1
  have y0 := (bY.block _ (Array.getElem?_eq_some_iff.1 x0).1).trans x0
  have bW := keptW bX bY
  have HZ : Hid (V0.heap[w.heap.size]? = some (.cells (xcells (zA 0)).toArray 32 (0, 0)) ∧ V1.heap[X0.heap.size]? = some (.cells (xcells (zA 0)).toArray 32 (0, 0))) := ⟨z0, z1⟩
  have HC : Hid (∀ U, Below X1.heap.size X1 U → U.heap[w.heap.size]? = some (.cells (xcells qA).toArray 32 (0, 0)) ∧ U.heap[X0.heap.size]? = some (.cells (xcells sA).toArray 32 (0, 0)) ∧ Tab U ∧ Kinds U ∧ Below w.heap.size w U) := fun U b => ⟨(b.block _ (Array.getElem?_eq_some_iff.1 y0).1).trans y0, (b.block _ (Array.getElem?_eq_some_iff.1 y1).1).trans y1, (ht.below bW ht.pos).below b (ht.below bW ht.pos).pos, (hK.below bW).below b, keptW bW b⟩
  have hG := goodA_any qA X1 (HC.out X1 (Below.refl _ _)).2.2.2.1 qA_fits
  rw [qA_good] at hG
  have HC0 : Hid ((V1.setRow X0.heap.size (xcells sA).toArray).heap[w.heap.size]? = some (.cells (xcells qA).toArray 32 (0, 0))) := by rw [foldY]; exact y0
  have HY : Hid (V1.setRow X0.heap.size (xcells sA).toArray = X1) := foldY
  clear z0 z1 b0 b1 bX bY x0 y0 y1 bW ht hK
  go_enter Tryd.func9, Tryd.ntmps9
  go_wp2_with (first | refine wpList_store_row rfl 32 _ _ rfl w.heap.size (xcells qA).toArray rfl rfl 32 (xcells (zA 0)).toArray HZ.out.1 info17 rfl (one17 _) ?_ | refine wpList_store_row rfl 32 _ _ rfl X0.heap.size (xcells sA).toArray rfl rfl 32 (xcells (zA 0)).toArray HZ.out.2 info17 rfl (one17 _) ?_ | refine wpList_load_row rfl 32 _ rfl w.heap.size rfl 32 (xcells qA).toArray (0, 0) _ HC0.out Tryd.underlying32 rfl info17 ?_)
  try rw [HY.out]
  refine hG.mono ?_
  rintro e U1 ⟨rfl, b1⟩
  clear hG
  have HB1 : Hid (Below X1.heap.size X1 U1) := b1
  have hB := bytesA_any qA U1 (HC.out U1 b1).2.2.1 (HC.out U1 b1).2.2.2.1 qA_fits
  rw [qA_bytes] at hB
  clear b1
  go_wp2_with (refine wpList_load_rowG (by rfl) 32 _ rfl w.heap.size rfl 32 (xcells qA).toArray (0, 0) _ (HC.out U1 HB1.out).1 Tryd.underlying32 rfl info17 ?_)
  refine hB.mono ?_
  rintro e U2 ⟨v2, rfl, o2, g2, z2⟩
  clear hB
  have HB2 : Hid (Below X1.heap.size X1 U2) := keptW HB1.out (below_of_grown g2)
  obtain ⟨a2, c2, hv2⟩ := o2.holds.slice
  subst hv2
  obtain ⟨Y2, foldY2⟩ : ∃ X, U2.alloc (.cells #[.int .u8 8, .int .u8 0, .int .u8 1, .int .u8 113] 5) = X := ⟨_, rfl⟩
  have bY2 : Below U2.heap.size U2 Y2 := by rw [← foldY2]; exact box_below U2 _
  have hS := same_any _ (.slice (some ⟨U2.heap.size, 0, none⟩) 4 4) [8, 0, 1, 113] [8, 0, 1, 113] Y2 (o2.holds.below bY2 (Nat.le_refl _)) (by rw [← foldY2]; exact holds_four U2 8 0 1 113)
  have HB3 : Hid (Below X1.heap.size X1 Y2) := keptW HB2.out bY2
  clear o2 g2 z2 bY2
  go_wp2_with fail
  try rw [foldY2]
  refine hS.mono ?_
  rintro e Y2 ⟨rfl, rfl⟩
  clear hS
  have hB := bytesA_any sA Y2 (HC.out Y2 HB3.out).2.2.1 (HC.out Y2 HB3.out).2.2.2.1 sA_fits
  rw [sA_bytes] at hB
  go_wp2_with (refine wpList_load_rowG (by rfl) 32 _ rfl X0.heap.size rfl 32 (xcells sA).toArray (0, 0) _ (HC.out Y2 HB3.out).2.1 Tryd.underlying32 rfl info17 ?_)
  refine hB.mono ?_
  rintro e U4 ⟨v4, rfl, o4, g4, z4⟩
  clear hB
  obtain ⟨a4, c4, hv4⟩ := o4.holds.slice
  subst hv4
  obtain ⟨Y4, foldY4⟩ : ∃ X, U4.alloc (.cells #[.int .u8 11, .int .u8 2, .int .u8 0, .int .u8 3] 5) = X := ⟨_, rfl⟩
  have bY4 : Below U4.heap.size U4 Y4 := by rw [← foldY4]; exact box_below U4 _
  have hS := same_any _ (.slice (some ⟨U4.heap.size, 0, none⟩) 4 4) [11, 2, 0, 3] [11, 2, 0, 3] Y4 (o4.holds.below bY4 (Nat.le_refl _)) (by rw [← foldY4]; exact holds_four U4 11 2 0 3)
  have HB5 : Hid (Below X1.heap.size X1 Y4) := keptW (keptW HB3.out (below_of_grown g4)) bY4
  clear o4 g4 z4 bY4
  go_wp2_with fail
  try rw [foldY4]
  refine hS.mono ?_
  rintro e Y4 ⟨rfl, rfl⟩
  clear hS
  go_wp2
  go_ret
  exact ⟨rfl, (HC.out _ HB5.out).2.2.2.2⟩
/-- How many bytes the texts of an act have. -/
def bulk (a : Ax) : Nat := a.name.size + a.xn.size + a.be.size + a.bq.size + a.bp.size + a.m.ex.size + a.m.key.size + a.m.body.size
def greatB (a : Ax) : Bool := decide (3000 < bulk a)
/-- Texts whose counts add up without running over. -/
def Ax.Sum (a : Ax) : Prop := a.name.size + a.xn.size + a.be.size + a.bq.size + a.bp.size + a.m.ex.size + a.m.key.size + a.m.body.size ≤ 9223372036854775807
set_option maxRecDepth 20000 in
set_option maxHeartbeats 4000000 in
theorem great_any (a : Ax) (w : World) (hs : a.Sum) : Calls Tryd.prog 8 #[av a] w fun e w' => e = .returned (.bool (greatB a)) ∧ Below w.heap.size w w' := by
  obtain ⟨W, fold⟩ : ∃ W, w.alloc (.cells #[.int .i64 a.kind, .string a.name, .int .i64 a.n, .int .u64 a.tag, .int .i64 a.to, .string a.xn, .int .i64 a.xk, .bool a.xf, .string a.be, .string a.bq, .string a.bp, .int .i64 a.m.origin, .int .u64 a.m.seq, .int .i64 a.m.hop, .string a.m.ex, .string a.m.key, .string a.m.body] 32) = W := ⟨_, rfl⟩
  have b0 : Below w.heap.size w W := by rw [← fold]; exact box_below w _
  have x0 : W.heap[w.heap.size]? = some (.cells (xcells a).toArray 32 (0, 0)) := by rw [← fold]; exact heap_alloc_new w _
  obtain ⟨V0, fold0⟩ : ∃ X, W.alloc (.cells #[.int .i64 0, .int .u64 0, .int .i64 0, .string ⟨#[]⟩, .string ⟨#[]⟩, .string ⟨#[]⟩] 30) = X := ⟨_, rfl⟩
  have z0 : V0.heap[W.heap.size]? = some (.cells (mcells zM).toArray 30 (0, 0)) := by rw [← fold0]; exact heap_alloc_new W _
  have bV0 : Below W.heap.size W V0 := by rw [← fold0]; exact box_below W _
  obtain ⟨X, foldX⟩ : ∃ X, V0.setRow W.heap.size (mcells a.m).toArray = X := ⟨_, rfl⟩
  have bX : Below W.heap.size W X := by rw [← foldX]; exact below_setRow bV0 (Nat.le_refl _) _
  have xB : X.heap[W.heap.size]? = some (.cells (mcells a.m).toArray 30 (0, 0)) := by rw [← foldX]; exact setRow_heap _ _ _ _ _ _ z0
  obtain ⟨y0, y1, y2, y3, y4, y5, y6, y7, y8, y9, y10, y11, y12, y13, y14, y15, y16⟩ := cells17 x0
  obtain ⟨k0, k1, k2, k3, k4, k5, k6, k7, k8, k9, k10, k11, k12, k13, k14, k15, k16⟩ := cells17 ((bX.block _ (Array.getElem?_eq_some_iff.1 x0).1).trans x0)
  obtain ⟨m0, m1, m2, m3, m4, m5⟩ := cells6 xB
  have HZ : Hid (V0.heap[W.heap.size]? = some (.cells (mcells zM).toArray 30 (0, 0)) ∧ Below w.heap.size w X) := ⟨z0, keptW b0 bX⟩
  unfold Ax.Sum at hs
  have HG : Hid (greatB a = decide ((3000 : Int) < (a.name.size : Int) + a.xn.size + a.be.size + a.bq.size + a.bp.size + a.m.ex.size + a.m.key.size + a.m.body.size)) := by
    show _ = _
    unfold greatB bulk
    rw [decide_eq_decide]
    omega
  have w1 : IntKind.i64.wrap ((a.name.size : Int) + a.xn.size) = (a.name.size : Int) + a.xn.size := by rw [IntKind.wrap_i64]; omega
  have w2 : IntKind.i64.wrap ((a.name.size : Int) + a.xn.size + a.be.size) = (a.name.size : Int) + a.xn.size + a.be.size := by rw [IntKind.wrap_i64]; omega
  have w3 : IntKind.i64.wrap ((a.name.size : Int) + a.xn.size + a.be.size + a.bq.size) = (a.name.size : Int) + a.xn.size + a.be.size + a.bq.size := by rw [IntKind.wrap_i64]; omega
  have w4 : IntKind.i64.wrap ((a.name.size : Int) + a.xn.size + a.be.size + a.bq.size + a.bp.size) = (a.name.size : Int) + a.xn.size + a.be.size + a.bq.size + a.bp.size := by rw [IntKind.wrap_i64]; omega
  have w5 : IntKind.i64.wrap ((a.name.size : Int) + a.xn.size + a.be.size + a.bq.size + a.bp.size + a.m.ex.size) = (a.name.size : Int) + a.xn.size + a.be.size + a.bq.size + a.bp.size + a.m.ex.size := by rw [IntKind.wrap_i64]; omega
  have w6 : IntKind.i64.wrap ((a.name.size : Int) + a.xn.size + a.be.size + a.bq.size + a.bp.size + a.m.ex.size + a.m.key.size) = (a.name.size : Int) + a.xn.size + a.be.size + a.bq.size + a.bp.size + a.m.ex.size + a.m.key.size := by rw [IntKind.wrap_i64]; omega
  have w7 : IntKind.i64.wrap ((a.name.size : Int) + a.xn.size + a.be.size + a.bq.size + a.bp.size + a.m.ex.size + a.m.key.size + a.m.body.size) = (a.name.size : Int) + a.xn.size + a.be.size + a.bq.size + a.bp.size + a.m.ex.size + a.m.key.size + a.m.body.size := by rw [IntKind.wrap_i64]; omega
  clear hs b0 x0 z0 bV0 bX xB
  go_enter Tryd.func8, Tryd.ntmps8
  go_wp2_with (refine wpList_store_row rfl 30 _ _ rfl W.heap.size (mcells a.m).toArray rfl rfl 30 (mcells zM).toArray HZ.out.1 info6 rfl (by simp [mcells, Value.oneCell']) ?_)
  go_ret
  exact ⟨by rw [HG.out]; rfl, HZ.out.2⟩
end Go.Proofs.YteimdolckhpndaaDoor
