/-
  THE DOCUMENT's READER: Exchange, Binding, Message, by their contracts.
-/
import Derived.Test.YteimdolckhpndaaDoorRRdr
import Derived.Test.YteimdolckhpndaaDoorTakes13
import Derived.Test.YteimdolckhpndaaDoorRdMsg
import Derived.Test.YteimdolckhpndaaDoorRdAct
namespace Go.Proofs.YteimdolckhpndaaDoor
open Go.RowKit

/-- The document's reader beside a result's box and a box. -/
structure Two0 (t : TypeId) (w U : World) (p g0 g1 : Nat) (C0 C1 : List Value) (s : Option (List UInt8)) : Prop where
  rd : Rd 81 U p s
  h0 : U.heap[g0]? = some (.cells C0.toArray t (0, 0))
  h1 : U.heap[g1]? = some (.cells C1.toArray t (0, 0))
  bar : Bar p w U
  n0 : g0 ≠ p
  n1 : g1 ≠ p
  n01 : g0 ≠ g1
  b0 : w.heap.size ≤ g0
  b1 : w.heap.size ≤ g1
theorem Two0.go {t : TypeId} {w U V : World} {p g0 g1 : Nat} {C0 C1 : List Value} {s s' : Option (List UInt8)} (h : Two0 t w U p g0 g1 C0 C1 s) (hr : Rd 81 V p s') (hb : Bar p U V) : Two0 t w V p g0 g1 C0 C1 s' :=
  ⟨hr, hb.box h.h0 h.n0, hb.box h.h1 h.n1, h.bar.trans hb, h.n0, h.n1, h.n01, h.b0, h.b1⟩
theorem Two0.set {t : TypeId} {w U : World} {p g0 g1 : Nat} {C0 C1 : List Value} {s : Option (List UInt8)} (h : Two0 t w U p g0 g1 C0 C1 s) (hC : NoBytes C1) (j : Nat) (v : Value) : Two0 t w (U.setCell ⟨g1, j, none⟩ v) p g0 g1 C0 (C1.set j v) s :=
  ⟨h.rd.set h.h1 hC (Ne.symm h.n1) j v, (Below.heap_setCell _ _ _ _ h.n01).trans h.h0, set_list h.h1 v, h.bar.setNew h.b1 j v, h.n0, h.n1, h.n01, h.b0, h.b1⟩
theorem noBytes_cons {v : Value} {C : List Value} (hv : ∀ x, v ≠ .int .u8 x) (h : NoBytes C) : NoBytes (v :: C) := by
  intro u hu
  rcases List.mem_cons.1 hu with rfl | hu
  · exact hv
  · exact h u hu
theorem noBytes_nil : NoBytes [] := fun _ h => by cases h
theorem cells3 {w : World} {g : Nat} {t : TypeId} {v0 v1 v2 : Value} (h : w.heap[g]? = some (.cells [v0, v1, v2].toArray t (0, 0))) : w.cell? ⟨g, 0, none⟩ = some v0 ∧ w.cell? ⟨g, 1, none⟩ = some v1 ∧ w.cell? ⟨g, 2, none⟩ = some v2 :=
  ⟨box_at h rfl, box_at h rfl, box_at h rfl⟩
theorem info3x : (Tryd.prog.info? 24).map (·.size) = some 3 := by kernel_rfl
theorem info3b : (Tryd.prog.info? 26).map (·.size) = some 3 := by kernel_rfl
def ExPost (p : Nat) (s : Option (List UInt8)) (w : World) (e : Ending) (w' : World) : Prop :=
  ∃ (n : ByteArray) (k : Nat) (f : Bool) (s' : Option (List UInt8)), e = .returned (.agg #[.string n, .int .i64 (k : Int), .bool f]) ∧ n.size < 65536 ∧ k < 65536 ∧ Aft s exP (n, (k : Int), f) s' ∧ Rd 81 w' p s' ∧ Bar p w w'
def BdPost (p : Nat) (s : Option (List UInt8)) (w : World) (e : Ending) (w' : World) : Prop :=
  ∃ (x q b : ByteArray) (s' : Option (List UInt8)), e = .returned (.agg #[.string x, .string q, .string b]) ∧ x.size < 65536 ∧ q.size < 65536 ∧ b.size < 65536 ∧ Aft s bdP (x, q, b) s' ∧ Rd 81 w' p s' ∧ Bar p w w'
set_option maxRecDepth 20000 in
set_option maxHeartbeats 2000000 in
theorem rexR_any (p : Nat) (s : Option (List UInt8)) (w : World) (hr : Rd 81 w p s) :
    Calls Tryd.prog 47 #[.pointer (some ⟨p, 0, none⟩)] w (ExPost p s w) := by
  obtain ⟨U, fold⟩ : ∃ X, w.alloc (.cells #[.string ⟨#[]⟩, .int .i64 0, .bool false] 24) = X := ⟨_, rfl⟩
  have bU : Below w.heap.size w U := by rw [← fold]; exact box_below w _
  have hU : U.heap.size = w.heap.size + 1 := by rw [← fold]; exact World.size_alloc _ _
  have hlt := hr.lt
  have K0 : Hid (Rd 81 U p s ∧ U.heap[w.heap.size]? = some (.cells #[.string ⟨#[]⟩, .int .i64 0, .bool false] 24 (0, 0)) ∧ Bar p w U ∧ w.heap.size ≠ p ∧ p < w.heap.size) := ⟨hr.kept bU, by rw [← fold]; exact heap_alloc_new w _, Bar.of bU, by omega, hlt⟩
  have hC := rtextR_any p s U K0.out.1
  clear bU hlt hr hU
  go_enter Tryd.func47, Tryd.ntmps47
  go_wp2_with fail
  try rw [fold]
  refine hC.mono ?_
  rintro e w1 ⟨t1, s1, rfl, n1, a1, r1, b1⟩
  clear hC
  have A1 : Hid (Aft s textP t1 s1) := a1
  have N1 : Hid _ := n1
  have h1 := b1.box (C := [.string ⟨#[]⟩, .int .i64 0, .bool false]) K0.out.2.1 K0.out.2.2.2.1
  obtain ⟨X, hX⟩ : ∃ X, w1.alloc (.cells #[.string t1, .int .i64 0, .bool false] 24) = X := ⟨_, rfl⟩
  have bX : Below w1.heap.size w1 X := by rw [← hX]; exact box_below w1 _
  have FX : Hid (w1.alloc (.cells #[.string t1, .int .i64 0, .bool false] 24) = X) := hX
  have K1 : Hid (Two0 24 w X p w.heap.size w1.heap.size [.string ⟨#[]⟩, .int .i64 0, .bool false] [.string t1, .int .i64 0, .bool false] s1) := ⟨r1.kept bX, (bX.block _ (Array.getElem?_eq_some_iff.1 h1).1).trans h1, by rw [← hX]; exact heap_alloc_new w1 _, (K0.out.2.2.1.trans b1).trans (Bar.of bX), K0.out.2.2.2.1, by have := r1.lt; omega, by have := (Array.getElem?_eq_some_iff.1 h1).1; omega, Nat.le_refl _, by have := (Array.getElem?_eq_some_iff.1 h1).1; omega⟩
  clear h1 bX hX a1 n1 r1 b1
  have hC := rnum1_any p s1 X K1.out.rd
  go_wp2_with fail
  try rw [FX.out]
  refine hC.mono ?_
  rintro e w2 ⟨t2, s2, rfl, n2, a2, r2, b2⟩
  clear hC
  have wr2 := wrap_num n2 (by decide)
  have A2 : Hid (Aft s1 (numP 1) t2 s2) := a2
  have N2 : Hid _ := n2
  have L2 : Hid (Two0 24 w w2 p w.heap.size w1.heap.size [.string ⟨#[]⟩, .int .i64 0, .bool false] [.string t1, .int .i64 0, .bool false] s2) := K1.out.go r2 b2
  obtain ⟨y20, y21, y22⟩ := cells3 L2.out.h1
  have f2 := fun j => box_free L2.out.h1 j
  obtain ⟨X2, fold2⟩ : ∃ X, w2.setCell ⟨w1.heap.size, 1, none⟩ (.int .i64 (t2 : Int)) = X := ⟨_, rfl⟩
  have K2 : Hid (Two0 24 w X2 p w.heap.size w1.heap.size [.string ⟨#[]⟩, .int .i64 0, .bool false] [.string t1, .int .i64 (t2 : Int), .bool false] s2) := by rw [← fold2]; exact L2.out.set (noBytes_cons (fun _ h => by cases h) (noBytes_cons (fun _ h => by cases h) (noBytes_cons (fun _ h => by cases h) (noBytes_nil)))) 1 _
  clear a2 n2 r2 b2
  have hC := ryesR_any p s2 X2 K2.out.rd
  go_wp2_with fail
  skip
  refine hC.mono ?_
  rintro e w3 ⟨t3, s3, rfl, a3, r3, b3⟩
  clear hC
  have A3 : Hid (Aft s2 yesP t3 s3) := a3
  have L3 : Hid (Two0 24 w w3 p w.heap.size w1.heap.size [.string ⟨#[]⟩, .int .i64 0, .bool false] [.string t1, .int .i64 (t2 : Int), .bool false] s3) := K2.out.go r3 b3
  obtain ⟨y30, y31, y32⟩ := cells3 L3.out.h1
  have f3 := fun j => box_free L3.out.h1 j
  obtain ⟨X3, fold3⟩ : ∃ X, w3.setCell ⟨w1.heap.size, 2, none⟩ (.bool t3) = X := ⟨_, rfl⟩
  have K3 : Hid (Two0 24 w X3 p w.heap.size w1.heap.size [.string ⟨#[]⟩, .int .i64 0, .bool false] [.string t1, .int .i64 (t2 : Int), .bool t3] s3) := by rw [← fold3]; exact L3.out.set (noBytes_cons (fun _ h => by cases h) (noBytes_cons (fun _ h => by cases h) (noBytes_cons (fun _ h => by cases h) (noBytes_nil)))) 2 _
  clear a3 r3 b3
  go_wp2_with (first | refine wpList_load_row rfl 24 _ rfl w1.heap.size rfl 24 [.string t1, .int .i64 (t2 : Int), .bool t3].toArray (0, 0) _ K3.out.h1 Tryd.underlying24 rfl info3x ?_ | refine wpList_store_row rfl 24 _ _ rfl w.heap.size [.string t1, .int .i64 (t2 : Int), .bool t3].toArray rfl rfl 24 [.string ⟨#[]⟩, .int .i64 0, .bool false].toArray K3.out.h0 info3x rfl (by simp [Value.oneCell']) ?_)
  refine bodyPost_ret (results_cell_row rfl _ _ w.heap.size 24 [.string t1, .int .i64 (t2 : Int), .bool t3].toArray (0, 0) _ rfl (setRow_heap _ _ _ _ _ _ K3.out.h0) Tryd.underlying24 rfl info3x) rfl ?_
  refine ⟨t1, t2, t3, s3, rfl, N1.out, num_le N2.out (by decide), aft_ex0 A1.out A2.out A3.out, K3.out.rd.only K3.out.h0 (noBytes_cons (fun _ h => by cases h) (noBytes_cons (fun _ h => by cases h) (noBytes_cons (fun _ h => by cases h) (noBytes_nil)))) (Ne.symm K3.out.n0) (fun k _ hk => setRow_other _ _ _ _ hk), ?_⟩
  exact ⟨K3.out.bar.os, K3.out.bar.tape, K3.out.bar.output, by rw [size_setRow]; exact K3.out.bar.size, fun k hk hp => (setRow_other _ _ _ _ (by omega)).trans (K3.out.bar.block k hk hp)⟩
set_option maxRecDepth 20000 in
set_option maxHeartbeats 2000000 in
theorem rbdR_any (p : Nat) (s : Option (List UInt8)) (w : World) (hr : Rd 81 w p s) :
    Calls Tryd.prog 48 #[.pointer (some ⟨p, 0, none⟩)] w (BdPost p s w) := by
  obtain ⟨U, fold⟩ : ∃ X, w.alloc (.cells #[.string ⟨#[]⟩, .string ⟨#[]⟩, .string ⟨#[]⟩] 26) = X := ⟨_, rfl⟩
  have bU : Below w.heap.size w U := by rw [← fold]; exact box_below w _
  have hU : U.heap.size = w.heap.size + 1 := by rw [← fold]; exact World.size_alloc _ _
  have hlt := hr.lt
  have K0 : Hid (Rd 81 U p s ∧ U.heap[w.heap.size]? = some (.cells #[.string ⟨#[]⟩, .string ⟨#[]⟩, .string ⟨#[]⟩] 26 (0, 0)) ∧ Bar p w U ∧ w.heap.size ≠ p ∧ p < w.heap.size) := ⟨hr.kept bU, by rw [← fold]; exact heap_alloc_new w _, Bar.of bU, by omega, hlt⟩
  have hC := rtextR_any p s U K0.out.1
  clear bU hlt hr hU
  go_enter Tryd.func48, Tryd.ntmps48
  go_wp2_with fail
  try rw [fold]
  refine hC.mono ?_
  rintro e w1 ⟨t1, s1, rfl, n1, a1, r1, b1⟩
  clear hC
  have A1 : Hid (Aft s textP t1 s1) := a1
  have N1 : Hid _ := n1
  have h1 := b1.box (C := [.string ⟨#[]⟩, .string ⟨#[]⟩, .string ⟨#[]⟩]) K0.out.2.1 K0.out.2.2.2.1
  obtain ⟨X, hX⟩ : ∃ X, w1.alloc (.cells #[.string t1, .string ⟨#[]⟩, .string ⟨#[]⟩] 26) = X := ⟨_, rfl⟩
  have bX : Below w1.heap.size w1 X := by rw [← hX]; exact box_below w1 _
  have FX : Hid (w1.alloc (.cells #[.string t1, .string ⟨#[]⟩, .string ⟨#[]⟩] 26) = X) := hX
  have K1 : Hid (Two0 26 w X p w.heap.size w1.heap.size [.string ⟨#[]⟩, .string ⟨#[]⟩, .string ⟨#[]⟩] [.string t1, .string ⟨#[]⟩, .string ⟨#[]⟩] s1) := ⟨r1.kept bX, (bX.block _ (Array.getElem?_eq_some_iff.1 h1).1).trans h1, by rw [← hX]; exact heap_alloc_new w1 _, (K0.out.2.2.1.trans b1).trans (Bar.of bX), K0.out.2.2.2.1, by have := r1.lt; omega, by have := (Array.getElem?_eq_some_iff.1 h1).1; omega, Nat.le_refl _, by have := (Array.getElem?_eq_some_iff.1 h1).1; omega⟩
  clear h1 bX hX a1 n1 r1 b1
  have hC := rtextR_any p s1 X K1.out.rd
  go_wp2_with fail
  try rw [FX.out]
  refine hC.mono ?_
  rintro e w2 ⟨t2, s2, rfl, n2, a2, r2, b2⟩
  clear hC
  have A2 : Hid (Aft s1 textP t2 s2) := a2
  have N2 : Hid _ := n2
  have L2 : Hid (Two0 26 w w2 p w.heap.size w1.heap.size [.string ⟨#[]⟩, .string ⟨#[]⟩, .string ⟨#[]⟩] [.string t1, .string ⟨#[]⟩, .string ⟨#[]⟩] s2) := K1.out.go r2 b2
  obtain ⟨y20, y21, y22⟩ := cells3 L2.out.h1
  have f2 := fun j => box_free L2.out.h1 j
  obtain ⟨X2, fold2⟩ : ∃ X, w2.setCell ⟨w1.heap.size, 1, none⟩ (.string t2) = X := ⟨_, rfl⟩
  have K2 : Hid (Two0 26 w X2 p w.heap.size w1.heap.size [.string ⟨#[]⟩, .string ⟨#[]⟩, .string ⟨#[]⟩] [.string t1, .string t2, .string ⟨#[]⟩] s2) := by rw [← fold2]; exact L2.out.set (noBytes_cons (fun _ h => by cases h) (noBytes_cons (fun _ h => by cases h) (noBytes_cons (fun _ h => by cases h) (noBytes_nil)))) 1 _
  clear a2 n2 r2 b2
  have hC := rtextR_any p s2 X2 K2.out.rd
  go_wp2_with fail
  skip
  refine hC.mono ?_
  rintro e w3 ⟨t3, s3, rfl, n3, a3, r3, b3⟩
  clear hC
  have A3 : Hid (Aft s2 textP t3 s3) := a3
  have N3 : Hid _ := n3
  have L3 : Hid (Two0 26 w w3 p w.heap.size w1.heap.size [.string ⟨#[]⟩, .string ⟨#[]⟩, .string ⟨#[]⟩] [.string t1, .string t2, .string ⟨#[]⟩] s3) := K2.out.go r3 b3
  obtain ⟨y30, y31, y32⟩ := cells3 L3.out.h1
  have f3 := fun j => box_free L3.out.h1 j
  obtain ⟨X3, fold3⟩ : ∃ X, w3.setCell ⟨w1.heap.size, 2, none⟩ (.string t3) = X := ⟨_, rfl⟩
  have K3 : Hid (Two0 26 w X3 p w.heap.size w1.heap.size [.string ⟨#[]⟩, .string ⟨#[]⟩, .string ⟨#[]⟩] [.string t1, .string t2, .string t3] s3) := by rw [← fold3]; exact L3.out.set (noBytes_cons (fun _ h => by cases h) (noBytes_cons (fun _ h => by cases h) (noBytes_cons (fun _ h => by cases h) (noBytes_nil)))) 2 _
  clear a3 n3 r3 b3
  go_wp2_with (first | refine wpList_load_row rfl 26 _ rfl w1.heap.size rfl 26 [.string t1, .string t2, .string t3].toArray (0, 0) _ K3.out.h1 Tryd.underlying26 rfl info3b ?_ | refine wpList_store_row rfl 26 _ _ rfl w.heap.size [.string t1, .string t2, .string t3].toArray rfl rfl 26 [.string ⟨#[]⟩, .string ⟨#[]⟩, .string ⟨#[]⟩].toArray K3.out.h0 info3b rfl (by simp [Value.oneCell']) ?_)
  refine bodyPost_ret (results_cell_row rfl _ _ w.heap.size 26 [.string t1, .string t2, .string t3].toArray (0, 0) _ rfl (setRow_heap _ _ _ _ _ _ K3.out.h0) Tryd.underlying26 rfl info3b) rfl ?_
  refine ⟨t1, t2, t3, s3, rfl, N1.out, N2.out, N3.out, aft_bd0 A1.out A2.out A3.out, K3.out.rd.only K3.out.h0 (noBytes_cons (fun _ h => by cases h) (noBytes_cons (fun _ h => by cases h) (noBytes_cons (fun _ h => by cases h) (noBytes_nil)))) (Ne.symm K3.out.n0) (fun k _ hk => setRow_other _ _ _ _ hk), ?_⟩
  exact ⟨K3.out.bar.os, K3.out.bar.tape, K3.out.bar.output, by rw [size_setRow]; exact K3.out.bar.size, fun k hk hp => (setRow_other _ _ _ _ (by omega)).trans (K3.out.bar.block k hk hp)⟩
set_option maxRecDepth 20000 in
set_option maxHeartbeats 2000000 in
theorem rmsgR_any (p : Nat) (s : Option (List UInt8)) (w : World) (hr : Rd 81 w p s) :
    Calls Tryd.prog 49 #[.pointer (some ⟨p, 0, none⟩)] w (MsgPost 81 p s w) := by
  obtain ⟨U, fold⟩ : ∃ X, (w.alloc (.cells #[.int .i64 0, .int .u64 0, .int .i64 0, .string ⟨#[]⟩, .string ⟨#[]⟩, .string ⟨#[]⟩] 30)).alloc (.cells #[.int .i64 0, .int .u64 0, .int .i64 0, .string ⟨#[]⟩, .string ⟨#[]⟩, .string ⟨#[]⟩] 30) = X := ⟨_, rfl⟩
  have bU : Below w.heap.size w U := by rw [← fold]; exact keptW (box_below w _) (box_below _ _)
  have hlt := hr.lt
  have K0 : Hid (Two0 30 w U p w.heap.size (w.heap.size + 1) [.int .i64 0, .int .u64 0, .int .i64 0, .string ⟨#[]⟩, .string ⟨#[]⟩, .string ⟨#[]⟩] [.int .i64 0, .int .u64 0, .int .i64 0, .string ⟨#[]⟩, .string ⟨#[]⟩, .string ⟨#[]⟩] s) := ⟨hr.kept bU, by rw [← fold]; exact heap_alloc2_old w _ _, by rw [← fold]; exact heap_alloc2_new w _ _, Bar.of bU, by omega, by omega, by omega, Nat.le_refl _, by omega⟩
  have hC := rnum1_any p s U K0.out.rd
  clear bU hlt hr
  go_enter Tryd.func49, Tryd.ntmps49
  go_wp2_with fail
  try rw [fold]
  refine hC.mono ?_
  rintro e w1 ⟨t1, s1, rfl, n1, a1, r1, b1⟩
  clear hC
  have wr1 := wrap_num n1 (by decide)
  have A1 : Hid (Aft s (numP 1) t1 s1) := a1
  have N1 : Hid _ := n1
  have L1 : Hid (Two0 30 w w1 p w.heap.size (w.heap.size + 1) [.int .i64 0, .int .u64 0, .int .i64 0, .string ⟨#[]⟩, .string ⟨#[]⟩, .string ⟨#[]⟩] [.int .i64 0, .int .u64 0, .int .i64 0, .string ⟨#[]⟩, .string ⟨#[]⟩, .string ⟨#[]⟩] s1) := K0.out.go r1 b1
  obtain ⟨y10, y11, y12, y13, y14, y15⟩ := cells6 L1.out.h1
  have f1 := fun j => box_free L1.out.h1 j
  obtain ⟨X1, fold1⟩ : ∃ X, w1.setCell ⟨(w.heap.size + 1), 0, none⟩ (.int .i64 (t1 : Int)) = X := ⟨_, rfl⟩
  have K1 : Hid (Two0 30 w X1 p w.heap.size (w.heap.size + 1) [.int .i64 0, .int .u64 0, .int .i64 0, .string ⟨#[]⟩, .string ⟨#[]⟩, .string ⟨#[]⟩] [.int .i64 (t1 : Int), .int .u64 0, .int .i64 0, .string ⟨#[]⟩, .string ⟨#[]⟩, .string ⟨#[]⟩] s1) := by rw [← fold1]; exact L1.out.set (noBytes_cons (fun _ h => by cases h) (noBytes_cons (fun _ h => by cases h) (noBytes_cons (fun _ h => by cases h) (noBytes_cons (fun _ h => by cases h) (noBytes_cons (fun _ h => by cases h) (noBytes_cons (fun _ h => by cases h) (noBytes_nil))))))) 0 _
  clear a1 n1 r1 b1
  have hC := rnum8_any p s1 X1 K1.out.rd
  go_wp2_with fail
  skip
  refine hC.mono ?_
  rintro e w2 ⟨t2, s2, rfl, n2, a2, r2, b2⟩
  clear hC
  have A2 : Hid (Aft s1 (numP 8) t2 s2) := a2
  have N2 : Hid _ := n2
  have L2 : Hid (Two0 30 w w2 p w.heap.size (w.heap.size + 1) [.int .i64 0, .int .u64 0, .int .i64 0, .string ⟨#[]⟩, .string ⟨#[]⟩, .string ⟨#[]⟩] [.int .i64 (t1 : Int), .int .u64 0, .int .i64 0, .string ⟨#[]⟩, .string ⟨#[]⟩, .string ⟨#[]⟩] s2) := K1.out.go r2 b2
  obtain ⟨y20, y21, y22, y23, y24, y25⟩ := cells6 L2.out.h1
  have f2 := fun j => box_free L2.out.h1 j
  obtain ⟨X2, fold2⟩ : ∃ X, w2.setCell ⟨(w.heap.size + 1), 1, none⟩ (.int .u64 (t2 : Int)) = X := ⟨_, rfl⟩
  have K2 : Hid (Two0 30 w X2 p w.heap.size (w.heap.size + 1) [.int .i64 0, .int .u64 0, .int .i64 0, .string ⟨#[]⟩, .string ⟨#[]⟩, .string ⟨#[]⟩] [.int .i64 (t1 : Int), .int .u64 (t2 : Int), .int .i64 0, .string ⟨#[]⟩, .string ⟨#[]⟩, .string ⟨#[]⟩] s2) := by rw [← fold2]; exact L2.out.set (noBytes_cons (fun _ h => by cases h) (noBytes_cons (fun _ h => by cases h) (noBytes_cons (fun _ h => by cases h) (noBytes_cons (fun _ h => by cases h) (noBytes_cons (fun _ h => by cases h) (noBytes_cons (fun _ h => by cases h) (noBytes_nil))))))) 1 _
  clear a2 n2 r2 b2
  have hC := rnum1_any p s2 X2 K2.out.rd
  go_wp2_with fail
  skip
  refine hC.mono ?_
  rintro e w3 ⟨t3, s3, rfl, n3, a3, r3, b3⟩
  clear hC
  have wr3 := wrap_num n3 (by decide)
  have A3 : Hid (Aft s2 (numP 1) t3 s3) := a3
  have N3 : Hid _ := n3
  have L3 : Hid (Two0 30 w w3 p w.heap.size (w.heap.size + 1) [.int .i64 0, .int .u64 0, .int .i64 0, .string ⟨#[]⟩, .string ⟨#[]⟩, .string ⟨#[]⟩] [.int .i64 (t1 : Int), .int .u64 (t2 : Int), .int .i64 0, .string ⟨#[]⟩, .string ⟨#[]⟩, .string ⟨#[]⟩] s3) := K2.out.go r3 b3
  obtain ⟨y30, y31, y32, y33, y34, y35⟩ := cells6 L3.out.h1
  have f3 := fun j => box_free L3.out.h1 j
  obtain ⟨X3, fold3⟩ : ∃ X, w3.setCell ⟨(w.heap.size + 1), 2, none⟩ (.int .i64 (t3 : Int)) = X := ⟨_, rfl⟩
  have K3 : Hid (Two0 30 w X3 p w.heap.size (w.heap.size + 1) [.int .i64 0, .int .u64 0, .int .i64 0, .string ⟨#[]⟩, .string ⟨#[]⟩, .string ⟨#[]⟩] [.int .i64 (t1 : Int), .int .u64 (t2 : Int), .int .i64 (t3 : Int), .string ⟨#[]⟩, .string ⟨#[]⟩, .string ⟨#[]⟩] s3) := by rw [← fold3]; exact L3.out.set (noBytes_cons (fun _ h => by cases h) (noBytes_cons (fun _ h => by cases h) (noBytes_cons (fun _ h => by cases h) (noBytes_cons (fun _ h => by cases h) (noBytes_cons (fun _ h => by cases h) (noBytes_cons (fun _ h => by cases h) (noBytes_nil))))))) 2 _
  clear a3 n3 r3 b3
  have hC := rtextR_any p s3 X3 K3.out.rd
  go_wp2_with fail
  skip
  refine hC.mono ?_
  rintro e w4 ⟨t4, s4, rfl, n4, a4, r4, b4⟩
  clear hC
  have A4 : Hid (Aft s3 textP t4 s4) := a4
  have N4 : Hid _ := n4
  have L4 : Hid (Two0 30 w w4 p w.heap.size (w.heap.size + 1) [.int .i64 0, .int .u64 0, .int .i64 0, .string ⟨#[]⟩, .string ⟨#[]⟩, .string ⟨#[]⟩] [.int .i64 (t1 : Int), .int .u64 (t2 : Int), .int .i64 (t3 : Int), .string ⟨#[]⟩, .string ⟨#[]⟩, .string ⟨#[]⟩] s4) := K3.out.go r4 b4
  obtain ⟨y40, y41, y42, y43, y44, y45⟩ := cells6 L4.out.h1
  have f4 := fun j => box_free L4.out.h1 j
  obtain ⟨X4, fold4⟩ : ∃ X, w4.setCell ⟨(w.heap.size + 1), 3, none⟩ (.string t4) = X := ⟨_, rfl⟩
  have K4 : Hid (Two0 30 w X4 p w.heap.size (w.heap.size + 1) [.int .i64 0, .int .u64 0, .int .i64 0, .string ⟨#[]⟩, .string ⟨#[]⟩, .string ⟨#[]⟩] [.int .i64 (t1 : Int), .int .u64 (t2 : Int), .int .i64 (t3 : Int), .string t4, .string ⟨#[]⟩, .string ⟨#[]⟩] s4) := by rw [← fold4]; exact L4.out.set (noBytes_cons (fun _ h => by cases h) (noBytes_cons (fun _ h => by cases h) (noBytes_cons (fun _ h => by cases h) (noBytes_cons (fun _ h => by cases h) (noBytes_cons (fun _ h => by cases h) (noBytes_cons (fun _ h => by cases h) (noBytes_nil))))))) 3 _
  clear a4 n4 r4 b4
  have hC := rtextR_any p s4 X4 K4.out.rd
  go_wp2_with fail
  skip
  refine hC.mono ?_
  rintro e w5 ⟨t5, s5, rfl, n5, a5, r5, b5⟩
  clear hC
  have A5 : Hid (Aft s4 textP t5 s5) := a5
  have N5 : Hid _ := n5
  have L5 : Hid (Two0 30 w w5 p w.heap.size (w.heap.size + 1) [.int .i64 0, .int .u64 0, .int .i64 0, .string ⟨#[]⟩, .string ⟨#[]⟩, .string ⟨#[]⟩] [.int .i64 (t1 : Int), .int .u64 (t2 : Int), .int .i64 (t3 : Int), .string t4, .string ⟨#[]⟩, .string ⟨#[]⟩] s5) := K4.out.go r5 b5
  obtain ⟨y50, y51, y52, y53, y54, y55⟩ := cells6 L5.out.h1
  have f5 := fun j => box_free L5.out.h1 j
  obtain ⟨X5, fold5⟩ : ∃ X, w5.setCell ⟨(w.heap.size + 1), 4, none⟩ (.string t5) = X := ⟨_, rfl⟩
  have K5 : Hid (Two0 30 w X5 p w.heap.size (w.heap.size + 1) [.int .i64 0, .int .u64 0, .int .i64 0, .string ⟨#[]⟩, .string ⟨#[]⟩, .string ⟨#[]⟩] [.int .i64 (t1 : Int), .int .u64 (t2 : Int), .int .i64 (t3 : Int), .string t4, .string t5, .string ⟨#[]⟩] s5) := by rw [← fold5]; exact L5.out.set (noBytes_cons (fun _ h => by cases h) (noBytes_cons (fun _ h => by cases h) (noBytes_cons (fun _ h => by cases h) (noBytes_cons (fun _ h => by cases h) (noBytes_cons (fun _ h => by cases h) (noBytes_cons (fun _ h => by cases h) (noBytes_nil))))))) 4 _
  clear a5 n5 r5 b5
  have hC := rtextR_any p s5 X5 K5.out.rd
  go_wp2_with fail
  skip
  refine hC.mono ?_
  rintro e w6 ⟨t6, s6, rfl, n6, a6, r6, b6⟩
  clear hC
  have A6 : Hid (Aft s5 textP t6 s6) := a6
  have N6 : Hid _ := n6
  have L6 : Hid (Two0 30 w w6 p w.heap.size (w.heap.size + 1) [.int .i64 0, .int .u64 0, .int .i64 0, .string ⟨#[]⟩, .string ⟨#[]⟩, .string ⟨#[]⟩] [.int .i64 (t1 : Int), .int .u64 (t2 : Int), .int .i64 (t3 : Int), .string t4, .string t5, .string ⟨#[]⟩] s6) := K5.out.go r6 b6
  obtain ⟨y60, y61, y62, y63, y64, y65⟩ := cells6 L6.out.h1
  have f6 := fun j => box_free L6.out.h1 j
  obtain ⟨X6, fold6⟩ : ∃ X, w6.setCell ⟨(w.heap.size + 1), 5, none⟩ (.string t6) = X := ⟨_, rfl⟩
  have K6 : Hid (Two0 30 w X6 p w.heap.size (w.heap.size + 1) [.int .i64 0, .int .u64 0, .int .i64 0, .string ⟨#[]⟩, .string ⟨#[]⟩, .string ⟨#[]⟩] [.int .i64 (t1 : Int), .int .u64 (t2 : Int), .int .i64 (t3 : Int), .string t4, .string t5, .string t6] s6) := by rw [← fold6]; exact L6.out.set (noBytes_cons (fun _ h => by cases h) (noBytes_cons (fun _ h => by cases h) (noBytes_cons (fun _ h => by cases h) (noBytes_cons (fun _ h => by cases h) (noBytes_cons (fun _ h => by cases h) (noBytes_cons (fun _ h => by cases h) (noBytes_nil))))))) 5 _
  clear a6 n6 r6 b6
  go_wp2_with (first | refine wpList_load_row rfl 30 _ rfl (w.heap.size + 1) rfl 30 [.int .i64 (t1 : Int), .int .u64 (t2 : Int), .int .i64 (t3 : Int), .string t4, .string t5, .string t6].toArray (0, 0) _ K6.out.h1 Tryd.underlying30 rfl info6 ?_ | refine wpList_store_row rfl 30 _ _ rfl w.heap.size [.int .i64 (t1 : Int), .int .u64 (t2 : Int), .int .i64 (t3 : Int), .string t4, .string t5, .string t6].toArray rfl rfl 30 [.int .i64 0, .int .u64 0, .int .i64 0, .string ⟨#[]⟩, .string ⟨#[]⟩, .string ⟨#[]⟩].toArray K6.out.h0 info6 rfl (by simp [Value.oneCell']) ?_)
  refine bodyPost_ret (results_cell_row rfl _ _ w.heap.size 30 [.int .i64 (t1 : Int), .int .u64 (t2 : Int), .int .i64 (t3 : Int), .string t4, .string t5, .string t6].toArray (0, 0) _ rfl (setRow_heap _ _ _ _ _ _ K6.out.h0) Tryd.underlying30 rfl info6) rfl ?_
  refine ⟨⟨t1, t2, t3, t4, t5, t6⟩, s6, rfl, ⟨by have := num_le N1.out (by decide); exact ⟨by show _ ≤ (t1 : Int); omega, by show (t1 : Int) < _; omega⟩, by have h := N2.out; exact ⟨by show _ ≤ (t2 : Int); omega, by show (t2 : Int) < _; omega⟩, by have := num_le N3.out (by decide); exact ⟨by show _ ≤ (t3 : Int); omega, by show (t3 : Int) < _; omega⟩, short_max N4.out, short_max N5.out, short_max N6.out⟩, aft_msg A1.out A2.out A3.out A4.out A5.out A6.out, K6.out.rd.only K6.out.h0 (noBytes_cons (fun _ h => by cases h) (noBytes_cons (fun _ h => by cases h) (noBytes_cons (fun _ h => by cases h) (noBytes_cons (fun _ h => by cases h) (noBytes_cons (fun _ h => by cases h) (noBytes_cons (fun _ h => by cases h) (noBytes_nil))))))) (Ne.symm K6.out.n0) (fun k _ hk => setRow_other _ _ _ _ hk), ?_⟩
  exact ⟨K6.out.bar.os, K6.out.bar.tape, K6.out.bar.output, by rw [size_setRow]; exact K6.out.bar.size, fun k hk hp => (setRow_other _ _ _ _ (by omega)).trans (K6.out.bar.block k hk hp)⟩
end Go.Proofs.YteimdolckhpndaaDoor
