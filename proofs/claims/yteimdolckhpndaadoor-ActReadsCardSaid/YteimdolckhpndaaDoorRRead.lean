/-
  The document's Read, by its contract.
-/
import Derived.Test.YteimdolckhpndaaDoorRRdMsg
import Derived.Test.YteimdolckhpndaaDoorRdRead
import Derived.Test.YteimdolckhpndaaDoorRGoodA
import Derived.Deep.CutRange
import Derived.Deep.CutBlock
namespace Go.Proofs.YteimdolckhpndaaDoor
open Go.RowKit

/-- The document's reader beside a result's box and the box of an act. -/
structure RIn (w U : World) (p g q : Nat) (s : Option (List UInt8)) (z : Ax) : Prop where
  rd : Rd 81 U p s
  hg : U.heap[g]? = some (.cells (xcells (zA 0)).toArray 32 (0, 0))
  hq : U.heap[q]? = some (.cells (xcells z).toArray 32 (0, 0))
  fits : z.Fits
  bel : Below w.heap.size w U
  gp : g ≠ p
  qp : q ≠ p
  gq : g ≠ q
  wg : w.heap.size ≤ g
  wp : w.heap.size ≤ p
  wq : w.heap.size ≤ q
theorem RIn.go {w U V : World} {p g q : Nat} {s s' : Option (List UInt8)} {z : Ax} (h : RIn w U p g q s z) (hr : Rd 81 V p s') (hb : Bar p U V) : RIn w V p g q s' z :=
  ⟨hr, hb.box h.hg h.gp, hb.box h.hq h.qp, h.fits, hb.below h.bel h.wp h.bel.size, h.gp, h.qp, h.gq, h.wg, h.wp, h.wq⟩
theorem RIn.put {w U V : World} {p g q : Nat} {s : Option (List UInt8)} {z z' : Ax} (h : RIn w U p g q s z) (hz : z'.Fits) (hq : V.heap[q]? = some (.cells (xcells z').toArray 32 (0, 0))) (hV : ∀ k, k ≠ q → V.heap[k]? = U.heap[k]?) (hb : Below w.heap.size w V) : RIn w V p g q s z' :=
  ⟨h.rd.only h.hq (noBytes_act z) (Ne.symm h.qp) (fun k _ hk => hV k hk), (hV g h.gq).trans h.hg, hq, hz, hb, h.gp, h.qp, h.gq, h.wg, h.wp, h.wq⟩
/-- What the switch leaves. -/
def RPostA (w wx : World) (p g q : Nat) (s1 : Option (List UInt8)) (t1 : Nat) : Prop := ∃ z s2, RIn w wx p g q s2 z ∧ Aft s1 (takesP ((lettersL (t1 : Int)).getD []) (zA (t1 : Int))) z s2
set_option maxRecDepth 20000 in
set_option maxHeartbeats 8000000 in
theorem rread_any (v : Value) (bs : List UInt8) (w : World) (hv : Holds w v bs) (hl : bs.length ≤ 100000) :
    Calls Tryd.prog 20 #[v] w fun e w' => e = .returned (.tuple #[av (actOf (readA bs)), .int .i64 (errOf (readA bs))]) ∧ Below w.heap.size w w' := by
  have M := made_new 32 81 (xcells (zA 0)) w v bs hv hl
  obtain ⟨U, fold⟩ : ∃ U, (w.alloc (.cells #[.int .i64 0, .string ⟨#[]⟩, .int .i64 0, .int .u64 0, .int .i64 0, .string ⟨#[]⟩, .int .i64 0, .bool false, .string ⟨#[]⟩, .string ⟨#[]⟩, .string ⟨#[]⟩, .int .i64 0, .int .u64 0, .int .i64 0, .string ⟨#[]⟩, .string ⟨#[]⟩, .string ⟨#[]⟩] 32)).alloc (.cells #[v, .bool false] 81) = U := ⟨_, rfl⟩
  have M : Made 32 81 (xcells (zA 0)) w U v bs := by rw [← fold]; exact M
  have hC := rnum1_any (w.heap.size + 1) (some bs) U M.rd
  have HM : Hid (Made 32 81 (xcells (zA 0)) w U v bs) := M
  obtain ⟨va, vc, rfl⟩ := hv.slice
  clear M hv hl
  go_enter Tryd.func20, Tryd.ntmps20
  go_wp2_with fail
  try rw [fold]
  refine hC.mono ?_
  rintro e w1 ⟨t1, s1, rfl, n1, a1, r1, b1⟩
  clear hC
  have wr1 := wrap_num n1 (by decide)
  have A1 : Hid (Aft (some bs) (numP 1) t1 s1) := a1
  have bel1 : Below w.heap.size w w1 := b1.below HM.out.bel (by omega) (by have := HM.out.size; omega)
  have x1 := b1.box HM.out.box (by omega)
  obtain ⟨X, hX⟩ : ∃ X, w1.alloc (.cells #[.int .i64 (t1 : Int), .string ⟨#[]⟩, .int .i64 0, .int .u64 0, .int .i64 0, .string ⟨#[]⟩, .int .i64 0, .bool false, .string ⟨#[]⟩, .string ⟨#[]⟩, .string ⟨#[]⟩, .int .i64 0, .int .u64 0, .int .i64 0, .string ⟨#[]⟩, .string ⟨#[]⟩, .string ⟨#[]⟩] 32) = X := ⟨_, rfl⟩
  have bX : Below w1.heap.size w1 X := by rw [← hX]; exact box_below w1 _
  have HI : Hid (RIn w X (w.heap.size + 1) w.heap.size w1.heap.size s1 (zA t1)) := ⟨r1.kept bX, (bX.block _ (Array.getElem?_eq_some_iff.1 x1).1).trans x1, by rw [← hX]; exact heap_alloc_new w1 _, zA_fits t1 (num_le n1 (by decide)), keptW bel1 bX, by omega, by have := r1.lt; omega, by have := (Array.getElem?_eq_some_iff.1 x1).1; omega, Nat.le_refl _, by omega, by have := (Array.getElem?_eq_some_iff.1 x1).1; omega⟩
  have HX : Hid _ := hX
  have HK : Hid (t1 < 65536) := num_le n1 (by decide)
  clear n1 a1 r1 b1 bel1 x1 bX hX
  have k0 : X.cell? ⟨w1.heap.size, 0, none⟩ = some (.int .i64 (t1 : Int)) := box_at HI.out.hq rfl
  have HX1 : Hid (w1.alloc (.cells #[.int .i64 (t1 : Int), .string ⟨#[]⟩, .int .i64 0, .int .u64 0, .int .i64 0, .string ⟨#[]⟩, .int .i64 0, .bool false, .string ⟨#[]⟩, .string ⟨#[]⟩, .string ⟨#[]⟩, .int .i64 0, .int .u64 0, .int .i64 0, .string ⟨#[]⟩, .string ⟨#[]⟩, .string ⟨#[]⟩] 32) = X) := HX.out
  clear k0 HX
  go_upto_block 0 with fail
  rw [HX1.out]
  go_cut [] from 15 to 65 (fun wx => RPostA w wx (w.heap.size + 1) w.heap.size w1.heap.size s1 t1)
  case first =>
    by_cases h1 : t1 = 1
    · have hl : (lettersL (t1 : Int)).getD [] = [110, 100] := by rw [h1]; rfl
      have HE : Hid ((lettersL (t1 : Int)).getD [] = [110, 100]) := hl
      have e1 : ((t1 : Int) == 1) = true := by rw [h1]; rfl
      clear hl h1
      have hC := rtextR_any (w.heap.size + 1) s1 X HI.out.rd
      go_wp2_with fail
      refine hC.mono ?_
      rintro e w2 ⟨t2, s2, rfl, n2, a2, r2, b2⟩
      clear hC
      have P2 : Hid (RIn w w2 (w.heap.size + 1) w.heap.size w1.heap.size s2 (zA t1)) := HI.out.go r2 b2
      have A2 : Hid (Aft s1 (takeP (zA t1) 110) ({ (zA t1) with name := t2 } : Ax) s2) := aft_name a2
      have y2 := (cells17 P2.out.hq).2.1
      have f2 := box_free P2.out.hq 1
      obtain ⟨X2, fold2⟩ : ∃ X, w2.setCell ⟨w1.heap.size, 1, none⟩ (.string t2) = X := ⟨_, rfl⟩
      have Q2 : Hid (RIn w X2 (w.heap.size + 1) w.heap.size w1.heap.size s2 ({ (zA t1) with name := t2 } : Ax)) := P2.out.put { P2.out.fits with nm := short_max n2 } (by rw [← fold2]; exact set_list P2.out.hq _) (fun k hk => by rw [← fold2]; exact Below.heap_setCell _ _ _ _ hk) (by rw [← fold2]; exact P2.out.bel.setCell (p := ⟨w1.heap.size, 1, none⟩) P2.out.wq _)
      clear a2 n2 r2 b2
      have hC := rnum2_any (w.heap.size + 1) s2 X2 Q2.out.rd
      go_wp2_with fail
      refine hC.mono ?_
      rintro e w3 ⟨t3, s3, rfl, n3, a3, r3, b3⟩
      clear hC
      have wr3 := wrap_num n3 (by decide)
      have P3 : Hid (RIn w w3 (w.heap.size + 1) w.heap.size w1.heap.size s3 (({ (zA t1) with name := t2 } : Ax))) := Q2.out.go r3 b3
      have A3 : Hid (Aft s2 (takeP (({ (zA t1) with name := t2 } : Ax)) 100) ({ (({ (zA t1) with name := t2 } : Ax)) with n := (t3 : Int) } : Ax) s3) := aft_n a3
      have y3 := (cells17 P3.out.hq).2.2.1
      have f3 := box_free P3.out.hq 2
      obtain ⟨X3, fold3⟩ : ∃ X, w3.setCell ⟨w1.heap.size, 2, none⟩ (.int .i64 (t3 : Int)) = X := ⟨_, rfl⟩
      have Q3 : Hid (RIn w X3 (w.heap.size + 1) w.heap.size w1.heap.size s3 ({ (({ (zA t1) with name := t2 } : Ax)) with n := (t3 : Int) } : Ax)) := P3.out.put { P3.out.fits with n := by have := num_le n3 (by decide); exact ⟨by show _ ≤ (t3 : Int); omega, by show (t3 : Int) < _; omega⟩ } (by rw [← fold3]; exact set_list P3.out.hq _) (fun k hk => by rw [← fold3]; exact Below.heap_setCell _ _ _ _ hk) (by rw [← fold3]; exact P3.out.bel.setCell (p := ⟨w1.heap.size, 2, none⟩) P3.out.wq _)
      clear a3 n3 r3 b3
      go_wp2
      go_meet
      exact ⟨_, _, Q3.out, by rw [HE.out]; exact (Aft.bind (Q := fun z => takesP _ z) A2.out (Aft.bind (Q := fun z => takesP _ z) A3.out (aft_pure _ _)))⟩
    have e1 : ((t1 : Int) == 1) = false := by rw [beq_eq_false_iff_ne]; omega
    by_cases h2 : t1 = 2
    · have hl : (lettersL (t1 : Int)).getD [] = [110] := by rw [h2]; rfl
      have HE : Hid ((lettersL (t1 : Int)).getD [] = [110]) := hl
      have e2 : ((t1 : Int) == 2) = true := by rw [h2]; rfl
      clear hl h2
      have hC := rtextR_any (w.heap.size + 1) s1 X HI.out.rd
      go_wp2_with fail
      refine hC.mono ?_
      rintro e w2 ⟨t2, s2, rfl, n2, a2, r2, b2⟩
      clear hC
      have P2 : Hid (RIn w w2 (w.heap.size + 1) w.heap.size w1.heap.size s2 (zA t1)) := HI.out.go r2 b2
      have A2 : Hid (Aft s1 (takeP (zA t1) 110) ({ (zA t1) with name := t2 } : Ax) s2) := aft_name a2
      have y2 := (cells17 P2.out.hq).2.1
      have f2 := box_free P2.out.hq 1
      obtain ⟨X2, fold2⟩ : ∃ X, w2.setCell ⟨w1.heap.size, 1, none⟩ (.string t2) = X := ⟨_, rfl⟩
      have Q2 : Hid (RIn w X2 (w.heap.size + 1) w.heap.size w1.heap.size s2 ({ (zA t1) with name := t2 } : Ax)) := P2.out.put { P2.out.fits with nm := short_max n2 } (by rw [← fold2]; exact set_list P2.out.hq _) (fun k hk => by rw [← fold2]; exact Below.heap_setCell _ _ _ _ hk) (by rw [← fold2]; exact P2.out.bel.setCell (p := ⟨w1.heap.size, 1, none⟩) P2.out.wq _)
      clear a2 n2 r2 b2
      go_wp2
      go_meet
      exact ⟨_, _, Q2.out, by rw [HE.out]; exact (Aft.bind (Q := fun z => takesP _ z) A2.out (aft_pure _ _))⟩
    have e2 : ((t1 : Int) == 2) = false := by rw [beq_eq_false_iff_ne]; omega
    by_cases h4 : t1 = 4
    · have hl : (lettersL (t1 : Int)).getD [] = [110] := by rw [h4]; rfl
      have HE : Hid ((lettersL (t1 : Int)).getD [] = [110]) := hl
      have e4 : ((t1 : Int) == 4) = true := by rw [h4]; rfl
      clear hl h4
      have hC := rtextR_any (w.heap.size + 1) s1 X HI.out.rd
      go_wp2_with fail
      refine hC.mono ?_
      rintro e w2 ⟨t2, s2, rfl, n2, a2, r2, b2⟩
      clear hC
      have P2 : Hid (RIn w w2 (w.heap.size + 1) w.heap.size w1.heap.size s2 (zA t1)) := HI.out.go r2 b2
      have A2 : Hid (Aft s1 (takeP (zA t1) 110) ({ (zA t1) with name := t2 } : Ax) s2) := aft_name a2
      have y2 := (cells17 P2.out.hq).2.1
      have f2 := box_free P2.out.hq 1
      obtain ⟨X2, fold2⟩ : ∃ X, w2.setCell ⟨w1.heap.size, 1, none⟩ (.string t2) = X := ⟨_, rfl⟩
      have Q2 : Hid (RIn w X2 (w.heap.size + 1) w.heap.size w1.heap.size s2 ({ (zA t1) with name := t2 } : Ax)) := P2.out.put { P2.out.fits with nm := short_max n2 } (by rw [← fold2]; exact set_list P2.out.hq _) (fun k hk => by rw [← fold2]; exact Below.heap_setCell _ _ _ _ hk) (by rw [← fold2]; exact P2.out.bel.setCell (p := ⟨w1.heap.size, 1, none⟩) P2.out.wq _)
      clear a2 n2 r2 b2
      go_wp2
      go_meet
      exact ⟨_, _, Q2.out, by rw [HE.out]; exact (Aft.bind (Q := fun z => takesP _ z) A2.out (aft_pure _ _))⟩
    have e4 : ((t1 : Int) == 4) = false := by rw [beq_eq_false_iff_ne]; omega
    by_cases h8 : t1 = 8
    · have hl : (lettersL (t1 : Int)).getD [] = [110] := by rw [h8]; rfl
      have HE : Hid ((lettersL (t1 : Int)).getD [] = [110]) := hl
      have e8 : ((t1 : Int) == 8) = true := by rw [h8]; rfl
      clear hl h8
      have hC := rtextR_any (w.heap.size + 1) s1 X HI.out.rd
      go_wp2_with fail
      refine hC.mono ?_
      rintro e w2 ⟨t2, s2, rfl, n2, a2, r2, b2⟩
      clear hC
      have P2 : Hid (RIn w w2 (w.heap.size + 1) w.heap.size w1.heap.size s2 (zA t1)) := HI.out.go r2 b2
      have A2 : Hid (Aft s1 (takeP (zA t1) 110) ({ (zA t1) with name := t2 } : Ax) s2) := aft_name a2
      have y2 := (cells17 P2.out.hq).2.1
      have f2 := box_free P2.out.hq 1
      obtain ⟨X2, fold2⟩ : ∃ X, w2.setCell ⟨w1.heap.size, 1, none⟩ (.string t2) = X := ⟨_, rfl⟩
      have Q2 : Hid (RIn w X2 (w.heap.size + 1) w.heap.size w1.heap.size s2 ({ (zA t1) with name := t2 } : Ax)) := P2.out.put { P2.out.fits with nm := short_max n2 } (by rw [← fold2]; exact set_list P2.out.hq _) (fun k hk => by rw [← fold2]; exact Below.heap_setCell _ _ _ _ hk) (by rw [← fold2]; exact P2.out.bel.setCell (p := ⟨w1.heap.size, 1, none⟩) P2.out.wq _)
      clear a2 n2 r2 b2
      go_wp2
      go_meet
      exact ⟨_, _, Q2.out, by rw [HE.out]; exact (Aft.bind (Q := fun z => takesP _ z) A2.out (aft_pure _ _))⟩
    have e8 : ((t1 : Int) == 8) = false := by rw [beq_eq_false_iff_ne]; omega
    by_cases h3 : t1 = 3
    · have hl : (lettersL (t1 : Int)).getD [] = [120] := by rw [h3]; rfl
      have HE : Hid ((lettersL (t1 : Int)).getD [] = [120]) := hl
      have e3 : ((t1 : Int) == 3) = true := by rw [h3]; rfl
      clear hl h3
      have hC := rexR_any (w.heap.size + 1) s1 X HI.out.rd
      go_wp2_with fail
      refine hC.mono ?_
      rintro e w2 ⟨x2, k2, f2, s2, rfl, n2, m2, a2, r2, b2⟩
      clear hC
      have P2 : Hid (RIn w w2 (w.heap.size + 1) w.heap.size w1.heap.size s2 (zA t1)) := HI.out.go r2 b2
      have A2 : Hid (Aft s1 (takeP (zA t1) 120) ({ zA t1 with xn := x2, xk := (k2 : Int), xf := f2 } : Ax) s2) := aft_ex1 a2
      have y25 := (cells17 P2.out.hq).2.2.2.2.2.1
      have f25 := box_free P2.out.hq 5
      have y26 := (cells17 P2.out.hq).2.2.2.2.2.2.1
      have f26 := box_free P2.out.hq 6
      have y27 := (cells17 P2.out.hq).2.2.2.2.2.2.2.1
      have f27 := box_free P2.out.hq 7
      obtain ⟨X2, fold2⟩ : ∃ X, ((w2.setCell ⟨w1.heap.size, 5, none⟩ (.string x2)).setCell ⟨w1.heap.size, 6, none⟩ (.int .i64 (k2 : Int))).setCell ⟨w1.heap.size, 7, none⟩ (.bool f2) = X := ⟨_, rfl⟩
      have Q2 : Hid (RIn w X2 (w.heap.size + 1) w.heap.size w1.heap.size s2 ({ zA t1 with xn := x2, xk := (k2 : Int), xf := f2 } : Ax)) := P2.out.put { P2.out.fits with xn := short_max n2, xk := by have := m2; exact ⟨by show _ ≤ (k2 : Int); omega, by show (k2 : Int) < _; omega⟩ } (by rw [← fold2]; exact (set_list (set_list (set_list P2.out.hq _) _) _)) (fun k hk => by rw [← fold2]; rw [Below.heap_setCell _ _ _ _ hk]; rw [Below.heap_setCell _ _ _ _ hk]; rw [Below.heap_setCell _ _ _ _ hk]) (by rw [← fold2]; exact (((P2.out.bel.setCell (p := ⟨w1.heap.size, 5, none⟩) P2.out.wq _).setCell (p := ⟨w1.heap.size, 6, none⟩) P2.out.wq _).setCell (p := ⟨w1.heap.size, 7, none⟩) P2.out.wq _))
      clear n2 m2 a2 r2 b2
      go_wp2
      go_meet
      exact ⟨_, _, Q2.out, by rw [HE.out]; exact (Aft.bind (Q := fun z => takesP _ z) A2.out (aft_pure _ _))⟩
    have e3 : ((t1 : Int) == 3) = false := by rw [beq_eq_false_iff_ne]; omega
    by_cases h5 : t1 = 5
    · have hl : (lettersL (t1 : Int)).getD [] = [98] := by rw [h5]; rfl
      have HE : Hid ((lettersL (t1 : Int)).getD [] = [98]) := hl
      have e5 : ((t1 : Int) == 5) = true := by rw [h5]; rfl
      clear hl h5
      have hC := rbdR_any (w.heap.size + 1) s1 X HI.out.rd
      go_wp2_with fail
      refine hC.mono ?_
      rintro e w2 ⟨x2, k2, f2, s2, rfl, n2, m2, o2, a2, r2, b2⟩
      clear hC
      have P2 : Hid (RIn w w2 (w.heap.size + 1) w.heap.size w1.heap.size s2 (zA t1)) := HI.out.go r2 b2
      have A2 : Hid (Aft s1 (takeP (zA t1) 98) ({ zA t1 with be := x2, bq := k2, bp := f2 } : Ax) s2) := aft_bd1 a2
      have y28 := (cells17 P2.out.hq).2.2.2.2.2.2.2.2.1
      have f28 := box_free P2.out.hq 8
      have y29 := (cells17 P2.out.hq).2.2.2.2.2.2.2.2.2.1
      have f29 := box_free P2.out.hq 9
      have y210 := (cells17 P2.out.hq).2.2.2.2.2.2.2.2.2.2.1
      have f210 := box_free P2.out.hq 10
      obtain ⟨X2, fold2⟩ : ∃ X, ((w2.setCell ⟨w1.heap.size, 8, none⟩ (.string x2)).setCell ⟨w1.heap.size, 9, none⟩ (.string k2)).setCell ⟨w1.heap.size, 10, none⟩ (.string f2) = X := ⟨_, rfl⟩
      have Q2 : Hid (RIn w X2 (w.heap.size + 1) w.heap.size w1.heap.size s2 ({ zA t1 with be := x2, bq := k2, bp := f2 } : Ax)) := P2.out.put { P2.out.fits with be := short_max n2, bq := short_max m2, bp := short_max o2 } (by rw [← fold2]; exact (set_list (set_list (set_list P2.out.hq _) _) _)) (fun k hk => by rw [← fold2]; rw [Below.heap_setCell _ _ _ _ hk]; rw [Below.heap_setCell _ _ _ _ hk]; rw [Below.heap_setCell _ _ _ _ hk]) (by rw [← fold2]; exact (((P2.out.bel.setCell (p := ⟨w1.heap.size, 8, none⟩) P2.out.wq _).setCell (p := ⟨w1.heap.size, 9, none⟩) P2.out.wq _).setCell (p := ⟨w1.heap.size, 10, none⟩) P2.out.wq _))
      clear n2 m2 o2 a2 r2 b2
      go_wp2
      go_meet
      exact ⟨_, _, Q2.out, by rw [HE.out]; exact (Aft.bind (Q := fun z => takesP _ z) A2.out (aft_pure _ _))⟩
    have e5 : ((t1 : Int) == 5) = false := by rw [beq_eq_false_iff_ne]; omega
    by_cases h6 : t1 = 6
    · have hl : (lettersL (t1 : Int)).getD [] = [98] := by rw [h6]; rfl
      have HE : Hid ((lettersL (t1 : Int)).getD [] = [98]) := hl
      have e6 : ((t1 : Int) == 6) = true := by rw [h6]; rfl
      clear hl h6
      have hC := rbdR_any (w.heap.size + 1) s1 X HI.out.rd
      go_wp2_with fail
      refine hC.mono ?_
      rintro e w2 ⟨x2, k2, f2, s2, rfl, n2, m2, o2, a2, r2, b2⟩
      clear hC
      have P2 : Hid (RIn w w2 (w.heap.size + 1) w.heap.size w1.heap.size s2 (zA t1)) := HI.out.go r2 b2
      have A2 : Hid (Aft s1 (takeP (zA t1) 98) ({ zA t1 with be := x2, bq := k2, bp := f2 } : Ax) s2) := aft_bd1 a2
      have y28 := (cells17 P2.out.hq).2.2.2.2.2.2.2.2.1
      have f28 := box_free P2.out.hq 8
      have y29 := (cells17 P2.out.hq).2.2.2.2.2.2.2.2.2.1
      have f29 := box_free P2.out.hq 9
      have y210 := (cells17 P2.out.hq).2.2.2.2.2.2.2.2.2.2.1
      have f210 := box_free P2.out.hq 10
      obtain ⟨X2, fold2⟩ : ∃ X, ((w2.setCell ⟨w1.heap.size, 8, none⟩ (.string x2)).setCell ⟨w1.heap.size, 9, none⟩ (.string k2)).setCell ⟨w1.heap.size, 10, none⟩ (.string f2) = X := ⟨_, rfl⟩
      have Q2 : Hid (RIn w X2 (w.heap.size + 1) w.heap.size w1.heap.size s2 ({ zA t1 with be := x2, bq := k2, bp := f2 } : Ax)) := P2.out.put { P2.out.fits with be := short_max n2, bq := short_max m2, bp := short_max o2 } (by rw [← fold2]; exact (set_list (set_list (set_list P2.out.hq _) _) _)) (fun k hk => by rw [← fold2]; rw [Below.heap_setCell _ _ _ _ hk]; rw [Below.heap_setCell _ _ _ _ hk]; rw [Below.heap_setCell _ _ _ _ hk]) (by rw [← fold2]; exact (((P2.out.bel.setCell (p := ⟨w1.heap.size, 8, none⟩) P2.out.wq _).setCell (p := ⟨w1.heap.size, 9, none⟩) P2.out.wq _).setCell (p := ⟨w1.heap.size, 10, none⟩) P2.out.wq _))
      clear n2 m2 o2 a2 r2 b2
      go_wp2
      go_meet
      exact ⟨_, _, Q2.out, by rw [HE.out]; exact (Aft.bind (Q := fun z => takesP _ z) A2.out (aft_pure _ _))⟩
    have e6 : ((t1 : Int) == 6) = false := by rw [beq_eq_false_iff_ne]; omega
    by_cases h7 : t1 = 7
    · have hl : (lettersL (t1 : Int)).getD [] = [109] := by rw [h7]; rfl
      have HE : Hid ((lettersL (t1 : Int)).getD [] = [109]) := hl
      have e7 : ((t1 : Int) == 7) = true := by rw [h7]; rfl
      clear hl h7
      have hC := rmsgR_any (w.heap.size + 1) s1 X HI.out.rd
      go_wp2_with fail
      refine hC.mono ?_
      rintro e w2 ⟨x2, s2, rfl, n2, a2, r2, b2⟩
      clear hC
      have P2 : Hid (RIn w w2 (w.heap.size + 1) w.heap.size w1.heap.size s2 (zA t1)) := HI.out.go r2 b2
      have A2 : Hid (Aft s1 (takeP (zA t1) 109) ({ zA t1 with m := x2 } : Ax) s2) := aft_m a2
      have y211 := (cells17 P2.out.hq).2.2.2.2.2.2.2.2.2.2.2.1
      have f211 := box_free P2.out.hq 11
      have y212 := (cells17 P2.out.hq).2.2.2.2.2.2.2.2.2.2.2.2.1
      have f212 := box_free P2.out.hq 12
      have y213 := (cells17 P2.out.hq).2.2.2.2.2.2.2.2.2.2.2.2.2.1
      have f213 := box_free P2.out.hq 13
      have y214 := (cells17 P2.out.hq).2.2.2.2.2.2.2.2.2.2.2.2.2.2.1
      have f214 := box_free P2.out.hq 14
      have y215 := (cells17 P2.out.hq).2.2.2.2.2.2.2.2.2.2.2.2.2.2.2.1
      have f215 := box_free P2.out.hq 15
      have y216 := (cells17 P2.out.hq).2.2.2.2.2.2.2.2.2.2.2.2.2.2.2.2
      have f216 := box_free P2.out.hq 16
      obtain ⟨X2, fold2⟩ : ∃ X, (((((w2.setCell ⟨w1.heap.size, 11, none⟩ (.int .i64 x2.origin)).setCell ⟨w1.heap.size, 12, none⟩ (.int .u64 x2.seq)).setCell ⟨w1.heap.size, 13, none⟩ (.int .i64 x2.hop)).setCell ⟨w1.heap.size, 14, none⟩ (.string x2.ex)).setCell ⟨w1.heap.size, 15, none⟩ (.string x2.key)).setCell ⟨w1.heap.size, 16, none⟩ (.string x2.body) = X := ⟨_, rfl⟩
      have Q2 : Hid (RIn w X2 (w.heap.size + 1) w.heap.size w1.heap.size s2 ({ zA t1 with m := x2 } : Ax)) := P2.out.put { P2.out.fits with m := n2 } (by rw [← fold2]; exact (set_list (set_list (set_list (set_list (set_list (set_list P2.out.hq _) _) _) _) _) _)) (fun k hk => by rw [← fold2]; rw [Below.heap_setCell _ _ _ _ hk]; rw [Below.heap_setCell _ _ _ _ hk]; rw [Below.heap_setCell _ _ _ _ hk]; rw [Below.heap_setCell _ _ _ _ hk]; rw [Below.heap_setCell _ _ _ _ hk]; rw [Below.heap_setCell _ _ _ _ hk]) (by rw [← fold2]; exact ((((((P2.out.bel.setCell (p := ⟨w1.heap.size, 11, none⟩) P2.out.wq _).setCell (p := ⟨w1.heap.size, 12, none⟩) P2.out.wq _).setCell (p := ⟨w1.heap.size, 13, none⟩) P2.out.wq _).setCell (p := ⟨w1.heap.size, 14, none⟩) P2.out.wq _).setCell (p := ⟨w1.heap.size, 15, none⟩) P2.out.wq _).setCell (p := ⟨w1.heap.size, 16, none⟩) P2.out.wq _))
      clear n2 a2 r2 b2
      go_wp2
      go_meet
      exact ⟨_, _, Q2.out, by rw [HE.out]; exact (Aft.bind (Q := fun z => takesP _ z) A2.out (aft_pure _ _))⟩
    have e7 : ((t1 : Int) == 7) = false := by rw [beq_eq_false_iff_ne]; omega
    by_cases h9 : t1 = 9
    · have hl : (lettersL (t1 : Int)).getD [] = [110, 116] := by rw [h9]; rfl
      have HE : Hid ((lettersL (t1 : Int)).getD [] = [110, 116]) := hl
      have e9 : ((t1 : Int) == 9) = true := by rw [h9]; rfl
      clear hl h9
      have hC := rtextR_any (w.heap.size + 1) s1 X HI.out.rd
      go_wp2_with fail
      refine hC.mono ?_
      rintro e w2 ⟨t2, s2, rfl, n2, a2, r2, b2⟩
      clear hC
      have P2 : Hid (RIn w w2 (w.heap.size + 1) w.heap.size w1.heap.size s2 (zA t1)) := HI.out.go r2 b2
      have A2 : Hid (Aft s1 (takeP (zA t1) 110) ({ (zA t1) with name := t2 } : Ax) s2) := aft_name a2
      have y2 := (cells17 P2.out.hq).2.1
      have f2 := box_free P2.out.hq 1
      obtain ⟨X2, fold2⟩ : ∃ X, w2.setCell ⟨w1.heap.size, 1, none⟩ (.string t2) = X := ⟨_, rfl⟩
      have Q2 : Hid (RIn w X2 (w.heap.size + 1) w.heap.size w1.heap.size s2 ({ (zA t1) with name := t2 } : Ax)) := P2.out.put { P2.out.fits with nm := short_max n2 } (by rw [← fold2]; exact set_list P2.out.hq _) (fun k hk => by rw [← fold2]; exact Below.heap_setCell _ _ _ _ hk) (by rw [← fold2]; exact P2.out.bel.setCell (p := ⟨w1.heap.size, 1, none⟩) P2.out.wq _)
      clear a2 n2 r2 b2
      have hC := rnum8_any (w.heap.size + 1) s2 X2 Q2.out.rd
      go_wp2_with fail
      refine hC.mono ?_
      rintro e w3 ⟨t3, s3, rfl, n3, a3, r3, b3⟩
      clear hC
      have P3 : Hid (RIn w w3 (w.heap.size + 1) w.heap.size w1.heap.size s3 (({ (zA t1) with name := t2 } : Ax))) := Q2.out.go r3 b3
      have A3 : Hid (Aft s2 (takeP (({ (zA t1) with name := t2 } : Ax)) 116) ({ (({ (zA t1) with name := t2 } : Ax)) with tag := (t3 : Int) } : Ax) s3) := aft_tag a3
      have y3 := (cells17 P3.out.hq).2.2.2.1
      have f3 := box_free P3.out.hq 3
      obtain ⟨X3, fold3⟩ : ∃ X, w3.setCell ⟨w1.heap.size, 3, none⟩ (.int .u64 (t3 : Int)) = X := ⟨_, rfl⟩
      have Q3 : Hid (RIn w X3 (w.heap.size + 1) w.heap.size w1.heap.size s3 ({ (({ (zA t1) with name := t2 } : Ax)) with tag := (t3 : Int) } : Ax)) := P3.out.put { P3.out.fits with t := by have h := n3; exact ⟨by show _ ≤ (t3 : Int); omega, by show (t3 : Int) < _; omega⟩ } (by rw [← fold3]; exact set_list P3.out.hq _) (fun k hk => by rw [← fold3]; exact Below.heap_setCell _ _ _ _ hk) (by rw [← fold3]; exact P3.out.bel.setCell (p := ⟨w1.heap.size, 3, none⟩) P3.out.wq _)
      clear a3 n3 r3 b3
      go_wp2
      go_meet
      exact ⟨_, _, Q3.out, by rw [HE.out]; exact (Aft.bind (Q := fun z => takesP _ z) A2.out (Aft.bind (Q := fun z => takesP _ z) A3.out (aft_pure _ _)))⟩
    have e9 : ((t1 : Int) == 9) = false := by rw [beq_eq_false_iff_ne]; omega
    by_cases h10 : t1 = 10
    · have hl : (lettersL (t1 : Int)).getD [] = [110, 116] := by rw [h10]; rfl
      have HE : Hid ((lettersL (t1 : Int)).getD [] = [110, 116]) := hl
      have e10 : ((t1 : Int) == 10) = true := by rw [h10]; rfl
      clear hl h10
      have hC := rtextR_any (w.heap.size + 1) s1 X HI.out.rd
      go_wp2_with fail
      refine hC.mono ?_
      rintro e w2 ⟨t2, s2, rfl, n2, a2, r2, b2⟩
      clear hC
      have P2 : Hid (RIn w w2 (w.heap.size + 1) w.heap.size w1.heap.size s2 (zA t1)) := HI.out.go r2 b2
      have A2 : Hid (Aft s1 (takeP (zA t1) 110) ({ (zA t1) with name := t2 } : Ax) s2) := aft_name a2
      have y2 := (cells17 P2.out.hq).2.1
      have f2 := box_free P2.out.hq 1
      obtain ⟨X2, fold2⟩ : ∃ X, w2.setCell ⟨w1.heap.size, 1, none⟩ (.string t2) = X := ⟨_, rfl⟩
      have Q2 : Hid (RIn w X2 (w.heap.size + 1) w.heap.size w1.heap.size s2 ({ (zA t1) with name := t2 } : Ax)) := P2.out.put { P2.out.fits with nm := short_max n2 } (by rw [← fold2]; exact set_list P2.out.hq _) (fun k hk => by rw [← fold2]; exact Below.heap_setCell _ _ _ _ hk) (by rw [← fold2]; exact P2.out.bel.setCell (p := ⟨w1.heap.size, 1, none⟩) P2.out.wq _)
      clear a2 n2 r2 b2
      have hC := rnum8_any (w.heap.size + 1) s2 X2 Q2.out.rd
      go_wp2_with fail
      refine hC.mono ?_
      rintro e w3 ⟨t3, s3, rfl, n3, a3, r3, b3⟩
      clear hC
      have P3 : Hid (RIn w w3 (w.heap.size + 1) w.heap.size w1.heap.size s3 (({ (zA t1) with name := t2 } : Ax))) := Q2.out.go r3 b3
      have A3 : Hid (Aft s2 (takeP (({ (zA t1) with name := t2 } : Ax)) 116) ({ (({ (zA t1) with name := t2 } : Ax)) with tag := (t3 : Int) } : Ax) s3) := aft_tag a3
      have y3 := (cells17 P3.out.hq).2.2.2.1
      have f3 := box_free P3.out.hq 3
      obtain ⟨X3, fold3⟩ : ∃ X, w3.setCell ⟨w1.heap.size, 3, none⟩ (.int .u64 (t3 : Int)) = X := ⟨_, rfl⟩
      have Q3 : Hid (RIn w X3 (w.heap.size + 1) w.heap.size w1.heap.size s3 ({ (({ (zA t1) with name := t2 } : Ax)) with tag := (t3 : Int) } : Ax)) := P3.out.put { P3.out.fits with t := by have h := n3; exact ⟨by show _ ≤ (t3 : Int); omega, by show (t3 : Int) < _; omega⟩ } (by rw [← fold3]; exact set_list P3.out.hq _) (fun k hk => by rw [← fold3]; exact Below.heap_setCell _ _ _ _ hk) (by rw [← fold3]; exact P3.out.bel.setCell (p := ⟨w1.heap.size, 3, none⟩) P3.out.wq _)
      clear a3 n3 r3 b3
      go_wp2
      go_meet
      exact ⟨_, _, Q3.out, by rw [HE.out]; exact (Aft.bind (Q := fun z => takesP _ z) A2.out (Aft.bind (Q := fun z => takesP _ z) A3.out (aft_pure _ _)))⟩
    have e10 : ((t1 : Int) == 10) = false := by rw [beq_eq_false_iff_ne]; omega
    by_cases h11 : t1 = 11
    · have hl : (lettersL (t1 : Int)).getD [] = [115, 99] := by rw [h11]; rfl
      have HE : Hid ((lettersL (t1 : Int)).getD [] = [115, 99]) := hl
      have e11 : ((t1 : Int) == 11) = true := by rw [h11]; rfl
      clear hl h11
      have hC := rnum1_any (w.heap.size + 1) s1 X HI.out.rd
      go_wp2_with fail
      refine hC.mono ?_
      rintro e w2 ⟨t2, s2, rfl, n2, a2, r2, b2⟩
      clear hC
      have wr2 := wrap_num n2 (by decide)
      have P2 : Hid (RIn w w2 (w.heap.size + 1) w.heap.size w1.heap.size s2 (zA t1)) := HI.out.go r2 b2
      have A2 : Hid (Aft s1 (takeP (zA t1) 115) ({ (zA t1) with «to» := (t2 : Int) } : Ax) s2) := aft_to a2
      have y2 := (cells17 P2.out.hq).2.2.2.2.1
      have f2 := box_free P2.out.hq 4
      obtain ⟨X2, fold2⟩ : ∃ X, w2.setCell ⟨w1.heap.size, 4, none⟩ (.int .i64 (t2 : Int)) = X := ⟨_, rfl⟩
      have Q2 : Hid (RIn w X2 (w.heap.size + 1) w.heap.size w1.heap.size s2 ({ (zA t1) with «to» := (t2 : Int) } : Ax)) := P2.out.put { P2.out.fits with «to» := by have := num_le n2 (by decide); exact ⟨by show _ ≤ (t2 : Int); omega, by show (t2 : Int) < _; omega⟩ } (by rw [← fold2]; exact set_list P2.out.hq _) (fun k hk => by rw [← fold2]; exact Below.heap_setCell _ _ _ _ hk) (by rw [← fold2]; exact P2.out.bel.setCell (p := ⟨w1.heap.size, 4, none⟩) P2.out.wq _)
      clear a2 n2 r2 b2
      have hC := rnum2_any (w.heap.size + 1) s2 X2 Q2.out.rd
      go_wp2_with fail
      refine hC.mono ?_
      rintro e w3 ⟨t3, s3, rfl, n3, a3, r3, b3⟩
      clear hC
      have wr3 := wrap_num n3 (by decide)
      have P3 : Hid (RIn w w3 (w.heap.size + 1) w.heap.size w1.heap.size s3 (({ (zA t1) with «to» := (t2 : Int) } : Ax))) := Q2.out.go r3 b3
      have A3 : Hid (Aft s2 (takeP (({ (zA t1) with «to» := (t2 : Int) } : Ax)) 99) ({ (({ (zA t1) with «to» := (t2 : Int) } : Ax)) with n := (t3 : Int) } : Ax) s3) := (by rw [take_nn]; exact aft_n a3)
      have y3 := (cells17 P3.out.hq).2.2.1
      have f3 := box_free P3.out.hq 2
      obtain ⟨X3, fold3⟩ : ∃ X, w3.setCell ⟨w1.heap.size, 2, none⟩ (.int .i64 (t3 : Int)) = X := ⟨_, rfl⟩
      have Q3 : Hid (RIn w X3 (w.heap.size + 1) w.heap.size w1.heap.size s3 ({ (({ (zA t1) with «to» := (t2 : Int) } : Ax)) with n := (t3 : Int) } : Ax)) := P3.out.put { P3.out.fits with n := by have := num_le n3 (by decide); exact ⟨by show _ ≤ (t3 : Int); omega, by show (t3 : Int) < _; omega⟩ } (by rw [← fold3]; exact set_list P3.out.hq _) (fun k hk => by rw [← fold3]; exact Below.heap_setCell _ _ _ _ hk) (by rw [← fold3]; exact P3.out.bel.setCell (p := ⟨w1.heap.size, 2, none⟩) P3.out.wq _)
      clear a3 n3 r3 b3
      go_wp2
      go_meet
      exact ⟨_, _, Q3.out, by rw [HE.out]; exact (Aft.bind (Q := fun z => takesP _ z) A2.out (Aft.bind (Q := fun z => takesP _ z) A3.out (aft_pure _ _)))⟩
    have e11 : ((t1 : Int) == 11) = false := by rw [beq_eq_false_iff_ne]; omega
    have hl : (lettersL (t1 : Int)).getD [] = [] := by
      unfold lettersL
      by_cases h12 : (t1 : Int) = 12
      · rw [h12]; rfl
      · rw [if_neg (by omega), if_neg (by omega), if_neg (by omega), if_neg (by omega), if_neg (by omega), if_neg (by omega), if_neg (by omega), if_neg (by omega), if_neg (by omega), if_neg (by omega), if_neg (by omega), if_neg (by omega)]
        rfl
    have HE : Hid ((lettersL (t1 : Int)).getD [] = []) := hl
    clear hl
    go_wp2
    go_meet
    exact ⟨_, _, HI.out, by rw [HE.out]; exact aft_pure _ _⟩
  case rest =>
    obtain ⟨z, s2, hI, hA⟩ := hcut
    have HJ : Hid (RIn w wc (w.heap.size + 1) w.heap.size w1.heap.size s2 z) := hI
    have HF : Hid (readA bs = if s2 = some [] ∧ goodA z = true then some z else none) := readA_aft (A1.out.bind (Q := fun k : Nat => takesP ((lettersL (k : Int)).getD []) (zA (k : Int))) hA)
    obtain ⟨ra, n, rc, tn, l, blk, hh, hl, rfl, lo⟩ := hI.rd
    clear lo
    obtain rfl : n = l.length := by obtain ⟨_, _, hv⟩ := hh.slice; injection hv
    have c0 : wc.cell? ⟨w.heap.size + 1, 0, none⟩ = some (.slice ra l.length rc) := by simp only [World.cell?]; rw [blk]; rfl
    have c1 : wc.cell? ⟨w.heap.size + 1, 1, none⟩ = some (.bool tn) := by simp only [World.cell?]; rw [blk]; rfl
    have hG := rgoodA_any z wc hI.fits
    clear hI hA hh hl blk
    cases tn
    rotate_left
    · have HR : Hid (readA bs = none) := by
        show readA bs = none
        rw [HF.out, if_neg (fun h => by have := h.1; simp [left] at this)]
      clear hG
      go_wp2_with (refine wpList_store_row rfl 32 _ _ rfl w.heap.size (xcells (zA 0)).toArray rfl rfl 32 (xcells (zA 0)).toArray HJ.out.hg info17 rfl (one17 _) ?_)
      refine bodyPost_ret (results_act_tmp rfl _ _ w.heap.size (zA 0) rfl (setRow_heap _ _ _ _ _ _ HJ.out.hg)) rfl ⟨?_, below_setRow HJ.out.bel (Nat.le_refl _) _⟩
      rw [HR.out]
      rfl
    by_cases hlen : l.length = 0
    rotate_left
    · have HR : Hid (readA bs = none) := by
        show readA bs = none
        rw [HF.out, if_neg (fun h => hlen (by have := h.1; simp [left] at this; rw [this]; rfl))]
      have hl0 : (0 : Int) < (l.length : Int) := by omega
      have hl1 : decide ((0 : Int) < (l.length : Int)) = true := decide_eq_true hl0
      have hl2 : 0 < l.length := by omega
      have hl3 : decide (0 < l.length) = true := decide_eq_true hl2
      clear hG hlen
      go_wp2_with (refine wpList_store_row rfl 32 _ _ rfl w.heap.size (xcells (zA 0)).toArray rfl rfl 32 (xcells (zA 0)).toArray HJ.out.hg info17 rfl (one17 _) ?_)
      refine bodyPost_ret (results_act_tmp rfl _ _ w.heap.size (zA 0) rfl (setRow_heap _ _ _ _ _ _ HJ.out.hg)) rfl ⟨?_, below_setRow HJ.out.bel (Nat.le_refl _) _⟩
      rw [HR.out]
      rfl
    · have HS : Hid (left false l = some []) := by
        show left false l = some []
        rw [List.length_eq_zero_iff.1 hlen]
        rfl
      rw [hlen] at c0
      clear hlen
      go_wp2_with (refine wpList_load_rowG (by rfl) 32 _ rfl w1.heap.size rfl 32 #[.int .i64 z.kind, .string z.name, .int .i64 z.n, .int .u64 z.tag, .int .i64 z.to, .string z.xn, .int .i64 z.xk, .bool z.xf, .string z.be, .string z.bq, .string z.bp, .int .i64 z.m.origin, .int .u64 z.m.seq, .int .i64 z.m.hop, .string z.m.ex, .string z.m.key, .string z.m.body] (0, 0) _ HJ.out.hq Tryd.underlying32 rfl info17 ?_)
      refine hG.mono ?_
      rintro e Y ⟨rfl, bY⟩
      clear hG
      have HY : Hid (Below w.heap.size w Y ∧ Y.heap[w.heap.size]? = some (.cells (xcells (zA 0)).toArray 32 (0, 0)) ∧ Y.heap[w1.heap.size]? = some (.cells (xcells z).toArray 32 (0, 0))) := ⟨keptW HJ.out.bel bY, (bY.block _ (Array.getElem?_eq_some_iff.1 HJ.out.hg).1).trans HJ.out.hg, (bY.block _ (Array.getElem?_eq_some_iff.1 HJ.out.hq).1).trans HJ.out.hq⟩
      clear bY c0 c1
      cases hg : goodA z
      · have HR : Hid (readA bs = none) := by
          show readA bs = none
          rw [HF.out, if_neg (fun h => by rw [hg] at h; exact absurd h.2 (by simp))]
        clear hg
        go_wp2_with (refine wpList_store_row rfl 32 _ _ rfl w.heap.size (xcells (zA 0)).toArray rfl rfl 32 (xcells (zA 0)).toArray HY.out.2.1 info17 rfl (one17 _) ?_)
        refine bodyPost_ret (results_act_tmp rfl _ _ w.heap.size (zA 0) rfl (setRow_heap _ _ _ _ _ _ HY.out.2.1)) rfl ⟨?_, below_setRow HY.out.1 (Nat.le_refl _) _⟩
        rw [HR.out]
        rfl
      · have HR : Hid (readA bs = some z) := by
          show readA bs = some z
          rw [HF.out, if_pos ⟨HS.out, hg⟩]
        clear hg
        go_wp2_with (first | refine wpList_load_row rfl 32 _ rfl w1.heap.size rfl 32 (xcells z).toArray (0, 0) _ HY.out.2.2 Tryd.underlying32 rfl info17 ?_ | refine wpList_store_row rfl 32 _ _ rfl w.heap.size (xcells z).toArray rfl rfl 32 (xcells (zA 0)).toArray HY.out.2.1 info17 rfl (one17 z) ?_)
        refine bodyPost_ret (results_act_tmp rfl _ _ w.heap.size z rfl (setRow_heap _ _ _ _ _ _ HY.out.2.1)) rfl ⟨?_, below_setRow HY.out.1 (Nat.le_refl _) _⟩
        rw [HR.out]
        rfl
end Go.Proofs.YteimdolckhpndaaDoor
