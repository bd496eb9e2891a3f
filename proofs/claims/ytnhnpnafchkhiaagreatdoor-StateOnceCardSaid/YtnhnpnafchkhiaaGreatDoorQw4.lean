import Derived.Test.YtnhnpnafchkhiaaGreatDoorQwA
import Derived.Test.YtnhnpnafchkhiaaGreatDoorQw3
import Derived.Lib.OthersKept
import Derived.Laws.CopyOwn
import Derived.Laws.Tables
import Derived.Laws.Rows
import Derived.Lib.AppendStr
import Derived.Deep.RegionWith
import Derived.Deep.RegionLaw
import Derived.Laws.StructEq
set_option maxHeartbeats 4000000
set_option maxRecDepth 20000
namespace Go.Proofs.YtnhnpnafchkhiaaGreatDoor
open Go.RowKit
theorem fitsA_any (a:Ax) (c:UInt8) (w:World) (ha:a.Fits):Calls Tryz.prog 79 #[av a,.int .i32 (c.toNat:Int)] w fun e w'=>e=.returned (.bool (fitsA a c))/\Below w.heap.size w w':=by
 obtain ⟨W,fold⟩ : ∃ W,w.alloc (.cells #[.int .i64 a.kind,.string a.name,.int .i64 a.n,.int .u64 a.tag,.int .i64 a.to,.string a.xn,.int .i64 a.xk,.bool a.xf,.string a.be,.string a.bq,.string a.bp,.int .i64 a.m.origin,.int .u64 a.m.seq,.int .i64 a.m.hop,.string a.m.ex,.string a.m.key,.string a.m.body] 42)=W:=⟨_,rfl⟩
 have b0:Below w.heap.size w W:=by rw [<- fold]; exact box_below w _
 have y0:W.cell? ⟨w.heap.size,0,none⟩=some (.int .i64 a.kind):=by rw [<- fold]; exact box_cell w _ _ _ _ rfl
 have y1:W.cell? ⟨w.heap.size,1,none⟩=some (.string a.name):=by rw [<- fold]; exact box_cell w _ _ _ _ rfl
 have y2:W.cell? ⟨w.heap.size,2,none⟩=some (.int .i64 a.n):=by rw [<- fold]; exact box_cell w _ _ _ _ rfl
 have y3:W.cell? ⟨w.heap.size,3,none⟩=some (.int .u64 a.tag):=by rw [<- fold]; exact box_cell w _ _ _ _ rfl
 have y4:W.cell? ⟨w.heap.size,4,none⟩=some (.int .i64 a.to):=by rw [<- fold]; exact box_cell w _ _ _ _ rfl
 have y5:W.cell? ⟨w.heap.size,5,none⟩=some (.string a.xn):=by rw [<- fold]; exact box_cell w _ _ _ _ rfl
 have y6:W.cell? ⟨w.heap.size,6,none⟩=some (.int .i64 a.xk):=by rw [<- fold]; exact box_cell w _ _ _ _ rfl
 have y7:W.cell? ⟨w.heap.size,7,none⟩=some (.bool a.xf):=by rw [<- fold]; exact box_cell w _ _ _ _ rfl
 have y8:W.cell? ⟨w.heap.size,8,none⟩=some (.string a.be):=by rw [<- fold]; exact box_cell w _ _ _ _ rfl
 have y9:W.cell? ⟨w.heap.size,9,none⟩=some (.string a.bq):=by rw [<- fold]; exact box_cell w _ _ _ _ rfl
 have y10:W.cell? ⟨w.heap.size,10,none⟩=some (.string a.bp):=by rw [<- fold]; exact box_cell w _ _ _ _ rfl
 have y11:W.cell? ⟨w.heap.size,11,none⟩=some (.int .i64 a.m.origin):=by rw [<- fold]; exact box_cell w _ _ _ _ rfl
 have y12:W.cell? ⟨w.heap.size,12,none⟩=some (.int .u64 a.m.seq):=by rw [<- fold]; exact box_cell w _ _ _ _ rfl
 have y13:W.cell? ⟨w.heap.size,13,none⟩=some (.int .i64 a.m.hop):=by rw [<- fold]; exact box_cell w _ _ _ _ rfl
 have y14:W.cell? ⟨w.heap.size,14,none⟩=some (.string a.m.ex):=by rw [<- fold]; exact box_cell w _ _ _ _ rfl
 have y15:W.cell? ⟨w.heap.size,15,none⟩=some (.string a.m.key):=by rw [<- fold]; exact box_cell w _ _ _ _ rfl
 have y16:W.cell? ⟨w.heap.size,16,none⟩=some (.string a.m.body):=by rw [<- fold]; exact box_cell w _ _ _ _ rfl
 unfold fitsA
 by_cases h110:c=110
 ·subst h110
  go_enter Tryz.func79,Tryz.ntmps79
  have hc:=name_any a.name W ha.nm
  go_wp2_with fail
  try rw [fold]
  refine hc.mono ?_
  rintro e V ⟨rfl,b1⟩
  clear hc
  go_wp2
  go_ret
  exact ⟨rfl,keptW b0 b1⟩
 by_cases h100:c=100
 ·subst h100
  go_enter Tryz.func79,Tryz.ntmps79
  have hc:=within_any a.n 1 1000 W
  go_wp2_with fail
  try rw [fold]
  refine hc.mono ?_
  rintro e V ⟨rfl,rfl⟩
  clear hc
  go_wp2
  go_ret
  exact ⟨rfl,b0⟩
 by_cases h99:c=99
 ·subst h99
  go_enter Tryz.func79,Tryz.ntmps79
  have hc:=within_any a.n 1 200 W
  go_wp2_with fail
  try rw [fold]
  refine hc.mono ?_
  rintro e V ⟨rfl,rfl⟩
  clear hc
  go_wp2
  go_ret
  exact ⟨rfl,b0⟩
 by_cases h116:c=116
 ·subst h116
  go_enter Tryz.func79,Tryz.ntmps79
  go_wp2
  try rw [fold]
  go_ret
  exact ⟨rfl,b0⟩
 by_cases h115:c=115
 ·subst h115
  go_enter Tryz.func79,Tryz.ntmps79
  have hc:=within_any a.to 1 8 W
  go_wp2_with fail
  try rw [fold]
  refine hc.mono ?_
  rintro e V ⟨rfl,rfl⟩
  clear hc
  go_wp2
  go_ret
  exact ⟨rfl,b0⟩
 by_cases h120:c=120
 ·subst h120
  go_enter Tryz.func79,Tryz.ntmps79
  have hc:=goodX_any a.xn a.xk a.xf W ha.xn
  go_wp2_with fail
  try rw [fold]
  refine hc.mono ?_
  rintro e V ⟨rfl,b1⟩
  clear hc
  go_wp2
  go_ret
  exact ⟨rfl,keptW b0 b1⟩
 by_cases h98:c=98
 ·subst h98
  go_enter Tryz.func79,Tryz.ntmps79
  have hc:=goodBd_any a.be a.bq a.bp W ha.be ha.bq
  go_wp2_with fail
  try rw [fold]
  refine hc.mono ?_
  rintro e V ⟨rfl,b1⟩
  clear hc
  go_wp2
  go_ret
  exact ⟨rfl,keptW b0 b1⟩
 by_cases h109:c=109
 ·subst h109
  go_enter Tryz.func79,Tryz.ntmps79
  have hc:=goodM_any a.m W ha.m
  go_wp2_with fail
  try rw [fold]
  refine hc.mono ?_
  rintro e V ⟨rfl,b1⟩
  clear hc
  go_wp2
  go_ret
  exact ⟨rfl,keptW b0 b1⟩
 have e110:((c.toNat:Int)==110)=false:=by rw [beq_eq_false_iff_ne]; intro h; exact h110 (UInt8.toNat_inj.1 (by show c.toNat=110; omega))
 have e100:((c.toNat:Int)==100)=false:=by rw [beq_eq_false_iff_ne]; intro h; exact h100 (UInt8.toNat_inj.1 (by show c.toNat=100; omega))
 have e99:((c.toNat:Int)==99)=false:=by rw [beq_eq_false_iff_ne]; intro h; exact h99 (UInt8.toNat_inj.1 (by show c.toNat=99; omega))
 have e116:((c.toNat:Int)==116)=false:=by rw [beq_eq_false_iff_ne]; intro h; exact h116 (UInt8.toNat_inj.1 (by show c.toNat=116; omega))
 have e115:((c.toNat:Int)==115)=false:=by rw [beq_eq_false_iff_ne]; intro h; exact h115 (UInt8.toNat_inj.1 (by show c.toNat=115; omega))
 have e120:((c.toNat:Int)==120)=false:=by rw [beq_eq_false_iff_ne]; intro h; exact h120 (UInt8.toNat_inj.1 (by show c.toNat=120; omega))
 have e98:((c.toNat:Int)==98)=false:=by rw [beq_eq_false_iff_ne]; intro h; exact h98 (UInt8.toNat_inj.1 (by show c.toNat=98; omega))
 have e109:((c.toNat:Int)==109)=false:=by rw [beq_eq_false_iff_ne]; intro h; exact h109 (UInt8.toNat_inj.1 (by show c.toNat=109; omega))
 go_enter Tryz.func79,Tryz.ntmps79
 go_wp2
 go_ret
 exact ⟨by first | rfl | (simp [h110,h100,h99,h116,h115,h120,h98,h109]),by first | exact b0 | (rw [fold]; exact b0)⟩
theorem set_list {w:World} {p i:Nat} {C:List Value} {t:TypeId} (h:w.heap[p]? = some (.cells C.toArray t (0,0))) (v:Value):(w.setCell ⟨p,i,none⟩ v).heap[p]? = some (.cells (C.set i v).toArray t (0,0)):=by
 have:=heap_setCell_same w p i _ _ v h
 simpa using this
structure OnlyIn (w wr:World) (a:Ax) (L:List Value) (s:ByteArray) (pos:Nat):Prop where
 x:wr.heap[w.heap.size]? = some (.cells (xcells a).toArray 42 (0,0))
 r:wr.heap[w.heap.size+1]? = some (.cells (xcells (zA 0)).toArray 42 (0,0))
 n:wr.heap[w.heap.size+2]? = some (.cells L.toArray 42 (0,0))
 it:wr.heap[w.heap.size+3]? = some (.stringIter s pos)
 bel:Below w.heap.size w wr
theorem only_start (a:Ax) (s:ByteArray) (w:World):OnlyIn w ((((w.alloc (.cells (xcells a).toArray 42)).alloc (.cells (xcells (zA 0)).toArray 42)).alloc (.cells (xcells (zA a.kind)).toArray 42)).iter s 0) a (xcells (zA a.kind)) s 0:=by
 obtain ⟨A1,h1⟩ : ∃ z,w.alloc (.cells (xcells a).toArray 42)=z:=⟨_,rfl⟩
 obtain ⟨A2,h2⟩ : ∃ z,A1.alloc (.cells (xcells (zA 0)).toArray 42)=z:=⟨_,rfl⟩
 obtain ⟨A3,h3⟩ : ∃ z,A2.alloc (.cells (xcells (zA a.kind)).toArray 42)=z:=⟨_,rfl⟩
 obtain ⟨A4,h4⟩ : ∃ z,A3.alloc (.stringIter s 0)=z:=⟨_,rfl⟩
 have s1:A1.heap.size=w.heap.size+1:=by rw [<- h1,World.size_alloc]
 have s2:A2.heap.size=w.heap.size+2:=by rw [<- h2,World.size_alloc,s1]
 have s3:A3.heap.size=w.heap.size+3:=by rw [<- h3,World.size_alloc,s2]
 have x1:=heap_alloc_new w (.cells (xcells a).toArray 42)
 have x2:=heap_alloc_new A1 (.cells (xcells (zA 0)).toArray 42)
 have x3:=heap_alloc_new A2 (.cells (xcells (zA a.kind)).toArray 42)
 have x4:=heap_alloc_new A3 (.stringIter s 0)
 rw [h1] at x1
 rw [h2,s1] at x2
 rw [h3,s2] at x3
 rw [h4,s3] at x4
 have k2 : ∀ k,k<w.heap.size+1->A2.heap[k]? = A1.heap[k]? := fun k hk=>by rw [<- h2]; exact Below.heap_alloc _ _ _ (by rw [s1]; exact hk)
 have k3 : ∀ k,k<w.heap.size+2->A3.heap[k]? = A2.heap[k]? := fun k hk=>by rw [<- h3]; exact Below.heap_alloc _ _ _ (by rw [s2]; exact hk)
 have k4 : ∀ k,k<w.heap.size+3->A4.heap[k]? = A3.heap[k]? := fun k hk=>by rw [<- h4]; exact Below.heap_alloc _ _ _ (by rw [s3]; exact hk)
 have hW:(((w.alloc (.cells (xcells a).toArray 42)).alloc (.cells (xcells (zA 0)).toArray 42)).alloc (.cells (xcells (zA a.kind)).toArray 42)).iter s 0=A4:=by rw [h1,h2,h3]; exact h4
 rw [hW]
 refine ⟨?_,?_,?_,x4,?_⟩
 ·rw [k4 _ (by omega),k3 _ (by omega),k2 _ (by omega)]; exact x1
 ·rw [k4 _ (by omega),k3 _ (by omega)]; exact x2
 ·rw [k4 _ (by omega)]; exact x3
 ·have b1:Below w.heap.size w A1:=by rw [<- h1]; exact box_below w _
  have b2:Below w.heap.size w A2:=by rw [<- h2]; exact b1.alloc b1.size _
  have b3:Below w.heap.size w A3:=by rw [<- h3]; exact b2.alloc b2.size _
  rw [<- h4]
  exact b3.alloc b3.size _
theorem OnlyIn.set {w wr:World} {a:Ax} {L:List Value} {s:ByteArray} {pos:Nat} (h:OnlyIn w wr a L s pos) (j:Nat) (v:Value):OnlyIn w (wr.setCell ⟨w.heap.size+2,j,none⟩ v) a (L.set j v) s pos:=by
 have hne : ∀ k,k≠w.heap.size+2->(wr.setCell ⟨w.heap.size+2,j,none⟩ v).heap[k]? = wr.heap[k]? := fun k hk=>Below.heap_setCell _ _ _ _ hk
 refine ⟨(hne _ (by omega)).trans h.x,(hne _ (by omega)).trans h.r,set_list h.n v,(hne _ (by omega)).trans h.it,?_⟩
 exact h.bel.setCell (by show w.heap.size<=w.heap.size+2; omega) _
theorem OnlyIn.next {w wr:World} {a:Ax} {L:List Value} {s:ByteArray} {pos:Nat} (h:OnlyIn w wr a L s pos):OnlyIn w (wr.iterAt (w.heap.size+3) s (pos+1)) a L s (pos+1):=by
 have hne : ∀ k,k≠w.heap.size+3->(wr.iterAt (w.heap.size+3) s (pos+1)).heap[k]? = wr.heap[k]? := fun k hk=>by
  unfold World.iterAt
  simp only
  rw [Array.getElem?_setIfInBounds_ne (fun e=>hk e.symm)]
 refine ⟨(hne _ (by omega)).trans h.x,(hne _ (by omega)).trans h.r,(hne _ (by omega)).trans h.n,Lib.iterAt_heap _ _ _ _ _ h.it,⟨h.bel.os,h.bel.tape,h.bel.output,by simp [World.iterAt]; exact h.bel.size,fun k hk=>(hne k (by omega)).trans (h.bel.block k hk)⟩⟩
theorem box_at {w:World} {b j:Nat} {L:List Value} {t:TypeId} {v:Value} (h:w.heap[b]? = some (.cells L.toArray t (0,0))) (hj:L[j]? = some v):w.cell? ⟨b,j,none⟩=some v:=by
 simp only [World.cell?]
 rw [h]
 simpa using hj
theorem box_free {w:World} {b:Nat} {L:List Value} {t:TypeId} (h:w.heap[b]? = some (.cells L.toArray t (0,0))) (j:Nat):w.frozen? ⟨b,j,none⟩=false:=by
 simp only [World.frozen?]
 rw [h]
 simp
theorem info17:(Tryz.prog.info? 42).map (·.size)=some 17:=by kernel_rfl
theorem one17 (z:Ax):(xcells z).toArray.all (·.oneCell')=true:=by simp [xcells,Value.oneCell']
theorem only_any (a:Ax) (s:ByteArray) (w:World) (hasc : ∀ c∈txt s,c.toNat<128):Calls Tryz.prog 80 #[av a,.string s] w fun e w'=>e=.returned (av (onlyL a (txt s)))/\Below w.heap.size w w':=by
 have HS:Hid _:=only_start a s w
 have HA:Hid (∀ c∈txt s,c.toNat<128):=hasc
 clear hasc
 go_enter Tryz.func80,Tryz.ntmps80
 go_wp2
 go_loopg [7] s.size (fun g u7 wr => ∃ (pos:Nat) (z:Ax),pos<=s.size/\g=s.size-pos/\Hid (OnlyIn w wr a (xcells z) s pos/\z=((txt s).take pos).foldl (onlyS a) (zA a.kind)))
 case atStart=>exact ⟨0,zA a.kind,Nat.zero_le _,rfl,HS.out,rfl⟩
 case round =>
  obtain ⟨pos,z,hpos,rfl,HI⟩:=hrel
  clear HS
  by_cases hlt:pos<s.size
  ·have hlt2:pos<(txt s).length:=by rw [txt_length]; exact hlt
   obtain ⟨c,hc⟩ : ∃ z,s[pos]'hlt=z:=⟨_,rfl⟩
   have hget:(txt s)[pos]'hlt2=c:=by rw [<- hc]; exact Array.getElem_toList (xs:=s.data) hlt
   have hc8:(s[pos]'hlt).toNat<128:=by rw [hc,<- hget]; exact HA.out _ (List.getElem_mem hlt2)
   have hnx:=fun ty=>Lib.run_next_ascii_at (P:=Tryz.prog) wr (w.heap.size+3) s pos ty HI.out.1.it hlt hc8
   obtain ⟨W1,hW1⟩ : ∃ z,wr.iterAt (w.heap.size+3) s (pos+1)=z:=⟨_,rfl⟩
   have H1:=HI.out.1.next
   rw [hW1] at H1 hnx
   rw [hc] at hnx
   have HZ:Hid (onlyS a z c=((txt s).take (pos+1)).foldl (onlyS a) (zA a.kind)):=by
    show onlyS a z c=_
    rw [List.take_succ_eq_append_getElem hlt2,List.foldl_append,hget,<- HI.out.2]
    rfl
   have x0:W1.cell? ⟨w.heap.size,0,none⟩=some (.int .i64 a.kind):=box_at H1.x rfl
   have x1:W1.cell? ⟨w.heap.size,1,none⟩=some (.string a.name):=box_at H1.x rfl
   have x2:W1.cell? ⟨w.heap.size,2,none⟩=some (.int .i64 a.n):=box_at H1.x rfl
   have x3:W1.cell? ⟨w.heap.size,3,none⟩=some (.int .u64 a.tag):=box_at H1.x rfl
   have x4:W1.cell? ⟨w.heap.size,4,none⟩=some (.int .i64 a.to):=box_at H1.x rfl
   have x5:W1.cell? ⟨w.heap.size,5,none⟩=some (.string a.xn):=box_at H1.x rfl
   have x6:W1.cell? ⟨w.heap.size,6,none⟩=some (.int .i64 a.xk):=box_at H1.x rfl
   have x7:W1.cell? ⟨w.heap.size,7,none⟩=some (.bool a.xf):=box_at H1.x rfl
   have x8:W1.cell? ⟨w.heap.size,8,none⟩=some (.string a.be):=box_at H1.x rfl
   have x9:W1.cell? ⟨w.heap.size,9,none⟩=some (.string a.bq):=box_at H1.x rfl
   have x10:W1.cell? ⟨w.heap.size,10,none⟩=some (.string a.bp):=box_at H1.x rfl
   have x11:W1.cell? ⟨w.heap.size,11,none⟩=some (.int .i64 a.m.origin):=box_at H1.x rfl
   have x12:W1.cell? ⟨w.heap.size,12,none⟩=some (.int .u64 a.m.seq):=box_at H1.x rfl
   have x13:W1.cell? ⟨w.heap.size,13,none⟩=some (.int .i64 a.m.hop):=box_at H1.x rfl
   have x14:W1.cell? ⟨w.heap.size,14,none⟩=some (.string a.m.ex):=box_at H1.x rfl
   have x15:W1.cell? ⟨w.heap.size,15,none⟩=some (.string a.m.key):=box_at H1.x rfl
   have x16:W1.cell? ⟨w.heap.size,16,none⟩=some (.string a.m.body):=box_at H1.x rfl
   have d0:W1.cell? ⟨w.heap.size+2,0,none⟩=some (.int .i64 z.kind):=box_at H1.n rfl
   have d1:W1.cell? ⟨w.heap.size+2,1,none⟩=some (.string z.name):=box_at H1.n rfl
   have d2:W1.cell? ⟨w.heap.size+2,2,none⟩=some (.int .i64 z.n):=box_at H1.n rfl
   have d3:W1.cell? ⟨w.heap.size+2,3,none⟩=some (.int .u64 z.tag):=box_at H1.n rfl
   have d4:W1.cell? ⟨w.heap.size+2,4,none⟩=some (.int .i64 z.to):=box_at H1.n rfl
   have d5:W1.cell? ⟨w.heap.size+2,5,none⟩=some (.string z.xn):=box_at H1.n rfl
   have d6:W1.cell? ⟨w.heap.size+2,6,none⟩=some (.int .i64 z.xk):=box_at H1.n rfl
   have d7:W1.cell? ⟨w.heap.size+2,7,none⟩=some (.bool z.xf):=box_at H1.n rfl
   have d8:W1.cell? ⟨w.heap.size+2,8,none⟩=some (.string z.be):=box_at H1.n rfl
   have d9:W1.cell? ⟨w.heap.size+2,9,none⟩=some (.string z.bq):=box_at H1.n rfl
   have d10:W1.cell? ⟨w.heap.size+2,10,none⟩=some (.string z.bp):=box_at H1.n rfl
   have d11:W1.cell? ⟨w.heap.size+2,11,none⟩=some (.int .i64 z.m.origin):=box_at H1.n rfl
   have d12:W1.cell? ⟨w.heap.size+2,12,none⟩=some (.int .u64 z.m.seq):=box_at H1.n rfl
   have d13:W1.cell? ⟨w.heap.size+2,13,none⟩=some (.int .i64 z.m.hop):=box_at H1.n rfl
   have d14:W1.cell? ⟨w.heap.size+2,14,none⟩=some (.string z.m.ex):=box_at H1.n rfl
   have d15:W1.cell? ⟨w.heap.size+2,15,none⟩=some (.string z.m.key):=box_at H1.n rfl
   have d16:W1.cell? ⟨w.heap.size+2,16,none⟩=some (.string z.m.body):=box_at H1.n rfl
   have hfz:=fun j=>box_free H1.n j
   have HN:Hid (OnlyIn w W1 a (xcells z) s (pos+1)):=H1
   clear H1 HI hW1 hc hget hc8 hlt2
   by_cases h110:c=110
   ·subst h110
    go_wp2
    go_roundg (s.size-(pos+1))
    case measure=>omega
    case rel=>exact ⟨pos+1,onlyS a z 110,by omega,rfl,HN.out.set 1 _,HZ.out⟩
   by_cases h100:c=100
   ·subst h100
    go_wp2
    go_roundg (s.size-(pos+1))
    case measure=>omega
    case rel=>exact ⟨pos+1,onlyS a z 100,by omega,rfl,HN.out.set 2 _,HZ.out⟩
   by_cases h99:c=99
   ·subst h99
    go_wp2
    go_roundg (s.size-(pos+1))
    case measure=>omega
    case rel=>exact ⟨pos+1,onlyS a z 99,by omega,rfl,HN.out.set 2 _,HZ.out⟩
   by_cases h116:c=116
   ·subst h116
    go_wp2
    go_roundg (s.size-(pos+1))
    case measure=>omega
    case rel=>exact ⟨pos+1,onlyS a z 116,by omega,rfl,HN.out.set 3 _,HZ.out⟩
   by_cases h115:c=115
   ·subst h115
    go_wp2
    go_roundg (s.size-(pos+1))
    case measure=>omega
    case rel=>exact ⟨pos+1,onlyS a z 115,by omega,rfl,HN.out.set 4 _,HZ.out⟩
   by_cases h120:c=120
   ·subst h120
    go_wp2
    go_roundg (s.size-(pos+1))
    case measure=>omega
    case rel=>exact ⟨pos+1,onlyS a z 120,by omega,rfl,((HN.out.set 5 _).set 6 _).set 7 _,HZ.out⟩
   by_cases h98:c=98
   ·subst h98
    go_wp2
    go_roundg (s.size-(pos+1))
    case measure=>omega
    case rel=>exact ⟨pos+1,onlyS a z 98,by omega,rfl,((HN.out.set 8 _).set 9 _).set 10 _,HZ.out⟩
   by_cases h109:c=109
   ·subst h109
    go_wp2
    go_roundg (s.size-(pos+1))
    case measure=>omega
    case rel=>exact ⟨pos+1,onlyS a z 109,by omega,rfl,(((((HN.out.set 11 _).set 12 _).set 13 _).set 14 _).set 15 _).set 16 _,HZ.out⟩
   have e110:((c.toNat:Int)==110)=false:=by rw [beq_eq_false_iff_ne]; intro h; exact h110 (UInt8.toNat_inj.1 (by show c.toNat=110; omega))
   have e100:((c.toNat:Int)==100)=false:=by rw [beq_eq_false_iff_ne]; intro h; exact h100 (UInt8.toNat_inj.1 (by show c.toNat=100; omega))
   have e99:((c.toNat:Int)==99)=false:=by rw [beq_eq_false_iff_ne]; intro h; exact h99 (UInt8.toNat_inj.1 (by show c.toNat=99; omega))
   have e116:((c.toNat:Int)==116)=false:=by rw [beq_eq_false_iff_ne]; intro h; exact h116 (UInt8.toNat_inj.1 (by show c.toNat=116; omega))
   have e115:((c.toNat:Int)==115)=false:=by rw [beq_eq_false_iff_ne]; intro h; exact h115 (UInt8.toNat_inj.1 (by show c.toNat=115; omega))
   have e120:((c.toNat:Int)==120)=false:=by rw [beq_eq_false_iff_ne]; intro h; exact h120 (UInt8.toNat_inj.1 (by show c.toNat=120; omega))
   have e98:((c.toNat:Int)==98)=false:=by rw [beq_eq_false_iff_ne]; intro h; exact h98 (UInt8.toNat_inj.1 (by show c.toNat=98; omega))
   have e109:((c.toNat:Int)==109)=false:=by rw [beq_eq_false_iff_ne]; intro h; exact h109 (UInt8.toNat_inj.1 (by show c.toNat=109; omega))
   have hz:onlyS a z c=z:=by
    unfold onlyS
    rw [if_neg h110,if_neg (by simp [h100,h99]),if_neg h116,if_neg h115,if_neg h120,if_neg h98,if_neg h109]
   have HZ2:Hid (z=((txt s).take (pos+1)).foldl (onlyS a) (zA a.kind)):=by have:=HZ.out; rw [hz] at this; exact this
   clear hz
   go_wp2
   go_roundg (s.size-(pos+1))
   case measure=>omega
   case rel=>exact ⟨pos+1,z,by omega,rfl,HN.out,HZ2.out⟩
  ·have hnx:=fun ty=>Lib.run_next_end_at (P:=Tryz.prog) wr (w.heap.size+3) s pos ty HI.out.1.it hlt
   have hze:z=onlyL a (txt s):=by
    have h1:=HI.out.2
    rw [List.take_of_length_le (by rw [txt_length]; omega)] at h1
    exact h1
   have HZ:Hid (z=onlyL a (txt s)):=hze
   have HN:Hid (OnlyIn w wr a (xcells z) s pos):=HI.out.1
   clear hze HI
   go_wp2_with (first | refine wpList_load_row rfl 42 _ rfl (w.heap.size+2) rfl 42 (xcells z).toArray (0,0) _ HN.out.n Tryz.underlying42 rfl info17 ?_ | refine wpList_store_row rfl 42 _ _ rfl (w.heap.size+1) (xcells z).toArray rfl rfl 42 (xcells (zA 0)).toArray HN.out.r info17 rfl (one17 z) ?_)
   refine bodyPost_ret (results_cell_row rfl _ _ (w.heap.size+1) 42 (xcells z).toArray (0,0) _ rfl (setRow_heap _ _ _ _ _ _ HN.out.r) Tryz.underlying42 rfl info17) rfl ⟨?_,below_setRow HN.out.bel (by omega) _⟩
   rw [<- HZ.out]
   rfl
theorem drewN_below (w:World) (n:Nat):Below w.heap.size w (w.drewN n):=⟨rfl,rfl,rfl,yyH _,fun _ _=>rfl⟩
theorem drew_below (w:World):Below w.heap.size w w.drew:=(Below.refl _ _).drew
theorem eqf_cons {P:Program} {w:World} {d:Nat} {xs ys:Array Value} {f:Field} {fs:List Field} {a b:Value} {r s:Bool} (hn:f.name≠"_") (ha:(part f.type xs f.offset).run P w=.ok a w) (hb:(part f.type ys f.offset).run P w=.ok b w) (hr:(Op.equalIn d f.type a b).run P w=.ok r w) (hs:(Op.eqFields d xs ys fs).run P w=.ok s w):(Op.eqFields d xs ys (f::fs)).run P w=.ok (r && s) w:=by
 unfold Op.eqFields
 rw [if_pos hn]
 simp only [Sem.run_bind,ha,hb,hr,Result.andThen_ok]
 cases r with
 |true=>simp [hs]
 |false=>simp
theorem eqf_nil {P:Program} {w:World} {d:Nat} {xs ys:Array Value}:(Op.eqFields d xs ys []).run P w=.ok true w:=by
 simp [Op.eqFields]
theorem part_one {P:Program} {w:World} {t:TypeId} {xs:Array Value} {i:Nat} {v:Value} (h:(isAgg t).run P w=.ok false w) (hv:xs[i]? = some v):(part t xs i).run P w=.ok v w:=by
 unfold part
 simp [h,hv]
theorem part_agg {P:Program} {w:World} {t:TypeId} {xs:Array Value} {i n:Nat} (h:(isAgg t).run P w=.ok true w) (hz:(sizeOf t).run P w=.ok n w):(part t xs i).run P w=.ok (.agg (xs.extract i (i+n))) w:=by
 unfold part
 simp [h,hz]
section
variable (w:World)
theorem agg_int:(isAgg 3).run Tryz.prog w=.ok false w:=by have:=Tryz.isAgg3; simp [this]
theorem agg_u64:(isAgg 32).run Tryz.prog w=.ok false w:=by have:=Tryz.isAgg32; simp [this]
theorem agg_str:(isAgg 9).run Tryz.prog w=.ok false w:=by have:=Tryz.isAgg9; simp [this]
theorem agg_bool:(isAgg 4).run Tryz.prog w=.ok false w:=by have:=Tryz.isAgg4; simp [this]
theorem agg_Id:(isAgg 38).run Tryz.prog w=.ok true w:=by have:=Tryz.isAgg38; simp [this]
theorem size_Id:(sizeOf 38).run Tryz.prog w=.ok 2 w:=by have:=Tryz.sizeOf38; simp [this]
theorem agg_Ex:(isAgg 34).run Tryz.prog w=.ok true w:=by have:=Tryz.isAgg34; simp [this]
theorem size_Ex:(sizeOf 34).run Tryz.prog w=.ok 3 w:=by have:=Tryz.sizeOf34; simp [this]
theorem agg_Bd:(isAgg 36).run Tryz.prog w=.ok true w:=by have:=Tryz.isAgg36; simp [this]
theorem size_Bd:(sizeOf 36).run Tryz.prog w=.ok 3 w:=by have:=Tryz.sizeOf36; simp [this]
theorem agg_Ms:(isAgg 40).run Tryz.prog w=.ok true w:=by have:=Tryz.isAgg40; simp [this]
theorem size_Ms:(sizeOf 40).run Tryz.prog w=.ok 6 w:=by have:=Tryz.sizeOf40; simp [this]
end
theorem eqId (d:Nat) (x0 y0 x1 y1:Int) (w:World):(Op.equalIn (d+1+1) 38 (.agg #[.int .i64 x0,.int .u64 x1]) (.agg #[.int .i64 y0,.int .u64 y1])).run Tryz.prog w=.ok ((x0==y0) && ((x1==y1) && true)) w:=by
 have hS:Tryz.prog.underlying 38=some (.struct (Tryz.prog.fieldsOf 38)):=by kernel_rfl
 have hp:Tryz.prog.stoodInHeld 38=false:=by kernel_rfl
 rw [run_equalIn_agg w (d+1) 38 _ _ hS hp]
 simp only [Program.fieldsOf,Tryz.underlying38]
 refine eqf_cons (by decide) (part_one (agg_int w) rfl) (part_one (agg_int w) rfl) (run_equalIn_int w _ _ _ _ _ _ Tryz.underlying3) ?_
 refine eqf_cons (by decide) (part_one (agg_u64 w) rfl) (part_one (agg_u64 w) rfl) (run_equalIn_int w _ _ _ _ _ _ Tryz.underlying32) ?_
 exact eqf_nil
theorem eqEx (d:Nat) (x0 y0:ByteArray) (x1 y1:Int) (x2 y2:Bool) (w:World):(Op.equalIn (d+1+1) 34 (.agg #[.string x0,.int .i64 x1,.bool x2]) (.agg #[.string y0,.int .i64 y1,.bool y2])).run Tryz.prog w=.ok ((x0.toList==y0.toList) && ((x1==y1) && ((x2==y2) && true))) w:=by
 have hS:Tryz.prog.underlying 34=some (.struct (Tryz.prog.fieldsOf 34)):=by kernel_rfl
 have hp:Tryz.prog.stoodInHeld 34=false:=by kernel_rfl
 rw [run_equalIn_agg w (d+1) 34 _ _ hS hp]
 simp only [Program.fieldsOf,Tryz.underlying34]
 refine eqf_cons (by decide) (part_one (agg_str w) rfl) (part_one (agg_str w) rfl) (run_equalIn_string w _ _ _ _ Tryz.underlying9) ?_
 refine eqf_cons (by decide) (part_one (agg_int w) rfl) (part_one (agg_int w) rfl) (run_equalIn_int w _ _ _ _ _ _ Tryz.underlying3) ?_
 refine eqf_cons (by decide) (part_one (agg_bool w) rfl) (part_one (agg_bool w) rfl) (run_equalIn_bool' w _ _ _ _ Tryz.underlying4) ?_
 exact eqf_nil
theorem eqBd (d:Nat) (x0 y0 x1 y1 x2 y2:ByteArray) (w:World):(Op.equalIn (d+1+1) 36 (.agg #[.string x0,.string x1,.string x2]) (.agg #[.string y0,.string y1,.string y2])).run Tryz.prog w=.ok ((x0.toList==y0.toList) && ((x1.toList==y1.toList) && ((x2.toList==y2.toList) && true))) w:=by
 have hS:Tryz.prog.underlying 36=some (.struct (Tryz.prog.fieldsOf 36)):=by kernel_rfl
 have hp:Tryz.prog.stoodInHeld 36=false:=by kernel_rfl
 rw [run_equalIn_agg w (d+1) 36 _ _ hS hp]
 simp only [Program.fieldsOf,Tryz.underlying36]
 refine eqf_cons (by decide) (part_one (agg_str w) rfl) (part_one (agg_str w) rfl) (run_equalIn_string w _ _ _ _ Tryz.underlying9) ?_
 refine eqf_cons (by decide) (part_one (agg_str w) rfl) (part_one (agg_str w) rfl) (run_equalIn_string w _ _ _ _ Tryz.underlying9) ?_
 refine eqf_cons (by decide) (part_one (agg_str w) rfl) (part_one (agg_str w) rfl) (run_equalIn_string w _ _ _ _ Tryz.underlying9) ?_
 exact eqf_nil
theorem eqMs (d:Nat) (x0 y0 x1 y1 x2 y2:Int) (x3 y3 x4 y4 x5 y5:ByteArray) (w:World):(Op.equalIn (d+2+1) 40 (.agg #[.int .i64 x0,.int .u64 x1,.int .i64 x2,.string x3,.string x4,.string x5]) (.agg #[.int .i64 y0,.int .u64 y1,.int .i64 y2,.string y3,.string y4,.string y5])).run Tryz.prog w=.ok (((x0==y0) && ((x1==y1) && true)) && ((x2==y2) && ((x3.toList==y3.toList) && ((x4.toList==y4.toList) && ((x5.toList==y5.toList) && true))))) w:=by
 have hS:Tryz.prog.underlying 40=some (.struct (Tryz.prog.fieldsOf 40)):=by kernel_rfl
 have hp:Tryz.prog.stoodInHeld 40=false:=by kernel_rfl
 rw [run_equalIn_agg w (d+2) 40 _ _ hS hp]
 simp only [Program.fieldsOf,Tryz.underlying40]
 refine eqf_cons (by decide) (part_agg (agg_Id w) (size_Id w)) (part_agg (agg_Id w) (size_Id w)) (eqId (d+0) x0 y0 x1 y1 w) ?_
 refine eqf_cons (by decide) (part_one (agg_int w) rfl) (part_one (agg_int w) rfl) (run_equalIn_int w _ _ _ _ _ _ Tryz.underlying3) ?_
 refine eqf_cons (by decide) (part_one (agg_str w) rfl) (part_one (agg_str w) rfl) (run_equalIn_string w _ _ _ _ Tryz.underlying9) ?_
 refine eqf_cons (by decide) (part_one (agg_str w) rfl) (part_one (agg_str w) rfl) (run_equalIn_string w _ _ _ _ Tryz.underlying9) ?_
 refine eqf_cons (by decide) (part_one (agg_str w) rfl) (part_one (agg_str w) rfl) (run_equalIn_string w _ _ _ _ Tryz.underlying9) ?_
 exact eqf_nil
theorem eqAx (d:Nat) (x0 y0 x2 y2 x3 y3 x4 y4 x6 y6 x11 y11 x12 y12 x13 y13:Int) (x1 y1 x5 y5 x8 y8 x9 y9 x10 y10 x14 y14 x15 y15 x16 y16:ByteArray) (x7 y7:Bool) (w:World):(Op.equalIn (d+3+1) 42 (.agg #[.int .i64 x0,.string x1,.int .i64 x2,.int .u64 x3,.int .i64 x4,.string x5,.int .i64 x6,.bool x7,.string x8,.string x9,.string x10,.int .i64 x11,.int .u64 x12,.int .i64 x13,.string x14,.string x15,.string x16]) (.agg #[.int .i64 y0,.string y1,.int .i64 y2,.int .u64 y3,.int .i64 y4,.string y5,.int .i64 y6,.bool y7,.string y8,.string y9,.string y10,.int .i64 y11,.int .u64 y12,.int .i64 y13,.string y14,.string y15,.string y16])).run Tryz.prog w=.ok ((x0==y0) && ((x1.toList==y1.toList) && ((x2==y2) && ((x3==y3) && ((x4==y4) && (((x5.toList==y5.toList) && ((x6==y6) && ((x7==y7) && true))) && (((x8.toList==y8.toList) && ((x9.toList==y9.toList) && ((x10.toList==y10.toList) && true))) && ((((x11==y11) && ((x12==y12) && true)) && ((x13==y13) && ((x14.toList==y14.toList) && ((x15.toList==y15.toList) && ((x16.toList==y16.toList) && true))))) && true)))))))) w:=by
 have hS:Tryz.prog.underlying 42=some (.struct (Tryz.prog.fieldsOf 42)):=by kernel_rfl
 have hp:Tryz.prog.stoodInHeld 42=false:=by kernel_rfl
 rw [run_equalIn_agg w (d+3) 42 _ _ hS hp]
 simp only [Program.fieldsOf,Tryz.underlying42]
 refine eqf_cons (by decide) (part_one (agg_int w) rfl) (part_one (agg_int w) rfl) (run_equalIn_int w _ _ _ _ _ _ Tryz.underlying3) ?_
 refine eqf_cons (by decide) (part_one (agg_str w) rfl) (part_one (agg_str w) rfl) (run_equalIn_string w _ _ _ _ Tryz.underlying9) ?_
 refine eqf_cons (by decide) (part_one (agg_int w) rfl) (part_one (agg_int w) rfl) (run_equalIn_int w _ _ _ _ _ _ Tryz.underlying3) ?_
 refine eqf_cons (by decide) (part_one (agg_u64 w) rfl) (part_one (agg_u64 w) rfl) (run_equalIn_int w _ _ _ _ _ _ Tryz.underlying32) ?_
 refine eqf_cons (by decide) (part_one (agg_int w) rfl) (part_one (agg_int w) rfl) (run_equalIn_int w _ _ _ _ _ _ Tryz.underlying3) ?_
 refine eqf_cons (by decide) (part_agg (agg_Ex w) (size_Ex w)) (part_agg (agg_Ex w) (size_Ex w)) (eqEx (d+1) x5 y5 x6 y6 x7 y7 w) ?_
 refine eqf_cons (by decide) (part_agg (agg_Bd w) (size_Bd w)) (part_agg (agg_Bd w) (size_Bd w)) (eqBd (d+1) x8 y8 x9 y9 x10 y10 w) ?_
 refine eqf_cons (by decide) (part_agg (agg_Ms w) (size_Ms w)) (part_agg (agg_Ms w) (size_Ms w)) (eqMs (d+0) x11 y11 x12 y12 x13 y13 x14 y14 x15 y15 x16 y16 w) ?_
 exact eqf_nil
theorem toList_beq (a b:ByteArray):(a.toList==b.toList)=decide (a=b):=by
 by_cases h:a=b
 ·subst h
  simp
 ·rw [decide_eq_false h,beq_eq_false_iff_ne]
  intro e
  rw [ByteArray.toList_eq,ByteArray.toList_eq] at e
  obtain ⟨⟨x⟩⟩:=a
  obtain ⟨⟨y⟩⟩:=b
  exact h (by rw [show x=y from e])
theorem int_beq (a b:Int):(a==b)=decide (a=b):=by
 by_cases h:a=b <;> simp [h]
theorem bool_beq (a b:Bool):(a==b)=decide (a=b):=by
 cases a <;> cases b <;> rfl
theorem run_eqA (a b:Ax) (w:World):(binOp .eql 42 (av a) (av b)).run Tryz.prog w=.ok (.bool (decide (a=b))) w:=by
 rw [run_eql_struct,eqAx 9996]
 simp only [Result.andThen_ok,toList_beq,int_beq,bool_beq]
 congr 2
 rw [Bool.eq_iff_iff]
 simp only [Bool.and_eq_true,decide_eq_true_eq]
 constructor
 ·rintro ⟨h0,h1,h2,h3,h4,⟨h5,h6,h7,_⟩,⟨h8,h9,h10,_⟩,⟨⟨⟨h11,h12,_⟩,h13,h14,h15,h16,_⟩,_⟩⟩
  obtain ⟨k,nm,n,tg,to,xn,xk,xf,be,bq,bp,m⟩:=a
  obtain ⟨k',nm',n',tg',to',xn',xk',xf',be',bq',bp',m'⟩:=b
  obtain ⟨o,s,hp,e,ky,bo⟩:=m
  obtain ⟨o',s',hp',e',ky',bo'⟩:=m'
  dsimp only at *
  subst_vars
  rfl
 ·rintro rfl
  exact ⟨rfl,rfl,rfl,rfl,rfl,⟨rfl,rfl,rfl,trivial⟩,⟨rfl,rfl,rfl,trivial⟩,⟨⟨⟨rfl,rfl,trivial⟩,rfl,rfl,rfl,rfl,trivial⟩,trivial⟩⟩
theorem eqGuardA:Tryz.prog.eqGuardType Tryz.prog.depth 42=false:=by kernel_rfl
end Go.Proofs.YtnhnpnafchkhiaaGreatDoor
