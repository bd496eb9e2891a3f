import Derived.Test.YtnhnpnafchkhiaaGreatDoorQwA
import Derived.Test.YtnhnpnafchkhiaaGreatDoorQw33
import Derived.Test.YtnhnpnafchkhiaaGreatDoorQw41
import Derived.Test.YtnhnpnafchkhiaaGreatDoorQw26
import Derived.Test.YtnhnpnafchkhiaaGreatDoorQw19
import Derived.Test.YtnhnpnafchkhiaaGreatDoorQw37
namespace Go.Proofs.YtnhnpnafchkhiaaGreatDoor
open Go.RowKit
theorem cells5 {w:World} {g:Nat} {x:Qp} {t:TypeId} (h:w.heap[g]? = some (.cells (qpcells x).toArray t (0,0))) :
  w.cell? ⟨g,0,none⟩=some (.string x.name)/\w.cell? ⟨g,1,none⟩=some (.int .i64 x.most)/\w.cell? ⟨g,2,none⟩=some (.int .u64 x.next)/\w.cell? ⟨g,3,none⟩=some (.slice x.r.1 x.r.2.1 x.r.2.2)/\w.cell? ⟨g,4,none⟩=some (.slice x.o.1 x.o.2.1 x.o.2.2) :=
 ⟨box_at h rfl,box_at h rfl,box_at h rfl,box_at h rfl,box_at h rfl⟩
theorem own_len {α:Type} {enc:α->List Value} {kk:Nat} {T:TypeId} {w:World} {base:Nat} {x:Sl} {l:List α} (h:K.OwnOf enc kk T w base (slv x) l):x.2.1=l.length:=by
 obtain ⟨_,_,hv⟩:=h.rng.slice
 injection hv
theorem slice_addr {a a':Option Addr} {n n' c c':Nat} (h:Value.slice a n c=.slice a' n' c'):a=a':=by injection h
theorem owns_kept {w w':World} {lo:Nat} {T':TypeId} {k n:Nat} {v:Value} {cs:List Value} (h:w.ownsRow lo T' k v n cs) (b:Below w.heap.size w w'):w'.ownsRow lo T' k v n cs:=owns_same h fun g _ hg=>b.block g hg
theorem row_whole {α:Type} {enc:α->List Value} {kk:Nat} [E:K.Enc enc kk] {w:World} {b off:Nat} {l:List α} (hc : ∀ j u,(K.cellsOf enc l)[j]? = some u->w.cell? ⟨b,off+j,none⟩=some u) (i:Nat) (hi:i<l.length) : ∀ j u,(enc l[i])[j]? = some u->w.cell? ⟨b,off+i*kk+j,none⟩=some u:=fun j u hj =>
 K.row_cell hc i hi j (by have:=(List.getElem?_eq_some_iff.1 hj).1; rw [E.len] at this; exact this) u hj
structure LikeIn (w V:World) (b1 b2:Nat) (Pa Pb:Pt) (s:Sm):Prop where
 bel:Below w.heap.size w V
 boxa:V.heap[w.heap.size]? = some (.cells (ptcells Pa).toArray 49 (0,0))
 boxb:V.heap[w.heap.size+1]? = some (.cells (ptcells Pb).toArray 49 (0,0))
 pa:PartsIs V b1 Pa s
 pb:PartsIs V b2 Pb s
theorem LikeIn.go {w V V':World} {b1 b2:Nat} {Pa Pb:Pt} {s:Sm} (h:LikeIn w V b1 b2 Pa Pb s) (b:Below V.heap.size V V'):LikeIn w V' b1 b2 Pa Pb s :=
 ⟨keptW h.bel b,(b.block _ (yyD h.boxa).1).trans h.boxa,(b.block _ (yyD h.boxb).1).trans h.boxb,h.pa.kept b,h.pb.kept b⟩
theorem cells7' {w:World} {g:Nat} {P:Pt} {t:TypeId} (h:w.heap[g]? = some (.cells (ptcells P).toArray t (0,0))) :
  w.cell? ⟨g,0,none⟩=some (.int .u64 P.seq)/\w.cell? ⟨g,1,none⟩=some (.int .u64 P.boots)/\w.cell? ⟨g,2,none⟩=some (.slice P.x.1 P.x.2.1 P.x.2.2)/\w.cell? ⟨g,3,none⟩=some (.slice P.b.1 P.b.2.1 P.b.2.2)/\w.cell? ⟨g,4,none⟩=some (.slice P.q.1 P.q.2.1 P.q.2.2)/\w.cell? ⟨g,5,none⟩=some (.slice P.s.1 P.s.2.1 P.s.2.2)/\w.cell? ⟨g,6,none⟩=some (.slice P.l.1 P.l.2.1 P.l.2.2) :=
 ⟨box_at h rfl,box_at h rfl,box_at h rfl,box_at h rfl,box_at h rfl,box_at h rfl,box_at h rfl⟩
set_option maxRecDepth 100000 in
set_option maxHeartbeats 8000000 in
theorem like_any (Pa Pb:Pt) (s:Sm) (b1 b2:Nat) (w:World) (ha:PartsIs w b1 Pa s) (hb:PartsIs w b2 Pb s) (hq:s.qs.length<=1000) (hl:s.lk.length<=1000) :
  Calls Tryz.prog 12 #[ptv Pa,ptv Pb] w fun e w'=>e=.returned (.bool true)/\Below w.heap.size w w':=by
 obtain ⟨sq,bt,⟨xa,xn,xc⟩,⟨ba,bn,bc⟩,⟨qa,qn,qc⟩,⟨sa,sn,sc⟩,⟨la,ln,lc⟩⟩:=Pa
 obtain ⟨sq2,bt2,⟨xa2,xn2,xc2⟩,⟨ba2,bn2,bc2⟩,⟨qa2,qn2,qc2⟩,⟨sa2,sn2,sc2⟩,⟨la2,ln2,lc2⟩⟩:=Pb
 obtain rfl:sq2=sq:=hb.seq.trans ha.seq.symm
 obtain rfl:bt2=bt:=hb.boots.trans ha.boots.symm
 obtain ⟨Q1,o1,a1⟩:=ha.q
 obtain ⟨Q2,o2,a2⟩:=hb.q
 obtain rfl:qn2=qn:=(own_len o2).trans ((a2.len.trans a1.len.symm).trans (own_len o1).symm)
 obtain ⟨S1,p1,c1⟩:=ha.s
 obtain ⟨S2,p2,c2⟩:=hb.s
 obtain rfl:sn2=sn:=(own_len p2).trans ((c2.len.trans c1.len.symm).trans (own_len p1).symm)
 obtain ⟨L1,r1,d1⟩:=ha.l
 obtain ⟨L2,r2,d2⟩:=hb.l
 obtain rfl:ln2=ln:=(own_len r2).trans ((d2.len.trans d1.len.symm).trans (own_len r1).symm)
 have HN:Hid (qn2=s.qs.length/\sn2=(S.places (S.liveL s.bk)).length/\ln2=s.lk.length/\qn2<=1000/\sn2<=1000/\ln2<=1000):=by
  have e1:qn2=s.qs.length:=(own_len o1).trans a1.len
  have e2:sn2=(S.places (S.liveL s.bk)).length:=(own_len p1).trans c1.len
  have e3:ln2=s.lk.length:=(own_len r1).trans d1.len
  have e4:=S.liveK_len s.bk 8
  refine ⟨e1,e2,e3,by omega,?_,by omega⟩
  rw [e2,S.places_len]
  unfold S.liveL
  omega
 clear o1 a1 o2 a2 p1 c1 p2 c2 r1 d1 r2 d2 hq hl
 obtain ⟨W,fold⟩ : ∃ W,(w.alloc (.cells #[.int .u64 sq2,.int .u64 bt2,.slice xa xn xc,.slice ba bn bc,.slice qa qn2 qc,.slice sa sn2 sc,.slice la ln2 lc] 49)).alloc (.cells #[.int .u64 sq2,.int .u64 bt2,.slice xa2 xn2 xc2,.slice ba2 bn2 bc2,.slice qa2 qn2 qc2,.slice sa2 sn2 sc2,.slice la2 ln2 lc2] 49)=W:=⟨_,rfl⟩
 have bW:Below w.heap.size w W:=by rw [<- fold]; exact keptW (box_below w _) (box_below _ _)
 have HI:Hid (LikeIn w W b1 b2 ⟨sq2,bt2,(xa,xn,xc),(ba,bn,bc),(qa,qn2,qc),(sa,sn2,sc),(la,ln2,lc)⟩ ⟨sq2,bt2,(xa2,xn2,xc2),(ba2,bn2,bc2),(qa2,qn2,qc2),(sa2,sn2,sc2),(la2,ln2,lc2)⟩ s):=by
  refine ⟨bW,?_,?_,ha.kept bW,hb.kept bW⟩
  ·rw [<- fold]; exact heap_alloc2_old w _ _
  ·rw [<- fold]
   have h:=heap_alloc_new (w.alloc (.cells #[.int .u64 sq2,.int .u64 bt2,.slice xa xn xc,.slice ba bn bc,.slice qa qn2 qc,.slice sa sn2 sc,.slice la ln2 lc] 49)) (.cells #[.int .u64 sq2,.int .u64 bt2,.slice xa2 xn2 xc2,.slice ba2 bn2 bc2,.slice qa2 qn2 qc2,.slice sa2 sn2 sc2,.slice la2 ln2 lc2] 49)
   rw [World.size_alloc] at h
   exact h
 obtain ⟨V,fV⟩ : ∃ V,W.alloc (.cells #[.slice xa2 xn2 xc2,.slice ba2 bn2 bc2] 68)=V:=⟨_,rfl⟩
 have bV:Below W.heap.size W V:=by rw [<- fV]; exact box_below W _
 have hS7:Calls Tryz.prog 39 #[.slice xa xn xc,.slice ba bn bc,.pointer (some ⟨W.heap.size,0,none⟩)] V fun e w'=>e=.returned (.bool true)/\Below V.heap.size V w':=by
  have h2:=HI.out.go bV
  refine B.same_any _ _ W.heap.size (B.rfootT W.heap.size (.slice xa2 xn2 xc2) (.slice ba2 bn2 bc2)) s.tb V h2.pa.x.rng h2.pa.b.rng ⟨_,_,⟨by rw [<- fV]; exact heap_alloc_new W _,h2.pb.x.rng,h2.pb.b.rng,?_,?_⟩,fun k=>Iff.rfl,fun k hk=>?_⟩
  ·intro e
   have:=(HI.out.pb.x.lt e).2
   omega
  ·intro e
   have:=(HI.out.pb.b.lt e).2
   omega
  ·rcases hk with rfl | hk | hk
   ·rw [<- fV]; simp
   ·exact (h2.pb.x.lt hk).2
   ·exact (h2.pb.b.lt hk).2
 have HIV:Hid (LikeIn w V b1 b2 ⟨sq2,bt2,(xa,xn,xc),(ba,bn,bc),(qa,qn2,qc),(sa,sn2,sc),(la,ln2,lc)⟩ ⟨sq2,bt2,(xa2,xn2,xc2),(ba2,bn2,bc2),(qa2,qn2,qc2),(sa2,sn2,sc2),(la2,ln2,lc2)⟩ s):=HI.out.go bV
 obtain ⟨u0,u1,u2,u3,u4,u5',u6'⟩:=cells7' HI.out.boxa
 obtain ⟨v0,v1,v2,v3,v4,v5,v6⟩:=cells7' HI.out.boxb
 clear bW bV ha hb HI
 go_enter Tryz.func12,Tryz.ntmps12
 go_wp2_with fail
 try rw [fold]
 try rw [fV]
 refine hS7.mono ?_
 rintro e V1 ⟨rfl,b1'⟩
 clear hS7 u0 u1 u2 u3 u4 u5' u6' v0 v1 v2 v3 v4 v5 v6 fold fV
 have HI1:Hid (LikeIn w V1 b1 b2 ⟨sq2,bt2,(xa,xn,xc),(ba,bn,bc),(qa,qn2,qc),(sa,sn2,sc),(la,ln2,lc)⟩ ⟨sq2,bt2,(xa2,xn2,xc2),(ba2,bn2,bc2),(qa2,qn2,qc2),(sa2,sn2,sc2),(la2,ln2,lc2)⟩ s):=HIV.out.go b1'
 clear b1' HIV
 obtain ⟨u0,u1,u2,u3,u4,u5',u6'⟩:=cells7' HI1.out.boxa
 obtain ⟨v0,v1,v2,v3,v4,v5,v6⟩:=cells7' HI1.out.boxb
 clear u0 u1 u2 u3 v0 v1 v2 v3
 go_wp2
 clear u4 u5' u6' v4 v5 v6
 go_loopg [5,6,7,68] qn2 (fun g u5 u6 u7 u68 wr => ∃ i:Nat,u68=.int .i64 (i:Int)/\i<=qn2/\g=qn2-i/\Hid (LikeIn w wr b1 b2 ⟨sq2,bt2,(xa,xn,xc),(ba,bn,bc),(qa,qn2,qc),(sa,sn2,sc),(la,ln2,lc)⟩ ⟨sq2,bt2,(xa2,xn2,xc2),(ba2,bn2,bc2),(qa2,qn2,qc2),(sa2,sn2,sc2),(la2,ln2,lc2)⟩ s))
 case atStart=>exact ⟨0,rfl,Nat.zero_le _,rfl,HI1⟩
 case round =>
  obtain ⟨i,rfl,hi,rfl,HI⟩:=hrel
  clear HI1
  by_cases hlt:i<qn2
  ·have hlt':(i:Int)<(qn2:Int):=by omega
   obtain ⟨Q1,o1,a1⟩:=HI.out.pa.q
   obtain ⟨Q2,o2,a2⟩:=HI.out.pb.q
   have l1:i<Q1.length:=by rw [a1.len,<- HN.out.1]; exact hlt
   have l2:i<Q2.length:=by rw [a2.len,<- HN.out.1]; exact hlt
   have lq:i<s.qs.length:=by rw [<- HN.out.1]; exact hlt
   obtain ⟨x1,hx1⟩ : ∃ x,Q1[i]=x:=⟨_,rfl⟩
   obtain ⟨x2,hx2⟩ : ∃ x,Q2[i]=x:=⟨_,rfl⟩
   have i1:=a1.at i l1 lq
   have i2:=a2.at i l2 lq
   rw [hx1] at i1
   rw [hx2] at i2
   obtain ⟨⟨nm,q⟩,hoo⟩ : ∃ z,s.qs[i]=z:=⟨_,rfl⟩
   rw [hoo] at i1 i2
   obtain ⟨g1,f1,c1,hv1,_,_,hc1⟩:=o1.rng.at (by omega)
   obtain ⟨g2,f2,c2,hv2,_,_,hc2⟩:=o2.rng.at (by omega)
   have hw1:qa=some ⟨g1,f1,none⟩:=slice_addr hv1
   have hw2:qa2=some ⟨g2,f2,none⟩:=slice_addr hv2
   clear hv1 hv2
   subst hw1 hw2
   have w1:=row_whole (enc:=qpcells) (kk:=5) hc1 i l1
   have w2:=row_whole (enc:=qpcells) (kk:=5) hc2 i l2
   rw [hx1] at w1
   rw [hx2] at w2
   obtain ⟨X0,fX0⟩ : ∃ X,wr.alloc (.cells #[.string ⟨#[]⟩,.int .i64 0,.int .u64 0,.slice none 0 0,.slice none 0 0] 59)=X:=⟨_,rfl⟩
   have zX:X0.heap[wr.heap.size]? = some (.cells (qpcells zQp).toArray 59 (0,0)):=by rw [<- fX0]; exact heap_alloc_new wr _
   have bX0:Below wr.heap.size wr X0:=by rw [<- fX0]; exact box_below wr _
   obtain ⟨X1,fX1⟩ : ∃ X,X0.setRow wr.heap.size (qpcells x1).toArray=X:=⟨_,rfl⟩
   have kX:X1.heap[wr.heap.size]? = some (.cells (qpcells x1).toArray 59 (0,0)):=by rw [<- fX1]; exact setRow_heap _ _ _ _ _ _ zX
   have bX1:Below wr.heap.size wr X1:=by rw [<- fX1]; exact below_setRow bX0 (yyH _) _
   obtain ⟨Y0,fY0⟩ : ∃ X,X1.alloc (.cells #[.string ⟨#[]⟩,.int .i64 0,.int .u64 0,.slice none 0 0,.slice none 0 0] 59)=X:=⟨_,rfl⟩
   have zY:Y0.heap[X1.heap.size]? = some (.cells (qpcells zQp).toArray 59 (0,0)):=by rw [<- fY0]; exact heap_alloc_new X1 _
   have bY0:Below X1.heap.size X1 Y0:=by rw [<- fY0]; exact box_below X1 _
   obtain ⟨Y1,fY1⟩ : ∃ X,Y0.setRow X1.heap.size (qpcells x2).toArray=X:=⟨_,rfl⟩
   have kY:Y1.heap[X1.heap.size]? = some (.cells (qpcells x2).toArray 59 (0,0)):=by rw [<- fY1]; exact setRow_heap _ _ _ _ _ _ zY
   have bY1:Below X1.heap.size X1 Y1:=by rw [<- fY1]; exact below_setRow bY0 (yyH _) _
   have bWY:=keptW bX1 bY1
   have kXY:Y1.heap[wr.heap.size]? = some (.cells (qpcells x1).toArray 59 (0,0)):=(bY1.block _ (yyD kX).1).trans kX
   have HW:Hid ((∀ j u,(qpcells x1)[j]? = some u->wr.cell? ⟨g1,f1+i*5+j,none⟩=some u)/\(∀ j u,(qpcells x2)[j]? = some u->X1.cell? ⟨g2,f2+i*5+j,none⟩=some u)/\X0.heap[wr.heap.size]? = some (.cells (qpcells zQp).toArray 59 (0,0))/\Y0.heap[X1.heap.size]? = some (.cells (qpcells zQp).toArray 59 (0,0))):=⟨w1,fun j u hj=>cell_on bX1 (w2 j u hj),zX,zY⟩
   have hI1:x1.name=x2.name/\x1.most=x2.most/\x1.next=x2.next:=⟨i1.name.trans i2.name.symm,i1.most.trans i2.most.symm,i1.next.trans i2.next.symm⟩
   have hSr:=F.same_any (slv x1.r) (slv x2.r) q.rdy Y1 (K.OwnOf.rng (owns_kept i1.r bWY)) (K.OwnOf.rng (owns_kept i2.r bWY))
   have HSo:Hid (∀ V,Below Y1.heap.size Y1 V->Calls Tryz.prog 40 #[slv x1.o,slv x2.o] V fun e w'=>e=.returned (.bool true)/\Below V.heap.size V w'):=fun V b=>F.same_any (slv x1.o) (slv x2.o) q.out V (K.OwnOf.rng (owns_kept i1.o (keptW bWY b))) (K.OwnOf.rng (owns_kept i2.o (keptW bWY b)))
   have HX:Hid (Below wr.heap.size wr Y1/\Y1.heap[wr.heap.size]? = some (.cells (qpcells x1).toArray 59 (0,0))/\Y1.heap[X1.heap.size]? = some (.cells (qpcells x2).toArray 59 (0,0))/\LikeIn w Y1 b1 b2 ⟨sq2,bt2,(xa,xn,xc),(ba,bn,bc),(some ⟨g1,f1,none⟩,qn2,qc),(sa,sn2,sc),(la,ln2,lc)⟩ ⟨sq2,bt2,(xa2,xn2,xc2),(ba2,bn2,bc2),(some ⟨g2,f2,none⟩,qn2,qc2),(sa2,sn2,sc2),(la2,ln2,lc2)⟩ s):=⟨bWY,kXY,kY,HI.out.go bWY⟩
   have v4:X1.cell? ⟨w.heap.size+1,4,none⟩=some (.slice (some ⟨g2,f2,none⟩) qn2 qc2):=(cells7' (HI.out.go bX1).boxb).2.2.2.2.1
   obtain ⟨n1,m1,t1,⟨ra1,rn1,rc1⟩,⟨oa1,on1,oc1⟩⟩:=x1
   obtain ⟨n2,m2,t2,⟨ra2,rn2,rc2⟩,⟨oa2,on2,oc2⟩⟩:=x2
   obtain ⟨e1,e2,e3⟩:=hI1
   have e1:n1=n2:=e1
   have e2:m1=m2:=e2
   have e3:t1=t2:=e3
   subst e1 e2 e3
   have hi1000:i<9223372036854775807:=by have:=HN.out.2.2.2.1; omega
   have HI63:Hid (i<9223372036854775807):=hi1000
   obtain ⟨d0,d1,d2,d3,d4⟩:=cells5 HX.out.2.1
   obtain ⟨h0,h1,h2,h3,h4⟩:=cells5 HX.out.2.2.1
   clear o1 a1 o2 a2 hoo l1 l2 lq hx1 hx2 i1 i2 hc1 hc2 w1 w2 zX bX0 kX bX1 zY bY0 kY bY1 bWY kXY hi1000
   go_wp2_with (first
    |refine wpList_load_off rfl 59 _ rfl g1 (f1+i*5) rfl (qpcells ⟨n1,m1,t1,(ra1,rn1,rc1),(oa1,on1,oc1)⟩) _ HW.out.1 Tryz.underlying59 rfl infoQp ?_
    |refine wpList_load_off rfl 59 _ rfl g2 (f2+i*5) rfl (qpcells ⟨n1,m1,t1,(ra2,rn2,rc2),(oa2,on2,oc2)⟩) _ HW.out.2.1 Tryz.underlying59 rfl infoQp ?_
    |refine wpList_store_row rfl 59 _ _ rfl wr.heap.size (qpcells ⟨n1,m1,t1,(ra1,rn1,rc1),(oa1,on1,oc1)⟩).toArray rfl rfl 59 (qpcells zQp).toArray (by first | exact HW.out.2.2.1 | (rw [fX0]; exact HW.out.2.2.1)) infoQp rfl (oneQp _) ?_; (try rw [fX0]); (try rw [fX1])
    |refine wpList_store_row rfl 59 _ _ rfl X1.heap.size (qpcells ⟨n1,m1,t1,(ra2,rn2,rc2),(oa2,on2,oc2)⟩).toArray rfl rfl 59 (qpcells zQp).toArray (by first | exact HW.out.2.2.2 | (rw [fY0]; exact HW.out.2.2.2)) infoQp rfl (oneQp _) ?_; (try rw [fY0]); (try rw [fY1]))
   refine hSr.mono ?_
   rintro e V2 ⟨rfl,b2'⟩
   have hSo:=HSo.out V2 b2'
   have HX2:Hid (Below Y1.heap.size Y1 V2):=b2'
   clear hSr HSo b2' v4 h0 h1 h2 h3 h4 d0 d1 d2 d3 d4
   obtain ⟨d0,d1,d2,d3,d4⟩:=cells5 ((HX2.out.block _ (yyD HX.out.2.1).1).trans HX.out.2.1)
   obtain ⟨h0,h1,h2,h3,h4⟩:=cells5 ((HX2.out.block _ (yyD HX.out.2.2.1).1).trans HX.out.2.2.1)
   go_wp2_with fail
   refine hSo.mono ?_
   rintro e V3 ⟨rfl,b3'⟩
   have HI3:Hid (LikeIn w V3 b1 b2 ⟨sq2,bt2,(xa,xn,xc),(ba,bn,bc),(some ⟨g1,f1,none⟩,qn2,qc),(sa,sn2,sc),(la,ln2,lc)⟩ ⟨sq2,bt2,(xa2,xn2,xc2),(ba2,bn2,bc2),(some ⟨g2,f2,none⟩,qn2,qc2),(sa2,sn2,sc2),(la2,ln2,lc2)⟩ s):=HX.out.2.2.2.go (keptW HX2.out b3')
   clear hSo b3' HX2 d0 d1 d2 d3 d4 h0 h1 h2 h3 h4
   go_wp2
   go_roundg (qn2-(i+1))
   case measure=>omega
   case rel=>exact ⟨i+1,congrArg (Value.int IntKind.i64) (by have:=HI63.out; unfold wrap64; omega),by omega,rfl,HI3⟩
  ·have hlt' : ¬ (i:Int)<(qn2:Int):=by omega
   obtain rfl:i=qn2:=by omega
   have u5':=(cells7' HI.out.boxa).2.2.2.2.2.1
   clear hlt hlt' hi
   go_wp2
   clear u5'
   go_loopg [8,9,117] sn2 (fun g u8 u9 u117 wr => ∃ j:Nat,u117=.int .i64 (j:Int)/\j<=sn2/\g=sn2-j/\Hid (LikeIn w wr b1 b2 ⟨sq2,bt2,(xa,xn,xc),(ba,bn,bc),(qa,i,qc),(sa,sn2,sc),(la,ln2,lc)⟩ ⟨sq2,bt2,(xa2,xn2,xc2),(ba2,bn2,bc2),(qa2,i,qc2),(sa2,sn2,sc2),(la2,ln2,lc2)⟩ s))
   case atStart=>exact ⟨0,rfl,Nat.zero_le _,rfl,HI⟩
   case round =>
    obtain ⟨j,rfl,hj,rfl,HJ⟩:=hrel
    clear HI
    by_cases hlt:j<sn2
    ·have hlt':(j:Int)<(sn2:Int):=by omega
     obtain ⟨Q1,o1,a1⟩:=HJ.out.pa.s
     obtain ⟨Q2,o2,a2⟩:=HJ.out.pb.s
     have l1:j<Q1.length:=by rw [a1.len,<- HN.out.2.1]; exact hlt
     have l2:j<Q2.length:=by rw [a2.len,<- HN.out.2.1]; exact hlt
     have lq:j<(S.places (S.liveL s.bk)).length:=by rw [<- HN.out.2.1]; exact hlt
     obtain ⟨x1,hx1⟩ : ∃ x,Q1[j]=x:=⟨_,rfl⟩
     obtain ⟨x2,hx2⟩ : ∃ x,Q2[j]=x:=⟨_,rfl⟩
     have i1:=a1.at j l1 lq
     have i2:=a2.at j l2 lq
     rw [hx1] at i1
     rw [hx2] at i2
     obtain ⟨oo,hoo⟩ : ∃ z,(S.places (S.liveL s.bk))[j]=z:=⟨_,rfl⟩
     rw [hoo] at i1 i2
     obtain ⟨g1,f1,c1,hv1,_,_,hc1⟩:=o1.rng.at (by omega)
     obtain ⟨g2,f2,c2,hv2,_,_,hc2⟩:=o2.rng.at (by omega)
     have hw1:sa=some ⟨g1,f1,none⟩:=slice_addr hv1
     have hw2:sa2=some ⟨g2,f2,none⟩:=slice_addr hv2
     clear hv1 hv2
     subst hw1 hw2
     have w1:=row_whole (enc:=spcells) (kk:=2) hc1 j l1
     have w2:=row_whole (enc:=spcells) (kk:=2) hc2 j l2
     rw [hx1] at w1
     rw [hx2] at w2
     obtain ⟨o,⟨ra1,rn1,rc1⟩⟩:=x1
     obtain ⟨o2',⟨ra2,rn2,rc2⟩⟩:=x2
     have e12:o=o2':=i1.1.trans i2.1.symm
     subst e12
     obtain ⟨X0,fX0⟩ : ∃ X,wr.alloc (.cells #[.int .i64 0,.slice none 0 0] 99)=X:=⟨_,rfl⟩
     have zX:X0.heap[wr.heap.size]? = some (.cells [.int .i64 0,.slice none 0 0].toArray 99 (0,0)):=by rw [<- fX0]; exact heap_alloc_new wr _
     have bX0:Below wr.heap.size wr X0:=by rw [<- fX0]; exact box_below wr _
     obtain ⟨X1,fX1⟩ : ∃ X,(X0.setCell ⟨wr.heap.size,0,none⟩ (.int .i64 o)).setCell ⟨wr.heap.size,1,none⟩ (.slice ra1 rn1 rc1)=X:=⟨_,rfl⟩
     have kX:X1.heap[wr.heap.size]? = some (.cells [.int .i64 o,.slice ra1 rn1 rc1].toArray 99 (0,0)):=by rw [<- fX1]; exact set_list (set_list zX _) _
     have bX1:Below wr.heap.size wr X1:=by rw [<- fX1]; exact (bX0.setCell (p:=⟨wr.heap.size,0,none⟩) (yyH _) _).setCell (p:=⟨wr.heap.size,1,none⟩) (yyH _) _
     have z0:X0.cell? ⟨wr.heap.size,0,none⟩=some (.int .i64 0):=box_at zX rfl
     have z1:X0.cell? ⟨wr.heap.size,1,none⟩=some (.slice none 0 0):=box_at zX rfl
     have fz:=fun k=>box_free zX k
     have r0:wr.cell? ⟨g1,f1+j*2,none⟩=some (.int .i64 o):=by simpa using w1 0 _ rfl
     have r1:wr.cell? ⟨g1,f1+j*2+1,none⟩=some (.slice ra1 rn1 rc1):=w1 1 _ rfl
     have HK:Hid (∀ V,Below X1.heap.size X1 V->V.cell? ⟨wr.heap.size,0,none⟩=some (.int .i64 o)/\V.cell? ⟨wr.heap.size,1,none⟩=some (.slice ra1 rn1 rc1)/\V.cell? ⟨w.heap.size+1,5,none⟩=some (.slice (some ⟨g2,f2,none⟩) sn2 sc2)/\V.cell? ⟨g2,f2+j*2,none⟩=some (.int .i64 o)/\V.cell? ⟨g2,f2+j*2+1,none⟩=some (.slice ra2 rn2 rc2)):=fun V b=>by
      have bb:=keptW bX1 b
      have k1:=(b.block _ (yyD kX).1).trans kX
      exact ⟨box_at k1 rfl,box_at k1 rfl,(cells7' (HJ.out.go bb).boxb).2.2.2.2.2.1,by simpa using cell_on bb (w2 0 _ rfl),cell_on bb (w2 1 _ rfl)⟩
     have HS:Hid (∀ V,Below X1.heap.size X1 V->Calls Tryz.prog 41 #[.slice ra1 rn1 rc1,.slice ra2 rn2 rc2] V fun e w'=>e=.returned (.bool true)/\Below V.heap.size V w'):=fun V b=>by
      have bb:=keptW bX1 b
      have h:=S.same_any _ _ _ _ V (S.Own2.rng (owns_kept i1.2 bb)) (S.Own2.rng (owns_kept i2.2 bb))
      simpa using h
     have HX:Hid (Below wr.heap.size wr X1/\LikeIn w X1 b1 b2 ⟨sq2,bt2,(xa,xn,xc),(ba,bn,bc),(qa,i,qc),(some ⟨g1,f1,none⟩,sn2,sc),(la,ln2,lc)⟩ ⟨sq2,bt2,(xa2,xn2,xc2),(ba2,bn2,bc2),(qa2,i,qc2),(some ⟨g2,f2,none⟩,sn2,sc2),(la2,ln2,lc2)⟩ s):=⟨bX1,HJ.out.go bX1⟩
     have HJ63:Hid (j<9223372036854775807):=by have:=HN.out.2.2.2.2.1; show j<_; omega
     clear o1 a1 o2 a2 hoo l1 l2 lq hx1 hx2 i1 i2 hc1 hc2 w1 w2 zX bX0 kX bX1
     go_wp2
     try rw [fX0]
     try rw [fX1]
     obtain ⟨k0,k1,k2,k3,k4⟩:=HK.out X1 (Below.refl _ _)
     clear z0 z1 fz r0 r1 fX0 fX1
     (go_region_held3 (fun w'=>w'.cell? ⟨wr.heap.size,0,none⟩=some (.int .i64 o)/\w'.cell? ⟨wr.heap.size,1,none⟩=some (.slice ra1 rn1 rc1)/\w'.cell? ⟨w.heap.size+1,5,none⟩=some (.slice (some ⟨g2,f2,none⟩) sn2 sc2)/\w'.cell? ⟨g2,f2+j*2,none⟩=some (.int .i64 o)/\w'.cell? ⟨g2,f2+j*2+1,none⟩=some (.slice ra2 rn2 rc2)) (first | exact ⟨k0,k1,k2,k3,k4⟩ | go_keep) (first
      |(go_at_call 41; refine (HS.out X1.drew (drew_below X1)).mono ?_; rintro e V3 ⟨rfl,b3⟩; have B3:Hid (Below X1.heap.size X1 V3):=keptW (drew_below X1) b3; obtain ⟨n0,n1,n2,n3,n4⟩:=HK.out V3 B3.out; clear b3)))
     all_goals (have HI3:Hid (LikeIn w V3 b1 b2 ⟨sq2,bt2,(xa,xn,xc),(ba,bn,bc),(qa,i,qc),(some ⟨g1,f1,none⟩,sn2,sc),(la,ln2,lc)⟩ ⟨sq2,bt2,(xa2,xn2,xc2),(ba2,bn2,bc2),(qa2,i,qc2),(some ⟨g2,f2,none⟩,sn2,sc2),(la2,ln2,lc2)⟩ s):=HX.out.2.go B3.out)
     all_goals go_wp2
     all_goals go_roundg (sn2-(j+1))
     all_goals first
      |(case measure=>omega)
      |skip
     all_goals first
      |(case rel=>exact ⟨j+1,congrArg (Value.int IntKind.i64) (by have:=HJ63.out; unfold wrap64; omega),by omega,rfl,HI3⟩)
      |skip
    ·have hlt' : ¬ (j:Int)<(sn2:Int):=by omega
     obtain rfl:j=sn2:=by omega
     have HI:=HJ
     have u6':=(cells7' HI.out.boxa).2.2.2.2.2.2
     clear hlt hlt' hj HJ
     go_wp2
     clear u6'
     go_loopg [10,11,147] ln2 (fun g u10 u11 u147 wr => ∃ jj:Nat,u147=.int .i64 (jj:Int)/\jj<=ln2/\g=ln2-jj/\Hid (LikeIn w wr b1 b2 ⟨sq2,bt2,(xa,xn,xc),(ba,bn,bc),(qa,i,qc),(sa,j,sc),(la,ln2,lc)⟩ ⟨sq2,bt2,(xa2,xn2,xc2),(ba2,bn2,bc2),(qa2,i,qc2),(sa2,j,sc2),(la2,ln2,lc2)⟩ s))
     case atStart=>exact ⟨0,rfl,Nat.zero_le _,rfl,HI⟩
     case round =>
      obtain ⟨jj,rfl,hj,rfl,HJ⟩:=hrel
      clear HI
      by_cases hlt:jj<ln2
      ·have hlt':(jj:Int)<(ln2:Int):=by omega
       obtain ⟨Q1,o1,a1⟩:=HJ.out.pa.l
       obtain ⟨Q2,o2,a2⟩:=HJ.out.pb.l
       have l1:jj<Q1.length:=by rw [a1.len,<- HN.out.2.2.1]; exact hlt
       have l2:jj<Q2.length:=by rw [a2.len,<- HN.out.2.2.1]; exact hlt
       have lq:jj<s.lk.length:=by rw [<- HN.out.2.2.1]; exact hlt
       obtain ⟨x1,hx1⟩ : ∃ x,Q1[jj]=x:=⟨_,rfl⟩
       obtain ⟨x2,hx2⟩ : ∃ x,Q2[jj]=x:=⟨_,rfl⟩
       have i1:=a1.at jj l1 lq
       have i2:=a2.at jj l2 lq
       rw [hx1] at i1
       rw [hx2] at i2
       obtain ⟨⟨oo,ms⟩,hoo⟩ : ∃ z,s.lk[jj]=z:=⟨_,rfl⟩
       rw [hoo] at i1 i2
       obtain ⟨g1,f1,c1,hv1,_,_,hc1⟩:=o1.rng.at (by omega)
       obtain ⟨g2,f2,c2,hv2,_,_,hc2⟩:=o2.rng.at (by omega)
       have hw1:la=some ⟨g1,f1,none⟩:=slice_addr hv1
       have hw2:la2=some ⟨g2,f2,none⟩:=slice_addr hv2
       clear hv1 hv2
       subst hw1 hw2
       have w1:=row_whole (enc:=spcells) (kk:=2) hc1 jj l1
       have w2:=row_whole (enc:=spcells) (kk:=2) hc2 jj l2
       rw [hx1] at w1
       rw [hx2] at w2
       obtain ⟨o,⟨ra1,rn1,rc1⟩⟩:=x1
       obtain ⟨o2',⟨ra2,rn2,rc2⟩⟩:=x2
       have e12:o=o2':=i1.1.trans i2.1.symm
       subst e12
       obtain ⟨X0,fX0⟩ : ∃ X,wr.alloc (.cells #[.int .i64 0,.slice none 0 0] 101)=X:=⟨_,rfl⟩
       have zX:X0.heap[wr.heap.size]? = some (.cells [.int .i64 0,.slice none 0 0].toArray 101 (0,0)):=by rw [<- fX0]; exact heap_alloc_new wr _
       have bX0:Below wr.heap.size wr X0:=by rw [<- fX0]; exact box_below wr _
       obtain ⟨X1,fX1⟩ : ∃ X,(X0.setCell ⟨wr.heap.size,0,none⟩ (.int .i64 o)).setCell ⟨wr.heap.size,1,none⟩ (.slice ra1 rn1 rc1)=X:=⟨_,rfl⟩
       have kX:X1.heap[wr.heap.size]? = some (.cells [.int .i64 o,.slice ra1 rn1 rc1].toArray 101 (0,0)):=by rw [<- fX1]; exact set_list (set_list zX _) _
       have bX1:Below wr.heap.size wr X1:=by rw [<- fX1]; exact (bX0.setCell (p:=⟨wr.heap.size,0,none⟩) (yyH _) _).setCell (p:=⟨wr.heap.size,1,none⟩) (yyH _) _
       have z0:X0.cell? ⟨wr.heap.size,0,none⟩=some (.int .i64 0):=box_at zX rfl
       have z1:X0.cell? ⟨wr.heap.size,1,none⟩=some (.slice none 0 0):=box_at zX rfl
       have fz:=fun k=>box_free zX k
       have r0:wr.cell? ⟨g1,f1+jj*2,none⟩=some (.int .i64 o):=by simpa using w1 0 _ rfl
       have r1:wr.cell? ⟨g1,f1+jj*2+1,none⟩=some (.slice ra1 rn1 rc1):=w1 1 _ rfl
       have HK:Hid (∀ V,Below X1.heap.size X1 V->V.cell? ⟨wr.heap.size,0,none⟩=some (.int .i64 o)/\V.cell? ⟨wr.heap.size,1,none⟩=some (.slice ra1 rn1 rc1)/\V.cell? ⟨w.heap.size+1,6,none⟩=some (.slice (some ⟨g2,f2,none⟩) ln2 lc2)/\V.cell? ⟨g2,f2+jj*2,none⟩=some (.int .i64 o)/\V.cell? ⟨g2,f2+jj*2+1,none⟩=some (.slice ra2 rn2 rc2)):=fun V b=>by
        have bb:=keptW bX1 b
        have k1:=(b.block _ (yyD kX).1).trans kX
        exact ⟨box_at k1 rfl,box_at k1 rfl,(cells7' (HJ.out.go bb).boxb).2.2.2.2.2.2,by simpa using cell_on bb (w2 0 _ rfl),cell_on bb (w2 1 _ rfl)⟩
       have HS:Hid (∀ V,Below X1.heap.size X1 V->Calls Tryz.prog 42 #[.slice ra1 rn1 rc1,.slice ra2 rn2 rc2] V fun e w'=>e=.returned (.bool true)/\Below V.heap.size V w'):=fun V b=>by
        have bb:=keptW bX1 b
        exact sameM_any _ _ ms V (K.OwnOf.rng (owns_kept i1.2 bb)) (K.OwnOf.rng (owns_kept i2.2 bb))
       have HX:Hid (Below wr.heap.size wr X1/\LikeIn w X1 b1 b2 ⟨sq2,bt2,(xa,xn,xc),(ba,bn,bc),(qa,i,qc),(sa,j,sc),(some ⟨g1,f1,none⟩,ln2,lc)⟩ ⟨sq2,bt2,(xa2,xn2,xc2),(ba2,bn2,bc2),(qa2,i,qc2),(sa2,j,sc2),(some ⟨g2,f2,none⟩,ln2,lc2)⟩ s):=⟨bX1,HJ.out.go bX1⟩
       have HJ63:Hid (jj<9223372036854775807):=by have:=HN.out.2.2.2.2.2; show jj<_; omega
       clear o1 a1 o2 a2 hoo l1 l2 lq hx1 hx2 i1 i2 hc1 hc2 w1 w2 zX bX0 kX bX1
       go_wp2
       try rw [fX0]
       try rw [fX1]
       obtain ⟨k0,k1,k2,k3,k4⟩:=HK.out X1 (Below.refl _ _)
       clear z0 z1 fz r0 r1 fX0 fX1
       (go_region_held3 (fun w'=>w'.cell? ⟨wr.heap.size,0,none⟩=some (.int .i64 o)/\w'.cell? ⟨wr.heap.size,1,none⟩=some (.slice ra1 rn1 rc1)/\w'.cell? ⟨w.heap.size+1,6,none⟩=some (.slice (some ⟨g2,f2,none⟩) ln2 lc2)/\w'.cell? ⟨g2,f2+jj*2,none⟩=some (.int .i64 o)/\w'.cell? ⟨g2,f2+jj*2+1,none⟩=some (.slice ra2 rn2 rc2)) (first | exact ⟨k0,k1,k2,k3,k4⟩ | go_keep) (first
        |(go_at_call 42; refine (HS.out X1.drew (drew_below X1)).mono ?_; rintro e V3 ⟨rfl,b3⟩; have B3:Hid (Below X1.heap.size X1 V3):=keptW (drew_below X1) b3; obtain ⟨n0,n1,n2,n3,n4⟩:=HK.out V3 B3.out; clear b3)))
       all_goals (have HI3:Hid (LikeIn w V3 b1 b2 ⟨sq2,bt2,(xa,xn,xc),(ba,bn,bc),(qa,i,qc),(sa,j,sc),(some ⟨g1,f1,none⟩,ln2,lc)⟩ ⟨sq2,bt2,(xa2,xn2,xc2),(ba2,bn2,bc2),(qa2,i,qc2),(sa2,j,sc2),(some ⟨g2,f2,none⟩,ln2,lc2)⟩ s):=HX.out.2.go B3.out)
       all_goals go_wp2
       all_goals go_roundg (ln2-(jj+1))
       all_goals first
        |(case measure=>omega)
        |skip
       all_goals first
        |(case rel=>exact ⟨jj+1,congrArg (Value.int IntKind.i64) (by have:=HJ63.out; unfold wrap64; omega),by omega,rfl,HI3⟩)
        |skip
      ·have hlt' : ¬ (jj:Int)<(ln2:Int):=by omega
       obtain rfl:jj=ln2:=by omega
       have HI:=HJ
       clear hlt hlt' hj HJ
       go_wp2
       go_ret
       exact ⟨rfl,HI.out.bel⟩
end Go.Proofs.YtnhnpnafchkhiaaGreatDoor
