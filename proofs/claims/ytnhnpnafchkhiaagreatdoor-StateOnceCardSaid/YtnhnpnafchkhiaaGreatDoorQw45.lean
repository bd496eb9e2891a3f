import Derived.Test.YtnhnpnafchkhiaaGreatDoorQwA
import Derived.Test.YtnhnpnafchkhiaaGreatDoorQw44
import Derived.Deep.RegionLaw
import Derived.Deep.CutRange
namespace Go.Proofs.YtnhnpnafchkhiaaGreatDoor
open Go.RowKit
theorem wrap_less (x y:Int):IntKind.i64.wrap (IntKind.i64.wrap x-y)=IntKind.i64.wrap (x-y):=by rw [IntKind.wrap_i64,IntKind.wrap_i64,IntKind.wrap_i64]; omega
set_option maxRecDepth 100000 in
set_option maxHeartbeats 16000000 in
theorem once14_law (v va:Value) (S H:Int) (E:List (Int × Int)) (l:List Ax) (w:World) (hK:Kinds w) (hE:K.RowOf O.ecells w v E) (ha:K.RowOf xcells w va l) (hf : ∀ a∈l,a.Fits/\a.Sum) :
  Calls Tryz.prog 3 #[O.tv S v H,va] w fun e w'=>e=.returned (.bool true)/\Below w.heap.size w w':=by
 obtain ⟨ea,ec,rfl⟩:=hE.slice
 obtain ⟨en,hen⟩ : ∃ z,E.length=z:=⟨_,rfl⟩
 rw [hen] at hE ⊢
 obtain ⟨aa,ac,rfl⟩:=ha.slice
 obtain ⟨n0,hn0⟩ : ∃ z,l.length=z:=⟨_,rfl⟩
 rw [hn0] at ha ⊢
 obtain ⟨W,fold⟩ : ∃ W,w.alloc (.cells #[.int .i64 S,.slice ea en ec,.int .i64 H] 24)=W:=⟨_,rfl⟩
 have bW:Below w.heap.size w W:=by rw [<- fold]; exact box_below w _
 have kW:W.heap[w.heap.size]? = some (.cells #[.int .i64 S,.slice ea en ec,.int .i64 H] 24 (0,0)):=by rw [<- fold]; exact heap_alloc_new w _
 have HL:Hid (∀ V,Below w.heap.size w V->Calls Tryz.prog 6 #[] V fun e w'=>e=.returned (.bool true)/\Below V.heap.size V w'):=fun V b=>lives14_any V (hK.below b)
 have hLi:=light14_any (.slice aa n0 ac) l W (ha.below bW (yyH _)) (fun a h=>(hf a h).2)
 have H0:Hid (Kinds w/\K.RowOf O.ecells w (.slice ea en ec) E/\K.RowOf xcells w (.slice aa n0 ac) l/\(∀ a∈l,a.Fits)/\E.length=en/\l.length=n0/\W.heap[w.heap.size]? = some (.cells #[.int .i64 S,.slice ea en ec,.int .i64 H] 24 (0,0))/\Below w.heap.size w W):=⟨hK,hE,ha,fun a h=>(hf a h).1,hen,hn0,kW,bW⟩
 clear hK hE ha hf hen hn0 bW kW
 go_enter Tryz.func3,Tryz.ntmps3
 go_wp2_with fail
 try rw [fold]
 clear fold
 refine hLi.mono ?_
 rintro e V0 ⟨lb,rfl,hlb,b0⟩
 clear hLi
 have HB0:Hid (Below w.heap.size w V0/\V0.heap[w.heap.size]? = some (.cells #[.int .i64 S,.slice ea en ec,.int .i64 H] 24 (0,0))):=⟨keptW H0.out.2.2.2.2.2.2.2 b0,(b0.block _ (yyD H0.out.2.2.2.2.2.2.1).1).trans H0.out.2.2.2.2.2.2.1⟩
 clear b0
 obtain ⟨t0,t1,t2⟩:=cells3 HB0.out.2
 have hLv:=HL.out V0 HB0.out.1
 cases lb
 ·clear hlb
  go_wp2_with (go_at_call 6; refine hLv.mono ?_; rintro e w2 ⟨rfl,b2⟩)
  go_ret
  exact ⟨rfl,keptW HB0.out.1 b2⟩
 have hn200:l.length<=200:=hlb rfl
 have H200:Hid (n0<=200):=by show _<=_; rw [<- H0.out.2.2.2.2.2.1]; exact hn200
 clear hlb hn200
 by_cases h100:(100:Int)<(en:Int)
 ·go_wp2_with (go_at_call 6; refine hLv.mono ?_; rintro e w2 ⟨rfl,b2⟩)
  go_ret
  exact ⟨rfl,keptW HB0.out.1 b2⟩
 clear hLv
 cases hg:O.goodB S E H
 ·have hN:=new14_none 1 S H (.slice ea en ec) E V0 (H0.out.2.1.below HB0.out.1 (yyH _)) (.inl hg)
  have HG:Hid (∀ V,Below w.heap.size w V->Calls Tryz.prog 8 #[O.tv S (.slice ea en ec) H] V fun e w'=>e=.returned (.bool false)/\Below V.heap.size V w'):=fun V b=>by
   have:=O.good_any S H (.slice ea en ec) E V (H0.out.2.1.below b (yyH _))
   rw [hg] at this
   exact this
  clear hg
  go_wp2_with fail
  refine hN.mono ?_
  rintro e V1 ⟨rfl,b1⟩
  have HB1:Hid (Below w.heap.size w V1/\V1.heap[w.heap.size]? = some (.cells #[.int .i64 S,.slice ea en ec,.int .i64 H] 24 (0,0))):=⟨keptW HB0.out.1 b1,(b1.block _ (yyD HB0.out.2).1).trans HB0.out.2⟩
  have hG:=HG.out V1 HB1.out.1
  clear hN b1 t0 t1 t2 HG
  obtain ⟨t0,t1,t2⟩:=cells3 HB1.out.2
  go_wp2_with fail
  refine hG.mono ?_
  rintro e V2 ⟨rfl,b2⟩
  have HB2:Hid (Below w.heap.size w V2):=keptW HB1.out.1 b2
  have hLv:=HL.out V2 HB2.out
  clear hG b2 t0 t1 t2
  go_wp2_with (go_at_call 6; refine hLv.mono ?_; rintro e w2 ⟨rfl,b2⟩)
  go_ret
  exact ⟨rfl,keptW HB2.out b2⟩
 have hN:=new14_any 1 S H (.slice ea en ec) E V0 (H0.out.2.1.below HB0.out.1 (yyH _)) (by rw [H0.out.2.2.2.2.1]; omega) hg (by omega) (by have:O.GoodT S E H:=of_decide_eq_true hg; exact this.1.1)
 have HInv:Hid (Inv 0 (newSm 1 S E H)):=newO_inv hg
 clear hg
 go_wp2_with fail
 refine hN.mono ?_
 rintro e V1 ⟨p,rfl,G,hS1,hG1,b1⟩
 have HS1:Hid (On w V1 p G 0 (newSm 1 S E H) S E H (.slice none 0 0) []/\V1.heap[w.heap.size]? = some (.cells #[.int .i64 S,.slice ea en ec,.int .i64 H] 24 (0,0))):=⟨⟨hS1,fun k hk=>by have:=hG1 k hk; have:=(yyD HB0.out.2).1; omega,keptW HB0.out.1 b1,Nat.lt_of_lt_of_le (yyD HB0.out.2).1 b1.size,HInv.out,newO_below S H E,⟨rfl,rfl,rfl,rfl⟩,K.ownOf_nil _ _,fun g hg=>by simp [Value.ownBlock] at hg,Nat.zero_le _,fun x hx=>by cases hx⟩,(b1.block _ (yyD HB0.out.2).1).trans HB0.out.2⟩
 clear hN hS1 hG1 b1 t0 t1 t2 HB0
 go_wp2
 go_loopg [6,47] n0 (fun g u6 u47 wr => ∃ i:Nat,u47=.int .i64 (i:Int)/\i<=n0/\g=n0-i/\Hid (∃ G' s ids,On w wr p G' i s S E H u6 ids/\wr.heap[w.heap.size]? = some (.cells #[.int .i64 S,.slice ea en ec,.int .i64 H] 24 (0,0))))
 case atStart=>exact ⟨0,rfl,Nat.zero_le _,rfl,G,_,_,HS1.out⟩
 case round =>
  obtain ⟨i,rfl,hi,rfl,HI⟩:=hrel
  clear HS1
  by_cases hlt:i<n0
  ·have hlt':(i:Int)<(n0:Int):=by omega
   have hil:i<l.length:=by rw [H0.out.2.2.2.2.2.1]; exact hlt
   obtain ⟨b,off,cap,hv,hc1,hc2,hcs⟩:=K.RowOf.at H0.out.2.2.1 (by omega)
   obtain ⟨a,hae⟩ : ∃ a,l[i]=a:=⟨_,rfl⟩
   have w1:=row_whole (enc:=xcells) (kk:=17) hcs i hil
   rw [hae] at w1
   have hva:aa=some ⟨b,off,none⟩:=slice_addr hv
   clear hv
   subst hva
   obtain ⟨G1,s,ids,hO,hTop⟩:=HI.out
   have hfa:a.Fits:=H0.out.2.2.2.1 a (by rw [<- hae]; exact List.getElem_mem hil)
   have HFa:Hid a.Fits:=hfa
   obtain ⟨X0,fX0⟩ : ∃ X,wr.alloc (.cells #[.int .i64 0,.string ⟨#[]⟩,.int .i64 0,.int .u64 0,.int .i64 0,.string ⟨#[]⟩,.int .i64 0,.bool false,.string ⟨#[]⟩,.string ⟨#[]⟩,.string ⟨#[]⟩,.int .i64 0,.int .u64 0,.int .i64 0,.string ⟨#[]⟩,.string ⟨#[]⟩,.string ⟨#[]⟩] 42)=X:=⟨_,rfl⟩
   have zX:X0.heap[wr.heap.size]? = some (.cells (xcells (zA 0)).toArray 42 (0,0)):=by rw [<- fX0]; exact heap_alloc_new wr _
   have bX0:Below wr.heap.size wr X0:=by rw [<- fX0]; exact box_below wr _
   obtain ⟨X1,fX1⟩ : ∃ X,X0.setRow wr.heap.size (xcells a).toArray=X:=⟨_,rfl⟩
   have bX1:Below wr.heap.size wr X1:=by rw [<- fX1]; exact below_setRow bX0 (yyH _) _
   have kX:X1.heap[wr.heap.size]? = some (.cells (xcells a).toArray 42 (0,0)):=by rw [<- fX1]; exact setRow_heap _ _ _ _ _ _ zX
   have hO1:=hO.go bX1
   have hP:=parts14_any p G1 s X1 hO1.st hO1.inv.r hO1.inv.upk (by have:=hO1.inv.nq; omega)
   have HX:Hid ((∀ j u,(xcells a)[j]? = some u->wr.cell? ⟨b,off+i*17+j,none⟩=some u)/\X0.heap[wr.heap.size]? = some (.cells (xcells (zA 0)).toArray 42 (0,0))/\X1.heap[wr.heap.size]? = some (.cells (xcells a).toArray 42 (0,0))/\On w X1 p G1 i s S E H u6 ids/\X1.heap[w.heap.size]? = some (.cells #[.int .i64 S,.slice ea en ec,.int .i64 H] 24 (0,0))/\a.Fits/\(∀ k,G1 k->k<wr.heap.size)):=⟨fun j u hj=>cell_on hO.bel (w1 j u hj),zX,kX,hO1,(bX1.block _ (yyD hTop).1).trans hTop,hfa,hO.st.lts⟩
   have HI63:Hid (i<200):=by have:=H200.out; show i<_; omega
   obtain ⟨ua,uc,hu6⟩ : ∃ ua uc,u6=.slice ua ids.length uc:=hO.row.rng.slice
   have hids:ids.length<=200:=by have:=hO.few; have:=H200.out; omega
   obtain ⟨ni,hni⟩ : ∃ z,ids.length=z:=⟨_,rfl⟩
   rw [hni] at hu6 hids
   have HNI:Hid (ids.length=ni):=hni
   have HFew:Hid (ids.length<=i):=hO.few
   have HOW:Hid (∀ g,u6.ownBlock=some g->g<wr.heap.size):=fun g hg=>(hO.row.lt hg).2
   subst hu6
   obtain ⟨W0,hW0⟩ : ∃ z,z=wr:=⟨_,rfl⟩
   subst hW0
   clear HI hO hfa zX bX0 bX1 kX hO1 w1 hcs hc1 hc2 hae hil hTop hni
   go_wp2_with (first
    |refine wpList_load_off rfl 42 _ rfl b (off+i*17) rfl (xcells a) _ HX.out.1 Tryz.underlying42 rfl info17 ?_
    |(refine wpList_store_row rfl 42 _ _ rfl W0.heap.size (xcells a).toArray rfl rfl 42 (xcells (zA 0)).toArray (by first | exact HX.out.2.1 | (rw [fX0]; exact HX.out.2.1)) info17 rfl (one17 _) ?_; (try rw [fX0]); (try rw [fX1])))
   refine hP.mono ?_
   rintro e V2 ⟨P0,rfl,hI0,b2⟩
   clear hP fX0 fX1
   obtain ⟨Y0,fY0⟩ : ∃ X,V2.alloc (.cells #[.int .u64 0,.int .u64 0,.slice none 0 0,.slice none 0 0,.slice none 0 0,.slice none 0 0,.slice none 0 0] 49)=X:=⟨_,rfl⟩
   have zY:Y0.heap[V2.heap.size]? = some (.cells (ptcells zPt).toArray 49 (0,0)):=by rw [<- fY0]; exact heap_alloc_new V2 _
   have bY0:Below V2.heap.size V2 Y0:=by rw [<- fY0]; exact box_below V2 _
   obtain ⟨Y1,fY1⟩ : ∃ X,Y0.setRow V2.heap.size (ptcells P0).toArray=X:=⟨_,rfl⟩
   have bY1:Below V2.heap.size V2 Y1:=by rw [<- fY1]; exact below_setRow bY0 (yyH _) _
   have kY:Y1.heap[V2.heap.size]? = some (.cells (ptcells P0).toArray 49 (0,0)):=by rw [<- fY1]; exact setRow_heap _ _ _ _ _ _ zY
   have bXY:=keptW b2 bY1
   have hOY:=HX.out.2.2.2.1.go bXY
   have hC:=copy14_any p G1 s i Y1 hOY.st hOY.inv (by rw [hOY.top.2.1,H0.out.2.2.2.2.1]; omega)
   have HY:Hid (Y0.heap[V2.heap.size]? = some (.cells (ptcells zPt).toArray 49 (0,0))/\Y1.heap[V2.heap.size]? = some (.cells (ptcells P0).toArray 49 (0,0))/\PartsIs Y1 X1.heap.size P0 s/\Below X1.heap.size X1 Y1/\X1.heap.size<=V2.heap.size):=⟨zY,kY,hI0.kept bY1,bXY,b2.size⟩
   clear hI0 b2 zY bY0 bY1 kY bXY hOY
   obtain ⟨sq,bt,⟨xa,xn,xc⟩,⟨ba,bn,bc⟩,⟨qa,qn,qc⟩,⟨sa,sn,sc⟩,⟨la,ln,lc⟩⟩:=P0
   go_wp2_with (refine wpList_store_row rfl 49 _ _ rfl V2.heap.size (ptcells ⟨sq,bt,(xa,xn,xc),(ba,bn,bc),(qa,qn,qc),(sa,sn,sc),(la,ln,lc)⟩).toArray rfl rfl 49 (ptcells zPt).toArray (by first | exact HY.out.1 | (rw [fY0]; exact HY.out.1)) infoPt rfl (onePt _) ?_; (try rw [fY0]); (try rw [fY1]))
   refine hC.mono ?_
   rintro e V3 ⟨p',rfl,G',hS',hG',b3⟩
   clear hC fY0 fY1
   have bX3:=keptW HY.out.2.2.2.1 b3
   have hO3:=HX.out.2.2.2.1.go bX3
   have hA:=applyAny p G1 s a i V3 hO3.st (H0.out.1.below hO3.bel) HX.out.2.2.2.2.2.1 hO3.inv (by have:=HI63.out; omega)
   have kB3:V3.heap[W0.heap.size]? = some (.cells (xcells a).toArray 42 (0,0)):=(bX3.block _ (yyD HX.out.2.2.1).1).trans HX.out.2.2.1
   have H3:Hid (On w V3 p G1 i s S E H (.slice ua ni uc) ids/\SS V3 p' G' s/\(∀ k,G' k->Y1.heap.size<=k)/\V3.heap[W0.heap.size]? = some (.cells (xcells a).toArray 42 (0,0))/\Below Y1.heap.size Y1 V3):=⟨hO3,hS',hG',kB3,b3⟩
   clear hS' hG' b3 bX3 hO3 kB3
   go_wp2_with (refine wpList_load_row rfl 42 _ rfl W0.heap.size rfl 42 (xcells a).toArray (0,0) _ H3.out.2.2.2.1 Tryz.underlying42 rfl info17 ?_)
   refine hA.mono ?_
   intro e V4 hP4
   obtain ⟨na,nc,rfl,⟨hnr,hnw⟩,G2,hS2,m2⟩:=hP4.names
   clear hA hP4
   have hX1s':W0.heap.size<X1.heap.size:=(yyD HX.out.2.2.1).1
   have hY1s':X1.heap.size<=Y1.heap.size:=HY.out.2.2.2.1.size
   have hV3s':Y1.heap.size<=V3.heap.size:=H3.out.2.2.2.2.size
   have hlo : ∀ k,W0.heap.size<=k -> ¬ G1 k:=fun k h1 h2=>by have:=HX.out.2.2.2.2.2.2 k h2; omega
   have hX1s:W0.heap.size<X1.heap.size:=(yyD HX.out.2.2.1).1
   have hY1s:X1.heap.size<=Y1.heap.size:=HY.out.2.2.2.1.size
   have hV2s:=HY.out.2.2.2.2
   have b3:=H3.out.2.2.2.2
   have hO4:=H3.out.1.act HX.out.2.2.2.2.2.1 (by have:=HI63.out; omega) hS2 m2
   have hcp:=H3.out.2.1.beside m2 (fun k h1 h2=>by have:=HX.out.2.2.2.2.2.2 k h1; have:=H3.out.2.2.1 k h2; omega)
   have hbox4:=(m2.block _ (yyD H3.out.2.2.2.1).1 (hlo _ (yyH _))).trans H3.out.2.2.2.1
   have hk03:=(b3.block _ (yyD HY.out.2.1).1).trans HY.out.2.1
   have hk04:=(m2.block _ (yyD hk03).1 (hlo _ (by omega))).trans hk03
   have hi04:=(HY.out.2.2.1.kept b3).same fun g h1 h2=>m2.block g h2 (hlo g (by omega))
   have htop3:=(b3.block _ (yyD ((HY.out.2.2.2.1.block _ (yyD HX.out.2.2.2.2.1).1).trans HX.out.2.2.2.2.1)).1).trans ((HY.out.2.2.2.1.block _ (yyD HX.out.2.2.2.2.1).1).trans HX.out.2.2.2.2.1)
   have htop4:=(m2.block _ (yyD htop3).1 (fun hg=>by have:=H3.out.1.own _ hg; omega)).trans htop3
   have hP1:=parts14_any p G2 (actM s a).2 V4 hO4.st hO4.inv.r hO4.inv.upk (by have:=hO4.inv.nq; omega)
   have H4:Hid (On w V4 p G2 (i+1) (actM s a).2 S E H (.slice ua ni uc) ids/\SS V4 p' G' s/\V4.heap[W0.heap.size]? = some (.cells (xcells a).toArray 42 (0,0))/\V4.heap[V2.heap.size]? = some (.cells (ptcells ⟨sq,bt,(xa,xn,xc),(ba,bn,bc),(qa,qn,qc),(sa,sn,sc),(la,ln,lc)⟩).toArray 49 (0,0))/\PartsIs V4 X1.heap.size ⟨sq,bt,(xa,xn,xc),(ba,bn,bc),(qa,qn,qc),(sa,sn,sc),(la,ln,lc)⟩ s/\V4.heap[w.heap.size]? = some (.cells #[.int .i64 S,.slice ea en ec,.int .i64 H] 24 (0,0))/\Row V4 (.slice na (toldM s a).length nc) (scells (toldM s a))/\Inv i s/\Below14 s/\(s.S=S/\s.E=E/\s.H=H/\s.site=1)/\(∀ x∈ids,hasM s x.1 x.2=true)):=⟨hO4,hcp,hbox4,hk04,hi04,htop4,hnr,H3.out.1.inv,H3.out.1.low,H3.out.1.top,H3.out.1.seen⟩
   have HSz:Hid (W0.heap.size<=V2.heap.size/\W0.heap.size<=V4.heap.size/\W0.heap.size<=X1.heap.size /\ ∀ g,G' g->W0.heap.size<=g):=⟨by omega,by have:=m2.size; omega,by omega,fun g hg=>by have:=H3.out.2.2.1 g hg; omega⟩
   clear hlo hX1s hY1s hV2s b3 hO4 hcp hbox4 hk03 hk04 hi04 htop3 htop4 hnr hS2 m2 H3
   obtain ⟨er,her⟩ : ∃ z,(actM s a).1=z:=⟨_,rfl⟩
   obtain ⟨nn,hnn⟩ : ∃ z,(toldM s a).length=z:=⟨_,rfl⟩
   rw [hnn] at H4 hnw
   have HNw:Hid (Newer V3.heap.size (.slice na nn nc) nn/\W0.heap.size<=V3.heap.size):=⟨hnw,Nat.le_trans (Nat.le_of_lt hX1s') (Nat.le_trans hY1s' hV3s')⟩
   clear hnw hX1s' hY1s' hV3s'
   rw [her,hnn]
   have HER:Hid ((actM s a).1=er/\(toldM s a).length=nn):=⟨her,hnn⟩
   clear her hnn
   go_wp2_with fail
   refine hP1.mono ?_
   rintro e V5 ⟨P1,rfl,hI1,b5⟩
   clear hP1
   obtain ⟨Z0,fZ0⟩ : ∃ X,V5.alloc (.cells #[.int .u64 0,.int .u64 0,.slice none 0 0,.slice none 0 0,.slice none 0 0,.slice none 0 0,.slice none 0 0] 49)=X:=⟨_,rfl⟩
   have zZ:Z0.heap[V5.heap.size]? = some (.cells (ptcells zPt).toArray 49 (0,0)):=by rw [<- fZ0]; exact heap_alloc_new V5 _
   have bZ0:Below V5.heap.size V5 Z0:=by rw [<- fZ0]; exact box_below V5 _
   obtain ⟨Z1,fZ1⟩ : ∃ X,Z0.setRow V5.heap.size (ptcells P1).toArray=X:=⟨_,rfl⟩
   have bZ1:Below V5.heap.size V5 Z1:=by rw [<- fZ1]; exact below_setRow bZ0 (yyH _) _
   have kZ:Z1.heap[V5.heap.size]? = some (.cells (ptcells P1).toArray 49 (0,0)):=by rw [<- fZ1]; exact setRow_heap _ _ _ _ _ _ zZ
   have b45:=keptW b5 bZ1
   have HS5:Hid (W0.heap.size<=V5.heap.size):=Nat.le_trans HSz.out.2.1 b5.size
   have HZ0:Hid (Z0.heap[V5.heap.size]? = some (.cells (ptcells zPt).toArray 49 (0,0))):=zZ
   obtain ⟨sq1,bt1,⟨xa1,xn1,xc1⟩,⟨ba1,bn1,bc1⟩,⟨qa1,qn1,qc1⟩,⟨sa1,sn1,sc1⟩,⟨la1,ln1,lc1⟩⟩:=P1
   have HR:Hid (Ro14 w Z1 p p' W0.heap.size V2.heap.size V5.heap.size X1.heap.size V4.heap.size G2 G' (i+1) a s (actM s a).2 ⟨sq,bt,(xa,xn,xc),(ba,bn,bc),(qa,qn,qc),(sa,sn,sc),(la,ln,lc)⟩ ⟨sq1,bt1,(xa1,xn1,xc1),(ba1,bn1,bc1),(qa1,qn1,qc1),(sa1,sn1,sc1),(la1,ln1,lc1)⟩ (.slice ea en ec) S E H (.slice ua ni uc) ids (.slice na nn nc) (toldM s a)):=⟨H4.out.1.go b45,H4.out.2.1.kept b45,(b45.block _ (yyD H4.out.2.2.1).1).trans H4.out.2.2.1,(b45.block _ (yyD H4.out.2.2.2.1).1).trans H4.out.2.2.2.1,kZ,H4.out.2.2.2.2.1.kept b45,hI1.kept bZ1,(b45.block _ (yyD H4.out.2.2.2.2.2.1).1).trans H4.out.2.2.2.2.2.1,H4.out.2.2.2.2.2.2.1.below b45 (yyH _)⟩
   have HS:Hid (Inv i s/\Below14 s/\(s.S=S/\s.E=E/\s.H=H/\s.site=1)/\(∀ x∈ids,hasM s x.1 x.2=true)):=H4.out.2.2.2.2.2.2.2
   clear hI1 b5 zZ bZ0 bZ1 kZ b45 H4 HX HY
   go_wp2_with (refine wpList_store_row rfl 49 _ _ rfl V5.heap.size (ptcells ⟨sq1,bt1,(xa1,xn1,xc1),(ba1,bn1,bc1),(qa1,qn1,qc1),(sa1,sn1,sc1),(la1,ln1,lc1)⟩).toArray rfl rfl 49 (ptcells zPt).toArray (by first | exact HZ0.out | (rw [fZ0]; exact HZ0.out)) infoPt rfl (onePt _) ?_; (try rw [fZ0]); (try rw [fZ1]))
   clear fZ0 fZ1 HZ0
   have HLow:Hid ((∀ g,(Value.slice ua ni uc).ownBlock=some g->g<W0.heap.size)/\W0.heap.size<=V2.heap.size/\W0.heap.size<=V5.heap.size/\W0.heap.size<=X1.heap.size/\W0.heap.size<=V4.heap.size/\(∀ g,G' g->W0.heap.size<=g)/\Newer W0.heap.size (.slice na nn nc) nn):=⟨HOW.out,HSz.out.1,HS5.out,HSz.out.2.2.1,HSz.out.2.1,HSz.out.2.2.2,HNw.out.1.mono HNw.out.2⟩
   clear HOW HSz HS5 HNw
   obtain ⟨b0,hb0⟩ : ∃ z,V2.heap.size=z:=⟨_,rfl⟩
   obtain ⟨b1,hb1⟩ : ∃ z,V5.heap.size=z:=⟨_,rfl⟩
   obtain ⟨bx,hbx⟩ : ∃ z,W0.heap.size=z:=⟨_,rfl⟩
   obtain ⟨lo0,hlo0⟩ : ∃ z,X1.heap.size=z:=⟨_,rfl⟩
   obtain ⟨lo1,hlo1⟩ : ∃ z,V4.heap.size=z:=⟨_,rfl⟩
   rw [hb0,hb1,hbx,hlo0,hlo1] at HR HLow
   rw [hb0,hb1,hbx]
   clear hb0 hb1 hbx hlo0 hlo1
   obtain ⟨d0,d1,d2,d3,d4,d5,d6⟩:=cells7' HR.out.k0
   obtain ⟨h0,h1,h2,h3,h4,h5,h6⟩:=cells7' HR.out.k1
   dsimp only [Act.put]
   go_cut [47,81] from 47 to 216 (fun u47 u81 wx=>u47=.int .i64 (i:Int)/\u81=.bool false/\Hid (Below Z1.heap.size Z1 wx))
   case first =>
    as_aux_lemma =>
     have kPc:Hid (∀ Y,Below Z1.heap.size Z1 Y->_):=fun Y bY=>parts14_any p' G' s Y (HR.out.cp.kept bY) HS.out.1.r HS.out.1.upk (by have:=HS.out.1.nq; omega)
     by_cases her:er=0
     ·have hn0:(er != (0:Int))=false:=by simpa using her
      have hn1:(er==(0:Int))=true:=by simpa using her
      clear her
      refine wp_region_noPanic ?_
      refine wp_region_held_drew (S:=fun w'=>(w'.cell? ⟨b0,0,none⟩=some (.int .u64 sq)/\w'.cell? ⟨b0,1,none⟩=some (.int .u64 bt)/\w'.cell? ⟨b0,2,none⟩=some (.slice xa xn xc)/\w'.cell? ⟨b0,3,none⟩=some (.slice ba bn bc)/\w'.cell? ⟨b0,4,none⟩=some (.slice qa qn qc)/\w'.cell? ⟨b0,5,none⟩=some (.slice sa sn sc)/\w'.cell? ⟨b0,6,none⟩=some (.slice la ln lc))/\(w'.cell? ⟨b1,0,none⟩=some (.int .u64 sq1)/\w'.cell? ⟨b1,1,none⟩=some (.int .u64 bt1)/\w'.cell? ⟨b1,2,none⟩=some (.slice xa1 xn1 xc1)/\w'.cell? ⟨b1,3,none⟩=some (.slice ba1 bn1 bc1)/\w'.cell? ⟨b1,4,none⟩=some (.slice qa1 qn1 qc1)/\w'.cell? ⟨b1,5,none⟩=some (.slice sa1 sn1 sc1)/\w'.cell? ⟨b1,6,none⟩=some (.slice la1 ln1 lc1))) (by kernel_rfl) ⟨⟨d0,d1,d2,d3,d4,d5,d6⟩,h0,h1,h2,h3,h4,h5,h6⟩ (fun hHeld=>?_)
      refine wpAnyH_take (i:=0) (v:=.pointer (some ⟨p',0,none⟩)) (by simp only [yyG,yyE]; rfl) (by kernel_rfl) (by kernel_rfl) (by kernel_rfl) (fun _ _ _ h=>h) (Or.inl ⟨by rfl,?_⟩) (by assumption) ?_
      ·(intro wq hSq; clear hSq; go_simp; try with_reducible rfl)
      try simp only [Act.put,yyA,yyB,yyC]
      refine wpAnyH_take (i:=1) (v:=.bool false) (by simp only [yyG,yyF,yyE]; rfl) (by kernel_rfl) (by kernel_rfl) (by kernel_rfl) (fun _ _ _ h=>h) (Or.inl ⟨by rfl,?_⟩) (by assumption) ?_
      ·(intro wq hSq; clear hSq; go_simp; try with_reducible rfl)
      try simp only [Act.put,yyA,yyB,yyC]
      refine wpAnyH_take (i:=2) (v:=.bool false) (by simp only [yyG,yyF,yyE]; rfl) (by kernel_rfl) (by kernel_rfl) (by kernel_rfl) (fun _ _ _ h=>h) (Or.inl ⟨by rfl,?_⟩) (by assumption) ?_
      ·(intro wq hSq; clear hSq; go_simp; try with_reducible rfl)
      try simp only [Act.put,yyA,yyB,yyC]
      refine wpAnyH_take (i:=3) (v:=.pointer (some ⟨p',0,none⟩)) (by simp only [yyG,yyF,yyE]; rfl) (by kernel_rfl) (by kernel_rfl) (by kernel_rfl) (fun _ _ _ h=>h) (Or.inl ⟨by rfl,?_⟩) (by assumption) ?_
      ·(intro wq hSq; clear hSq; go_simp; try with_reducible rfl)
      try simp only [Act.put,yyA,yyB,yyC]
      refine wpAnyH_take (i:=5) (v:=.agg #[.int .u64 sq,.int .u64 bt,.slice xa xn xc,.slice ba bn bc,.slice qa qn qc,.slice sa sn sc,.slice la ln lc]) (by simp only [yyG,yyF,yyE]; rfl) (by kernel_rfl) (by kernel_rfl) (by kernel_rfl) (fun _ _ _ h=>h) (Or.inl ⟨by rfl,?_⟩) (by assumption) ?_
      ·(intro wq hSq; obtain ⟨⟨q0,q1,q2,q3,q4,q5,q6⟩,r0,r1,r2,r3,r4,r5,r6⟩:=hSq; go_simp; try with_reducible rfl)
      try simp only [Act.put,yyA,yyB,yyC]
      obtain ⟨V0,fV0⟩ : ∃ X,Z1.drew=X:=⟨_,rfl⟩
      have B0:Below Z1.heap.size Z1 V0:=by rw [<- fV0]; exact drew_below Z1
      rw [fV0] at hHeld ⊢
      clear fV0
      refine wpAnyH_ready (rs:=[4]) (by kernel_rfl) (by simp) ?_
      refine AllReadyH.cons rfl (fun KK hK=>?_) AllReadyH.nil
      go_simp
      go_at_call 9
      refine (kPc.out V0 B0).mono ?_
      rintro e y1 ⟨Pc,rfl,hIc,bb1⟩
      obtain ⟨sq2,bt2,⟨xa2,xn2,xc2⟩,⟨ba2,bn2,bc2⟩,⟨qa2,qn2,qc2⟩,⟨sa2,sn2,sc2⟩,⟨la2,ln2,lc2⟩⟩:=Pc
      have B1:Below Z1.heap.size Z1 y1:=keptW B0 bb1
      have hR1:=HR.out.go B1
      have kL:=like_any ⟨sq2,bt2,(xa2,xn2,xc2),(ba2,bn2,bc2),(qa2,qn2,qc2),(sa2,sn2,sc2),(la2,ln2,lc2)⟩ ⟨sq,bt,(xa,xn,xc),(ba,bn,bc),(qa,qn,qc),(sa,sn,sc),(la,ln,lc)⟩ s _ _ y1 hIc hR1.i0 (by have:=HS.out.1.nq; omega) (by have:=HS.out.1.r.nlk; omega)
      dsimp only
      refine hK.out _ _ ⟨cells7' hR1.k0,cells7' hR1.k1⟩ (fun hHeld=>?_)
      clear hK KK
      try simp only [Act.put,yyA,yyB,yyC]
      clear hIc bb1
      refine wpAnyH_ready (rs:=[6]) (by kernel_rfl) (by simp) ?_
      refine AllReadyH.cons rfl (fun KK hK=>?_) AllReadyH.nil
      go_simp
      go_at_call 12
      refine kL.mono ?_
      rintro e y2 ⟨rfl,bb2⟩
      have B2:Below Z1.heap.size Z1 y2:=keptW B1 bb2
      have hR2:=HR.out.go B2
      dsimp only
      refine hK.out _ _ ⟨cells7' hR2.k0,cells7' hR2.k1⟩ (fun hHeld=>?_)
      clear hK KK
      try simp only [Act.put,yyA,yyB,yyC]
      refine wpAnyH_take (i:=7) (v:=.bool false) (by simp only [yyG,yyF,yyE]; rfl) (by kernel_rfl) (by kernel_rfl) (by kernel_rfl) (fun _ _ _ h=>h) (Or.inl ⟨by rfl,?_⟩) (by assumption) ?_
      ·(intro wq hSq; clear hSq; go_simp; try with_reducible rfl)
      try simp only [Act.put,yyA,yyB,yyC]
      refine wpAnyH_take (i:=8) (v:=.bool false) (by simp only [yyG,yyF,yyE]; rfl) (by kernel_rfl) (by kernel_rfl) (by kernel_rfl) (fun _ _ _ h=>h) (Or.inl ⟨by rfl,?_⟩) (by assumption) ?_
      ·(intro wq hSq; clear hSq; go_simp; try with_reducible rfl)
      try simp only [Act.put,yyA,yyB,yyC]
      refine wpAnyH_take (i:=9) (v:=.bool false) (by simp only [yyG,yyF,yyE]; rfl) (by kernel_rfl) (by kernel_rfl) (by kernel_rfl) (fun _ _ _ h=>h) (Or.inl ⟨by rfl,?_⟩) (by assumption) ?_
      ·(intro wq hSq; clear hSq; go_simp; try with_reducible rfl)
      try simp only [Act.put,yyA,yyB,yyC]
      refine wpAnyH_take (i:=10) (v:=.int .i64 er) (by simp only [yyG,yyF,yyE]; rfl) (by kernel_rfl) (by kernel_rfl) (by kernel_rfl) (fun _ _ _ h=>h) (Or.inl ⟨by rfl,?_⟩) (by assumption) ?_
      ·(intro wq hSq; clear hSq; go_simp; try with_reducible rfl)
      try simp only [Act.put,yyA,yyB,yyC]
      refine wpAnyH_take (i:=11) (v:=.bool false) (by simp only [yyG,yyF,yyE]; rfl) (by kernel_rfl) (by kernel_rfl) (by kernel_rfl) (fun _ _ _ h=>h) (Or.inl ⟨by rfl,?_⟩) (by assumption) ?_
      ·(intro wq hSq; clear hSq; go_simp; try with_reducible rfl)
      try simp only [Act.put,yyA,yyB,yyC]
      refine wpAnyH_take (i:=12) (v:=.bool false) (by simp only [yyG,yyF,yyE]; rfl) (by kernel_rfl) (by kernel_rfl) (by kernel_rfl) (fun _ _ _ h=>h) (Or.inl ⟨by rfl,?_⟩) (by assumption) ?_
      ·(intro wq hSq; clear hSq; go_simp; try with_reducible rfl)
      try simp only [Act.put,yyA,yyB,yyC]
      refine wpAnyH_take (i:=13) (v:=undef) (by simp only [yyG,yyF,yyE]; rfl) (by kernel_rfl) (by kernel_rfl) (by kernel_rfl) (fun _ _ _ h=>h) (Or.inr ⟨by rfl,rfl⟩) (by assumption) ?_
      try simp only [Act.put,yyA,yyB,yyC]
      refine wpAnyH_take (i:=14) (v:=undef) (by simp only [yyG,yyF,yyE]; rfl) (by kernel_rfl) (by kernel_rfl) (by kernel_rfl) (fun _ _ _ h=>h) (Or.inr ⟨by rfl,rfl⟩) (by assumption) ?_
      try simp only [Act.put,yyA,yyB,yyC]
      refine wpAnyH_take (i:=15) (v:=undef) (by simp only [yyG,yyF,yyE]; rfl) (by kernel_rfl) (by kernel_rfl) (by kernel_rfl) (fun _ _ _ h=>h) (Or.inr ⟨by rfl,rfl⟩) (by assumption) ?_
      try simp only [Act.put,yyA,yyB,yyC]
      refine wpAnyH_take (i:=16) (v:=undef) (by simp only [yyG,yyF,yyE]; rfl) (by kernel_rfl) (by kernel_rfl) (by kernel_rfl) (fun _ _ _ h=>h) (Or.inr ⟨by rfl,rfl⟩) (by assumption) ?_
      try simp only [Act.put,yyA,yyB,yyC]
      refine wpAnyH_take (i:=17) (v:=.bool false) (by simp only [yyG,yyF,yyE]; rfl) (by kernel_rfl) (by kernel_rfl) (by kernel_rfl) (fun _ _ _ h=>h) (Or.inl ⟨by rfl,?_⟩) (by assumption) ?_
      ·(intro wq hSq; clear hSq; go_simp; try with_reducible rfl)
      try simp only [Act.put,yyA,yyB,yyC]
      refine wpAnyH_take (i:=18) (v:=.bool false) (by simp only [yyG,yyF,yyE]; rfl) (by kernel_rfl) (by kernel_rfl) (by kernel_rfl) (fun _ _ _ h=>h) (Or.inl ⟨by rfl,?_⟩) (by assumption) ?_
      ·(intro wq hSq; clear hSq; go_simp; try with_reducible rfl)
      try simp only [Act.put,yyA,yyB,yyC]
      refine wpAnyH_done (by kernel_rfl) ?_ _
      refine NoPanic.normal ?_
      clear hHeld
      have HB2:Hid (Below Z1.heap.size Z1 y2):=B2
      clear kL B0 B1 B2 hR1 hR2
      go_wp2
      go_meet
      exact ⟨rfl,rfl,HB2⟩
     ·have hn0:(er != (0:Int))=true:=by simpa using her
      have hn1:(er==(0:Int))=false:=by simpa using her
      have HSS:Hid ((actM s a).2=s):=act_no HS.out.1 a (by rw [HER.out.1]; exact her)
      clear her
      refine wp_region_noPanic ?_
      refine wp_region_held_drew (S:=fun w'=>(w'.cell? ⟨b0,0,none⟩=some (.int .u64 sq)/\w'.cell? ⟨b0,1,none⟩=some (.int .u64 bt)/\w'.cell? ⟨b0,2,none⟩=some (.slice xa xn xc)/\w'.cell? ⟨b0,3,none⟩=some (.slice ba bn bc)/\w'.cell? ⟨b0,4,none⟩=some (.slice qa qn qc)/\w'.cell? ⟨b0,5,none⟩=some (.slice sa sn sc)/\w'.cell? ⟨b0,6,none⟩=some (.slice la ln lc))/\(w'.cell? ⟨b1,0,none⟩=some (.int .u64 sq1)/\w'.cell? ⟨b1,1,none⟩=some (.int .u64 bt1)/\w'.cell? ⟨b1,2,none⟩=some (.slice xa1 xn1 xc1)/\w'.cell? ⟨b1,3,none⟩=some (.slice ba1 bn1 bc1)/\w'.cell? ⟨b1,4,none⟩=some (.slice qa1 qn1 qc1)/\w'.cell? ⟨b1,5,none⟩=some (.slice sa1 sn1 sc1)/\w'.cell? ⟨b1,6,none⟩=some (.slice la1 ln1 lc1))) (by kernel_rfl) ⟨⟨d0,d1,d2,d3,d4,d5,d6⟩,h0,h1,h2,h3,h4,h5,h6⟩ (fun hHeld=>?_)
      refine wpAnyH_take (i:=0) (v:=.pointer (some ⟨p',0,none⟩)) (by simp only [yyG,yyE]; rfl) (by kernel_rfl) (by kernel_rfl) (by kernel_rfl) (fun _ _ _ h=>h) (Or.inl ⟨by rfl,?_⟩) (by assumption) ?_
      ·(intro wq hSq; clear hSq; go_simp; try with_reducible rfl)
      try simp only [Act.put,yyA,yyB,yyC]
      refine wpAnyH_take (i:=1) (v:=.bool false) (by simp only [yyG,yyF,yyE]; rfl) (by kernel_rfl) (by kernel_rfl) (by kernel_rfl) (fun _ _ _ h=>h) (Or.inl ⟨by rfl,?_⟩) (by assumption) ?_
      ·(intro wq hSq; clear hSq; go_simp; try with_reducible rfl)
      try simp only [Act.put,yyA,yyB,yyC]
      refine wpAnyH_take (i:=2) (v:=.bool false) (by simp only [yyG,yyF,yyE]; rfl) (by kernel_rfl) (by kernel_rfl) (by kernel_rfl) (fun _ _ _ h=>h) (Or.inl ⟨by rfl,?_⟩) (by assumption) ?_
      ·(intro wq hSq; clear hSq; go_simp; try with_reducible rfl)
      try simp only [Act.put,yyA,yyB,yyC]
      refine wpAnyH_take (i:=3) (v:=.pointer (some ⟨p',0,none⟩)) (by simp only [yyG,yyF,yyE]; rfl) (by kernel_rfl) (by kernel_rfl) (by kernel_rfl) (fun _ _ _ h=>h) (Or.inl ⟨by rfl,?_⟩) (by assumption) ?_
      ·(intro wq hSq; clear hSq; go_simp; try with_reducible rfl)
      try simp only [Act.put,yyA,yyB,yyC]
      refine wpAnyH_take (i:=5) (v:=.agg #[.int .u64 sq,.int .u64 bt,.slice xa xn xc,.slice ba bn bc,.slice qa qn qc,.slice sa sn sc,.slice la ln lc]) (by simp only [yyG,yyF,yyE]; rfl) (by kernel_rfl) (by kernel_rfl) (by kernel_rfl) (fun _ _ _ h=>h) (Or.inl ⟨by rfl,?_⟩) (by assumption) ?_
      ·(intro wq hSq; obtain ⟨⟨q0,q1,q2,q3,q4,q5,q6⟩,r0,r1,r2,r3,r4,r5,r6⟩:=hSq; go_simp; try with_reducible rfl)
      try simp only [Act.put,yyA,yyB,yyC]
      obtain ⟨V0,fV0⟩ : ∃ X,Z1.drew=X:=⟨_,rfl⟩
      have B0:Below Z1.heap.size Z1 V0:=by rw [<- fV0]; exact drew_below Z1
      rw [fV0] at hHeld ⊢
      clear fV0
      refine wpAnyH_ready (rs:=[4]) (by kernel_rfl) (by simp) ?_
      refine AllReadyH.cons rfl (fun KK hK=>?_) AllReadyH.nil
      go_simp
      go_at_call 9
      refine (kPc.out V0 B0).mono ?_
      rintro e y1 ⟨Pc,rfl,hIc,bb1⟩
      obtain ⟨sq2,bt2,⟨xa2,xn2,xc2⟩,⟨ba2,bn2,bc2⟩,⟨qa2,qn2,qc2⟩,⟨sa2,sn2,sc2⟩,⟨la2,ln2,lc2⟩⟩:=Pc
      have B1:Below Z1.heap.size Z1 y1:=keptW B0 bb1
      have hR1:=HR.out.go B1
      have kL:=like_any ⟨sq2,bt2,(xa2,xn2,xc2),(ba2,bn2,bc2),(qa2,qn2,qc2),(sa2,sn2,sc2),(la2,ln2,lc2)⟩ ⟨sq,bt,(xa,xn,xc),(ba,bn,bc),(qa,qn,qc),(sa,sn,sc),(la,ln,lc)⟩ s _ _ y1 hIc hR1.i0 (by have:=HS.out.1.nq; omega) (by have:=HS.out.1.r.nlk; omega)
      dsimp only
      refine hK.out _ _ ⟨cells7' hR1.k0,cells7' hR1.k1⟩ (fun hHeld=>?_)
      clear hK KK
      try simp only [Act.put,yyA,yyB,yyC]
      clear hIc bb1
      refine wpAnyH_ready (rs:=[6]) (by kernel_rfl) (by simp) ?_
      refine AllReadyH.cons rfl (fun KK hK=>?_) AllReadyH.nil
      go_simp
      go_at_call 12
      refine kL.mono ?_
      rintro e y2 ⟨rfl,bb2⟩
      have B2:Below Z1.heap.size Z1 y2:=keptW B1 bb2
      have hR2:=HR.out.go B2
      dsimp only
      refine hK.out _ _ ⟨cells7' hR2.k0,cells7' hR2.k1⟩ (fun hHeld=>?_)
      clear hK KK
      try simp only [Act.put,yyA,yyB,yyC]
      refine wpAnyH_take (i:=7) (v:=.bool false) (by simp only [yyG,yyF,yyE]; rfl) (by kernel_rfl) (by kernel_rfl) (by kernel_rfl) (fun _ _ _ h=>h) (Or.inl ⟨by rfl,?_⟩) (by assumption) ?_
      ·(intro wq hSq; clear hSq; go_simp; try with_reducible rfl)
      try simp only [Act.put,yyA,yyB,yyC]
      refine wpAnyH_take (i:=8) (v:=.bool false) (by simp only [yyG,yyF,yyE]; rfl) (by kernel_rfl) (by kernel_rfl) (by kernel_rfl) (fun _ _ _ h=>h) (Or.inl ⟨by rfl,?_⟩) (by assumption) ?_
      ·(intro wq hSq; clear hSq; go_simp; try with_reducible rfl)
      try simp only [Act.put,yyA,yyB,yyC]
      refine wpAnyH_take (i:=9) (v:=.bool false) (by simp only [yyG,yyF,yyE]; rfl) (by kernel_rfl) (by kernel_rfl) (by kernel_rfl) (fun _ _ _ h=>h) (Or.inl ⟨by rfl,?_⟩) (by assumption) ?_
      ·(intro wq hSq; clear hSq; go_simp; try with_reducible rfl)
      try simp only [Act.put,yyA,yyB,yyC]
      refine wpAnyH_take (i:=10) (v:=.int .i64 er) (by simp only [yyG,yyF,yyE]; rfl) (by kernel_rfl) (by kernel_rfl) (by kernel_rfl) (fun _ _ _ h=>h) (Or.inl ⟨by rfl,?_⟩) (by assumption) ?_
      ·(intro wq hSq; clear hSq; go_simp; try with_reducible rfl)
      try simp only [Act.put,yyA,yyB,yyC]
      refine wpAnyH_take (i:=11) (v:=.bool true) (by simp only [yyG,yyF,yyE]; rfl) (by kernel_rfl) (by kernel_rfl) (by kernel_rfl) (fun _ _ _ h=>h) (Or.inl ⟨by rfl,?_⟩) (by assumption) ?_
      ·(intro wq hSq; clear hSq; go_simp; try with_reducible rfl)
      try simp only [Act.put,yyA,yyB,yyC]
      refine wpAnyH_take (i:=12) (v:=.bool true) (by simp only [yyG,yyF,yyE]; rfl) (by kernel_rfl) (by kernel_rfl) (by kernel_rfl) (fun _ _ _ h=>h) (Or.inl ⟨by rfl,?_⟩) (by assumption) ?_
      ·(intro wq hSq; clear hSq; go_simp; try with_reducible rfl)
      try simp only [Act.put,yyA,yyB,yyC]
      refine wpAnyH_take (i:=13) (v:=.agg #[.int .u64 sq1,.int .u64 bt1,.slice xa1 xn1 xc1,.slice ba1 bn1 bc1,.slice qa1 qn1 qc1,.slice sa1 sn1 sc1,.slice la1 ln1 lc1]) (by simp only [yyG,yyF,yyE]; rfl) (by kernel_rfl) (by kernel_rfl) (by kernel_rfl) (fun _ _ _ h=>h) (Or.inl ⟨by rfl,?_⟩) (by assumption) ?_
      ·(intro wq hSq; obtain ⟨⟨q0,q1,q2,q3,q4,q5,q6⟩,r0,r1,r2,r3,r4,r5,r6⟩:=hSq; go_simp; try with_reducible rfl)
      try simp only [Act.put,yyA,yyB,yyC]
      refine wpAnyH_take (i:=14) (v:=.agg #[.int .u64 sq,.int .u64 bt,.slice xa xn xc,.slice ba bn bc,.slice qa qn qc,.slice sa sn sc,.slice la ln lc]) (by simp only [yyG,yyF,yyE]; rfl) (by kernel_rfl) (by kernel_rfl) (by kernel_rfl) (fun _ _ _ h=>h) (Or.inl ⟨by rfl,?_⟩) (by assumption) ?_
      ·(intro wq hSq; obtain ⟨⟨q0,q1,q2,q3,q4,q5,q6⟩,r0,r1,r2,r3,r4,r5,r6⟩:=hSq; go_simp; try with_reducible rfl)
      try simp only [Act.put,yyA,yyB,yyC]
      refine wpAnyH_ready (rs:=[15]) (by kernel_rfl) (by simp) ?_
      refine AllReadyH.cons rfl (fun KK hK=>?_) AllReadyH.nil
      go_simp
      have kL2:=like_any ⟨sq1,bt1,(xa1,xn1,xc1),(ba1,bn1,bc1),(qa1,qn1,qc1),(sa1,sn1,sc1),(la1,ln1,lc1)⟩ ⟨sq,bt,(xa,xn,xc),(ba,bn,bc),(qa,qn,qc),(sa,sn,sc),(la,ln,lc)⟩ s _ _ y2 (by have:=hR2.i1; rw [HSS.out] at this; exact this) hR2.i0 (by have:=HS.out.1.nq; omega) (by have:=HS.out.1.r.nlk; omega)
      go_at_call 12
      refine kL2.mono ?_
      rintro e y3 ⟨rfl,bb3⟩
      have B3:Below Z1.heap.size Z1 y3:=keptW B2 bb3
      have hR3:=HR.out.go B3
      dsimp only
      refine hK.out _ _ ⟨cells7' hR3.k0,cells7' hR3.k1⟩ (fun hHeld=>?_)
      clear hK KK
      try simp only [Act.put,yyA,yyB,yyC]
      refine wpAnyH_take (i:=16) (v:=.bool false) (by simp only [yyG,yyF,yyE]; rfl) (by kernel_rfl) (by kernel_rfl) (by kernel_rfl) (fun _ _ _ h=>h) (Or.inl ⟨by rfl,?_⟩) (by assumption) ?_
      ·(intro wq hSq; clear hSq; go_simp; try with_reducible rfl)
      try simp only [Act.put,yyA,yyB,yyC]
      refine wpAnyH_take (i:=17) (v:=.bool false) (by simp only [yyG,yyF,yyE]; rfl) (by kernel_rfl) (by kernel_rfl) (by kernel_rfl) (fun _ _ _ h=>h) (Or.inl ⟨by rfl,?_⟩) (by assumption) ?_
      ·(intro wq hSq; clear hSq; go_simp; try with_reducible rfl)
      try simp only [Act.put,yyA,yyB,yyC]
      refine wpAnyH_take (i:=18) (v:=.bool false) (by simp only [yyG,yyF,yyE]; rfl) (by kernel_rfl) (by kernel_rfl) (by kernel_rfl) (fun _ _ _ h=>h) (Or.inl ⟨by rfl,?_⟩) (by assumption) ?_
      ·(intro wq hSq; clear hSq; go_simp; try with_reducible rfl)
      try simp only [Act.put,yyA,yyB,yyC]
      refine wpAnyH_done (by kernel_rfl) ?_ _
      refine NoPanic.normal ?_
      clear hHeld
      have HB3:Hid (Below Z1.heap.size Z1 y3):=B3
      clear kL kL2 B0 B1 B2 B3 hR1 hR2 hR3
      go_wp2
      go_meet
      exact ⟨rfl,rfl,HB3⟩
   case rest =>
    as_aux_lemma =>
     obtain ⟨rfl,rfl,HBz⟩:=hcut
     have HRc:Hid _:=HR.out.go HBz.out
     clear d0 d1 d2 d3 d4 d5 d6 h0 h1 h2 h3 h4 h5 h6 HBz HR
     have x0:wc.cell? ⟨bx,0,none⟩=some (.int .i64 a.kind):=box_at HRc.out.box rfl
     obtain ⟨kd,hkd⟩ : ∃ z,a.kind=z:=⟨_,rfl⟩
     rw [hkd] at x0
     have HKd:Hid (a.kind=kd):=hkd
     clear hkd
     by_cases her:er=0
     ·have hn0:(er != (0:Int))=false:=by simpa using her
      have hn1:(er==(0:Int))=true:=by simpa using her
      by_cases hk7:kd=7
      ·have hk0:(kd != (7:Int))=false:=by simpa using hk7
       have hk1:(kd==(7:Int))=true:=by simpa using hk7
       obtain ⟨hgd,ways,hst,hwy,hfT,hfN,hno,hyes,_,_⟩:=entered HS.out.1 HS.out.2.1 (HKd.out.trans hk7) (HER.out.1.trans her)
       have htd:toldM s a=intoM s a.m:=by unfold toldM; rw [if_pos ⟨hgd,HKd.out.trans hk7,HER.out.1.trans her⟩]
       have HEn:Hid ((actM s a).2=takenM s a.m ways/\(ways=[]\/ways=O.onwardT s.S s.E s.H a.m.origin s.site)/\(∀ n∈intoM s a.m,fullN s n=false)/\hasM s a.m.origin a.m.seq=false/\hasM (actM s a).2 a.m.origin a.m.seq=true/\toldM s a=intoM s a.m):=⟨hst,hwy,hfN,hno,hyes,htd⟩
       have y11:wc.cell? ⟨bx,11,none⟩=some (.int .i64 a.m.origin):=box_at HRc.out.box rfl
       have y12:wc.cell? ⟨bx,12,none⟩=some (.int .u64 a.m.seq):=box_at HRc.out.box rfl
       obtain ⟨mo,hmo⟩ : ∃ z,a.m.origin=z:=⟨_,rfl⟩
       obtain ⟨ms,hms⟩ : ∃ z,a.m.seq=z:=⟨_,rfl⟩
       rw [hmo] at y11
       rw [hms] at y12
       have HMo:Hid (a.m.origin=mo/\a.m.seq=ms):=⟨hmo,hms⟩
       clear hgd hst hwy hfT hfN hno hyes htd her hk7 hmo hms
       go_wp2
       go_loopg [91] ni (fun g u91 wr => ∃ j:Nat,u91=.int .i64 (j:Int)/\j<=ni/\g=ni-j/\Hid (Below wc.heap.size wc wr))
       case atStart=>exact ⟨0,rfl,Nat.zero_le _,rfl,Below.refl _ _⟩
       case round =>
        obtain ⟨j,rfl,hj,rfl,HJ⟩:=hrel
        have z11:=fun o=>cell_on (keptW HJ.out (box_below wr o)) y11
        have z12:=fun o=>cell_on (keptW HJ.out (box_below wr o)) y12
        by_cases hjn:j<ni
        ·have hjn':(j:Int)<(ni:Int):=by omega
         have hjl:j<ids.length:=by rw [HNI.out]; exact hjn
         obtain ⟨g9,f9,c9,hv9,_,_,hc9⟩:=HRc.out.on.row.rng.at (by omega)
         have hua:ua=some ⟨g9,f9,none⟩:=slice_addr hv9
         have i0:=cell_on HJ.out (show wc.cell? ⟨g9,f9+j*2,none⟩=_ from by simpa using K.row_cell hc9 j hjl 0 (by decide) _ rfl)
         have i1:=cell_on HJ.out (K.row_cell hc9 j hjl 1 (by decide) _ rfl)
         have hsn:=HRc.out.on.seen
         have hsj:=HS.out.2.2.2 ids[j] (List.getElem_mem hjl)
         obtain ⟨⟨o1,o2⟩,ho⟩ : ∃ z,ids[j]=z:=⟨_,rfl⟩
         rw [ho] at i0 i1 hsj
         simp only at i0 i1 hsj
         have hne : ¬ (o1=mo/\o2=ms):=fun h=>by
          have h1:=HEn.out.2.2.2.1
          rw [HMo.out.1,HMo.out.2,<- h.1,<- h.2,hsj] at h1
          cases h1
         have heq : ∀ X,(binOp .eql 38 (.agg #[.int .i64 o1,.int .u64 o2]) (.agg #[.int .i64 mo,.int .u64 ms])).run Tryz.prog X=.ok (.bool false) X:=fun X=>by
          have hb:((o1==mo) && ((o2==ms) && true))=false:=by
           rw [Bool.and_true,Bool.and_eq_false_iff,beq_eq_false_iff_ne,beq_eq_false_iff_ne]
           by_cases e:o1=mo
           ·exact .inr fun e2=>hne ⟨e,e2⟩
           ·exact .inl e
          rw [run_eql_struct,show (10000:Nat)=9998+1+1 from rfl,eqId,hb]
          rfl
         have hgt:Tryz.prog.eqGuardType Tryz.prog.depth 38=false:=by kernel_rfl
         have HB9:Hid (∀ o,Below wc.heap.size wc (wr.alloc o)):=fun o=>keptW HJ.out (box_below wr o)
         clear hv9 hc9 hsn hsj ho hne hjl HJ
         subst hua
         go_wp2
         go_roundg (ni-(j+1))
         case measure=>omega
         case rel=>exact ⟨j+1,by go_num,by omega,rfl,HB9.out _⟩
        ·have hjn' : ¬ (j:Int)<(ni:Int):=by omega
         have y11w:=cell_on HJ.out y11
         have y12w:=cell_on HJ.out y12
         obtain ⟨Wd,hWd⟩ : ∃ z,z=wr:=⟨_,rfl⟩
         subst hWd
         have HRd:Hid _:=HRc.out.go HJ.out
         obtain ⟨ii,hi0,hz0,hzs,hzb⟩:=identInfo
         have HLo:Hid (w.heap.size+1<=Wd.heap.size):=HRd.out.on.lt
         clear z11 z12
         have q1 : ∀ o,K.OwnOf idc 2 38 (Wd.alloc o) (w.heap.size+1) (.slice ua ni uc) ids:=fun o=>K.OwnOf.alloc HRd.out.on.row o
         have q2:K.RowOf idc (Wd.alloc (.cells #[.int .i64 mo,.int .u64 ms] 38)) (.slice (some ⟨Wd.heap.size,0,none⟩) 1 1) [(mo,ms)]:=K.rowK_one (enc:=idc) (T:=38) Wd (mo,ms) _ rfl
         have HQ:Hid _:=And.intro q1 q2
         have q3:ids.length+[(mo,ms)].length<=maxLen:=by rw [HNI.out]; unfold maxLen; simp; omega
         have q4:(ids.length+[(mo,ms)].length)*16<=140737488355328:=by rw [HNI.out]; simp; omega
         have HQ2:Hid _:=And.intro q3 q4
         have HPu:Hid (∀ v6 w6 o,K.OwnOf idc 2 38 w6 (w.heap.size+1) v6 (ids++[(mo,ms)])->(Wd.alloc o).grownBy w6 (Value.slice ua ni uc).ownBlock->K.NewOr (Wd.alloc o) (.slice ua ni uc) v6->_):=fun v6 w6 o own6 gr6 nw6=>HRd.out.push bx HLow.out.1 (yyH _) HLow.out.2.1 HLow.out.2.2.1 HLow.out.2.2.2.1 HLow.out.2.2.2.2.1 HLow.out.2.2.2.2.2.1 (by rw [HER.out.2]; exact HLow.out.2.2.2.2.2.2) own6 gr6 nw6 (by have:=HEn.out.2.2.2.2.1; rw [HMo.out.1,HMo.out.2] at this; exact this) (Nat.succ_le_succ HFew.out)
         clear q1 q2 q3 q4
         go_wp2_with (at_builtin; refine K.wpList_append_rows (enc:=idc) rfl _ _ 31 rfl Tryz.underlying31 ii _ 16 hi0 hz0 hzs hzb rfl (w.heap.size+1) (.slice ua ni uc) (.slice (some ⟨Wd.heap.size,0,none⟩) 1 1) ids [(mo,ms)] rfl rfl ?_ ?_ ?_ ?_ ?_ ?_; (exact HQ.out.1 _); (exact HQ.out.2); (exact HQ2.out.1); (exact HQ2.out.2); (have:=HLo.out; simp; omega); intro v6 w6 own6 gr6 nw6; have hR6:=HPu.out v6 w6 _ own6 gr6 nw6; obtain ⟨ua6,uc6,hv6⟩:=own6.rng.slice; rw [List.length_append,HNI.out,List.length_singleton] at hv6; subst hv6; obtain ⟨h0,h1,h2,h3,h4,h5,h6⟩:=cells7' hR6.k1; have HR6:Hid _:=hR6; clear own6 gr6 nw6 hR6)
         have HLen:Hid (qn1=qn/\qn=s.qs.length/\(actM s a).2.qs.length=s.qs.length/\qn<=16):=by
          obtain ⟨Q0,o0,a0⟩:=HR6.out.i0.q
          obtain ⟨Q1,o1,a1⟩:=HR6.out.i1.q
          have e0:qn=s.qs.length:=(own_len o0).trans a0.len
          have e1:qn1=(actM s a).2.qs.length:=(own_len o1).trans a1.len
          have e2:(actM s a).2.qs.length=s.qs.length:=by rw [HEn.out.1]; exact taken_len HS.out.1 _ _
          have h3:=HS.out.1.nq
          exact ⟨by omega,e0,e2,by omega⟩
         obtain rfl:qn1=qn:=HLen.out.1
         clear h0 h1 h2 h3 h4 h5 h6 x0 y11 y12 y11w y12w
         go_loopg [17,18,19,20,22,110] qn1 (fun g u17 u18 u19 u20 u22 u110 wr => ∃ j:Nat,u110=.int .i64 (j:Int)/\j<=qn1/\g=qn1-j/\Hid (Below w6.heap.size w6 wr))
         case atStart=>exact ⟨0,rfl,Nat.zero_le _,rfl,Below.refl _ _⟩
         case round =>
          obtain ⟨j,rfl,hj,rfl,HJ⟩:=hrel
          obtain ⟨wq,hwq⟩ : ∃ z,z=wr:=⟨_,rfl⟩
          subst hwq
          have HRq:Hid _:=HR6.out.go HJ.out
          clear HR6
          by_cases hlt:j<qn1
          ·have hlt':(j:Int)<(qn1:Int):=by omega
           obtain ⟨Q1,o1,a1⟩:=HRq.out.i1.q
           obtain ⟨Q2,o2,a2⟩:=HRq.out.i0.q
           have lq:j<s.qs.length:=by rw [<- HLen.out.2.1]; exact hlt
           have lq1:j<(actM s a).2.qs.length:=by rw [HLen.out.2.2.1]; exact lq
           have l1:j<Q1.length:=by rw [a1.len]; exact lq1
           have l2:j<Q2.length:=by rw [a2.len]; exact lq
           obtain ⟨x1,hx1⟩ : ∃ x,Q1[j]=x:=⟨_,rfl⟩
           obtain ⟨x2,hx2⟩ : ∃ x,Q2[j]=x:=⟨_,rfl⟩
           have i1:=a1.at j l1 lq1
           have i2:=a2.at j l2 lq
           rw [hx1] at i1
           rw [hx2] at i2
           have hcnt : ∀ (z:Sm),z=takenM s a.m ways -> ∀ h:j<z.qs.length,z.qs[j].1=s.qs[j].1/\cntQ z.qs[j].2=cntQ s.qs[j].2+if s.qs[j].1∈intoM s a.m then 1 else 0:=by
            rintro z rfl h
            exact taken_cnt HS.out.1 HEn.out.2.2.1 (taken_len HS.out.1 _ _) j lq
           obtain ⟨hq1,hq2⟩:=hcnt _ HEn.out.1 lq1
           obtain ⟨⟨nm,q⟩,hoo⟩ : ∃ z,s.qs[j]=z:=⟨_,rfl⟩
           obtain ⟨⟨nm1,q1⟩,hoo1⟩ : ∃ z,(actM s a).2.qs[j]=z:=⟨_,rfl⟩
           rw [hoo] at i2 hq1 hq2
           rw [hoo1] at i1 hq1 hq2
           obtain rfl:nm1=nm:=hq1
           obtain ⟨g1,f1,c1,hv1,_,_,hc1⟩:=o1.rng.at (by omega)
           obtain ⟨g2,f2,c2,hv2,_,_,hc2⟩:=o2.rng.at (by omega)
           have hw1:qa1=some ⟨g1,f1,none⟩:=slice_addr hv1
           have hw2:qa=some ⟨g2,f2,none⟩:=slice_addr hv2
           clear hv1 hv2
           subst hw1 hw2
           have w1:=row_whole (enc:=qpcells) (kk:=5) hc1 j l1
           have w2:=row_whole (enc:=qpcells) (kk:=5) hc2 j l2
           rw [hx1] at w1
           rw [hx2] at w2
           obtain ⟨X0,fX0⟩ : ∃ X,wq.alloc (.cells #[.string ⟨#[]⟩,.int .i64 0,.int .u64 0,.slice none 0 0,.slice none 0 0] 59)=X:=⟨_,rfl⟩
           have zX:X0.heap[wq.heap.size]? = some (.cells (qpcells zQp).toArray 59 (0,0)):=by rw [<- fX0]; exact heap_alloc_new wq _
           have bX0:Below wq.heap.size wq X0:=by rw [<- fX0]; exact box_below wq _
           obtain ⟨X1,fX1⟩ : ∃ X,X0.setRow wq.heap.size (qpcells x1).toArray=X:=⟨_,rfl⟩
           have kX:X1.heap[wq.heap.size]? = some (.cells (qpcells x1).toArray 59 (0,0)):=by rw [<- fX1]; exact setRow_heap _ _ _ _ _ _ zX
           have bX1:Below wq.heap.size wq X1:=by rw [<- fX1]; exact below_setRow bX0 (yyH _) _
           obtain ⟨n1,m1,t1,⟨ra1,rn1,rc1⟩,⟨oa1,on1,oc1⟩⟩:=x1
           obtain ⟨n2,m2,t2,⟨ra2,rn2,rc2⟩,⟨oa2,on2,oc2⟩⟩:=x2
           obtain rfl:n1=nm1:=i1.name
           have hlen:rn1+on1=rn2+on2+if n1∈intoM s a.m then 1 else 0:=by
            have h1:rn1=q1.rdy.length:=own_len i1.r
            have h2:on1=q1.out.length:=own_len i1.o
            have h3:rn2=q.rdy.length:=own_len i2.r
            have h4:on2=q.out.length:=own_len i2.o
            have h5:q1.rdy.length+q1.out.length=q.rdy.length+q.out.length+if n1∈intoM s a.m then 1 else 0:=hq2
            rw [h1,h2,h3,h4]
            exact h5
           have HW:Hid ((∀ j' u,(qpcells ⟨n1,m1,t1,(ra1,rn1,rc1),(oa1,on1,oc1)⟩)[j']? = some u->wq.cell? ⟨g1,f1+j*5+j',none⟩=some u)/\X0.heap[wq.heap.size]? = some (.cells (qpcells zQp).toArray 59 (0,0))):=⟨w1,zX⟩
           have HX:Hid (X1.heap[wq.heap.size]? = some (.cells (qpcells ⟨n1,m1,t1,(ra1,rn1,rc1),(oa1,on1,oc1)⟩).toArray 59 (0,0))):=kX
           have HRx:Hid _:=HRq.out.go bX1
           have HBx:Hid (Below w6.heap.size w6 X1):=keptW HJ.out bX1
           have v4:X1.cell? ⟨b0,4,none⟩=some (.slice (some ⟨g2,f2,none⟩) qn1 qc):=(cells7' HRx.out.k0).2.2.2.2.1
           have v5:X1.cell? ⟨g2,f2+j*5+3,none⟩=some (.slice ra2 rn2 rc2):=cell_on bX1 (w2 3 _ rfl)
           have v6':X1.cell? ⟨g2,f2+j*5+4,none⟩=some (.slice oa2 on2 oc2):=cell_on bX1 (w2 4 _ rfl)
           obtain ⟨d0,d1,d2,d3,d4⟩:=cells5 HX.out
           obtain ⟨kt,hkt⟩ : ∃ z:Nat,(if n1∈intoM s a.m then 1 else 0)=z:=⟨_,rfl⟩
           rw [hkt] at hlen
           have HKt:Hid ((if n1∈intoM s a.m then 1 else 0)=kt):=hkt
           have hk1:kt<=1:=by rw [<- hkt]; split <;> omega
           clear hkt
           obtain ⟨c0,hwr0⟩ : ∃ z:Int,IntKind.i64.wrap ((rn1:Int)+(on1:Int))=z:=⟨_,rfl⟩
           obtain ⟨c2,hwr1⟩ : ∃ z:Int,IntKind.i64.wrap (c0-(rn2:Int))=z:=⟨_,rfl⟩
           obtain ⟨c3,hc30⟩ : ∃ z:Int,(kt:Int)=z:=⟨_,rfl⟩
           have hwr2:IntKind.i64.wrap (c2-(on2:Int))=c3:=by
            rw [<- hwr1,<- hwr0,wrap_less,Int.sub_sub,wrap_less,<- hc30]
            have h:(rn1:Int)+(on1:Int)-((rn2:Int)+(on2:Int))=(kt:Int):=by omega
            rw [h,IntKind.wrap_i64]
            omega
           have HK:Hid (c3=if n1∈intoM s a.m then 1 else 0):=by
            show _=_
            have:=HKt.out
            rw [<- hc30]
            by_cases h:n1∈intoM s a.m
            ·rw [if_pos h] at this ⊢; omega
            ·rw [if_neg h] at this ⊢; omega
           clear o1 a1 o2 a2 lq lq1 l1 l2 hx1 hx2 i1 i2 hcnt hq2 hoo hoo1 hc1 hc2 w1 w2 zX bX0 kX bX1 hlen hk1 hc30 HKt HRq HJ
           go_wp2_with (first
            |refine wpList_load_off rfl 59 _ rfl g1 (f1+j*5) rfl (qpcells ⟨n1,m1,t1,(ra1,rn1,rc1),(oa1,on1,oc1)⟩) _ HW.out.1 Tryz.underlying59 rfl infoQp ?_
            |(refine wpList_store_row rfl 59 _ _ rfl wq.heap.size (qpcells ⟨n1,m1,t1,(ra1,rn1,rc1),(oa1,on1,oc1)⟩).toArray rfl rfl 59 (qpcells zQp).toArray (by first | exact HW.out.2 | (rw [fX0]; exact HW.out.2)) infoQp rfl (oneQp _) ?_; (try rw [fX0]); (try rw [fX1])))
           go_quiet (fail)
           go_wp2
           clear d0 d1 d2 d3 d4 v4 v5 v6' hwr0 hwr1 hwr2 fX0 fX1 HW hlt'
           go_loopg [20,22,140] nn (fun g u20 u22 u140 wz => ∃ m:Nat,u140=.int .i64 (m:Int)/\m<=nn/\g=nn-m/\u20=.bool (((toldM s a).take m).any fun x=>decide (x=n1))/\Hid (Below X1.heap.size X1 wz))
           case atStart=>exact ⟨0,rfl,Nat.zero_le _,rfl,rfl,drewN_below X1 _⟩
           case round =>
            obtain ⟨m,rfl,hm,rfl,rfl,HM⟩:=hrel
            obtain ⟨wz,hwz⟩ : ∃ z,z=wr:=⟨_,rfl⟩
            subst hwz
            have HRz:Hid _:=HRx.out.go HM.out
            by_cases hmn:m<nn
            ·have hmn':(m:Int)<(nn:Int):=by omega
             have hml:m<(toldM s a).length:=by rw [HER.out.2]; exact hmn
             obtain ⟨g9,f9,c9,hv9,hle9,hmx9,hc9⟩:=HRz.out.nm.atStrs (by omega)
             have hna:na=some ⟨g9,f9,none⟩:=slice_addr hv9
             have i0:=hc9 m hml
             have d0:wz.cell? ⟨wq.heap.size,0,none⟩=some (.string n1):=cell_on HM.out (cells5 HX.out).1
             obtain ⟨nx,hnx⟩ : ∃ z,(toldM s a)[m]=z:=⟨_,rfl⟩
             rw [hnx] at i0
             obtain ⟨bb,hbb⟩ : ∃ z,((toldM s a).take m).any (fun x=>decide (x=n1))=z:=⟨_,rfl⟩
             have HNext:Hid (((toldM s a).take (m+1)).any (fun x=>decide (x=n1))=(bb || decide (nx=n1))):=by
              show _=_
              rw [List.take_add_one,List.getElem?_eq_getElem hml,List.any_append,hbb,hnx]
              simp
             rw [hbb]
             have HM63:Hid (m<9223372036854775807):=by unfold maxLen at hmx9; show _<_; omega
             clear hv9 hc9 hml hnx hbb hle9 hmx9
             subst hna
             cases bb
             ·go_wp2
              go_roundg (nn-(m+1))
              case measure=>omega
              case rel=>exact ⟨m+1,congrArg (Value.int IntKind.i64) (by have:=HM63.out; first | omega | (unfold wrap64; omega)),by omega,rfl,by rw [HNext.out,toList_beq]; rfl,HM⟩
             ·go_wp2
              go_roundg (nn-(m+1))
              case measure=>omega
              case rel=>exact ⟨m+1,congrArg (Value.int IntKind.i64) (by have:=HM63.out; first | omega | (unfold wrap64; omega)),by omega,rfl,by rw [HNext.out]; rfl,HM⟩
            ·have hmn' : ¬ (m:Int)<(nn:Int):=by omega
             have hme:(toldM s a).take m=intoM s a.m:=by
              rw [List.take_of_length_le (by have:=HER.out.2; omega)]
              exact HEn.out.2.2.2.2.2
             rw [hme]
             have HJ63:Hid (j<9223372036854775807):=by have:=HLen.out.2.2.2; show j<_; omega
             have HBz:Hid (Below w6.heap.size w6 wz):=keptW HBx.out HM.out
             by_cases hin:n1∈intoM s a.m
             ·have hb:(intoM s a.m).any (fun x=>decide (x=n1))=true:=by rw [List.any_eq_true]; exact ⟨n1,hin,decide_eq_true rfl⟩
              obtain rfl:c3=1:=by have:=HK.out; rw [if_pos hin] at this; exact this
              rw [hb]
              clear hb hin hme
              go_wp2
              go_roundg (qn1-(j+1))
              case measure=>omega
              case rel=>exact ⟨j+1,congrArg (Value.int IntKind.i64) (by have:=HJ63.out; first | omega | (unfold wrap64; omega)),by omega,rfl,HBz⟩
             ·have hb:(intoM s a.m).any (fun x=>decide (x=n1))=false:=by
               rw [List.any_eq_false]
               intro x hx h
               exact hin (by rw [<- of_decide_eq_true h]; exact hx)
              obtain rfl:c3=0:=by have:=HK.out; rw [if_neg hin] at this; exact this
              rw [hb]
              clear hb hin hme
              go_wp2
              go_roundg (qn1-(j+1))
              case measure=>omega
              case rel=>exact ⟨j+1,congrArg (Value.int IntKind.i64) (by have:=HJ63.out; first | omega | (unfold wrap64; omega)),by omega,rfl,HBz⟩
          ·have hlt' : ¬ (j:Int)<(qn1:Int):=by omega
           clear HJ hlt
           obtain ⟨t0,t1,t2⟩:=cells3 HRq.out.top
           have y11:wq.cell? ⟨bx,11,none⟩=some (.int .i64 mo):=by rw [<- HMo.out.1]; exact box_at HRq.out.box rfl
           have y12:wq.cell? ⟨bx,12,none⟩=some (.int .u64 ms):=by rw [<- HMo.out.2]; exact box_at HRq.out.box rfl
           have hOn:=O.onward_any S H mo 1 (.slice ea en ec) E wq (H0.out.2.1.below HRq.out.on.bel (yyH _))
           obtain ⟨L,hL⟩ : ∃ z,O.onwardT S E H mo 1=z:=⟨_,rfl⟩
           rw [hL] at hOn
           have HWy:Hid (ways=[]\/ways=L):=by
            have h:=HEn.out.2.1
            rw [HMo.out.1,HS.out.2.2.1.1,HS.out.2.2.1.2.1,HS.out.2.2.1.2.2.1,HS.out.2.2.1.2.2.2,hL] at h
            exact h
           have HLs:Hid (L.Nodup /\ ∀ t∈L,1<=t/\t<=8):=by
            refine ⟨by rw [<- hL]; exact (onward_up _ _ _ _ _).imp (fun h=>Int.ne_of_lt h),fun t ht=>?_⟩
            have hg:=HS.out.1.top
            rw [HS.out.2.2.1.1,HS.out.2.2.1.2.1,HS.out.2.2.1.2.2.1] at hg
            rw [<- hL] at ht
            exact onward_in hg ht
           have HLe:Hid (O.onwardT S E H mo 1=L):=hL
           clear hL
           obtain ⟨on,hon⟩ : ∃ z,L.length=z:=⟨_,rfl⟩
           have HOn:Hid (L.length=on):=hon
           go_wp2_with fail
           refine hOn.mono ?_
           rintro e V7 ⟨v7,rfl,r7,b7⟩
           obtain ⟨oa,oc,hv7⟩:=r7.slice
           rw [hon] at hv7
           subst hv7
           have HR7:Hid _:=HRq.out.go b7
           have Hr7:Hid (O.RowI V7 wq.heap.size (.slice oa on oc) L):=r7
           clear hOn r7 b7 t0 t1 t2 y11 y12 hon
           go_wp2
           go_loopg [16,24,172] on (fun g u16 u24 u172 wr => ∃ m c:Nat,u172=.int .i64 (m:Int)/\u16=.int .i64 (c:Int)/\m<=on/\g=on-m/\Hid (c=(if ways=[] then 0 else m)/\Below V7.heap.size V7 wr))
           case atStart=>exact ⟨0,0,rfl,rfl,Nat.zero_le _,rfl,by split <;> rfl,Below.refl _ _⟩
           case round =>
            obtain ⟨m,c,rfl,rfl,hm,rfl,HM⟩:=hrel
            obtain ⟨wz,hwz⟩ : ∃ z,z=wr:=⟨_,rfl⟩
            subst hwz
            have HRz:Hid _:=HR7.out.go HM.out.2
            by_cases hmn:m<on
            ·have hmn':(m:Int)<(on:Int):=by omega
             have hml:m<L.length:=by rw [HOn.out]; exact hmn
             obtain ⟨g9,f9,c9,hv9,hle9,hmx9,hc9⟩:=(Hr7.out.below HM.out.2 (yyH _)).row.atInts (by omega)
             have hoa:oa=some ⟨g9,f9,none⟩:=slice_addr hv9
             have i0:=hc9 m hml
             obtain ⟨t,ht⟩ : ∃ z,L[m]=z:=⟨_,rfl⟩
             have hmem:t∈L:=by rw [<- ht]; exact List.getElem_mem hml
             rw [ht] at i0
             have hti:I64 t:=by have:=HLs.out.2 t hmem; unfold I64; omega
             have hwd:ways.Nodup:=by
              rcases HWy.out with e | e
              ·rw [e]; exact List.nodup_nil
              ·rw [e]; exact HLs.out.1
             have hlk:(linkOf (actM s a).2.lk t).length=(linkOf s.lk t).length+if t∈ways then 1 else 0:=by
              rw [HEn.out.1]; exact taken_link HS.out.1.r.up a.m hwd t
             obtain ⟨dv,hdv⟩ : ∃ z:Nat,(if t∈ways then 1 else 0)=z:=⟨_,rfl⟩
             rw [hdv] at hlk
             obtain ⟨n1,hn1⟩ : ∃ z,(linkOf (actM s a).2.lk t).length=z:=⟨_,rfl⟩
             obtain ⟨n0',hn0'⟩ : ∃ z,(linkOf s.lk t).length=z:=⟨_,rfl⟩
             have hd1:dv<=1:=by rw [<- hdv]; split <;> omega
             have hdw:dv=if ways=[] then 0 else 1:=by
              rw [<- hdv]
              rcases HWy.out with e | e
              ·rw [e]; simp
              ·rw [e,if_pos hmem,if_neg (fun h=>by rw [h] at hmem; cases hmem)]
             have HM63:Hid (m<9223372036854775807):=by unfold maxLen at hmx9; show _<_; omega
             have hcm:c<=m:=by rw [HM.out.1]; split <;> omega
             obtain ⟨c',hc'⟩ : ∃ z,c+dv=z:=⟨_,rfl⟩
             have HC:Hid (c'=if ways=[] then 0 else m+1):=by
              show _=_
              rw [<- hc',HM.out.1,hdw]
              split <;> rfl
             have hwr0:IntKind.i64.wrap ((n1:Int)-(n0':Int))=(dv:Int):=by rw [IntKind.wrap_i64]; omega
             have hwr1:IntKind.i64.wrap ((c:Int)+(dv:Int))=(c':Int):=by have:=HM63.out; rw [IntKind.wrap_i64]; omega
             have hA:=link_any p G2 (actM s a).2 t wz HRz.out.on.st HRz.out.on.inv.r.fit hti
             have HB:Hid (∀ V,Below wz.heap.size wz V->Calls Tryz.prog 14 #[.pointer (some ⟨p',0,none⟩),.int .i64 t] V fun e w' => ∃ v',e=.returned v'/\OwnM w' V.heap.size v' (linkOf s.lk t)/\Below V.heap.size V w'):=fun V b=>link_any p' G' s t V (HRz.out.cp.kept b) HS.out.1.r.fit hti
             have HNs:Hid ((linkOf (actM s a).2.lk t).length=n1/\(linkOf s.lk t).length=n0'):=⟨hn1,hn0'⟩
             have HBz:Hid (Below V7.heap.size V7 wz):=HM.out.2
             clear hv9 hle9 hmx9 hc9 hml ht hmem hti hwd hlk hdv hn1 hn0' hd1 hdw hcm hc' HM HRz
             subst hoa
             go_wp2_with fail
             refine hA.mono ?_
             rintro e V8 ⟨v8,rfl,o8,b8⟩
             obtain ⟨a8,c8,hv8⟩:=o8.rng.slice
             rw [HNs.out.1] at hv8
             subst hv8
             have hB:=HB.out V8 b8
             have HB8:Hid (Below wz.heap.size wz V8):=b8
             clear hA o8 b8 HB i0
             go_wp2_with fail
             refine hB.mono ?_
             rintro e V9 ⟨v9,rfl,o9,b9⟩
             obtain ⟨a9,c9',hv9⟩:=o9.rng.slice
             rw [HNs.out.2] at hv9
             subst hv9
             have HB9:Hid (Below V7.heap.size V7 V9):=keptW HBz.out (keptW HB8.out b9)
             clear hB o9 b9
             go_wp2
             go_roundg (on-(m+1))
             case measure=>omega
             case rel=>exact ⟨m+1,c',congrArg (Value.int IntKind.i64) (by have:=HM63.out; first | omega | (unfold wrap64; omega)),rfl,by omega,rfl,HC.out,HB9.out⟩
            ·have hmn' : ¬ (m:Int)<(on:Int):=by omega
             obtain rfl:m=on:=by omega
             have hce:=HM.out.1
             have hH1:=has14_any p G2 (actM s a).2 mo ms
             have hH0:=has14_any p' G' s mo ms
             obtain ⟨t0,t1,t2⟩:=cells3 HRz.out.top
             have y11:wz.cell? ⟨bx,11,none⟩=some (.int .i64 mo):=by rw [<- HMo.out.1]; exact box_at HRz.out.box rfl
             have y12:wz.cell? ⟨bx,12,none⟩=some (.int .u64 ms):=by rw [<- HMo.out.2]; exact box_at HRz.out.box rfl
             have hh1:hasM (actM s a).2 mo ms=true:=by rw [<- HMo.out.1,<- HMo.out.2]; exact HEn.out.2.2.2.2.1
             have hh0:hasM s mo ms=false:=by rw [<- HMo.out.1,<- HMo.out.2]; exact HEn.out.2.2.2.1
             have hms:0<=ms/\ms<18446744073709551616:=by rw [<- HMo.out.2]; exact HFa.out.m.s
             rw [hh1] at hH1
             rw [hh0] at hH0
             have HX1:Hid (∀ V,Below wz.heap.size wz V->Calls Tryz.prog 15 #[.pointer (some ⟨p,0,none⟩),.agg #[.int .i64 mo,.int .u64 ms]] V fun e w'=>e=.returned (.bool true)/\Below V.heap.size V w'):=fun V b=>hH1 V (HRz.out.on.st.kept b) HRz.out.on.inv.r.bk hms
             have HX0:Hid (∀ V,Below wz.heap.size wz V->Calls Tryz.prog 15 #[.pointer (some ⟨p',0,none⟩),.agg #[.int .i64 mo,.int .u64 ms]] V fun e w'=>e=.returned (.bool false)/\Below V.heap.size V w'):=fun V b=>hH0 V (HRz.out.cp.kept b) HS.out.1.r.bk hms
             clear hh1 hh0 hms hH1 hH0
             obtain ⟨cv,hcv⟩ : ∃ z:Int,(c:Int)=z:=⟨_,rfl⟩
             rw [hcv]
             have HOn2:=O.onward_any S H mo 1 (.slice ea en ec) E wz (H0.out.2.1.below HRz.out.on.bel (yyH _))
             rw [HLe.out] at HOn2
             by_cases hwn:ways=[]
             ·rw [if_pos hwn] at hce
              have hmb:(cv != (0:Int))=false:=by rw [<- hcv,hce]; rfl
              clear hce hcv HOn2
              have hH1:=HX1.out wz (Below.refl _ _)
              go_wp2_with fail
              refine hH1.mono ?_
              rintro e Va ⟨rfl,ba1⟩
              have HBa:Hid (Below wz.heap.size wz Va):=ba1
              have hH0:=HX0.out Va HBa.out
              have z11:=cell_on ba1 y11
              have z12:=cell_on ba1 y12
              clear hH1 ba1
              go_wp2_with fail
              refine hH0.mono ?_
              rintro e Vb ⟨rfl,bb1⟩
              have HBb:Hid (Below wz.heap.size wz Vb):=keptW HBa.out bb1
              have HE:Hid (∃ G' s ids,On w Vb p G' (i+1) s S E H (.slice ua6 (ni+1) uc6) ids/\Vb.heap[w.heap.size]? = some (.cells #[.int .i64 S,.slice ea en ec,.int .i64 H] 24 (0,0))):=⟨G2,_,ids++[(mo,ms)],(HRz.out.go HBb.out).on,(HRz.out.go HBb.out).top⟩
              clear hH0 bb1
              go_wp2
              go_roundg (n0-(i+1))
              case measure=>omega
              case rel=>exact ⟨i+1,congrArg (Value.int IntKind.i64) (by have:=HI63.out; first | omega | (unfold wrap64; omega)),by omega,rfl,HE.out⟩
             ·rw [if_neg hwn] at hce
              have hL0:m≠0:=fun h=>by
               rcases HWy.out with e | e
               ·exact hwn e
               ·have h2:=HOn.out
                rw [<- e,h] at h2
                exact hwn (List.length_eq_zero_iff.1 h2)
              have hmb:(cv != (0:Int))=true:=by rw [<- hcv,hce]; simpa using hL0
              have hmc:(cv != (m:Int))=false:=by rw [<- hcv,hce]; simp
              clear hce hcv hL0
              go_wp2_with fail
              refine HOn2.mono ?_
              rintro e Vc ⟨vc,rfl,rc,bc1⟩
              obtain ⟨xa9,xc9,hvc⟩:=rc.slice
              rw [HOn.out] at hvc
              subst hvc
              have HBc:Hid (Below wz.heap.size wz Vc):=bc1
              replace y11:=cell_on bc1 y11
              replace y12:=cell_on bc1 y12
              clear HOn2 rc bc1 t0 t1 t2
              have hH1:=HX1.out Vc HBc.out
              go_wp2_with fail
              refine hH1.mono ?_
              rintro e Va ⟨rfl,ba1⟩
              have HBa:Hid (Below wz.heap.size wz Va):=keptW HBc.out ba1
              have hH0:=HX0.out Va HBa.out
              have z11:=cell_on ba1 y11
              have z12:=cell_on ba1 y12
              clear hH1 ba1
              go_wp2_with fail
              refine hH0.mono ?_
              rintro e Vb ⟨rfl,bb1⟩
              have HBb:Hid (Below wz.heap.size wz Vb):=keptW HBa.out bb1
              have HE:Hid (∃ G' s ids,On w Vb p G' (i+1) s S E H (.slice ua6 (ni+1) uc6) ids/\Vb.heap[w.heap.size]? = some (.cells #[.int .i64 S,.slice ea en ec,.int .i64 H] 24 (0,0))):=⟨G2,_,ids++[(mo,ms)],(HRz.out.go HBb.out).on,(HRz.out.go HBb.out).top⟩
              clear hH0 bb1
              go_wp2
              go_roundg (n0-(i+1))
              case measure=>omega
              case rel=>exact ⟨i+1,congrArg (Value.int IntKind.i64) (by have:=HI63.out; first | omega | (unfold wrap64; omega)),by omega,rfl,HE.out⟩
      ·have hk0:(kd != (7:Int))=true:=by simpa using hk7
       have hk1:(kd==(7:Int))=false:=by simpa using hk7
       have HE:Hid (∃ G' s ids,On w wc p G' (i+1) s S E H (.slice ua ni uc) ids/\wc.heap[w.heap.size]? = some (.cells #[.int .i64 S,.slice ea en ec,.int .i64 H] 24 (0,0))):=⟨G2,_,ids,HRc.out.on,HRc.out.top⟩
       clear her hk7 HRc
       go_wp2
       go_roundg (n0-(i+1))
       case measure=>omega
       case rel=>exact ⟨i+1,congrArg (Value.int IntKind.i64) (by have:=HI63.out; first | omega | (unfold wrap64; omega)),by omega,rfl,HE.out⟩
     ·have hn0:(er != (0:Int))=true:=by simpa using her
      have hn1:(er==(0:Int))=false:=by simpa using her
      have HE:Hid (∃ G' s ids,On w wc p G' (i+1) s S E H (.slice ua ni uc) ids/\wc.heap[w.heap.size]? = some (.cells #[.int .i64 S,.slice ea en ec,.int .i64 H] 24 (0,0))):=⟨G2,_,ids,HRc.out.on,HRc.out.top⟩
      clear her HRc
      go_wp2
      go_roundg (n0-(i+1))
      case measure=>omega
      case rel=>exact ⟨i+1,congrArg (Value.int IntKind.i64) (by have:=HI63.out; first | omega | (unfold wrap64; omega)),by omega,rfl,HE.out⟩
  ·have hlt' : ¬ (i:Int)<(n0:Int):=by omega
   obtain ⟨G1,s1,ids1,hO,_⟩:=HI.out
   have HBE:Hid (Below w.heap.size w wr):=hO.bel
   have hLv:=HL.out wr HBE.out
   clear hO HI
   go_wp2_with (go_at_call 6; refine hLv.mono ?_; rintro e w2 ⟨rfl,b2⟩)
   go_ret
   exact ⟨rfl,keptW HBE.out b2⟩
end Go.Proofs.YtnhnpnafchkhiaaGreatDoor
