import Derived.Test.YtnhnpnafchkhiaaGreatDoorQwA
import Derived.Test.YtnhnpnafchkhiaaGreatDoorQw35
import Derived.Test.YtnhnpnafchkhiaaGreatDoorQw32
import Derived.Test.YtnhnpnafchkhiaaGreatDoorQw33
import Derived.Test.YtnhnpnafchkhiaaGreatDoorQw34
import Derived.Test.YtnhnpnafchkhiaaGreatDoorRows
import Derived.Test.YtnhnpnafchkhiaaGreatDoorQw3
import Derived.WalkKit
import Derived.ProofKit
import Derived.OpenShut
import Derived.ChangeOld
import Derived.SizedLaws
import Derived.DataReads
import Derived.DataElems
import Derived.LaidLaws
import Derived.Deep.DeepHandedRow
import Derived.Lib.LaidTab
set_option maxHeartbeats 4000000
set_option maxRecDepth 20000
namespace Go.Proofs.YtnhnpnafchkhiaaGreatDoor
open Go.RowKit
theorem has14_any (p:Nat) (G:Nat->Prop) (s:Sm) (o n:Int) (w:World) (h:SS w p G s) (bk:s.Bk) (hn:0<=n/\n<18446744073709551616):Calls Tryz.prog 15 #[.pointer (some ⟨p,0,none⟩),.agg #[.int .i64 o,.int .u64 n]] w fun e w'=>e=.returned (.bool (hasM s o n))/\Below w.heap.size w w':=by
 obtain ⟨W,fold⟩ : ∃ W,w.alloc (.cells #[.int .i64 o,.int .u64 n] 38)=W:=⟨_,rfl⟩
 have bW:Below w.heap.size w W:=by rw [<- fold]; exact box_below w _
 have kW:W.heap[w.heap.size]? = some (.cells [.int .i64 o,.int .u64 n].toArray 38 (0,0)):=by rw [<- fold]; exact heap_alloc_new w _
 have hS:=h.kept bW
 have hM:=made14_any p G s W.drew (hS.kept (drew_below W))
 obtain ⟨ft,d,hs',hF⟩:=hS
 obtain ⟨has,hhas⟩ : ∃ z,hasM s o n=z:=⟨_,rfl⟩
 have HH:Hid (∀ V,Below W.heap.size W V->Calls Tryz.prog 47 #[.pointer (some ⟨d.bp,0,none⟩),.agg #[.int .i64 o,.int .u64 n]] V fun e w'=>e=.returned (.bool has)/\Below V.heap.size V w'):=fun V b=>by
  have:=S.bhas_any (S.ptrS d.bp) s.bk o n.toNat V (hs'.book.kept b).told (bk.at o).1 (bk.at o).2
  rw [show ((n.toNat:Nat):Int)=n by omega] at this
  unfold hasM at hhas
  rw [hhas] at this
  exact this
 have c8:W.cell? ⟨p,8,none⟩=some (.pointer (some ⟨d.bp,0,none⟩)):=(cells10 hs'.blk).2.2.2.2.2.2.2.2.1
 have y0:W.cell? ⟨w.heap.size,0,none⟩=some (.int .i64 o):=box_at kW rfl
 have y1:W.cell? ⟨w.heap.size,1,none⟩=some (.int .u64 n):=box_at kW rfl
 have HK:Hid (Below w.heap.size w W /\ ∀ V,Below W.heap.size W V->V.cell? ⟨p,8,none⟩=some (.pointer (some ⟨d.bp,0,none⟩))/\V.cell? ⟨w.heap.size,0,none⟩=some (.int .i64 o)/\V.cell? ⟨w.heap.size,1,none⟩=some (.int .u64 n)):=⟨bW,fun V b=>⟨cell_on b c8,cell_on b y0,cell_on b y1⟩⟩
 rw [hhas]
 clear hs' hF h bk hn hhas bW kW
 go_enter Tryz.func15,Tryz.ntmps15
 go_wp2
 try rw [fold]
 (go_region_held3 (fun w'=>w'.cell? ⟨p,8,none⟩=some (.pointer (some ⟨d.bp,0,none⟩))/\w'.cell? ⟨w.heap.size,0,none⟩=some (.int .i64 o)/\w'.cell? ⟨w.heap.size,1,none⟩=some (.int .u64 n)) (first | exact ⟨c8,y0,y1⟩ | go_keep) (first
  |(go_at_call 25; refine hM.mono ?_; rintro e w2 ⟨rfl,rfl⟩; clear hM)
  |(go_at_call 47; refine (HH.out W.drew (drew_below W)).mono ?_; rintro e w3 ⟨rfl,b3⟩; have B3:Hid (Below W.heap.size W w3):=keptW (drew_below W) b3; obtain ⟨f0,f1,f2⟩:=HK.out.2 w3 B3.out; clear b3)))
 all_goals go_wp2
 all_goals go_ret
 all_goals exact ⟨rfl,keptW HK.out.1 B3.out⟩
theorem apply7_any (p:Nat) (G:Nat->Prop) (s:Sm) (a:Ax) (w:World) (h:SS w p G s) (hK:Kinds w) (ha:a.Fits) (hg:goodA a=true) (hk:a.kind=7) (er:Int) (s':Sm) (fit':s'.Fit) (ok':s'.tb.Ok) (hm:a.m.In) (hD : ∀ V,Below w.heap.size w V->Calls Tryz.prog 87 #[.pointer (some ⟨p,0,none⟩),av a] V (DeedPost p G V er s')) :
  Calls Tryz.prog 11 #[.pointer (some ⟨p,0,none⟩),av a] w (AppPost p G w (if er=0 then intoM s' a.m else []) er s'):=by
 obtain ⟨W,fold⟩ : ∃ W,w.alloc (.cells #[.int .i64 a.kind,.string a.name,.int .i64 a.n,.int .u64 a.tag,.int .i64 a.to,.string a.xn,.int .i64 a.xk,.bool a.xf,.string a.be,.string a.bq,.string a.bp,.int .i64 a.m.origin,.int .u64 a.m.seq,.int .i64 a.m.hop,.string a.m.ex,.string a.m.key,.string a.m.body] 42)=W:=⟨_,rfl⟩
 have hB:Boxd w W a:=by rw [<- fold]; exact boxd_new w a
 have hM:=made14_any p G s W (h.kept hB.bel)
 have hG:=goodA_any a W (hK.below hB.bel) ha
 have H0:Hid (SS w p G s/\Boxd w W a):=⟨h,hB⟩
 clear h hB hK ha
 rw [hg] at hG
 have HD:Hid (∀ V,Below w.heap.size w V->Calls Tryz.prog 87 #[.pointer (some ⟨p,0,none⟩),av a] V (DeedPost p G V er s')):=hD
 have HKi:Hid (a.kind=7/\s'.Fit/\s'.tb.Ok/\a.m.In):=⟨hk,fit',ok',hm⟩
 obtain ⟨ns,hns⟩ : ∃ z,(if er=0 then intoM s' a.m else [])=z:=⟨_,rfl⟩
 rw [hns]
 have HNs:Hid ((if er=0 then intoM s' a.m else [])=ns):=hns
 clear hD hk fit' ok' hm hns
 go_enter Tryz.func11,Tryz.ntmps11
 go_wp2_with fail
 try rw [fold]
 refine hM.mono ?_
 rintro e W ⟨rfl,rfl⟩
 clear hM
 go_wp2_with (refine wpList_load_row rfl 42 _ rfl w.heap.size rfl 42 (xcells a).toArray (0,0) _ H0.out.2.box Tryz.underlying42 rfl info17 ?_)
 refine hG.mono ?_
 rintro e V1 ⟨rfl,b1⟩
 have HB:Hid (Below w.heap.size w V1/\V1.heap[w.heap.size]? = some (.cells (xcells a).toArray 42 (0,0))):=⟨keptW H0.out.2.bel b1,(b1.block _ (yyD H0.out.2.box).1).trans H0.out.2.box⟩
 have x0:V1.cell? ⟨w.heap.size,0,none⟩=some (.int .i64 7):=by rw [(cells17 HB.out.2).1,HKi.out.1]
 have hE:=deed7_any V1
 clear hG b1 fold
 go_wp2_with fail
 refine hE.mono ?_
 rintro e V1 ⟨rfl,rfl⟩
 have hD:=HD.out V1 HB.out.1
 clear hE HD
 go_wp2_with (refine wpList_load_row rfl 42 _ rfl w.heap.size rfl 42 (xcells a).toArray (0,0) _ HB.out.2 Tryz.underlying42 rfl info17 ?_)
 refine hD.mono ?_
 rintro e V2 hP
 obtain ⟨rfl,G2,hS2,m2⟩:=hP
 have HP:Hid (DeedPost p G V1 er s' (.returned (.int .i64 er)) V2):=⟨rfl,G2,hS2,m2⟩
 have hbl:=(yyD HB.out.2).1
 have y0:V2.cell? ⟨w.heap.size,0,none⟩=some (.int .i64 7):=(World.cell?_of_block (w:=V1) (a:=⟨w.heap.size,0,none⟩) (m2.block w.heap.size hbl (fun hk=>by have:=H0.out.1.lts _ hk; omega))).trans x0
 have hbx:V2.heap[w.heap.size]? = some (.cells (xcells a).toArray 42 (0,0)):=(m2.block w.heap.size hbl (fun hk=>by have:=H0.out.1.lts _ hk; omega)).trans HB.out.2
 have hI:=into_any p G2 s' a.m V2 hS2 HKi.out.2.1 HKi.out.2.2.1 HKi.out.2.2.2.ex HKi.out.2.2.2.key
 have H2:Hid (SS V2 p G2 s'/\Moved V1 V2 G G2):=⟨hS2,m2⟩
 obtain ⟨y0',y1,y2,y3,y4,y5,y6,y7,y8,y9,y10,y11,y12,y13,y14,y15,y16⟩:=cells17 hbx
 clear hD hS2 m2 hbl y0' y1 y2 y3 y4 y5 y6 y7 y8 y9 y10 hbx
 by_cases he:er=0
 ·subst he
  have e:intoM s' a.m=ns:=HNs.out
  rw [e] at hI
  clear e
  go_wp2_with fail
  refine hI.mono ?_
  rintro e V3 ⟨v3,rfl,⟨r3,nw3⟩,b3⟩
  obtain ⟨va,vc,rfl⟩:=r3.sliceStrs
  have H3:Hid ((Row V3 (.slice va ns.length vc) (scells ns)/\Newer w.heap.size (.slice va ns.length vc) ns.length)/\Below V2.heap.size V2 V3):=⟨⟨r3,nw3.mono (Nat.le_trans HB.out.1.size H2.out.2.size)⟩,b3⟩
  clear hI r3 b3 nw3
  go_wp2
  go_ret2
  exact ⟨_,rfl,H3.out.1,G2,H2.out.1.kept H3.out.2,(Moved.from_below HB.out.1 H2.out.2).trans (.of_below H3.out.2)⟩
 ·obtain rfl:[]=ns:=by have:=HNs.out; rw [if_neg he] at this; exact this
  clear hI
  go_wp2
  go_ret2
  exact app_none HB.out.1 HP.out
theorem infoTp:(Tryz.prog.info? 24).map (·.size)=some 3:=by kernel_rfl
theorem edge14_any (w:World):Calls Tryz.prog 20 #[] w fun e w' => ∃ v,e=.returned (O.tv 2 v 2)/\K.RowOf O.ecells w' v [(1,2)]/\Below w.heap.size w w':=by
 obtain ⟨W,fold⟩ : ∃ W,w.alloc (.cells #[.int .i64 0,.slice none 0 0,.int .i64 0] 24)=W:=⟨_,rfl⟩
 have bW:Below w.heap.size w W:=by rw [<- fold]; exact box_below w _
 have kW:W.heap[w.heap.size]? = some (.cells #[.int .i64 0,.slice none 0 0,.int .i64 0] 24 (0,0)):=by rw [<- fold]; exact heap_alloc_new w _
 obtain ⟨X,foldX⟩ : ∃ X,W.alloc (.cells #[.int .i64 1,.int .i64 2] 80)=X:=⟨_,rfl⟩
 have bX:Below W.heap.size W X:=by rw [<- foldX]; exact box_below W _
 have kX:X.heap[w.heap.size]? = some (.cells #[.int .i64 0,.slice none 0 0,.int .i64 0] 24 (0,0)):=(bX.block _ (yyD kW).1).trans kW
 have rX:K.RowOf O.ecells X (.slice (some ⟨W.heap.size,0,none⟩) 1 1) [(1,2)]:=by rw [<- foldX]; exact K.rowK_one W ((1,2):Int × Int) _ rfl
 have hlt:=(yyD kW).1
 obtain ⟨y0,y1,y2⟩:=cells3 kX
 have f0:X.frozen? ⟨w.heap.size,0,none⟩=false:=frozen_of_row X w.heap.size 0 _ _ kX
 have f1:X.frozen? ⟨w.heap.size,1,none⟩=false:=frozen_of_row X w.heap.size 1 _ _ kX
 have f2:X.frozen? ⟨w.heap.size,2,none⟩=false:=frozen_of_row X w.heap.size 2 _ _ kX
 obtain ⟨Y,hY⟩ : ∃ Y,((X.setCell ⟨w.heap.size,0,none⟩ (.int .i64 2)).setCell ⟨w.heap.size,1,none⟩ (.slice (some ⟨W.heap.size,0,none⟩) 1 1)).setCell ⟨w.heap.size,2,none⟩ (.int .i64 2)=Y:=⟨_,rfl⟩
 have kY:Y.heap[w.heap.size]? = some (.cells #[.int .i64 2,.slice (some ⟨W.heap.size,0,none⟩) 1 1,.int .i64 2] 24 (0,0)):=by
  rw [<- hY]
  exact heap_setCell_same _ _ _ _ _ _ (heap_setCell_same _ _ _ _ _ _ (heap_setCell_same _ _ _ _ _ _ kX))
 have oY : ∀ k,k≠w.heap.size->Y.heap[k]? = X.heap[k]? := fun k hk=>by
  rw [<- hY]
  exact (heap_setCell_other _ _ _ _ hk).trans ((heap_setCell_other _ _ _ _ hk).trans (heap_setCell_other _ _ _ _ hk))
 have bY:Below w.heap.size w Y:=by
  rw [<- hY]
  exact (((keptW bW bX).setCell (p:=⟨w.heap.size,0,none⟩) (yyH _) _).setCell (p:=⟨w.heap.size,1,none⟩) (yyH _) _).setCell (p:=⟨w.heap.size,2,none⟩) (yyH _) _
 have H0:Hid (Y.heap[w.heap.size]? = some (.cells #[.int .i64 2,.slice (some ⟨W.heap.size,0,none⟩) 1 1,.int .i64 2] 24 (0,0))/\Below w.heap.size w Y/\K.RowOf O.ecells Y (.slice (some ⟨W.heap.size,0,none⟩) 1 1) [(1,2)]):=⟨kY,bY,rX.same fun g hg=>oY g (by simp only [Value.ownBlock,Option.some.injEq] at hg; omega)⟩
 clear bW kW bX kX rX hlt kY oY bY
 go_enter Tryz.func20,Tryz.ntmps20
 go_wp2
 try rw [fold]
 try rw [foldX]
 try rw [hY]
 refine bodyPost_ret (results_cell_row rfl _ _ w.heap.size 24 #[.int .i64 2,.slice (some ⟨W.heap.size,0,none⟩) 1 1,.int .i64 2] (0,0) _ rfl H0.out.1 Tryz.underlying24 rfl infoTp) rfl ?_
 exact ⟨_,rfl,H0.out.2.2,H0.out.2.1⟩
def xE:B.Ex:=⟨⟨#[120]⟩,2,true⟩
def mE:Ms:=⟨1,1,0,⟨#[120]⟩,⟨#[]⟩,⟨#[]⟩⟩
def a1E:Ax:=⟨3,⟨#[]⟩,0,0,0,⟨#[120]⟩,2,true,⟨#[]⟩,⟨#[]⟩,⟨#[]⟩,zM⟩
def a2E:Ax:=⟨7,⟨#[]⟩,0,0,0,⟨#[]⟩,0,false,⟨#[]⟩,⟨#[]⟩,⟨#[]⟩,mE⟩
def s0E:Sm:=newSm 1 2 [(1,2)] 2
def s1E:Sm:={ s0E with tb:=⟨[xE],[]⟩ }
def s2E:Sm:={ s1E with bk:=S.addF (fun _=>[]) 1 1,seq:=1,lk:=[(2,[hopM mE])] }
theorem declE:s0E.tb.declare xE=(0,⟨[xE],[]⟩):=by
 have h:B.goodX xE=true:=by kernel_rfl
 unfold B.Tb.declare
 rw [h]
 rfl
theorem waysE:O.onwardT 2 [(1,2)] 2 1 1=[2]:=by decide
theorem intoE:intoM s1E mE=[]:=by
 unfold intoM
 rw [show B.queuesT s1E.tb mE.ex mE.key=[] by kernel_rfl]
 rfl
theorem admE:admitM s1E mE=([2],0):=by
 unfold admitM ownM
 rw [if_pos (show mE.origin=s1E.site from rfl),if_neg (show ¬ s1E.seq=18446744073709551615 by decide),if_neg (show ¬ mE.seq≠(s1E.seq:Int)+1 by decide),if_neg (show ¬ mE.hop≠0 by decide)]
 rw [show B.findX s1E.tb.xs mE.ex=some xE by kernel_rfl]
 show (O.onwardT 2 [(1,2)] 2 1 1,(0:Int))=_
 rw [waysE]
theorem takenE:takenM s1E mE [2]=s2E:=by
 unfold takenM
 rw [intoE]
 rfl
theorem enterE:enterM s1E mE=(0,s2E):=by
 unfold enterM
 rw [admE,intoE]
 simp only [List.any_nil]
 rw [show [(2:Int)].any (fullT s1E)=false by kernel_rfl,takenE]
 rfl
theorem tbE:s1E.tb.Ok:=by
 have h:=(B.newT_ok).declare xE
 rw [show B.newT.declare xE=s0E.tb.declare xE from rfl,declE] at h
 exact h
theorem r1E:s1E.Ready where
 fit:=⟨List.nodup_nil,fun x hx=>(by cases hx),List.nodup_nil,fun x hx=>(by cases hx),fun x hx=>(by cases hx)⟩
 tb:=tbE
 bk:=⟨S.fineF_nil,fun _ _=>Nat.zero_le _⟩
 seq:=by decide
 qok:=fun x hx=>by cases hx
 up:=List.Pairwise.nil
 few:=fun x hx=>by cases hx
 nlk:=by decide
theorem r2E:s2E.Ready where
 fit:=⟨List.nodup_nil,fun x hx=>(by cases hx),by simp [s2E],fun x hx=>by simp [s2E] at hx; subst hx; unfold I64; simp,fun x hx=>by simp [s2E] at hx; subst hx; simp⟩
 tb:=tbE
 bk:=⟨S.fineF_nil.add 1 (by decide),fun i hi=>by
  show (S.addF (fun _=>[]) 1 1 i).length<=100000
  rw [show S.addF (fun _=>[]) 1 1=S.putF (fun _=>[]) 0 (S.addS [] 1) from S.addF_in (by decide) rfl]
  unfold S.putF
  rw [show S.addS [] 1=[(1,1)] by kernel_rfl]
  split <;> simp⟩
 seq:=by decide
 qok:=fun x hx=>by cases hx
 up:=List.pairwise_singleton _ _
 few:=fun x hx=>by simp [s2E] at hx; subst hx; simp
 nlk:=by decide
theorem inE:mE.In:=⟨by unfold maxLen; decide,by unfold maxLen; decide,by decide,by decide⟩
theorem fitE1:a1E.Fits:=by
 refine ⟨by decide,by unfold maxLen; decide,by decide,by decide,by decide,by unfold maxLen; decide,by decide,by unfold maxLen; decide,by unfold maxLen; decide,by unfold maxLen; decide,⟨by decide,by decide,by decide,by unfold maxLen; decide,by unfold maxLen; decide,by unfold maxLen; decide⟩⟩
theorem fitE2:a2E.Fits:=by
 refine ⟨by decide,by unfold maxLen; decide,by decide,by decide,by decide,by unfold maxLen; decide,by decide,by unfold maxLen; decide,by unfold maxLen; decide,by unfold maxLen; decide,⟨by decide,by decide,by decide,by unfold maxLen; decide,by unfold maxLen; decide,by unfold maxLen; decide⟩⟩
theorem goodE1:goodA a1E=true:=by kernel_rfl
theorem goodE2:goodA a2E=true:=by kernel_rfl
theorem lives14_any (w:World) (hK:Kinds w):Calls Tryz.prog 6 #[] w fun e w'=>e=.returned (.bool true)/\Below w.heap.size w w':=by
 have hE:=edge14_any w
 have HK:Hid (Kinds w):=hK
 clear hK
 go_enter Tryz.func6,Tryz.ntmps6
 go_wp2_with fail
 refine hE.mono ?_
 rintro e w1 ⟨v,rfl,r1,b1⟩
 have hN:=new14_any 1 2 2 v [(1,2)] w1 r1 (by decide) (by decide) (by decide) (by decide)
 obtain ⟨va,vc,hv⟩:=r1.slice
 subst hv
 clear hE r1
 have HB1:Hid (Below w.heap.size w w1):=b1
 clear b1
 go_wp2_with fail
 refine hN.mono ?_
 rintro e w2 ⟨p,rfl,G,h2,hG,b2⟩
 have B2:=keptW HB1.out b2
 have hA:=apply3_any p G s0E a1E w2 h2 (HK.out.below B2) fitE1 goodE1 rfl 0 s1E fun V b=>by
  have:=makeEx_any p G s0E a1E V (h2.kept b) (B.newT_ok) (by unfold maxLen; decide)
  rw [show s0E.tb.declare ⟨a1E.xn,a1E.xk,a1E.xf⟩=(0,⟨[xE],[]⟩) from declE] at this
  exact this
 have H2:Hid (Below w.heap.size w w2 /\ ∀ k,G k->w.heap.size<=k):=⟨B2,fun k hk=>Nat.le_trans HB1.out.size (hG k hk)⟩
 clear hN h2 hG b2 B2
 go_wp2_with fail
 refine hA.mono ?_
 rintro e w3 ⟨v3,rfl,row3,G3,h3,m3⟩
 have B3:Below w.heap.size w w3:=m3.below H2.out.2 H2.out.1 H2.out.1.size
 have hG3:=m3.from H2.out.2 H2.out.1.size
 have hA2:=apply7_any p G3 s1E a2E w3 h3 (HK.out.below B3) fitE2 goodE2 rfl 0 s2E r2E.fit r2E.tb inE fun V b=>by
  have:=enter_any p G3 s1E a2E V (h3.kept b) r1E inE (fun ways hw=>by
   rw [show admitM s1E a2E.m=([2],0) from admE] at hw
   injection hw with hw _
   subst hw
   exact ⟨fun t ht=>by simp at ht; subst ht; decide,by decide⟩)
  rw [show enterM s1E a2E.m=(0,s2E) from enterE] at this
  exact this
 obtain ⟨va3,vc3,hv3⟩:=row3.1.slice
 subst hv3
 have H3:Hid (Below w.heap.size w w3 /\ ∀ k,G3 k->w.heap.size<=k):=⟨B3,hG3⟩
 clear hA h3 m3 B3 hG3 row3
 go_wp2_with fail
 refine hA2.mono ?_
 rintro e w4 ⟨v4,rfl,row4,G4,h4,m4⟩
 have B4:Below w.heap.size w w4:=m4.below H3.out.2 H3.out.1 H3.out.1.size
 have hL:=link_any p G4 s2E 2 w4 h4 r2E.fit (by unfold I64; decide)
 obtain ⟨va4,vc4,hv4⟩:=row4.1.slice
 subst hv4
 have H4:Hid (Below w.heap.size w w4/\SS w4 p G4 s2E):=⟨B4,h4⟩
 clear hA2 h4 m4 B4 row4
 go_wp2_with fail
 refine hL.mono ?_
 rintro e w5 ⟨v5,rfl,o5,b5⟩
 obtain ⟨bb,off,cap,hv5,hc1,hc2,hcs⟩:=o5.rng.at (by decide)
 have c5:w5.cell? ⟨bb,off+2,none⟩=some (.int .i64 1):=hcs 2 _ rfl
 rw [show (linkOf s2E.lk 2).length=1 from rfl] at hv5
 subst hv5
 have hH:=has14_any p G4 s2E 1 1 w5 (H4.out.2.kept b5) r2E.bk (by decide)
 rw [show hasM s2E 1 1=true by kernel_rfl] at hH
 have H5:Hid (Below w.heap.size w w5/\SS w5 p G4 s2E):=⟨keptW H4.out.1 b5,H4.out.2.kept b5⟩
 clear hL o5 b5 hcs hc1 hc2
 go_wp2_with fail
 refine hH.mono ?_
 rintro e w6 ⟨rfl,b6⟩
 have hP:=parts14_any p G4 s2E w6 (H5.out.2.kept b6) r2E List.Pairwise.nil (by decide)
 have H6:Hid (Below w.heap.size w w6):=keptW H5.out.1 b6
 clear hH b6 c5
 go_wp2_with fail
 refine hP.mono ?_
 rintro e w7 ⟨P,rfl,hIs,b7⟩
 have hq:P.seq=1:=hIs.seq
 obtain ⟨sq,bt,⟨xa,xn,xc⟩,⟨ba,bn,bc⟩,⟨qa,qn,qc⟩,⟨sa,sn,sc⟩,⟨la,ln,lc⟩⟩:=P
 obtain rfl:sq=1:=hq
 have H7:Hid (Below w.heap.size w w7):=keptW H6.out b7
 clear hP hIs b7
 have hfd : ∀ V:World,(Instr.field 49 (.agg #[.int .u64 1,.int .u64 bt,.slice xa xn xc,.slice ba bn bc,.slice qa qn qc,.slice sa sn sc,.slice la ln lc]) 0).run Tryz.prog V=.ok (.int .u64 1) V:=fun V=>by first | rfl | kernel_rfl | simp [Instr.field,Tryz.underlying49]
 simp only [ptv,slv]
 go_wp2
 go_ret
 exact ⟨rfl,H7.out⟩
end Go.Proofs.YtnhnpnafchkhiaaGreatDoor
namespace Go.Proofs.YtnhnpnafchkhiaaGreatDoor
open Go.ChangeShapes Go.WideShapes Go.ChangeAt Go.RowKit
theorem own:ownKnob Tryz.prog.godebug=none:=by kernel_rfl
theorem laidOut:laidOutB Tryz.prog=true:=by kernel_rfl
theorem cellsI:Tryz.prog.cellsOf 3=1:=by kernel_rfl
theorem cellsU:Tryz.prog.cellsOf 32=1:=by kernel_rfl
theorem cellsStr:Tryz.prog.cellsOf 9=1:=by kernel_rfl
theorem cellsBool:Tryz.prog.cellsOf 4=1:=by kernel_rfl
theorem size_le {s:ByteArray} (h:s.data.toList.length<=reachBytes):s.size<=140737488355328:=by
 have:s.size=s.data.toList.length:=Array.length_toList.symm
 unfold reachBytes at h
 omega
theorem list2 {α:Type} {cs:List α} (h:cs.length=2) : ∃ a0 a1,cs=[a0,a1]:=by
 match cs,h with
 |[a0,a1],_=>exact ⟨a0,a1,rfl⟩
theorem list3 {α:Type} {cs:List α} (h:cs.length=3) : ∃ a0 a1 a2,cs=[a0,a1,a2]:=by
 match cs,h with
 |[a0,a1,a2],_=>exact ⟨a0,a1,a2,rfl⟩
theorem list5 {α:Type} {cs:List α} (h:cs.length=5) : ∃ a0 a1 a2 a3 a4,cs=[a0,a1,a2,a3,a4]:=by
 match cs,h with
 |[a0,a1,a2,a3,a4],_=>exact ⟨a0,a1,a2,a3,a4,rfl⟩
theorem list6 {α:Type} {cs:List α} (h:cs.length=6) : ∃ a0 a1 a2 a3 a4 a5,cs=[a0,a1,a2,a3,a4,a5]:=by
 match cs,h with
 |[a0,a1,a2,a3,a4,a5],_=>exact ⟨a0,a1,a2,a3,a4,a5,rfl⟩
theorem list8 {α:Type} {cs:List α} (h:cs.length=8) : ∃ a0 a1 a2 a3 a4 a5 a6 a7,cs=[a0,a1,a2,a3,a4,a5,a6,a7]:=by
 match cs,h with
 |[a0,a1,a2,a3,a4,a5,a6,a7],_=>exact ⟨a0,a1,a2,a3,a4,a5,a6,a7,rfl⟩
theorem list17 {α:Type} {cs:List α} (h:cs.length=17) : ∃ a0 a1 a2 a3 a4 a5 a6 a7 a8 a9 a10 a11 a12 a13 a14 a15 a16,cs=[a0,a1,a2,a3,a4,a5,a6,a7,a8,a9,a10,a11,a12,a13,a14,a15,a16]:=by
 match cs,h with
 |[a0,a1,a2,a3,a4,a5,a6,a7,a8,a9,a10,a11,a12,a13,a14,a15,a16],_=>exact ⟨a0,a1,a2,a3,a4,a5,a6,a7,a8,a9,a10,a11,a12,a13,a14,a15,a16,rfl⟩
theorem cells_ident:Tryz.prog.cellsOf 38=2:=by kernel_rfl
theorem cells_exch:Tryz.prog.cellsOf 34=3:=by kernel_rfl
theorem cells_bdg:Tryz.prog.cellsOf 36=3:=by kernel_rfl
theorem cells_msg:Tryz.prog.cellsOf 40=6:=by kernel_rfl
theorem cells_xact:Tryz.prog.cellsOf 42=17:=by kernel_rfl
def Ms.Small (m:Ms):Prop:=m.ex.size<=140737488355328/\m.key.size<=140737488355328/\m.body.size<=140737488355328
def Ax.Small (a:Ax):Prop:=a.name.size<=140737488355328/\a.xn.size<=140737488355328/\a.be.size<=140737488355328/\a.bq.size<=140737488355328/\a.bp.size<=140737488355328/\a.m.Small
section
variable {H:Type} {enc:TypeId × Value->H} {W:World}
theorem ident_fits {fuel:Nat} {cs:List Value} {x:DataW H × List MemPlace} (h:DataW.trod enc Tryz.prog W 0 (fun _=>true) true fuel 38 cs=some x) : ∃ o s:Int,cs=[.int .i64 o,.int .u64 s]/\(-9223372036854775808<=o/\o<9223372036854775808)/\(0<=s/\s<18446744073709551616):=by
 obtain ⟨xs,n,_,_,hl,hx,hf⟩:=DataW.trod_struct Tryz.underlying38 h
 have hl':cs.length=2:=hl.trans cells_ident
 have f0:=hf 0 _ rfl
 have f1:=hf 1 _ rfl
 change DataW.trod enc Tryz.prog W 0 (fun _=>true) true n 3 (List.take (Tryz.prog.cellsOf 3) (List.drop 0 cs))=xs[0]? at f0
 change DataW.trod enc Tryz.prog W 0 (fun _=>true) true n 32 (List.take (Tryz.prog.cellsOf 32) (List.drop 1 cs))=xs[1]? at f1
 rw [cellsI] at f0
 rw [cellsU] at f1
 have hx':xs.length=2:=hx
 obtain ⟨x0,x1,rfl⟩:=list2 hx'
 obtain ⟨c0,c1,rfl⟩:=list2 hl'
 obtain ⟨o,h0,_,w0⟩:=DataW.trod_int Tryz.underlying3 f0
 have e0:[c0]=[.int .i64 o]:=h0
 have b0:=bounds_i64 w0
 obtain ⟨s,h1,_,w1⟩:=DataW.trod_int Tryz.underlying32 f1
 have e1:[c1]=[.int .u64 s]:=h1
 have b1:=bounds_u64 w1
 simp only [List.cons.injEq,and_true] at e0 e1
 exact ⟨o,s,by rw [e0,e1],by omega,by omega⟩
theorem exch_fits {fuel:Nat} {cs:List Value} {x:DataW H × List MemPlace} (h:DataW.trod enc Tryz.prog W 0 (fun _=>true) true fuel 34 cs=some x) (hw : ∀ m∈x.1.weights Tryz.prog 34,m<=reachBytes) : ∃ (n:ByteArray) (k:Int) (f:Bool),cs=[.string n,.int .i64 k,.bool f]/\n.size<=140737488355328/\(-9223372036854775808<=k/\k<9223372036854775808):=by
 obtain ⟨xs,n,_,hxd,hl,hx,hf⟩:=DataW.trod_struct Tryz.underlying34 h
 have hl':cs.length=3:=hl.trans cells_exch
 have f0:=hf 0 _ rfl
 have f1:=hf 1 _ rfl
 have f2:=hf 2 _ rfl
 change DataW.trod enc Tryz.prog W 0 (fun _=>true) true n 9 (List.take (Tryz.prog.cellsOf 9) (List.drop 0 cs))=xs[0]? at f0
 change DataW.trod enc Tryz.prog W 0 (fun _=>true) true n 3 (List.take (Tryz.prog.cellsOf 3) (List.drop 1 cs))=xs[1]? at f1
 change DataW.trod enc Tryz.prog W 0 (fun _=>true) true n 4 (List.take (Tryz.prog.cellsOf 4) (List.drop 2 cs))=xs[2]? at f2
 rw [cellsStr] at f0
 rw [cellsI] at f1
 rw [cellsBool] at f2
 have hx':xs.length=3:=hx
 obtain ⟨x0,x1,x2,rfl⟩:=list3 hx'
 obtain ⟨c0,c1,c2,rfl⟩:=list3 hl'
 rw [hxd] at hw
 simp only [DataW.weights,Tryz.underlying34] at hw
 obtain ⟨n,h0,d0,_⟩:=DataW.trod_string Tryz.underlying9 f0
 have e0:[c0]=[.string n]:=h0
 have k0:n.data.toList.length<=reachBytes:=hw _ (DataW.weights_mem_each (j:=0) (t:=9) (d:=.lit (.string n.data.toList)) rfl (by simp [d0]) _ (by simp [DataW.weights]))
 obtain ⟨k,h1,_,w1⟩:=DataW.trod_int Tryz.underlying3 f1
 have e1:[c1]=[.int .i64 k]:=h1
 have b1:=bounds_i64 w1
 obtain ⟨f,h2,_⟩:=DataW.trod_bool Tryz.underlying4 f2
 have e2:[c2]=[.bool f]:=h2
 simp only [List.cons.injEq,and_true] at e0 e1 e2
 exact ⟨_,_,_,by rw [e0,e1,e2],size_le k0,by omega⟩
theorem bdg_fits {fuel:Nat} {cs:List Value} {x:DataW H × List MemPlace} (h:DataW.trod enc Tryz.prog W 0 (fun _=>true) true fuel 36 cs=some x) (hw : ∀ m∈x.1.weights Tryz.prog 36,m<=reachBytes) : ∃ e q p:ByteArray,cs=[.string e,.string q,.string p]/\e.size<=140737488355328/\q.size<=140737488355328/\p.size<=140737488355328:=by
 obtain ⟨xs,n,_,hxd,hl,hx,hf⟩:=DataW.trod_struct Tryz.underlying36 h
 have hl':cs.length=3:=hl.trans cells_bdg
 have f0:=hf 0 _ rfl
 have f1:=hf 1 _ rfl
 have f2:=hf 2 _ rfl
 change DataW.trod enc Tryz.prog W 0 (fun _=>true) true n 9 (List.take (Tryz.prog.cellsOf 9) (List.drop 0 cs))=xs[0]? at f0
 change DataW.trod enc Tryz.prog W 0 (fun _=>true) true n 9 (List.take (Tryz.prog.cellsOf 9) (List.drop 1 cs))=xs[1]? at f1
 change DataW.trod enc Tryz.prog W 0 (fun _=>true) true n 9 (List.take (Tryz.prog.cellsOf 9) (List.drop 2 cs))=xs[2]? at f2
 rw [cellsStr] at f0
 rw [cellsStr] at f1
 rw [cellsStr] at f2
 have hx':xs.length=3:=hx
 obtain ⟨x0,x1,x2,rfl⟩:=list3 hx'
 obtain ⟨c0,c1,c2,rfl⟩:=list3 hl'
 rw [hxd] at hw
 simp only [DataW.weights,Tryz.underlying36] at hw
 obtain ⟨e,h0,d0,_⟩:=DataW.trod_string Tryz.underlying9 f0
 have e0:[c0]=[.string e]:=h0
 have k0:e.data.toList.length<=reachBytes:=hw _ (DataW.weights_mem_each (j:=0) (t:=9) (d:=.lit (.string e.data.toList)) rfl (by simp [d0]) _ (by simp [DataW.weights]))
 obtain ⟨q,h1,d1,_⟩:=DataW.trod_string Tryz.underlying9 f1
 have e1:[c1]=[.string q]:=h1
 have k1:q.data.toList.length<=reachBytes:=hw _ (DataW.weights_mem_each (j:=1) (t:=9) (d:=.lit (.string q.data.toList)) rfl (by simp [d1]) _ (by simp [DataW.weights]))
 obtain ⟨p,h2,d2,_⟩:=DataW.trod_string Tryz.underlying9 f2
 have e2:[c2]=[.string p]:=h2
 have k2:p.data.toList.length<=reachBytes:=hw _ (DataW.weights_mem_each (j:=2) (t:=9) (d:=.lit (.string p.data.toList)) rfl (by simp [d2]) _ (by simp [DataW.weights]))
 simp only [List.cons.injEq,and_true] at e0 e1 e2
 exact ⟨_,_,_,by rw [e0,e1,e2],size_le k0,size_le k1,size_le k2⟩
theorem msg_fits {fuel:Nat} {cs:List Value} {x:DataW H × List MemPlace} (h:DataW.trod enc Tryz.prog W 0 (fun _=>true) true fuel 40 cs=some x) (hw : ∀ m∈x.1.weights Tryz.prog 40,m<=reachBytes) : ∃ m:Ms,cs=mcells m/\m.Fits/\m.Small:=by
 obtain ⟨xs,n,_,hxd,hl,hx,hf⟩:=DataW.trod_struct Tryz.underlying40 h
 have hl':cs.length=6:=hl.trans cells_msg
 have f0:=hf 0 _ rfl
 have f1:=hf 1 _ rfl
 have f2:=hf 2 _ rfl
 have f3:=hf 3 _ rfl
 have f4:=hf 4 _ rfl
 change DataW.trod enc Tryz.prog W 0 (fun _=>true) true n 38 (List.take (Tryz.prog.cellsOf 38) (List.drop 0 cs))=xs[0]? at f0
 change DataW.trod enc Tryz.prog W 0 (fun _=>true) true n 3 (List.take (Tryz.prog.cellsOf 3) (List.drop 2 cs))=xs[1]? at f1
 change DataW.trod enc Tryz.prog W 0 (fun _=>true) true n 9 (List.take (Tryz.prog.cellsOf 9) (List.drop 3 cs))=xs[2]? at f2
 change DataW.trod enc Tryz.prog W 0 (fun _=>true) true n 9 (List.take (Tryz.prog.cellsOf 9) (List.drop 4 cs))=xs[3]? at f3
 change DataW.trod enc Tryz.prog W 0 (fun _=>true) true n 9 (List.take (Tryz.prog.cellsOf 9) (List.drop 5 cs))=xs[4]? at f4
 rw [cells_ident] at f0
 rw [cellsI] at f1
 rw [cellsStr] at f2
 rw [cellsStr] at f3
 rw [cellsStr] at f4
 have hx':xs.length=5:=hx
 obtain ⟨x0,x1,x2,x3,x4,rfl⟩:=list5 hx'
 obtain ⟨c0,c1,c2,c3,c4,c5,rfl⟩:=list6 hl'
 rw [hxd] at hw
 simp only [DataW.weights,Tryz.underlying40] at hw
 obtain ⟨o0,s0,h0,b0,g0⟩:=ident_fits f0
 have e0:[c0,c1]=[.int .i64 o0,.int .u64 s0]:=h0
 obtain ⟨h,h1,_,w1⟩:=DataW.trod_int Tryz.underlying3 f1
 have e1:[c2]=[.int .i64 h]:=h1
 have b1:=bounds_i64 w1
 obtain ⟨e,h2,d2,_⟩:=DataW.trod_string Tryz.underlying9 f2
 have e2:[c3]=[.string e]:=h2
 have k2:e.data.toList.length<=reachBytes:=hw _ (DataW.weights_mem_each (j:=2) (t:=9) (d:=.lit (.string e.data.toList)) rfl (by simp [d2]) _ (by simp [DataW.weights]))
 obtain ⟨k,h3,d3,_⟩:=DataW.trod_string Tryz.underlying9 f3
 have e3:[c4]=[.string k]:=h3
 have k3:k.data.toList.length<=reachBytes:=hw _ (DataW.weights_mem_each (j:=3) (t:=9) (d:=.lit (.string k.data.toList)) rfl (by simp [d3]) _ (by simp [DataW.weights]))
 obtain ⟨b,h4,d4,_⟩:=DataW.trod_string Tryz.underlying9 f4
 have e4:[c5]=[.string b]:=h4
 have k4:b.data.toList.length<=reachBytes:=hw _ (DataW.weights_mem_each (j:=4) (t:=9) (d:=.lit (.string b.data.toList)) rfl (by simp [d4]) _ (by simp [DataW.weights]))
 simp only [List.cons.injEq,and_true] at e0 e1 e2 e3 e4
 exact ⟨⟨o0,s0,h,e,k,b⟩,by rw [e0.1,e0.2,e1,e2,e3,e4]; rfl,⟨b0,g0,by show _<=h/\h<_; omega,(Nat.le_trans (size_le k2) (by unfold maxLen; omega)),(Nat.le_trans (size_le k3) (by unfold maxLen; omega)),(Nat.le_trans (size_le k4) (by unfold maxLen; omega))⟩,size_le k2,size_le k3,size_le k4⟩
theorem xact_fits {fuel:Nat} {cs:List Value} {x:DataW H × List MemPlace} (h:DataW.trod enc Tryz.prog W 0 (fun _=>true) true fuel 42 cs=some x) (hw : ∀ m∈x.1.weights Tryz.prog 42,m<=reachBytes) : ∃ a:Ax,cs=xcells a/\a.Fits/\a.Small:=by
 obtain ⟨xs,n,_,hxd,hl,hx,hf⟩:=DataW.trod_struct Tryz.underlying42 h
 have hl':cs.length=17:=hl.trans cells_xact
 have f0:=hf 0 _ rfl
 have f1:=hf 1 _ rfl
 have f2:=hf 2 _ rfl
 have f3:=hf 3 _ rfl
 have f4:=hf 4 _ rfl
 have f5:=hf 5 _ rfl
 have f6:=hf 6 _ rfl
 have f7:=hf 7 _ rfl
 change DataW.trod enc Tryz.prog W 0 (fun _=>true) true n 3 (List.take (Tryz.prog.cellsOf 3) (List.drop 0 cs))=xs[0]? at f0
 change DataW.trod enc Tryz.prog W 0 (fun _=>true) true n 9 (List.take (Tryz.prog.cellsOf 9) (List.drop 1 cs))=xs[1]? at f1
 change DataW.trod enc Tryz.prog W 0 (fun _=>true) true n 3 (List.take (Tryz.prog.cellsOf 3) (List.drop 2 cs))=xs[2]? at f2
 change DataW.trod enc Tryz.prog W 0 (fun _=>true) true n 32 (List.take (Tryz.prog.cellsOf 32) (List.drop 3 cs))=xs[3]? at f3
 change DataW.trod enc Tryz.prog W 0 (fun _=>true) true n 3 (List.take (Tryz.prog.cellsOf 3) (List.drop 4 cs))=xs[4]? at f4
 change DataW.trod enc Tryz.prog W 0 (fun _=>true) true n 34 (List.take (Tryz.prog.cellsOf 34) (List.drop 5 cs))=xs[5]? at f5
 change DataW.trod enc Tryz.prog W 0 (fun _=>true) true n 36 (List.take (Tryz.prog.cellsOf 36) (List.drop 8 cs))=xs[6]? at f6
 change DataW.trod enc Tryz.prog W 0 (fun _=>true) true n 40 (List.take (Tryz.prog.cellsOf 40) (List.drop 11 cs))=xs[7]? at f7
 rw [cellsI] at f0
 rw [cellsStr] at f1
 rw [cellsI] at f2
 rw [cellsU] at f3
 rw [cellsI] at f4
 rw [cells_exch] at f5
 rw [cells_bdg] at f6
 rw [cells_msg] at f7
 have hx':xs.length=8:=hx
 obtain ⟨x0,x1,x2,x3,x4,x5,x6,x7,rfl⟩:=list8 hx'
 obtain ⟨c0,c1,c2,c3,c4,c5,c6,c7,c8,c9,c10,c11,c12,c13,c14,c15,c16,rfl⟩:=list17 hl'
 rw [hxd] at hw
 simp only [DataW.weights,Tryz.underlying42] at hw
 obtain ⟨kd,h0,_,w0⟩:=DataW.trod_int Tryz.underlying3 f0
 have e0:[c0]=[.int .i64 kd]:=h0
 have b0:=bounds_i64 w0
 obtain ⟨nm,h1,d1,_⟩:=DataW.trod_string Tryz.underlying9 f1
 have e1:[c1]=[.string nm]:=h1
 have k1:nm.data.toList.length<=reachBytes:=hw _ (DataW.weights_mem_each (j:=1) (t:=9) (d:=.lit (.string nm.data.toList)) rfl (by simp [d1]) _ (by simp [DataW.weights]))
 obtain ⟨n,h2,_,w2⟩:=DataW.trod_int Tryz.underlying3 f2
 have e2:[c2]=[.int .i64 n]:=h2
 have b2:=bounds_i64 w2
 obtain ⟨tg,h3,_,w3⟩:=DataW.trod_int Tryz.underlying32 f3
 have e3:[c3]=[.int .u64 tg]:=h3
 have b3:=bounds_u64 w3
 obtain ⟨tt,h4,_,w4⟩:=DataW.trod_int Tryz.underlying3 f4
 have e4:[c4]=[.int .i64 tt]:=h4
 have b4:=bounds_i64 w4
 obtain ⟨n5,k5,q5,h5,b5,g5⟩:=exch_fits f5 (fun k hk=>hw k (DataW.weights_mem_each (j:=5) (t:=34) (d:=x5.1) rfl rfl k hk))
 have e5:[c5,c6,c7]=[.string n5,.int .i64 k5,.bool q5]:=h5
 obtain ⟨e6a,e6b,e6c,h6,b6,g6,r6⟩:=bdg_fits f6 (fun k hk=>hw k (DataW.weights_mem_each (j:=6) (t:=36) (d:=x6.1) rfl rfl k hk))
 have e6:[c8,c9,c10]=[.string e6a,.string e6b,.string e6c]:=h6
 obtain ⟨m7,h7,b7,g7⟩:=msg_fits f7 (fun k hk=>hw k (DataW.weights_mem_each (j:=7) (t:=40) (d:=x7.1) rfl rfl k hk))
 have e7:[c11,c12,c13,c14,c15,c16]=mcells m7:=h7
 simp only [mcells] at e7
 simp only [List.cons.injEq,and_true] at e0 e1 e2 e3 e4 e5 e6 e7
 exact ⟨⟨kd,nm,n,tg,tt,n5,k5,q5,e6a,e6b,e6c,m7⟩,by rw [e0,e1,e2,e3,e4,e5.1,e5.2.1,e5.2.2,e6.1,e6.2.1,e6.2.2,e7.1,e7.2.1,e7.2.2.1,e7.2.2.2.1,e7.2.2.2.2.1,e7.2.2.2.2.2]; rfl,⟨by show _<=kd/\kd<_; omega,(Nat.le_trans (size_le k1) (by unfold maxLen; omega)),by show _<=n/\n<_; omega,by show _<=tg/\tg<_; omega,by show _<=tt/\tt<_; omega,Nat.le_trans b5 (by unfold maxLen; omega),g5,Nat.le_trans b6 (by unfold maxLen; omega),Nat.le_trans g6 (by unfold maxLen; omega),Nat.le_trans r6 (by unfold maxLen; omega),b7⟩,size_le k1,b5,b6,g6,r6,g7⟩
end
abbrev twv (m n:Ms):Value:=.agg #[.int .i64 m.origin,.int .u64 m.seq,.int .i64 m.hop,.string m.ex,.string m.key,.string m.body,.int .i64 n.origin,.int .u64 n.seq,.int .i64 n.hop,.string n.ex,.string n.key,.string n.body]
end Go.Proofs.YtnhnpnafchkhiaaGreatDoor
