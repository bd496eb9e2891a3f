import Derived.Test.YtnhnpnafchkhiaaGreatDoorQwA
import Derived.Test.YtnhnpnafchkhiaaGreatDoorQw36
import Derived.Test.YtnhnpnafchkhiaaGreatDoorQw34
import Derived.Test.YtnhnpnafchkhiaaGreatDoorQw21
import Derived.Test.YtnhnpnafchkhiaaGreatDoorQw14
import Derived.Test.YtnhnpnafchkhiaaGreatDoorQw27
set_option maxHeartbeats 4000000
set_option maxRecDepth 20000
namespace Go.Proofs.YtnhnpnafchkhiaaGreatDoor
open Go.ChangeShapes Go.WideShapes Go.ChangeAt Go.RowKit
theorem gKin:Tryz.prog.globalNamed "staith/act.kinds"=some 0:=by kernel_rfl
theorem gKinType:(Tryz.prog.globals[0]?).map (·.type)=some 202:=by kernel_rfl
theorem cellsRow:Tryz.prog.cellsOf 201=2:=by kernel_rfl
theorem cellsKin:Tryz.prog.cellsOf 202=24:=by kernel_rfl
theorem laid_tail {P:Program} {W:World} {x:String × DataW Unit} {rest:List (String × DataW Unit)} (h:laidMet P (x::rest) W):laidMet P rest W:=by
 obtain ⟨ps,⟨g,t,cs,fuel,p,q,hg,ht,hv,hd,hr,rfl⟩,hn,hc⟩:=h
 exact ⟨q,hr,(List.nodup_append.1 hn).2.1,fun b off hm=>hc b off (List.mem_append_right _ hm)⟩
theorem row_cells {H:Type} {enc:TypeId × Value->H} {W:World} {fuel:Nat} {cs:List Value} {x:DataW H × List MemPlace} {sp:Nat->Bool} {held:Bool} {base:Nat} {k:Int} {l:List UInt8} (h:DataW.trod enc Tryz.prog W base sp held fuel 201 cs=some x) (hx:x.1=.agg [.lit (.int .i64 k),.lit (.string l)]):cs=[.int .i64 k,.string ⟨l.toArray⟩]:=by
 obtain ⟨xs,n,_,hxd,hl,hxl,hf⟩:=DataW.trod_struct Tryz.underlying201 h
 have hl':cs.length=2:=hl.trans cellsRow
 have f0:=hf 0 _ rfl
 have f1:=hf 1 _ rfl
 change DataW.trod enc Tryz.prog W base sp held n 3 (List.take (Tryz.prog.cellsOf 3) (List.drop 0 cs))=xs[0]? at f0
 change DataW.trod enc Tryz.prog W base sp held n 9 (List.take (Tryz.prog.cellsOf 9) (List.drop 1 cs))=xs[1]? at f1
 rw [cellsI] at f0
 rw [cellsStr] at f1
 have hx':xs.length=2:=hxl
 obtain ⟨x0,x1,rfl⟩:=list2 hx'
 obtain ⟨c0,c1,rfl⟩:=list2 hl'
 obtain ⟨z,h0,d0,_⟩:=DataW.trod_int Tryz.underlying3 f0
 obtain ⟨s,h1,d1,_⟩:=DataW.trod_string Tryz.underlying9 f1
 have e0:[c0]=[.int .i64 z]:=h0
 have e1:[c1]=[.string s]:=h1
 simp only [List.cons.injEq,and_true] at e0 e1
 rw [hxd] at hx
 simp only [List.map_cons,List.map_nil,d0,d1] at hx
 injection hx with hx
 simp only [List.cons.injEq,and_true] at hx
 obtain ⟨q0,q1⟩:=hx
 injection q0 with q0
 injection q0 with _ q0
 injection q1 with q1
 injection q1 with q1
 rw [e0,e1,q0,<- q1]
def kindsD:List (Int × List UInt8):=[(1,[110,100]),(2,[110]),(3,[120]),(4,[110]),(5,[98]),(6,[98]),(7,[109]),(8,[110]),(9,[110,116]),(10,[110,116]),(11,[115,99]),(12,[])]
theorem kinds_of {W:World} {rest:List (String × DataW Unit)} (h:laidMet Tryz.prog (("staith/act.kinds",Rows.laid_staith_act_kinds)::rest) W):Kinds W:=by
 obtain ⟨ps,⟨g,t,cs,fuel,p,q,hg,ht,hv,hd,hr,_⟩,_⟩:=h
 obtain rfl:=Option.some.inj (gKin.symm.trans hg)
 obtain rfl:=Option.some.inj (gKinType.symm.trans ht)
 obtain ⟨xs,m,_,hxd,hl,hxl,hf⟩:=DataW.trod_array Tryz.underlying202 hd
 rw [cellsKin] at hl
 have hxs:xs.map (·.1)=kindsD.map fun r=>(.agg [.lit (.int .i64 r.1),.lit (.string r.2)]:DataW Unit):=by
  have:=congrArg Prod.fst hxd
  injection this with this
  exact this.symm
 have hrow : ∀ i (hi:i<12),(cs.toList.drop (i*2)).take 2=[.int .i64 (kindsD.getD i (0,[])).1,.string ⟨(kindsD.getD i (0,[])).2.toArray⟩]:=by
  intro i hi
  have h1:=hf i hi
  rw [cellsRow] at h1
  have hi':i<xs.length:=by omega
  rw [List.getElem?_eq_getElem hi'] at h1
  refine row_cells h1 ?_
  have h2:=congrArg (fun l=>l[i]?) hxs
  simp only [List.getElem?_map,List.getElem?_eq_getElem hi',Option.map_some] at h2
  have hk:kindsD[i]? = some (kindsD.getD i (0,[])):=by
   rw [List.getD_eq_getElem?_getD,List.getElem?_eq_getElem (show i<kindsD.length from hi)]
   rfl
  rw [hk,Option.map_some] at h2
  exact Option.some.inj h2
 intro j u hj
 have hj24:j<24:=(List.getElem?_eq_some_iff.1 hj).1
 rw [World.var?_cell gKin hv j]
 have hi:j / 2<12:=by omega
 have hr:=hrow (j / 2) hi
 have hc:cs.toList[j]? = ((cs.toList.drop (j / 2*2)).take 2)[j % 2]? := by
  rw [List.getElem?_take,if_pos (by omega),List.getElem?_drop]
  congr 1
  omega
 rw [hr] at hc
 have hcs:cs[j]? = cs.toList[j]? := by simp
 rw [hcs,hc,<- hj]
 have hb : ∀ j,j<24->([Value.int .i64 (kindsD.getD (j / 2) (0,[])).1,.string ⟨(kindsD.getD (j / 2) (0,[])).2.toArray⟩]:List Value)[j % 2]? = [Value.int .i64 1,.string ⟨#[110,100]⟩,.int .i64 2,.string ⟨#[110]⟩,.int .i64 3,.string ⟨#[120]⟩,.int .i64 4,.string ⟨#[110]⟩,.int .i64 5,.string ⟨#[98]⟩,.int .i64 6,.string ⟨#[98]⟩,.int .i64 7,.string ⟨#[109]⟩,.int .i64 8,.string ⟨#[110]⟩,.int .i64 9,.string ⟨#[110,116]⟩,.int .i64 10,.string ⟨#[110,116]⟩,.int .i64 11,.string ⟨#[115,99]⟩,.int .i64 12,.string ⟨#[]⟩][j]? := by
  intro j hj
  match j,hj with
  |0,_=>rfl
  |1,_=>rfl
  |2,_=>rfl
  |3,_=>rfl
  |4,_=>rfl
  |5,_=>rfl
  |6,_=>rfl
  |7,_=>rfl
  |8,_=>rfl
  |9,_=>rfl
  |10,_=>rfl
  |11,_=>rfl
  |12,_=>rfl
  |13,_=>rfl
  |14,_=>rfl
  |15,_=>rfl
  |16,_=>rfl
  |17,_=>rfl
  |18,_=>rfl
  |19,_=>rfl
  |20,_=>rfl
  |21,_=>rfl
  |22,_=>rfl
  |23,_=>rfl
  |n+24,h=>omega
 have hg:=hb j hj24
 exact hg
theorem tab_of {W:World} (h:laidMetH Tryz.prog [("unicode/utf8.acceptRanges",Rows.laid_unicode_utf8_acceptRanges),("staith/act.kinds",Rows.laid_staith_act_kinds),("unicode/utf8.first",Rows.laid_unicode_utf8_first)] W):Kinds W:=by
 have h0:laidMet Tryz.prog [("unicode/utf8.acceptRanges",Rows.laid_unicode_utf8_acceptRanges),("staith/act.kinds",Rows.laid_staith_act_kinds),("unicode/utf8.first",Rows.laid_unicode_utf8_first)] W:=h
 exact kinds_of (laid_tail h0)
end Go.Proofs.YtnhnpnafchkhiaaGreatDoor
namespace Go.Proofs.YtnhnpnafchkhiaaGreatDoor
open Go.RowKit
theorem new14_none (site N0 H:Int) (v:Value) (E:List (Int × Int)) (w:World) (hr:K.RowOf O.ecells w v E) (hg:O.goodB N0 E H=false\/site<1\/N0<site) :
  Calls Tryz.prog 7 #[.int .i64 site,O.tv N0 v H] w fun e w'=>e=.returned (.pointer none)/\Below w.heap.size w w':=by
 obtain ⟨a,cap,rfl⟩:=hr.slice
 obtain ⟨n,hn⟩ : ∃ z,E.length=z:=⟨_,rfl⟩
 rw [hn] at hr ⊢
 obtain ⟨W,fold⟩ : ∃ W,w.alloc (.cells #[.int .i64 N0,.slice a n cap,.int .i64 H] 24)=W:=⟨_,rfl⟩
 have bW:Below w.heap.size w W:=by rw [<- fold]; exact box_below w _
 have kW:W.heap[w.heap.size]? = some (.cells #[.int .i64 N0,.slice a n cap,.int .i64 H] 24 (0,0)):=by rw [<- fold]; exact heap_alloc_new w _
 have hG:=O.good_any N0 H (.slice a n cap) E W (hr.below bW (yyH _))
 obtain ⟨x0,x1,x2⟩:=cells3 kW
 have HW:Hid (Below w.heap.size w W/\W.heap[w.heap.size]? = some (.cells #[.int .i64 N0,.slice a n cap,.int .i64 H] 24 (0,0))):=⟨bW,kW⟩
 clear bW kW hr hn
 cases hb:O.goodB N0 E H
 ·rw [hb] at hG
  clear hb hg
  go_enter Tryz.func7,Tryz.ntmps7
  go_wp2_with fail
  try rw [fold]
  refine hG.mono ?_
  rintro e W1 ⟨rfl,b1⟩
  clear hG
  go_wp2
  go_ret
  exact ⟨rfl,keptW HW.out.1 b1⟩
 ·rw [hb] at hG hg
  have hg:site<1\/N0<site:=by simpa using hg
  by_cases s1:site<1
  ·clear hb hg
   go_enter Tryz.func7,Tryz.ntmps7
   go_wp2_with fail
   try rw [fold]
   refine hG.mono ?_
   rintro e W1 ⟨rfl,b1⟩
   clear hG
   go_wp2
   go_ret
   exact ⟨rfl,keptW HW.out.1 b1⟩
  ·have s2:N0<site:=by omega
   clear hb hg
   go_enter Tryz.func7,Tryz.ntmps7
   go_wp2_with fail
   try rw [fold]
   refine hG.mono ?_
   rintro e W1 ⟨rfl,b1⟩
   clear hG
   have y0:W1.cell? ⟨w.heap.size,0,none⟩=some (.int .i64 N0):=(cells3 ((b1.block _ (yyD HW.out.2).1).trans HW.out.2)).1
   go_wp2
   go_ret
   exact ⟨rfl,keptW HW.out.1 b1⟩
instance encA:K.Enc xcells 17:=⟨fun _=>rfl,fun a u hu=>by simp [xcells] at hu; rcases hu with rfl | rfl | rfl | rfl | rfl | rfl | rfl | rfl | rfl | rfl | rfl | rfl | rfl | rfl | rfl | rfl | rfl <;> rfl,by decide⟩
def Ax.Sum (a:Ax):Prop:=a.name.size+a.xn.size+a.be.size+a.bq.size+a.bp.size+a.m.ex.size+a.m.key.size+a.m.body.size<=2000000000000000
theorem exec_load_off {P:Program} {o:Oper} {a:Act} {w:World} (ty:TypeId) (x:Operand) (ho:o.op=.load ty x)
  (g off:Nat) (hx:a.eval x=.pointer (some ⟨g,off,none⟩)) (cs:List Value) (d:TypeDesc) (hc : ∀ j u,cs[j]? = some u->w.cell? ⟨g,off+j,none⟩=some u)
  (hu:P.underlying ty=some d) (hd:(match d with | .struct _ | .array _ _=>true | _=>false)=true) (hi:(P.info? ty).map (·.size)=some cs.length) :
  (execOp a.eval o).run P w=.ok (.value (.agg cs.toArray)) w:=by
 have hl:(loadCells ⟨g,off,none⟩ cs.length).run P w=.ok cs.toArray w :=
  run_loadCells_list (P:=P) w ⟨g,off,none⟩ cs (fun j v hv=>by
   have hadd:(⟨g,off,none⟩:Addr).add j=⟨g,off+j,none⟩:=by unfold Addr.add; split <;> simp_all
   rw [hadd]
   exact hc j v hv)
 have hlv:(loadVar ty ⟨g,off,none⟩).run P w=.ok (.agg cs.toArray) w:=by
  cases hq:P.info? ty with
  |none=>simp [hq] at hi
  |some i =>
   have hs:i.size=cs.length:=by simpa [hq] using hi
   have hagg:(isAgg ty).run P w=.ok true w:=by
    unfold isAgg
    rw [Sem.run_bind,run_underlying hu w]
    cases d <;> simp_all
   simp [loadVar,Sem.run_bind,hagg,sizeOf,typeInfo,hq,hs,hl]
 unfold execOp
 simp only [ho,hx,Instr.loadAt,Instr.sureAddr,Sem.run_bind,Sem.run_pure,Result.andThen_ok,hlv]
theorem wpList_load_off {P:Program} {ops:Array Oper} {rest:List Oper} {o:Oper} {a:Act} {w:World} {Q:Exit->Act->World->Prop} (hgd:o.guard=none) (ty:TypeId) (x:Operand) (ho:o.op=.load ty x)
  (g off:Nat) (hx:a.eval x=.pointer (some ⟨g,off,none⟩)) (cs:List Value) (d:TypeDesc) (hc : ∀ j u,cs[j]? = some u->w.cell? ⟨g,off+j,none⟩=some u)
  (hu:P.underlying ty=some d) (hd:(match d with | .struct _ | .array _ _=>true | _=>false)=true) (hi:(P.info? ty).map (·.size)=some cs.length)
  (h:wpList P ops Q rest (a.put o.dst (.agg cs.toArray)) w):wpList P ops Q (o::rest) a w :=
 wpList_plain hgd fun _ hK=>by
  unfold Oper.wp
  rw [exec_load_off ty x ho g off hx cs d hc hu hd hi]
  exact hK _ _ h
theorem weight_any (a:Ax) (w:World) (hs:a.Sum):Calls Tryz.prog 19 #[av a] w fun e w' => ∃ n:Nat,e=.returned (.int .i64 (n:Int))/\(1<=n/\n<=2000000000000001)/\Below w.heap.size w w':=by
 obtain ⟨W,fold⟩ : ∃ W,w.alloc (.cells #[.int .i64 a.kind,.string a.name,.int .i64 a.n,.int .u64 a.tag,.int .i64 a.to,.string a.xn,.int .i64 a.xk,.bool a.xf,.string a.be,.string a.bq,.string a.bp,.int .i64 a.m.origin,.int .u64 a.m.seq,.int .i64 a.m.hop,.string a.m.ex,.string a.m.key,.string a.m.body] 42)=W:=⟨_,rfl⟩
 have b0:Below w.heap.size w W:=by rw [<- fold]; exact box_below w _
 have x0:W.heap[w.heap.size]? = some (.cells (xcells a).toArray 42 (0,0)):=by rw [<- fold]; exact heap_alloc_new w _
 obtain ⟨V0,fold0⟩ : ∃ X,W.alloc (.cells #[.int .i64 0,.int .u64 0,.int .i64 0,.string ⟨#[]⟩,.string ⟨#[]⟩,.string ⟨#[]⟩] 40)=X:=⟨_,rfl⟩
 have z0:V0.heap[W.heap.size]? = some (.cells (mcells zM).toArray 40 (0,0)):=by rw [<- fold0]; exact heap_alloc_new W _
 have bV0:Below W.heap.size W V0:=by rw [<- fold0]; exact box_below W _
 obtain ⟨X,foldX⟩ : ∃ X,V0.setRow W.heap.size (mcells a.m).toArray=X:=⟨_,rfl⟩
 have bX:Below W.heap.size W X:=by rw [<- foldX]; exact below_setRow bV0 (yyH _) _
 have xB:X.heap[W.heap.size]? = some (.cells (mcells a.m).toArray 40 (0,0)):=by rw [<- foldX]; exact setRow_heap _ _ _ _ _ _ z0
 obtain ⟨y0,y1,y2,y3,y4,y5,y6,y7,y8,y9,y10,y11,y12,y13,y14,y15,y16⟩:=cells17 x0
 obtain ⟨k0,k1,k2,k3,k4,k5,k6,k7,k8,k9,k10,k11,k12,k13,k14,k15,k16⟩:=cells17 ((bX.block _ (yyD x0).1).trans x0)
 obtain ⟨m0,m1,m2,m3,m4,m5⟩:=cellsM xB
 have HZ:Hid (V0.heap[W.heap.size]? = some (.cells (mcells zM).toArray 40 (0,0))/\Below w.heap.size w X):=⟨z0,keptW b0 bX⟩
 unfold Ax.Sum at hs
 have w1:IntKind.i64.wrap ((a.name.size:Int)+a.xn.size)=(a.name.size:Int)+a.xn.size:=by rw [IntKind.wrap_i64]; omega
 have w2:IntKind.i64.wrap ((a.name.size:Int)+a.xn.size+a.be.size)=(a.name.size:Int)+a.xn.size+a.be.size:=by rw [IntKind.wrap_i64]; omega
 have w3:IntKind.i64.wrap ((a.name.size:Int)+a.xn.size+a.be.size+a.bq.size)=(a.name.size:Int)+a.xn.size+a.be.size+a.bq.size:=by rw [IntKind.wrap_i64]; omega
 have w4:IntKind.i64.wrap ((a.name.size:Int)+a.xn.size+a.be.size+a.bq.size+a.bp.size)=(a.name.size:Int)+a.xn.size+a.be.size+a.bq.size+a.bp.size:=by rw [IntKind.wrap_i64]; omega
 have w5:IntKind.i64.wrap ((a.name.size:Int)+a.xn.size+a.be.size+a.bq.size+a.bp.size+a.m.ex.size)=(a.name.size:Int)+a.xn.size+a.be.size+a.bq.size+a.bp.size+a.m.ex.size:=by rw [IntKind.wrap_i64]; omega
 have w6:IntKind.i64.wrap ((a.name.size:Int)+a.xn.size+a.be.size+a.bq.size+a.bp.size+a.m.ex.size+a.m.key.size)=(a.name.size:Int)+a.xn.size+a.be.size+a.bq.size+a.bp.size+a.m.ex.size+a.m.key.size:=by rw [IntKind.wrap_i64]; omega
 have w7:IntKind.i64.wrap ((a.name.size:Int)+a.xn.size+a.be.size+a.bq.size+a.bp.size+a.m.ex.size+a.m.key.size+a.m.body.size)=(a.name.size:Int)+a.xn.size+a.be.size+a.bq.size+a.bp.size+a.m.ex.size+a.m.key.size+a.m.body.size:=by rw [IntKind.wrap_i64]; omega
 obtain ⟨T,hT⟩ : ∃ T:Int,(a.name.size:Int)+a.xn.size+a.be.size+a.bq.size+a.bp.size+a.m.ex.size+a.m.key.size+a.m.body.size=T:=⟨_,rfl⟩
 have hT0:0<=T/\T<=2000000000000000:=by omega
 have HT:Hid (0<=T/\T<=2000000000000000):=hT0
 have w8:IntKind.i64.wrap (T / 100)=T / 100:=by rw [IntKind.wrap_i64]; omega
 have w9:IntKind.i64.wrap (1+T / 100)=1+T / 100:=by rw [IntKind.wrap_i64]; omega
 have w10:T.tdiv 100=T / 100:=by rw [Int.tdiv_eq_ediv_of_nonneg hT0.1]
 rw [hT] at w7
 clear hs b0 x0 z0 bV0 bX xB hT0
 go_enter Tryz.func19,Tryz.ntmps19
 go_wp2_with (refine wpList_store_row rfl 40 _ _ rfl W.heap.size (mcells a.m).toArray rfl rfl 40 (mcells zM).toArray HZ.out.1 infoM rfl (by simp [mcells,Value.oneCell']) ?_)
 go_ret
 refine ⟨(1+T / 100).toNat,?_,?_,HZ.out.2⟩
 ·refine ret_int ?_
  have:=HT.out
  omega
 ·have:=HT.out
  omega
theorem light14_any (v:Value) (l:List Ax) (w:World) (hr:K.RowOf xcells w v l) (hf : ∀ a∈l,a.Sum) :
  Calls Tryz.prog 5 #[v] w fun e w' => ∃ b,e=.returned (.bool b)/\(b=true->l.length<=200)/\Below w.heap.size w w':=by
 obtain ⟨va,vc,rfl⟩:=hr.slice
 obtain ⟨n0,hn0⟩ : ∃ z,l.length=z:=⟨_,rfl⟩
 rw [hn0]
 have HR:Hid (K.RowOf xcells w (.slice va n0 vc) l/\l.length=n0 /\ ∀ a∈l,a.Sum):=⟨by rw [<- hn0]; exact hr,hn0,hf⟩
 clear hr hf hn0
 go_enter Tryz.func5,Tryz.ntmps5
 go_wp2
 go_loopg [3,5,8] n0 (fun g u3 u5 u8 wr => ∃ i n:Nat,u3=.int .i64 (n:Int)/\u8=.int .i64 (i:Int)/\i<=n0/\g=n0-i/\i<=n/\n<=200/\Hid (Below w.heap.size w wr))
 case atStart=>exact ⟨0,0,rfl,rfl,Nat.zero_le _,rfl,yyH _,by omega,Below.refl _ _⟩
 case round =>
  obtain ⟨i,n,rfl,rfl,hi,rfl,hin,hn,HB⟩:=hrel
  by_cases hlt:i<n0
  ·have hlt':(i:Int)<(n0:Int):=by omega
   have hil:i<l.length:=by rw [HR.out.2.1]; exact hlt
   obtain ⟨b,off,cap,hv,hc1,hc2,hcs⟩:=K.RowOf.at HR.out.1 (by omega)
   rw [HR.out.2.1] at hv hc1
   injection hv with hv1 _ hv2
   subst hv1 hv2
   obtain ⟨a,ha⟩ : ∃ a,l[i]=a:=⟨_,rfl⟩
   have hsum:a.Sum:=HR.out.2.2 a (by rw [<- ha]; exact List.getElem_mem hil)
   have hcell : ∀ j u,(xcells a)[j]? = some u->wr.cell? ⟨b,off+i*17+j,none⟩=some u:=fun j u hj=>by
    have hj17:j<17:=(List.getElem?_eq_some_iff.1 hj).1
    have:=K.row_cell hcs i hil j hj17 u (by rw [ha]; exact hj)
    exact cell_on HB.out this
   have HC:Hid (∀ j u,(xcells a)[j]? = some u->wr.cell? ⟨b,off+i*17+j,none⟩=some u):=hcell
   obtain ⟨X0,foldX⟩ : ∃ X,wr.alloc (.cells #[.int .i64 0,.string ⟨#[]⟩,.int .i64 0,.int .u64 0,.int .i64 0,.string ⟨#[]⟩,.int .i64 0,.bool false,.string ⟨#[]⟩,.string ⟨#[]⟩,.string ⟨#[]⟩,.int .i64 0,.int .u64 0,.int .i64 0,.string ⟨#[]⟩,.string ⟨#[]⟩,.string ⟨#[]⟩] 42)=X:=⟨_,rfl⟩
   have zX:X0.heap[wr.heap.size]? = some (.cells (xcells (zA 0)).toArray 42 (0,0)):=by rw [<- foldX]; exact heap_alloc_new wr _
   have bX0:Below wr.heap.size wr X0:=by rw [<- foldX]; exact box_below wr _
   obtain ⟨X1,foldX1⟩ : ∃ X,X0.setRow wr.heap.size (xcells a).toArray=X:=⟨_,rfl⟩
   have bX1:Below wr.heap.size wr X1:=by rw [<- foldX1]; exact below_setRow bX0 (yyH _) _
   have xX1:X1.heap[wr.heap.size]? = some (.cells (xcells a).toArray 42 (0,0)):=by rw [<- foldX1]; exact setRow_heap _ _ _ _ _ _ zX
   have HX:Hid (X0.heap[wr.heap.size]? = some (.cells (xcells (zA 0)).toArray 42 (0,0))/\X1.heap[wr.heap.size]? = some (.cells (xcells a).toArray 42 (0,0))/\X0.setRow wr.heap.size (xcells a).toArray=X1/\Below w.heap.size w X1):=⟨zX,xX1,foldX1,keptW HB.out bX1⟩
   have hW:=weight_any a X1 hsum
   have hi63:i<1000:=by omega
   clear hcell zX bX0 bX1 xX1 hsum hcs hc1 hc2 ha hil
   go_wp2_with (first
    |refine wpList_load_off rfl 42 _ rfl b (off+i*17) rfl (xcells a) _ HC.out Tryz.underlying42 rfl info17 ?_
    |refine wpList_store_row rfl 42 _ _ rfl wr.heap.size (xcells a).toArray rfl rfl 42 (xcells (zA 0)).toArray (by first | exact HX.out.1 | (rw [foldX]; exact HX.out.1)) info17 rfl (one17 _) ?_; (try rw [foldX]); (try rw [foldX1])
    |refine wpList_load_row rfl 42 _ rfl wr.heap.size rfl 42 (xcells a).toArray (0,0) _ HX.out.2.1 Tryz.underlying42 rfl info17 ?_)
   refine hW.mono ?_
   rintro e V2 ⟨n2,rfl,hn2,b2⟩
   clear hW
   have HB2:Hid (Below w.heap.size w V2):=keptW HX.out.2.2.2 b2
   have hw:IntKind.i64.wrap ((n:Int)+(n2:Int))=((n+n2:Nat):Int):=by rw [IntKind.wrap_i64]; omega
   clear b2
   by_cases h200:(200:Int)<((n+n2:Nat):Int)
   ·go_wp2
    go_ret
    first | exact .inl ⟨rfl,HB2.out⟩ | exact ⟨false,rfl,fun h=>Bool.noConfusion h,HB2.out⟩
   ·go_wp2
    go_roundg (n0-(i+1))
    case measure=>omega
    case rel=>exact ⟨i+1,n+n2,rfl,congrArg (Value.int IntKind.i64) (by omega),by omega,rfl,by omega,by omega,HB2⟩
  ·have hlt' : ¬ (i:Int)<(n0:Int):=by omega
   go_wp2
   go_ret
   exact .inr ⟨rfl,by omega,HB.out⟩
end Go.Proofs.YtnhnpnafchkhiaaGreatDoor
namespace Go.Proofs.YtnhnpnafchkhiaaGreatDoor
open Go.ChangeShapes Go.WideShapes Go.ChangeAt Go.RowKit
theorem open_xacts {H:Type} {enc:TypeId × Value->H} {W:World} {base:Nat} {v:Value} {d:DataW H} {p:List MemPlace} (hval:Value.okWide Tryz.prog W .any base 25 v)
  (h:DataW.Trod enc Tryz.prog W 0 (fun _=>true) true 25 v d p) (hw : ∀ n∈d.weights Tryz.prog 25,n<=reachBytes) : ∃ l,K.RowOf xcells W v l/\(∀ a∈l,a.Fits/\a.Small):=by
 exact K.open_structs (enc:=xcells) (K:=17) Tryz.underlying25 cells_xact (fun a=>a.Fits/\a.Small) (fun n cs x hx hw=>xact_fits hx hw) hval h hw
theorem Ax.Small.sum {a:Ax} (h:a.Small):a.Sum:=by
 obtain ⟨h1,h2,h3,h4,h5,h6,h7,h8⟩:=h
 unfold Ax.Sum
 omega
theorem open_topo {H:Type} {enc:TypeId × Value->H} {W:World} {base:Nat} {v:Value} {d:DataW H} {p:List MemPlace} (hval:Value.okWide Tryz.prog W .any base 24 v)
  (h:DataW.Trod enc Tryz.prog W 0 (fun _=>true) true 24 v d p) : ∃ a:O.Tp,v=O.tpv a /\ ∃ l,K.RowOf O.ecells W a.v l:=O.open_topo hval h
end Go.Proofs.YtnhnpnafchkhiaaGreatDoor
namespace Go.Proofs.YtnhnpnafchkhiaaGreatDoor
open Go.RowKit
theorem zero6 : ∀ k:Nat,(((mv zM).cells)[k % ((mv zM).cells).size]!).oneCell'=true:=by
 intro k
 have hk:k % 6<6:=Nat.mod_lt _ (by decide)
 show (#[Value.int .i64 0,.int .u64 0,.int .i64 0,.string ⟨#[]⟩,.string ⟨#[]⟩,.string ⟨#[]⟩][k % 6]!).oneCell'=true
 generalize k % 6=j at hk
 have:j=0\/j=1\/j=2\/j=3\/j=4\/j=5:=by omega
 rcases this with rfl | rfl | rfl | rfl | rfl | rfl <;> rfl
theorem deleteM_row (g c nx nt N:Nat) (x t:List Ms) (T:List Value) (w:World) (hnx:x.length=nx) (hnt:t.length=nt) (hN:nx+nt=N) (hx1:1<=nx) (hg:w.heap[g]? = some (.cells (K.cellsOf mcells (x++t)++T).toArray 40 (0,0))) (hc:N<=c) (hcm:c<=maxLen) (hT:T.length=c*6-N*6) :
  Calls Tryz.prog 148 #[.slice (some ⟨g,0,none⟩) N c,.int .i64 0,.int .i64 (nx:Int)] w fun e w' =>
   e=.returned (.slice (some ⟨g,0,none⟩) nt c)/\K.Only g w w' /\ ∃ T',w'.heap[g]? = some (.cells (K.cellsOf mcells t++T').toArray 40 (0,0))/\T'.length=c*6-nt*6:=by
 obtain ⟨i0,hi0,hz0,hzs,hzb⟩:=msgInfo
 have hc63:c<=9223372036854775807:=by unfold maxLen at hcm; omega
 have hlt:(K.cellsOf mcells t).length=nt*6:=by rw [K.cellsOf_length (enc:=mcells) (K:=6) t,hnt]
 have hlx:(K.cellsOf mcells x).length=nx*6:=by rw [K.cellsOf_length (enc:=mcells) (K:=6) x,hnx]
 have hap:K.cellsOf mcells (x++t)=K.cellsOf mcells x++K.cellsOf mcells t:=K.cellsOf_append _ _
 have S1:Hid (∀ j v,(K.cellsOf mcells t)[j]? = some v->w.cell? ((⟨g,nx*6,none⟩:Addr).add j)=some v):=fun j v hj=>by
  rw [Addr.add_lit,K.cell_of_list hg,hap,List.append_assoc,List.getElem?_append_right (by omega),hlx,Nat.add_sub_cancel_left,List.getElem?_append_left (List.getElem?_eq_some_iff.1 hj).1]
  exact hj
 obtain ⟨cur,hcur⟩ : ∃ z,K.cellsOf mcells (x++t)++T=z:=⟨_,rfl⟩
 rw [hcur] at hg
 have hlen:cur.length=c*6:=by rw [<- hcur,hap,List.length_append,List.length_append,hlx,hlt,hT]; omega
 have HG:Hid (w.heap[g]? = some (.cells cur.toArray 40 (0,0))/\cur.length=c*6/\(K.cellsOf mcells t).length=nt*6):=⟨hg,hlen,hlt⟩
 have HS:Hid (splice cur (0*6) (K.cellsOf mcells t)=K.cellsOf mcells t++cur.drop (nt*6)):=by
  show splice _ _ _=_
  unfold splice
  rw [Nat.zero_mul,List.take_zero,hlt]; simp
 have HL:Hid (nx+nt=N/\1<=nx/\N<=c/\c<=9223372036854775807/\(t.length=nt)/\(∀ z,t.length=0->K.cellsOf mcells t++z=z)):=⟨hN,hx1,hc,hc63,hnt,fun z h=>by rw [List.eq_nil_of_length_eq_zero h]; rfl⟩
 have a1:(nx:Int)<=(N:Int):=by omega
 have a2:(N:Int)<=(c:Int):=by omega
 have a3:((0:Int)==(nx:Int))=false:=by rw [beq_eq_false_iff_ne]; omega
 have a4 : ¬ ((0:Int)=(nx:Int)):=by omega
 have a5:nx<=N:=by omega
 have a6:nx<=c:=by omega
 have a7:N-nx=nt:=by omega
 have a8:nt<=N:=by omega
 have a9:(nt:Int)<=(N:Int):=by omega
 have a10 : ¬ (c=nt):=by omega
 have a11:(nx:Int)<=(c:Int):=by omega
 have a12:N<=c:=hc
 clear hg hT hlx hlt hap hcur hlen hnx
 go_enter Tryz.func148,Tryz.ntmps148
 by_cases h1:c=nx
 ·obtain rfl:nt=0:=by omega
  obtain rfl:N=nx:=by omega
  subst h1
  go_wp2
  go_region_law (refine K.step_appendK_room rfl (.tmp 22) (.tmp 25) 62 rfl 40 i0 Tryz.underlying62 hi0 hzs g 0 c (by simp [Act.eval,Act.put]) cur HG.out.1 ⟨g,0,none⟩ 0 0 (by simp [Act.eval,Act.put]) [] rfl (fun j v hj=>by simp at hj) (by simp) (by omega) (by rw [HG.out.2.1]; simp) ?_; intro w1 HG1 only1)
  go_wp2_with (refine K.wpList_clearK (K:=6) rfl (.tmp 31) 62 rfl 40 Tryz.underlying62 _ Tryz.zeroValue40 rfl zero6 (some ⟨g,0,none⟩) c c rfl g 0 _ 40 HG1.out (fun _=>rfl) (by rw [length_splice _ _ _ (by rw [HG.out.2.1]; simp),HG.out.2.1]; omega) ?_; intro w2 zs hzs2 HG2 only2)
  go_ret
  refine ⟨rfl,(show K.Only g w w1 from ⟨only1.os,only1.tape,only1.output,only1.size,only1.block⟩).trans only2,_,by rw [HL.out.2.2.2.2.2 _ HL.out.2.2.2.2.1]; exact HG2.out,?_⟩
  rw [length_splice _ _ _ (by rw [length_splice _ _ _ (by rw [HG.out.2.1]; simp),HG.out.2.1,hzs2]; omega),length_splice _ _ _ (by rw [HG.out.2.1]; simp),HG.out.2.1]
  omega
 ·have h2 : ¬ (c-nx=0):=by omega
  go_wp2
  go_region_law (refine K.step_appendK_room rfl (.tmp 22) (.tmp 25) 62 rfl 40 i0 Tryz.underlying62 hi0 hzs g 0 c (by simp [Act.eval,Act.put]) cur HG.out.1 ⟨g,nx*6,none⟩ nt (c-nx) (by simp [Act.eval,Act.put]) (K.cellsOf mcells t) HG.out.2.2 S1.out (K.cellsOf_one _) (by omega) (by rw [HG.out.2.1,HG.out.2.2]; omega) ?_; intro w1 HG1 only1)
  rw [HS.out] at HG1
  go_wp2_with (refine K.wpList_clearK (K:=6) rfl (.tmp 31) 62 rfl 40 Tryz.underlying62 _ Tryz.zeroValue40 rfl zero6 (some ⟨g,nt*6,none⟩) (N-nt) (c-nt) (by simp [Act.eval]) g (nt*6) _ 40 HG1.out (fun _=>rfl) (by rw [List.length_append,List.length_drop,HG.out.2.1,HG.out.2.2]; omega) ?_; intro w2 zs hzs2 HG2 only2)
  go_ret
  refine ⟨rfl,(show K.Only g w w1 from ⟨only1.os,only1.tape,only1.output,only1.size,only1.block⟩).trans only2,zs++(cur.drop (nt*6)).drop zs.length,?_,?_⟩
  ·rw [HG2.out,K.splice_in _ (K.cellsOf mcells t) _ zs 0 (nt*6) rfl (by rw [HG.out.2.2]; omega)]
   simp
  ·rw [List.length_append,List.length_drop,List.length_drop,hzs2,HG.out.2.1]; omega
theorem deleteM_any (base:Nat) (v:Value) (x t:List Ms) (w:World) (hown:OwnM w base v (x++t)) (hx:1<=x.length) :
  Calls Tryz.prog 148 #[v,.int .i64 0,.int .i64 (x.length:Int)] w fun e w' =>
   ∃ v',e=.returned v'/\OwnM w' base v' t/\w.grownBy w' v.ownBlock/\v'.ownBlock=v.ownBlock:=by
 rcases K.OwnOf.split hown with ⟨_,h⟩ | ⟨g,c,T,rfl,hbg,hg,h1,h2,hT⟩
 ·have:=congrArg List.length h
  rw [List.length_append,List.length_nil] at this
  omega
 ·rw [List.length_append] at h1 hT ⊢
  refine (deleteM_row g c x.length t.length (x.length+t.length) x t T w rfl rfl rfl hx hg h1 h2 hT).mono ?_
  rintro e w' ⟨rfl,only,T',hg',hT'⟩
  exact ⟨_,rfl,K.ownOf_mk hbg hg' rfl (by omega) h2 hT',only.grown,rfl⟩
end Go.Proofs.YtnhnpnafchkhiaaGreatDoor
