import Derived.RangeFuncNested
import Derived.RangeFuncBound
import Derived.RangeFuncCalls
import Derived.RangeFuncLeaves
import Derived.RangeFuncBox
import Derived.Shelf.Abstract
import Derived.Shelf.RegionOpen
import Derived.WalkKit
import Derived.OwnWalkIn
import Derived.TacticsInMore
import Derived.LoopNIn
import Derived.LoopIn
import Derived.Maps.AppendAt
import Derived.Shelf.Strings.Search3
import Derived.Shelf.Strings.Count
import Derived.Shelf.Slices.Turned
import Derived.Test.YtnhnpnafchkhiaaGreatDoorProg
import Derived.Test.YtnhnpnafchkhiaaGreatDoorQw0
set_option maxHeartbeats 2000000
set_option maxRecDepth 100000
namespace Go.Proofs.YtnhnpnafchkhiaaGreatDoor
open Go.RowKit Go.Shelf
def Kept (lo hi:Nat) (A B:World):Prop := ∀ b,lo<=b->b<hi->B.heap[b]? = A.heap[b]?
theorem Kept.refl (lo hi:Nat) (A:World):Kept lo hi A A:=fun _ _ _=>rfl
theorem Kept.trans {lo hi:Nat} {A B C:World} (h:Kept lo hi A B) (k:Kept lo hi B C):Kept lo hi A C:=fun b h1 h2=>(k b h1 h2).trans (h b h1 h2)
theorem Kept.putObj (lo hi:Nat) (A:World) (l:Nat) (o:Obj) (hl:hi<=l):Kept lo hi A (A.putObj l o):=fun b _ h2=>World.putObj_heap_other (by omega)
theorem Kept.cell {lo hi:Nat} {A B:World} (h:Kept lo hi A B) (b o:Nat) (h1:lo<=b) (h2:b<hi):B.cell? ⟨b,o,none⟩=A.cell? ⟨b,o,none⟩:=World.cell?_of_block (a:=⟨b,o,none⟩) (h b h1 h2)
theorem Kept.frozen {lo hi:Nat} {A B:World} (h:Kept lo hi A B) (b o:Nat) (h1:lo<=b) (h2:b<hi):B.frozen? ⟨b,o,none⟩=A.frozen? ⟨b,o,none⟩:=World.frozen?_of_block (a:=⟨b,o,none⟩) (h b h1 h2)
variable {F:Fence} {n:Nat} {P:Program}
def SeqBox {α:Type} (F:Fence) (n:Nat) (P:Program) (g:Nat) (lb:Array Value) (encs:α->Array Value) (Bs lo hi:Nat) (S:List α->Prop) (N:Nat) (w:World):Prop :=
 ∀ (l:Nat) (J:List α->World->Prop) (W:World),Below w.heap.size w W->(∀ pre A B row,J pre A->A.grownBy B row->(∀ r,row=some r->r=Bs)->J pre B) ->
  (∀ pre x W1,J pre W1->pre.length<N->YieldAt F (n-1) P l (encs x) W1 fun e W'=>e=.returned (.bool true)/\J (pre++[x]) W'/\Kept lo hi W1 W') ->
  J [] W->CallsIn F n P g (#[.func (.yield l) #[] #[]]++lb) W fun e W'=>(∃ v,e=.returned v) /\ ∃ xs,S xs/\J xs W'
theorem wpIn_range_box {α:Type} {g:Operand} {ps:Array Tmp} {assign body:Code} {Q:Exit->Act->World->Prop} {a:Act} {w:World} (hro:F.round=none) (h1:1<=n) {gf:Nat} {lb:Array Value}
  (hg:a.eval g=.func (.func gf) #[] lb) (hF:F.fn gf) (eg : ∀ args w,(callFunc gf args).run P w=.ok (.enter gf args) w) {encs:α->Array Value} {Bs lo:Nat} {S:List α->Prop} {N:Nat} (hBs:Bs<w.heap.size)
  (hseq:SeqBox F (n-1) P gf lb encs Bs lo w.heap.size S N w) (hps : ∀ x,(encs x).size=ps.size) (I:List α->World->Prop)
  (hI : ∀ pre A B row,I pre A->A.grownBy B row->(∀ r,row=some r->r=Bs\/(w.heap.size<=r /\ ∃ o:Obj,A.heap[r]? = some o/\o.isCells=false))->I pre B) (h0:I [] w) (a1:α->Act)
  (hassign : ∀ (l:Nat) (x:α) (W:World) (K:Act->World->Prop),K (a1 x) W ->
   assign.wpIn (F.inRound l) (n-1-1) P (Exit.then K (fun _ _ _=>False)) { tmps:=(ps.zip (encs x)).foldl (fun t (p,v)=>t.setIfInBounds p v) a.tmps,defers:=[] } W)
  (hbody : ∀ (l:Nat) (pre:List α) (x:α) (W:World),I pre W->pre.length<N->body.wpIn (F.inRound l) (n-1-1) P (fun e _ W'=>e=.normal/\KeepsFrom w.heap.size W W'/\Kept lo w.heap.size W W'/\I (pre++[x]) W') (a1 x) W)
  (hdone : ∀ (D:Nat) (xs:List α) (W:World),w.heap.size<=D->S xs->I xs W->W.heap[D]? = some (.deferred (some []))->Q .normal { a with defers:={ target:=.collected D,args := #[] }::a.defers } W) :
  (Code.rangeFunc g ps assign body).wpIn F n P Q a w:=by
 refine wpIn_rangeFunc fun fn hfn=>?_
 rw [hro]
 obtain ⟨r,hr⟩ : ∃ r:Loop,r={ state:=.ready,pending:=none,fn,tmps:=a.tmps,params:=ps,assign,body,defers:=w.heap.size }:=⟨_,rfl⟩
 have hsize:((w.alloc (.deferred (some []))).alloc (.loop r)).heap.size=w.heap.size+2:=by simp
 have hrec:((w.alloc (.deferred (some []))).alloc (.loop r)).heap[w.heap.size+1]? = some (.loop r):=by
  have:=World.alloc_heap_new (w.alloc (.deferred (some []))) (.loop r); rwa [World.size_alloc] at this
 have hdef:((w.alloc (.deferred (some []))).alloc (.loop r)).heap[w.heap.size]? = some (.deferred (some [])) :=
  (Below.heap_alloc _ _ _ (by simp)).trans (World.alloc_heap_new w _)
 have hst:I [] ((w.alloc (.deferred (some []))).alloc (.loop r)) :=
  hI _ _ _ none (hI _ _ _ none h0 (World.grownBy_alloc w _ none) (fun _ e=>by cases e)) (World.grownBy_alloc _ _ none) (fun _ e=>by cases e)
 have hb:Below w.heap.size w ((w.alloc (.deferred (some []))).alloc (.loop r)):=((Below.refl _ w).alloc (Nat.le_refl _) _).alloc (by simp) _
 refine ⟨w.heap.size+1,[{ target:=.collected w.heap.size,args := #[] }],(w.alloc (.deferred (some []))).alloc (.loop r),{ target:=.fn (.func gf) lb,args := #[.func (.yield (w.heap.size+1)) #[] #[]] },_,gf,
  #[.func (.yield (w.heap.size+1)) #[] #[]]++lb,_,by rw [hr]; exact run_enterLoop_outer _ _ _ _ _,by simp only [resolve,hg]; simp [go_sem]; rfl,?_,by simp [invoke,go_sem,eg]; rfl,fun _=>h1,?_⟩
 ·intro f' hf'
  simp [Target.leads] at hf'
  subst hf'
  exact hF
 have key:=hseq (w.heap.size+1) (fun pre W=>I pre W/\W.heap[w.heap.size+1]? = some (.loop r)/\W.heap[w.heap.size]? = some (.deferred (some []))) _ hb
  (fun pre A B row hA hgr hrow=>by
   have hne : ∀ k,w.heap.size<=k->some k≠row:=fun k hk e=>by have:=hrow k e.symm; omega
   exact ⟨hI pre A B row hA.1 hgr (fun x e=>.inl (hrow x e)),(hgr.block _ (Array.getElem?_eq_some_iff.1 hA.2.1).1 (hne _ (by omega))).trans hA.2.1,(hgr.block _ (Array.getElem?_eq_some_iff.1 hA.2.2).1 (hne _ (Nat.le_refl _))).trans hA.2.2⟩)
  ?_ ⟨hst,hrec,hdef⟩
 ·refine key.mono ?_
  rintro e W2 ⟨⟨v,rfl⟩,xs,hS,hi,hl,hk⟩
  refine ⟨none,_,?_,hdone _ xs _ (Nat.le_refl _) hS (hI xs W2 _ (some (w.heap.size+1)) hi (grownBy_putObj' W2 _ (.loop { r with state:=.exhausted })) (fun x e=>by cases e; exact .inr ⟨by omega,_,hl,rfl⟩)) ((World.putObj_heap_other (by omega)).trans hk)⟩
  have:=run_endLoop (P:=P) hl (by rw [hr]; simp)
  rw [hr] at this ⊢
  exact this
 ·rintro pre x W ⟨hi,hl,hk⟩ hlen
  have hlt:w.heap.size+1<W.heap.size:=(Array.getElem?_eq_some_iff.1 hl).1
  have hy:=run_yield (P:=P) (args:=encs x) hl (by rw [hr]; exact hps x)
  rw [hr] at hy
  have busy:(W.putObj (w.heap.size+1) (.loop { r with state:=.busy })).heap[w.heap.size+1]? = some (.loop { r with state:=.busy }):=World.putObj_heap_same hlt
  have dfr:(W.putObj (w.heap.size+1) (.loop { r with state:=.busy })).heap[w.heap.size]? = some (.deferred (some [])):=(World.putObj_heap_other (by omega)).trans hk
  refine ⟨fn,_,assign,body,hy,roundIn_of_wpIn hfn (hassign _ x W _ ⟨_,run_beginRound hl (by rw [hr]),?_⟩)⟩
  refine wpIn_mono (hbody _ pre x _ (hI pre W _ (some (w.heap.size+1)) hi (grownBy_putObj' W _ _) (fun x e=>by cases e; exact .inr ⟨by omega,_,hl,rfl⟩)) hlen) ?_
  rintro e a3 W3 ⟨rfl,hk3,hkp,hi3⟩
  have b3:=hk3.same _ _ (by omega) busy rfl
  have d3:=hk3.same _ _ (Nat.le_refl _) dfr rfl
  have hend:=run_endRound (P:=P) none b3
  have hback:({ ({ r with state:=.busy }:Loop) with state:=if (none:Option Code).isNone=true then .ready else .done,pending:=none }:Loop)=r:=by rw [hr]; rfl
  rw [hback] at hend
  refine ⟨_,_,hend,rfl,⟨hI _ W3 _ (some (w.heap.size+1)) hi3 (grownBy_putObj' W3 _ _) (fun x e=>by cases e; exact .inr ⟨by omega,_,b3,rfl⟩),World.putObj_heap_same (Array.getElem?_eq_some_iff.1 b3).1,(World.putObj_heap_other (by omega)).trans d3⟩,?_⟩
  exact ((Kept.putObj lo _ W _ _ (by omega)).trans hkp).trans (Kept.putObj lo _ W3 _ _ (by omega))
end Go.Proofs.YtnhnpnafchkhiaaGreatDoor
namespace Go.Proofs
open Go.Shelf
def Tryz.lays143_ren:Go.Shelf.Ren:=⟨fun | 143=>303 | 219=>307 | 217=>310 | 225=>311 | 224=>312 | 267=>313 | 266=>315 | 314=>316 | n=>n,fun | 9=>9 | 3=>3 | 4=>4 | 5=>5 | 46=>226 | 146=>334 | 51=>262 | n=>n,fun | 1=>1 | n=>n⟩
theorem Tryz.lays143:Go.Proofs.Lays.n143 Tryz.prog Tryz.lays143_ren:={
 mixed:=by kernel_rfl
 f143:=Tryz.func303.trans (congrArg some (by kernel_rfl))
 f217:=Tryz.func310.trans (congrArg some (by kernel_rfl))
 f219:=Tryz.func307.trans (congrArg some (by kernel_rfl))
 f224:=Tryz.func312.trans (congrArg some (by kernel_rfl))
 f225:=Tryz.func311.trans (congrArg some (by kernel_rfl))
 f266:=Tryz.func315.trans (congrArg some (by kernel_rfl))
 f267:=Tryz.func313.trans (congrArg some (by kernel_rfl))
 f314:=Tryz.func316.trans (congrArg some (by kernel_rfl))
 t3:=Tryz.underlying3
 a3:=Tryz.isAgg3
 z3:=Tryz.sizeOf3
 v3:=Tryz.zeroValue3
 t4:=Tryz.underlying4
 a4:=Tryz.isAgg4
 z4:=Tryz.sizeOf4
 v4:=Tryz.zeroValue4
 t5:=Tryz.underlying5
 a5:=Tryz.isAgg5
 z5:=Tryz.sizeOf5
 v5:=Tryz.zeroValue5
 t9:=Tryz.underlying9
 a9:=Tryz.isAgg9
 z9:=Tryz.sizeOf9
 v9:=Tryz.zeroValue9
 t46:=Tryz.underlying226
 a46:=Tryz.isAgg226
 z46:=Tryz.sizeOf226
 v46:=Tryz.zeroValue226
 t51:=Tryz.underlying262
 a51:=Tryz.isAgg262
 z51:=Tryz.sizeOf262
 v51:=Tryz.zeroValue262
 t146:=Tryz.underlying334
 a146:=Tryz.isAgg334
 z146:=Tryz.sizeOf334
 v146:=Tryz.zeroValue334
 g1:=by kernel_rfl }
def Tryz.lays138_ren:Go.Shelf.Ren:=⟨fun | 138=>288 | 195=>301 | 218=>302 | 143=>303 | 219=>307 | 217=>310 | 225=>311 | 224=>312 | 267=>313 | 266=>315 | 314=>316 | n=>n,fun | 9=>9 | 3=>3 | 4=>4 | 5=>5 | 0=>0 | 46=>226 | 146=>334 | 51=>262 | n=>n,fun | 1=>1 | n=>n⟩
theorem Tryz.lays138:Go.Proofs.Lays.n138 Tryz.prog Tryz.lays138_ren:={
 mixed:=by kernel_rfl
 f138:=Tryz.func288.trans (congrArg some (by kernel_rfl))
 f143:=Tryz.func303.trans (congrArg some (by kernel_rfl))
 f195:=Tryz.func301.trans (congrArg some (by kernel_rfl))
 f217:=Tryz.func310.trans (congrArg some (by kernel_rfl))
 f218:=Tryz.func302.trans (congrArg some (by kernel_rfl))
 f219:=Tryz.func307.trans (congrArg some (by kernel_rfl))
 f224:=Tryz.func312.trans (congrArg some (by kernel_rfl))
 f225:=Tryz.func311.trans (congrArg some (by kernel_rfl))
 f266:=Tryz.func315.trans (congrArg some (by kernel_rfl))
 f267:=Tryz.func313.trans (congrArg some (by kernel_rfl))
 f314:=Tryz.func316.trans (congrArg some (by kernel_rfl))
 t0:=Tryz.underlying0
 a0:=Tryz.isAgg0
 z0:=Tryz.sizeOf0
 v0:=Tryz.zeroValue0
 t3:=Tryz.underlying3
 a3:=Tryz.isAgg3
 z3:=Tryz.sizeOf3
 v3:=Tryz.zeroValue3
 t4:=Tryz.underlying4
 a4:=Tryz.isAgg4
 z4:=Tryz.sizeOf4
 v4:=Tryz.zeroValue4
 t5:=Tryz.underlying5
 a5:=Tryz.isAgg5
 z5:=Tryz.sizeOf5
 v5:=Tryz.zeroValue5
 t9:=Tryz.underlying9
 a9:=Tryz.isAgg9
 z9:=Tryz.sizeOf9
 v9:=Tryz.zeroValue9
 t46:=Tryz.underlying226
 a46:=Tryz.isAgg226
 z46:=Tryz.sizeOf226
 v46:=Tryz.zeroValue226
 t51:=Tryz.underlying262
 a51:=Tryz.isAgg262
 z51:=Tryz.sizeOf262
 v51:=Tryz.zeroValue262
 t146:=Tryz.underlying334
 a146:=Tryz.isAgg334
 z146:=Tryz.sizeOf334
 v146:=Tryz.zeroValue334
 g1:=by kernel_rfl }
def Tryz.lays110_ren:Go.Shelf.Ren:=⟨fun | 110=>279 | 109=>297 | n=>n,fun | 31=>52 | 9=>9 | 4=>4 | 3=>3 | 0=>0 | n=>n,fun | n=>n⟩
theorem Tryz.lays110:Go.Proofs.Lays.n110 Tryz.prog Tryz.lays110_ren:={
 mixed:=by kernel_rfl
 f109:=Tryz.func297.trans (congrArg some (by kernel_rfl))
 f110:=Tryz.func279.trans (congrArg some (by kernel_rfl))
 t0:=Tryz.underlying0
 a0:=Tryz.isAgg0
 z0:=Tryz.sizeOf0
 v0:=Tryz.zeroValue0
 t3:=Tryz.underlying3
 a3:=Tryz.isAgg3
 z3:=Tryz.sizeOf3
 v3:=Tryz.zeroValue3
 t4:=Tryz.underlying4
 a4:=Tryz.isAgg4
 z4:=Tryz.sizeOf4
 v4:=Tryz.zeroValue4
 t9:=Tryz.underlying9
 a9:=Tryz.isAgg9
 z9:=Tryz.sizeOf9
 v9:=Tryz.zeroValue9
 t31:=Tryz.underlying52
 a31:=Tryz.isAgg52
 z31:=Tryz.sizeOf52
 v31:=Tryz.zeroValue52 }
end Go.Proofs
namespace Go.Proofs.YtnhnpnafchkhiaaGreatDoor
open Go.RowKit Go.Shelf
attribute [local go_sem] Oper.semAt_some
def str (l:Txt):ByteArray:=⟨l.toArray⟩
theorem txt_str (l:Txt):txt (str l)=l:=by simp [txt,str]
theorem str_txt (s:ByteArray):str (txt s)=s:=txt_inj (txt_str _)
theorem txt_extract (t:ByteArray) (a b:Nat):txt (t.extract a b)=((txt t).drop a).take (b-a):=by
 unfold txt
 rw [ByteArray.data_extract,Array.toList_extract,List.extract_eq_take_drop]
theorem index_none (l:Txt) (h:Lib.indexByte l 46 = -1) : ∀ b∈l,b≠46:=by
 induction l with
 |nil=>simp
 |cons b l ih =>
  unfold Lib.indexByte at h
  split at h
  ·cases h
  ·rename_i hb
   split at h
   ·rename_i hi
    intro c hc
    rcases List.mem_cons.1 hc with rfl | hc
    ·simpa using hb
    ·exact ih (by simpa using hi) c hc
   ·have:=Lib.indexByte_ge l 46
    omega
theorem index_some (l:Txt) (i:Nat) (h:Lib.indexByte l 46=i):i<l.length/\l=l.take i++46::l.drop (i+1) /\ ∀ b∈l.take i,b≠46:=by
 induction l generalizing i with
 |nil=>exact absurd h (by unfold Lib.indexByte; omega)
 |cons b l ih =>
  unfold Lib.indexByte at h
  split at h
  ·rename_i hb
   have:b=46:=by simpa using hb
   subst this
   have hi:i=0:=by omega
   subst hi
   simp
  ·rename_i hb
   split at h
   ·exact absurd h (by omega)
   ·have hge:=Lib.indexByte_ge l 46
    rename_i hne
    have hne':Lib.indexByte l 46 ≠ -1:=by simpa using hne
    obtain ⟨j,hj⟩ : ∃ j:Nat,Lib.indexByte l 46=j:=⟨(Lib.indexByte l 46).toNat,by omega⟩
    have hij:i=j+1:=by omega
    subst hij
    obtain ⟨h1,h2,h3⟩:=ih j hj
    refine ⟨by simp; omega,?_,?_⟩
    ·rw [List.take_succ_cons,List.drop_succ_cons,List.cons_append,<- h2]
    ·intro c hc
     rw [List.take_succ_cons] at hc
     rcases List.mem_cons.1 hc with rfl | hc
     ·simpa using hb
     ·exact h3 c hc
def boxLen (W:World) (B:Nat):Nat:=match W.cell? ⟨B,0,none⟩ with | some (.string t)=>t.size | _=>0
theorem boxLen_eq {W:World} {B:Nat} {t:ByteArray} (h:W.cell? ⟨B,0,none⟩=some (.string t)):boxLen W B=t.size:=by
 unfold boxLen; rw [h]
def strs (l:List Txt):List ByteArray:=l.map str
theorem index_dot (t:ByteArray) (w:World):Calls Tryz.prog 303 #[.string t,.string ⟨#[46]⟩] w fun e w'=>e=.returned (.int .i64 (Lib.indexByte (txt t) 46))/\w'=w :=
 Any.strings_Index_one Tryz.lays143 t 46 w
theorem count_dot (t:ByteArray) (w:World):Calls Tryz.prog 288 #[.string t,.string ⟨#[46]⟩] w fun e w'=>e=.returned (.int .i64 ((txt t).count 46:Nat))/\w'=w :=
 Any.strings_Count_one Tryz.lays138 t 46 w
theorem split1_in (n:Nat) (_hn:1<=n) (l Bs:Nat) (s:ByteArray) (hs:s.size<=1000000) (J:List ByteArray->World->Prop)
  (hJ : ∀ pre A B row,J pre A->A.grownBy B row->(∀ r,row=some r->r=Bs)->J pre B)
  (hY : ∀ pre x W1,J pre W1->pre.length<(pieces (txt s)).length->YieldAt Fence.wide (n-1) Tryz.prog l #[.string x] W1 fun e W'=>e=.returned (.bool true)/\J (pre++[x]) W'/\Kept Bs (Bs+3) W1 W')
  (W:World) (hc0:W.cell? ⟨Bs,0,none⟩=some (.string s)) (hf0:W.frozen? ⟨Bs,0,none⟩=false) (hc1:W.cell? ⟨Bs+1,0,none⟩=some (.string ⟨#[46]⟩)) (hc2:W.cell? ⟨Bs+2,0,none⟩=some (.int .i64 0)) (h0:J [] W) :
  CallsIn Fence.wide n Tryz.prog 308 #[.func (.yield l) #[] #[],.pointer (some ⟨Bs+1,0,none⟩),.pointer (some ⟨Bs,0,none⟩),.pointer (some ⟨Bs+2,0,none⟩)] W fun e W'=>(∃ v,e=.returned v) /\ ∃ xs,xs=strs (pieces (txt s))/\J xs W':=by
 refine callsIn_of_wp Tryz.func308 rfl trivial ?_ rfl
 simp only [Tryz.ntmps308,List.size_toArray,List.length_cons,List.length_nil,Nat.reduceAdd,Nat.reduceSub,Array.replicate_succ,Array.replicate_zero,List.push_toArray,List.append_toArray,List.nil_append,List.cons_append]
 have hlen1 : ∀ q:ByteArray,q.size<=1000000->(q.size:Int)<=1000000:=fun q h=>by omega
 gi_wp2
 gi_loopw [] (fun wr => ∃ (pre:List ByteArray) (t:ByteArray),strs (pieces (txt s))=pre++strs (pieces (txt t))/\t.size<=1000000/\wr.cell? ⟨Bs,0,none⟩=some (.string t)/\wr.frozen? ⟨Bs,0,none⟩=false/\wr.cell? ⟨Bs+1,0,none⟩=some (.string ⟨#[46]⟩)/\wr.cell? ⟨Bs+2,0,none⟩=some (.int .i64 0)/\J pre wr)
  (fun wr=>boxLen wr Bs)
 case atStart=>exact ⟨[],s,rfl,hs,hc0,hf0,hc1,hc2,h0⟩
 case round =>
  clear hc0 hf0 hc1 hc2 h0
  obtain ⟨pre,t,hx,ht,hc0,hf0,hc1,hc2,hJp⟩:=hrel
  have hge:=Lib.indexByte_ge (txt t) 46
  have HX:Hid _:=hx
  clear hx
  by_cases hi:Lib.indexByte (txt t) 46 = -1
  ·obtain ⟨fn,tmps,assign,body,hy,hR⟩:=hY pre t wr hJp (by
    have:=congrArg List.length HX.out
    have h1:=pieces_count (txt t)
    simp [strs] at this
    omega)
   gi_wp2_with (refine ⟨trivial,?_⟩; gi_at_call 303; refine (callsIn_wide.2 (index_dot t _)).mono ?_; rintro e w' ⟨rfl,rfl⟩)
   refine hR.mono ?_
   rintro e W3 ⟨rfl,hJ3,hk3⟩
   gi_wp2
   go_end0
   refine ⟨⟨_,rfl⟩,_,?_,hJ3⟩
   rw [HX.out,pieces_none _ (index_none _ hi)]
   simp [strs,str_txt]
  ·obtain ⟨i,hii⟩ : ∃ i:Nat,Lib.indexByte (txt t) 46=i:=⟨(Lib.indexByte (txt t) 46).toNat,by omega⟩
   obtain ⟨hlt,heq,hno⟩:=index_some _ _ hii
   rw [txt_length] at hlt
   have HE:Hid _:=heq
   clear hge hi heq
   have hcnt:pre.length<(pieces (txt s)).length:=by
    have:=congrArg List.length HX.out
    have h1:=pieces_count (txt t)
    simp [strs] at this
    omega
   have hnext:strs (pieces (txt s))=(pre++[t.extract 0 i])++strs (pieces (txt (t.extract (i+1) t.size))):=by
    rw [HX.out]
    have e0:t.extract 0 i=str ((txt t).take i):=txt_inj (by rw [txt_str,txt_extract]; simp)
    have e1:txt (t.extract (i+1) t.size)=(txt t).drop (i+1):=by
     rw [txt_extract,List.take_of_length_le (by rw [List.length_drop,txt_length]; exact Nat.le_refl _)]
    rw [e1,e0]
    have h2:=pieces_dot ((txt t).take i) ((txt t).drop (i+1)) hno
    rw [<- HE.out] at h2
    rw [h2]
    simp [strs]
   have HN:Hid _:=hnext
   clear hnext
   obtain ⟨fn,tmps,assign,body,hy,hR⟩:=hY pre (t.extract 0 i) wr hJp hcnt
   gi_wp2_with (refine ⟨trivial,?_⟩; gi_at_call 303; refine (callsIn_wide.2 (index_dot t _)).mono ?_; rintro e w' ⟨rfl,rfl⟩)
   refine hR.mono ?_
   rintro e W3 ⟨rfl,hJ3,hk3⟩
   have d0:=(hk3.cell Bs 0 (by omega) (by omega)).trans hc0
   have d1:=(hk3.cell (Bs+1) 0 (by omega) (by omega)).trans hc1
   have d2:=(hk3.cell (Bs+2) 0 (by omega) (by omega)).trans hc2
   have df:=(hk3.frozen Bs 0 (by omega) (by omega)).trans hf0
   gi_wp2
   go_roundw
   case rel =>
    have oth : ∀ b,b≠Bs -> ∀ v,(W3.setCell ⟨Bs,0,none⟩ v).cell? ⟨b,0,none⟩=W3.cell? ⟨b,0,none⟩:=fun b hb v=>by
     by_cases hlt':b<W3.heap.size
     ·exact World.cell?_of_block (a:=⟨b,0,none⟩) ((grownBy_setCell' W3 Bs v).block b hlt' (fun e=>hb (by cases e; rfl)))
     ·rw [World.cell?_setCell_other]; intro e; apply hb; cases e; rfl
    refine ⟨pre++[t.extract 0 i],t.extract (i+1) t.size,HN.out,?_,?_,by rw [World.frozen?_setCell]; exact df,(oth _ (by omega) _).trans d1,(oth _ (by omega) _).trans d2,hJ _ _ _ _ hJ3 (grownBy_setCell' W3 Bs _) (fun r e=>by cases e; rfl)⟩
    ·rw [ByteArray.size_extract]; omega
    ·exact World.cell?_setCell_same' _ _ _ (by rw [d0]; rfl)
   case measure =>
    rw [boxLen_eq hc0,boxLen_eq (t:=t.extract (i+1) t.size) (World.cell?_setCell_same' _ _ _ (by rw [d0]; rfl)),ByteArray.size_extract]
    omega
theorem splitSeq_any (s:ByteArray) (w:World) :
  Calls Tryz.prog 289 #[.string s,.string ⟨#[46]⟩] w fun e w' =>
   e=.returned (.func (.func 308) #[] #[.pointer (some ⟨w.heap.size+1,0,none⟩),.pointer (some ⟨w.heap.size,0,none⟩),.pointer (some ⟨w.heap.size+2,0,none⟩)]) /\
   w'=((w.alloc (.cells #[.string s] 9)).alloc (.cells #[.string ⟨#[46]⟩] 9)).alloc (.cells #[.int .i64 0] 3):=by
 go_enter Tryz.func289,Tryz.ntmps289
 go_wp2
 go_ret
 exact ⟨rfl,rfl⟩
theorem split_seq (n:Nat) (hn:1<=n) (Bs:Nat) (s:ByteArray) (hs:s.size<=1000000) (w:World) (hw:Bs+3=w.heap.size) (hc0:w.cell? ⟨Bs,0,none⟩=some (.string s)) (hf0:w.frozen? ⟨Bs,0,none⟩=false)
  (hc1:w.cell? ⟨Bs+1,0,none⟩=some (.string ⟨#[46]⟩)) (hc2:w.cell? ⟨Bs+2,0,none⟩=some (.int .i64 0)) :
  SeqBox Fence.wide n Tryz.prog 308 #[.pointer (some ⟨Bs+1,0,none⟩),.pointer (some ⟨Bs,0,none⟩),.pointer (some ⟨Bs+2,0,none⟩)] (fun x:ByteArray => #[Value.string x]) Bs Bs w.heap.size (fun xs=>xs=strs (pieces (txt s))) (pieces (txt s)).length w:=by
 intro l J W hW hJ hY h0
 rw [<- hw] at hY
 exact split1_in n hn l Bs s hs J hJ hY W ((hW.cell (p:=⟨Bs,0,none⟩) (by show Bs<_; omega)).trans hc0) ((hW.frozen (p:=⟨Bs,0,none⟩) (by show Bs<_; omega)).trans hf0)
  ((hW.cell (p:=⟨Bs+1,0,none⟩) (by show Bs+1<_; omega)).trans hc1) ((hW.cell (p:=⟨Bs+2,0,none⟩) (by show Bs+2<_; omega)).trans hc2) h0
end Go.Proofs.YtnhnpnafchkhiaaGreatDoor
namespace Go.Proofs.YtnhnpnafchkhiaaGreatDoor
open Go.RowKit Go.Shelf
attribute [local go_sem] Oper.semAt_some
def scells (l:List ByteArray):List Value:=l.map Value.string
theorem scells_length (l:List ByteArray):(scells l).length=l.length:=by simp [scells]
theorem scells_append (a b:List ByteArray):scells (a++b)=scells a++scells b:=by simp [scells]
theorem elemS:Elem Tryz.prog 52 9 (.string ⟨#[]⟩) 16 :=
 ⟨Tryz.underlying52,by
  have h:(Tryz.prog.info? 9).map (fun i=>(i.zero,i.size,i.bytes))=some (some (.string ⟨#[]⟩),1,16):=by kernel_rfl
  cases hi:Tryz.prog.info? 9 with
  |none=>rw [hi] at h; cases h
  |some i=>rw [hi] at h; simp at h; exact ⟨i,rfl,h.1,h.2.1,h.2.2⟩,rfl⟩
theorem run_make1 {P:Program} (w:World) (t e:TypeId) (z:Value) (by':Nat) (U:Elem P t e z by') (k c:Nat) (hk:k<=c) (hc:c<=1000000000) (hb:by'<=16) :
  ∃ C:Array Value,(Instr.makeSlice t (.int .i64 (k:Int)) (.int .i64 (c:Int))).run P w=.ok (.slice (some ⟨w.heap.size,0,none⟩) k c) (w.alloc (.cells C e))/\C.size=c:=by
 obtain ⟨i,hi,hz,hsz,hby⟩:=U.info
 have hr:=run_make (P:=P) w t e i z U.ht hi hz .i64 .i64 k c (by omega) (by omega) (by rw [hby]; have h1:by'*c<=16*1000000000:=Nat.mul_le_mul hb hc; have h2:((by'*c:Nat):Int)=(by':Int)*(c:Int):=Int.natCast_mul _ _; omega) (by omega)
 simp only [Int.toNat_natCast] at hr
 exact ⟨_,hr,by rw [size_madeCells,hsz]; omega⟩
theorem words_in (s:ByteArray) (w:World) (hs:s.size<=1000000) (hs0:s≠⟨#[]⟩) :
  CallsIn Fence.wide 3 Tryz.prog 253 #[.string s] w fun e W' => ∃ v,e=.returned v/\Own1 W' w.heap.size 9 v (scells (strs (pieces (txt s))))/\Below w.heap.size w W':=by
 have hcn:(txt s).count 46<=1000000:=Nat.le_trans List.count_le_length (by rw [txt_length]; exact hs)
 have hpc:=pieces_count (txt s)
 have hne:s.toList.isEmpty=false:=by
  rw [ByteArray.toList_eq]
  cases h:s.data.toList with
  |nil=>exact absurd (txt_inj (show txt s=txt ⟨#[]⟩ from h)) hs0
  |cons b l=>rfl
 obtain ⟨C,hmk,hC⟩:=run_make1 (P:=Tryz.prog) w 52 9 _ 16 elemS 0 ((txt s).count 46+1) (by omega) (by omega) (by omega)
 have hmk':(Instr.makeSlice 52 (.int .i64 0) (.int .i64 (((txt s).count 46:Nat)+1:Int))).run Tryz.prog w=_:=hmk
 clear hmk
 refine callsIn_of_wp_marks Tryz.func253 rfl trivial ?_ rfl
 simp only [Tryz.ntmps253,List.size_toArray,List.length_cons,List.length_nil,Nat.reduceAdd,Nat.reduceSub,Array.replicate_succ,Array.replicate_zero,List.push_toArray,List.append_toArray,List.nil_append,List.cons_append]
 gi_wp2_with (first
  |(refine ⟨trivial,?_⟩; gi_at_call 288; refine (callsIn_wide.2 (count_dot s _)).mono ?_; rintro e w ⟨rfl,rfl⟩)
  |(refine ⟨trivial,?_⟩; gi_at_call 289; refine (callsIn_wide.2 (splitSeq_any s _)).mono ?_; rintro e w' ⟨rfl,rfl⟩))
 obtain ⟨W0,hW0⟩ : ∃ W0,((((w.alloc (.cells C 9)).alloc (.cells #[.slice (some ⟨w.heap.size,0,none⟩) 0 ((txt s).count 46+1)] 52)).alloc (.cells #[.string s] 9)).alloc (.cells #[.string ⟨#[46]⟩] 9)).alloc (.cells #[.int .i64 0] 3)=W0:=⟨_,rfl⟩
 have hsz:W0.heap.size=w.heap.size+5:=by rw [<- hW0]; simp
 have hbx:Boxed W0 (w.heap.size+1) 52 (.slice (some ⟨w.heap.size,0,none⟩) 0 ((txt s).count 46+1)):=by
  have:=((Boxed.new (w.alloc (.cells C 9)) 52 (.slice (some ⟨w.heap.size,0,none⟩) 0 ((txt s).count 46+1))).alloc (.cells #[.string s] 9)).alloc (.cells #[.string ⟨#[46]⟩] 9) |>.alloc (.cells #[.int .i64 0] 3)
  rw [hW0,World.size_alloc] at this
  exact this
 have hb0:Boxed W0 (w.heap.size+2) 9 (.string s):=by
  have:=((Boxed.new ((w.alloc (.cells C 9)).alloc (.cells #[.slice (some ⟨w.heap.size,0,none⟩) 0 ((txt s).count 46+1)] 52)) 9 (.string s)).alloc (.cells #[.string ⟨#[46]⟩] 9)).alloc (.cells #[.int .i64 0] 3)
  rw [hW0,World.size_alloc,World.size_alloc] at this
  exact this
 have hb1:Boxed W0 (w.heap.size+3) 9 (.string ⟨#[46]⟩):=by
  have:=(Boxed.new (((w.alloc (.cells C 9)).alloc (.cells #[.slice (some ⟨w.heap.size,0,none⟩) 0 ((txt s).count 46+1)] 52)).alloc (.cells #[.string s] 9)) 9 (.string ⟨#[46]⟩)).alloc (.cells #[.int .i64 0] 3)
  rw [hW0,World.size_alloc,World.size_alloc,World.size_alloc] at this
  exact this
 have hb2:Boxed W0 (w.heap.size+4) 3 (.int .i64 0):=by
  have:=Boxed.new ((((w.alloc (.cells C 9)).alloc (.cells #[.slice (some ⟨w.heap.size,0,none⟩) 0 ((txt s).count 46+1)] 52)).alloc (.cells #[.string s] 9)).alloc (.cells #[.string ⟨#[46]⟩] 9)) 3 (.int .i64 0)
  rw [hW0,World.size_alloc,World.size_alloc,World.size_alloc,World.size_alloc] at this
  exact this
 have hrow0:W0.ownsRow w.heap.size 9 1 (.slice (some ⟨w.heap.size,0,none⟩) 0 ((txt s).count 46+1)) 0 []:=by
  have:=World.ownsRow_made (base:=w.heap.size) (e:=9) (size:=1) w C ((txt s).count 46+1) (Nat.le_refl _) (by unfold maxLen; omega) (by omega)
  have:=(((this.alloc (.cells #[.slice (some ⟨w.heap.size,0,none⟩) 0 ((txt s).count 46+1)] 52)).alloc (.cells #[.string s] 9)).alloc (.cells #[.string ⟨#[46]⟩] 9)).alloc (.cells #[.int .i64 0] 3)
  rw [hW0] at this
  exact this
 have hbel:Below w.heap.size w W0:=by
  rw [<- hW0]
  exact (((((Below.refl _ w).alloc (Nat.le_refl _) _).alloc (by simp) _).alloc (by simp; omega) _).alloc (by simp; omega) _).alloc (by simp; omega) _
 rw [hW0]
 clear hW0
 refine wpIn_range_box rfl (by decide) (gf:=308) (lb := #[.pointer (some ⟨w.heap.size+2+1,0,none⟩),.pointer (some ⟨w.heap.size+2,0,none⟩),.pointer (some ⟨w.heap.size+2+2,0,none⟩)]) rfl trivial (enters_of Tryz.func308 (by kernel_rfl) rfl)
  (Bs:=w.heap.size+2) (lo:=w.heap.size+2) (by omega) (split_seq _ (by decide) (w.heap.size+2) s hs W0 (by omega) hb0.cell hb0.frozen hb1.cell hb2.cell) (fun _=>rfl)
  (fun pre W=>(pre.length<=(txt s).count 46+1/\w.heap.size+5<=W.heap.size)/\Boxed W (w.heap.size+1) 52 (.slice (some ⟨w.heap.size,0,none⟩) pre.length ((txt s).count 46+1))/\W.ownsRow w.heap.size 9 1 (.slice (some ⟨w.heap.size,0,none⟩) pre.length ((txt s).count 46+1)) pre.length (scells pre)/\Below w.heap.size w W)
  ?own ⟨⟨by simp,by omega⟩,hbx,hrow0,hbel⟩
  (fun x=>{ tmps := #[.string s,undef,.slice none 0 0,.pointer (some ⟨w.heap.size+1,0,none⟩),.string x,.string s,.bool false,.string s,.int .i64 ((txt s).count 46:Nat),.int .i64 (((txt s).count 46:Nat)+1),.slice (some ⟨w.heap.size,0,none⟩) 0 ((txt s).count 46+1),.string s,
   .func (.func 308) #[] #[.pointer (some ⟨w.heap.size+2+1,0,none⟩),.pointer (some ⟨w.heap.size+2,0,none⟩),.pointer (some ⟨w.heap.size+2+2,0,none⟩)],.string x,undef,undef,undef,undef,undef],defers:=[] }) ?assign ?body ?done
 case own =>
  rintro pre A B row ⟨hle,hv,hr,hB⟩ hg hrow
  have n0:some w.heap.size≠row:=by
   intro e
   rcases hrow _ e.symm with h | ⟨h,_⟩ <;> omega
  have n1:some (w.heap.size+1)≠row:=by
   intro e
   rcases hrow _ e.symm with h | ⟨h,_⟩ <;> omega
  refine ⟨⟨hle.1,Nat.le_trans hle.2 hg.size⟩,hv.kept hg n1,hr.kept hg (.inr (by simpa [Value.ownBlock] using n0)),hB.grown hg hB.size (fun k e=>?_)⟩
  rcases hrow _ e with h | ⟨h,_⟩ <;> omega
 case assign =>
  intro l x W K hK
  gi_wp2
  exact hK
 case body =>
  rintro l pre x W ⟨hle,hv,hrow,hB⟩ hlt
  have hl2:pre.length<(txt s).count 46+1:=by omega
  have hc:=hv.cell
  have hsW:w.heap.size+5<=W.heap.size:=hle.2
  obtain ⟨i0,hi,hz0,hz1,hz2⟩:=elemS.info
  gi_wp2_with (gi_at_builtin; refine wpListIn_append_fits _ rfl _ _ 52 rfl w.heap.size 9 i0 1 Tryz.underlying52 hi hz1 w.heap.size pre.length _ (scells pre) rfl (hrow.alloc _) ⟨W.heap.size,0,none⟩ 1 1 [.string x] rfl rfl (cell_one_new _ _ _) (by simp [Value.oneCell']) (by omega) ?_; intro w1 hown' hgrow; have hv1:=(hv.alloc (.cells #[.string x] 9)).kept hgrow (by simp; try omega); have hc1:=hv1.cell; have hf1:=hv1.frozen)
  have hw1:=hgrow.size
  simp at hw1
  refine ⟨((KeepsOthers.alloc W _).from _).trans ((KeepsFrom.of_grownBy hgrow (fun j e=>by cases e; omega)).trans ((KeepsOthers.setCell _ _ _).from _)),?_,⟨by omega,by omega⟩,hv1.set _,?_,?_⟩
  ·intro b h1 h2
   rw [(grownBy_setCell' w1 (w.heap.size+1) _).block b (by omega) (by simp; omega),hgrow.block b (by simp; omega) (by simp; omega)]
   exact Below.heap_alloc W _ b (by omega)
  ·rw [scells_append]
   exact hown'.kept (grownBy_setCell' w1 _ _) (.inr (by simp [Value.ownBlock]))
  ·exact ((hB.alloc hB.size _).grown hgrow (by simp; omega) (fun k e=>by cases e; exact Nat.le_refl _)).setCell (p:=⟨w.heap.size+1,0,none⟩) (by show w.heap.size<=w.heap.size+1; omega) _
 case done =>
  rintro D ys W hD rfl ⟨hle,hv,hrow,hB⟩ hK
  have hc:=hv.cell
  gi_wp2
  refine ⟨by simp,.inl ⟨_,_,rfl,run_takeDeferred hK,?_⟩⟩
  refine ⟨_,results_tmp rfl _ _ _,_,rfl,?_,hB.trans (belowK_b (w:=w) (Nat.le_refl _) W D _ _ (by omega) hK rfl rfl)⟩
  have:=ownsRow_putObj hrow (.deferred none) hK rfl
  unfold Own1
  rw [scells_length]
  exact this
theorem wordsL_txt (s:ByteArray) (h:s≠⟨#[]⟩):wordsL (txt s)=pieces (txt s):=by
 unfold wordsL
 rw [if_neg]
 intro e
 apply h
 apply txt_inj
 rw [List.isEmpty_iff.1 e]; rfl
theorem words_any (s:ByteArray) (w:World) (hs:s.size<=1000000) :
  Calls Tryz.prog 253 #[.string s] w fun e W' => ∃ v,e=.returned v/\Own1 W' w.heap.size 9 v (scells (strs (wordsL (txt s))))/\Below w.heap.size w W':=by
 by_cases h:s=⟨#[]⟩
 ·subst h
  go_enter Tryz.func253,Tryz.ntmps253
  go_wp2
  go_ret
  exact ⟨_,rfl,own1_nil _ _ _,Below.refl _ _⟩
 ·rw [wordsL_txt s h]
  exact callsIn_wide.1 (words_in s w hs h)
def cutP:Txt->List Txt × Txt
 |[]=>([],[])
 |b::l=>let r:=cutP l; if b=46 then ([]::r.1,r.2) else match r.1 with
  |[]=>([],b::r.2)
  |p::ps=>((b::p)::ps,r.2)
theorem pieces_cut (l:Txt):pieces l=(cutP l).1++[(cutP l).2]:=by
 induction l with
 |nil=>rfl
 |cons b l ih =>
  unfold pieces cutP
  rw [ih]
  split
  ·simp
  ·cases h:(cutP l).1 with
   |nil=>simp [h]
   |cons p ps=>simp [h]
theorem cutP_dot (l:Txt):cutP (l++[46])=((cutP l).1++[(cutP l).2],[]):=by
 induction l with
 |nil=>rfl
 |cons b l ih =>
  rw [List.cons_append,cutP,cutP,ih]
  by_cases hb:b=46
  ·simp [hb]
  ·cases h:(cutP l).1 with
   |nil=>simp [hb]
   |cons p ps=>simp [hb]
theorem cutP_snoc (l:Txt) (c:UInt8) (hc:c≠46):cutP (l++[c])=((cutP l).1,(cutP l).2++[c]):=by
 induction l with
 |nil=>simp [cutP,hc]
 |cons b l ih =>
  rw [List.cons_append,cutP,cutP,ih]
  by_cases hb:b=46
  ·simp [hb]
  ·cases h:(cutP l).1 with
   |nil=>simp [hb]
   |cons p ps=>simp [hb]
theorem cutP_len (l:Txt):(cutP l).1.length<=l.length/\(cutP l).2.length<=l.length:=by
 induction l with
 |nil=>simp [cutP]
 |cons b l ih =>
  unfold cutP
  by_cases hb:b=46
  ·simp [hb]; omega
  ·cases h:(cutP l).1 with
   |nil=>simp [hb,h]; omega
   |cons p ps=>simp [hb,h] at ih ⊢; omega
end Go.Proofs.YtnhnpnafchkhiaaGreatDoor
