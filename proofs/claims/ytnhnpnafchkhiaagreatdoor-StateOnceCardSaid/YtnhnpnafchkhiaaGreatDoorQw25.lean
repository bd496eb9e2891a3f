import Derived.Test.YtnhnpnafchkhiaaGreatDoorQwA
import Derived.Test.YtnhnpnafchkhiaaGreatDoorQw24
import Derived.Test.YtnhnpnafchkhiaaGreatDoorQw22
import Derived.RangeFuncNested
import Derived.RangeFuncBound
import Derived.RangeFuncCalls
import Derived.RangeFuncLeaves
import Derived.Shelf.Abstract
import Derived.Shelf.AbstractIn
import Derived.Shelf.RegionOpen
import Derived.Sort.MapsRangeIn
import Derived.Sort.KeysCollected
import Derived.WalkKit
import Derived.OwnWalkIn
import Derived.TacticsInMore
import Derived.RegionIn
import Derived.LoopNIn
import Derived.LoopIn
import Derived.Test.YtnhnpnafchkhiaaGreatDoorQw23
import Derived.Test.YtnhnpnafchkhiaaGreatDoorQw5
set_option maxHeartbeats 4000000
set_option maxRecDepth 100000
namespace Go.Proofs.YtnhnpnafchkhiaaGreatDoor.K
end Go.Proofs.YtnhnpnafchkhiaaGreatDoor.K
namespace Go.Proofs.YtnhnpnafchkhiaaGreatDoor.F
open Go.Proofs.YtnhnpnafchkhiaaGreatDoor.K
open Go.RowKit Go.Sort
theorem back_none {s:St} {t:Nat} (h:findT s.out t=none):s.back t=(10,s):=by unfold St.back; rw [h]
theorem back_some {s:St} {t:Nat} {x:It} (h:findT s.out t=some x):s.back t=(0,{ s with out:=dropT s.out t,rdy:=ins (mark x) s.rdy }):=by unfold St.back; rw [h]
theorem back_any (p:Nat) (F:Nat->Prop) (s:St) (t:Nat) (w:World) (h:Q w p F s) (ok:s.Ok) (ht:t<18446744073709551616) :
    Calls Tryz.prog 146 #[.pointer (some ⟨p,0,none⟩),.int .u64 (t:Int)] w fun e w'=>e=.returned (.int .i64 (s.back t).1) /\ ∃ F',Q w' p F' (s.back t).2/\Moved w w' F F':=by
  have hT:=take_any p F s t w h ok ht
  cases hf:findT s.out t with
  | none =>
    rw [hf,done_none hf] at hT
    rw [back_none hf]
    go_enter Tryz.func146,Tryz.ntmps146
    go_wp2_with fail
    refine hT.mono ?_
    rintro e w1 ⟨rfl,hq⟩
    go_wp2
    go_ret
    exact ⟨rfl,moved_below hq (below_alloc _ _)⟩
  | some x =>
    have ok1:=ok.done t
    rw [hf,done_some hf] at hT
    rw [done_some hf] at ok1
    rw [back_some hf]
    obtain ⟨hx,hxt⟩:=findT_some hf
    simp only [Option.getD_some] at hT
    have HS:Hid (∀ y∈s.rdy,y.tag≠(mark x).tag):=fun y hy=>ok.ap y hy x hx
    have HXT:Hid (x.tag=t):=hxt
    clear hf hxt
    go_enter Tryz.func146,Tryz.ntmps146
    go_wp2_with fail
    refine hT.mono ?_
    rintro e w1 ⟨rfl,hq⟩
    obtain ⟨F1,⟨v,b,hq1,hF1⟩,m1⟩:=hq
    have hlen:s.rdy.length<=1000000:=by have:=ok.room; have:=ok.m; omega
    obtain ⟨W,hW⟩ : ∃ W,W=w1.alloc (.cells #[.int .u64 (x.tag:Int),.int .i64 x.m.o,.int .u64 x.m.s,.int .i64 x.m.hop,.string x.m.ex,.string x.m.key,.string x.m.body,.bool true] 74):=⟨_,rfl⟩
    have bel0:Below w1.heap.size w1 W:=by rw [hW]; exact below_alloc _ _
    have iW:ItAt W w1.heap.size 0 (mark x):=by rw [hW]; exact itAt_new w1 (mark x) _ rfl
    have hqW:=hq1.after bel0
    obtain ⟨⟨c0,c1,c2,c3⟩,f0,f1,f2,f3⟩:=cells4 hqW.blk
    obtain ⟨va,vc,hv⟩:=hq1.rows.rng.slice
    subst hv
    have fold:=hW.symm
    have HQ:Hid (QAt w1 p (.slice va s.rdy.length vc) b { s with out:=dropT s.out t }):=hq1
    have hP : ∀ X:World,Below W.heap.size W X->Calls Tryz.prog 190 #[.slice va s.rdy.length vc,.int .u64 (t:Int)] X fun e w'=>e=.returned (.int .i64 (lessT s.rdy x.tag:Nat))/\Below X.heap.size X w'/\(Below W.heap.size W w'/\w'.cell? ⟨p,2,none⟩=some (.slice va s.rdy.length vc)/\(∀ o,(w'.alloc o).cell? ⟨p,2,none⟩=some (.slice va s.rdy.length vc))/\ItAt w' w1.heap.size 0 (mark x)):=fun X hX=>by
      rw [<- HXT.out]
      refine (place_any _ s.rdy x.tag X ((hqW.rows.rng).below hX (yyH _)) ok.r.le hlen).mono ?_
      rintro e w' ⟨rfl,hb⟩
      have hb':=hX.trans (hb.mono hX.size)
      have hc:w'.cell? ⟨p,2,none⟩=some (.slice va s.rdy.length vc):=(hb'.cell (p:=⟨p,2,none⟩) hqW.lt).trans c2
      exact ⟨rfl,hb,hb',hc,fun o=>cell_alloc_r o hc,iW.below hb' (yyH _)⟩
    have hPA:=hP W.drew (Below.refl _ _).drew
    have hPB:=hP (W.drew.alloc (.cells #[.int .u64 (x.tag:Int),.int .i64 x.m.o,.int .u64 x.m.s,.int .i64 x.m.hop,.string x.m.ex,.string x.m.key,.string x.m.body,.bool true] 74)) ((Below.refl _ _).drew.alloc (yyH _) _)
    have HJ:Hid (∀ w',Below (W.drew.alloc (.cells #[.int .u64 (x.tag:Int),.int .i64 x.m.o,.int .u64 x.m.s,.int .i64 x.m.hop,.string x.m.ex,.string x.m.key,.string x.m.body,.bool true] 74)).heap.size (W.drew.alloc (.cells #[.int .u64 (x.tag:Int),.int .i64 x.m.o,.int .u64 x.m.s,.int .i64 x.m.hop,.string x.m.ex,.string x.m.key,.string x.m.body,.bool true] 74)) w'->w'.heap[W.heap.size]? = some (.cells #[.int .u64 (x.tag:Int),.int .i64 x.m.o,.int .u64 x.m.s,.int .i64 x.m.hop,.string x.m.ex,.string x.m.key,.string x.m.body,.bool true] 74 (0,0))):=fun w' hb=>by
      rw [hb.block W.heap.size (by rw [World.size_alloc]; exact Nat.lt_succ_self _)]
      exact heap_alloc_new W.drew _
    clear hP
    have HI:Hid (∀ (X:World) (vb:Nat),Below W.heap.size W X->W.heap.size<=vb->X.heap[vb]? = some (.cells #[.int .u64 (x.tag:Int),.int .i64 x.m.o,.int .u64 x.m.s,.int .i64 x.m.hop,.string x.m.ex,.string x.m.key,.string x.m.body,.bool true] 74 (0,0))->Calls Tryz.prog 189 #[.slice va s.rdy.length vc,.int .i64 (lessT s.rdy x.tag:Nat),.slice (some ⟨vb,0,none⟩) 1 1] X fun e w' =>
        ∃ va' vc',e=.returned (.slice va' (s.rdy.length+1) vc')/\(w'.cell? ⟨p,2,none⟩=some (.slice va s.rdy.length vc)/\w'.frozen? ⟨p,2,none⟩=false/\Hid (∃ F',Q (w'.setCell ⟨p,2,none⟩ (.slice va' (s.rdy.length+1) vc')) p F' { s with out:=dropT s.out t,rdy:=ins (mark x) s.rdy }/\Moved w (w'.setCell ⟨p,2,none⟩ (.slice va' (s.rdy.length+1) vc')) F F'))):=fun X vb hX hvb hb=>by
      have hqX:=hqW.after hX
      refine (insert_any 0 vb (lessT s.rdy x.tag) (mark x) _ s.rdy X hqX.rows (lessT_le _ _) hlen (Nat.zero_le _) hb (fun he=>by have:=(hqW.rows.lt he).2; omega)).mono ?_
      rintro e w' ⟨v',rfl,own,gr,nw⟩
      have hlt:=hqX.lt
      have hp':w'.heap[p]? = X.heap[p]? := gr.block p hlt (fun h=>hqX.ne_row h.symm)
      obtain ⟨⟨_,_,k2,_⟩,_,_,k4,_⟩:=cells4 (hp'.trans hqX.blk)
      obtain ⟨va',vc',hv'⟩:=own.rng.slice
      have hl:(s.rdy.take (lessT s.rdy x.tag)++mark x::s.rdy.drop (lessT s.rdy x.tag)).length=s.rdy.length+1:=length_ins (mark x) s.rdy
      rw [hl] at hv'
      subst hv'
      obtain ⟨q2,m2⟩:=row_set HQ.out (bel0.trans (hX.mono bel0.size)) own gr nw
      exact ⟨va',vc',rfl,k2,k4,foot p (.slice va' (s.rdy.length+1) vc') b,⟨_,_,q2,fun _=>Iff.rfl⟩,m1.trans (m2.to hF1)⟩
    have c2'' : ∀ o,(W.alloc o).cell? ⟨p,2,none⟩=some (.slice va s.rdy.length vc):=fun o=>cell_alloc_r o c2
    have hpW:p<W.heap.size:=hqW.lt
    have hpn : ¬ p=W.heap.size:=Nat.ne_of_lt hqW.lt
    have c2' : ∀ o,(W.drew.alloc o).cell? ⟨p,2,none⟩=some (.slice va s.rdy.length vc):=fun o=>cell_alloc_r (W:=W.drew) o c2
    obtain ⟨y0,y1,y2,y3,y4,y5,y6,y7⟩:=iW
    simp only [Nat.zero_add,mark] at y0 y1 y2 y3 y4 y5 y6 y7
    clear hq1 hqW hW hT
    go_wp2
    go_region_with (first
      | (go_at_call 190; refine hPA.mono ?_; rintro e w2 ⟨rfl,_,b2,k2,k2',i2⟩; obtain ⟨x0,x1,x2,x3,x4,x5,x6,x7⟩:=i2; simp only [Nat.zero_add,mark] at x0 x1 x2 x3 x4 x5 x6 x7)
      | (go_at_call 190; refine hPB.mono ?_; rintro e w2 ⟨rfl,bB,b2,k2,k2',i2⟩; obtain ⟨x0,x1,x2,x3,x4,x5,x6,x7⟩:=i2; simp only [Nat.zero_add,mark] at x0 x1 x2 x3 x4 x5 x6 x7; have jA:=HJ.out w2 bB; clear bB)
      | (go_at_call 189; with_reducible refine (HI.out w2 W.heap.size b2 (yyH _) jA).mono ?_; rintro e w3 ⟨va',vc',rfl,k3,k4,HE⟩)
      | (go_at_call 189; with_reducible refine (HI.out _ w2.heap.size (b2.alloc b2.size _) b2.size (heap_alloc_new _ _)).mono ?_; rintro e w3 ⟨va',vc',rfl,k3,k4,HE⟩))
    all_goals go_wp2
    all_goals go_ret
    all_goals exact ⟨rfl,HE.out⟩
end Go.Proofs.YtnhnpnafchkhiaaGreatDoor.F
namespace Go.Proofs.YtnhnpnafchkhiaaGreatDoor.F
open Go.Proofs.YtnhnpnafchkhiaaGreatDoor.K
open Go.RowKit Go.Maps Go.Sort Go.Shelf
def Come (out:List It) (left:Lit->Bool) (ps:List It):Prop:=(ps.map (·.tag)).Nodup/\(∀ x∈ps,x∈out) /\ ∀ x∈out,x∈ps↔left (.int .u64 (x.tag:Int))=false
theorem Come.start (out:List It):Come out (Maps.has (Dof out)) []:=by
 refine ⟨List.nodup_nil,by simp,fun x hx=>?_⟩
 rw [has_Dof,hasT_of_mem hx]; simp
theorem Rise.unique {l:List It} (h:Rise l) {x y:It} (hx:x∈l) (hy:y∈l) (e:x.tag=y.tag):x=y:=by
 induction l with
 |nil=>cases hx
 |cons z r ih =>
  obtain ⟨h1,h2⟩:=List.pairwise_cons.1 h
  rcases List.mem_cons.1 hx with hxz | hxr
  ·rcases List.mem_cons.1 hy with hyz | hyr
   ·rw [hxz,hyz]
   ·have:=h1 y hyr; rw [<- hxz] at this; omega
  ·rcases List.mem_cons.1 hy with hyz | hyr
   ·have:=h1 x hxr; rw [<- hyz] at this; omega
   ·exact ih h2 hxr hyr
theorem Come.step {out:List It} (hr:Rise out) {left:Lit->Bool} {ps:List It} (h:Come out left ps) {c:It} (hc:c∈out) (hl:left (.int .u64 (c.tag:Int))=true):Come out (fun z=>left z && !z.sameKey (.int .u64 (c.tag:Int))) (ps++[c]):=by
 obtain ⟨h1,h2,h3⟩:=h
 have hn:c∉ps:=fun hm=>by have:=(h3 c hc).1 hm; rw [hl] at this; cases this
 refine ⟨?_,?_,?_⟩
 ·rw [List.map_append,List.nodup_append]
  refine ⟨h1,by simp,fun a ha b hb e=>?_⟩
  simp at hb
  subst e hb
  obtain ⟨y,hy,hyt⟩:=List.mem_map.1 ha
  exact hn (hr.unique (h2 y hy) hc hyt ▸ hy)
 ·intro x hx
  rcases List.mem_append.1 hx with hx | hx
  ·exact h2 x hx
  ·rw [List.mem_singleton.1 hx]; exact hc
 ·intro x hx
  rw [List.mem_append,h3 x hx,List.mem_singleton]
  simp only [sameKey_u64]
  by_cases e:x.tag=c.tag
  ·have:=hr.unique hx hc e
   subst this; simp
  ·have:x≠c:=fun h=>e (by rw [h])
   have hb:(x.tag==c.tag)=false:=by simpa using e
   simp [this,hb]
theorem Come.perm {out:List It} (hr:Rise out) {left:Lit->Bool} {ps:List It} (h:Come out left ps) (hl : ∀ kl,left kl=false):ps.Perm out:=by
 obtain ⟨h1,h2,h3⟩:=h
 have n1:ps.Nodup:=(List.pairwise_map.1 h1).imp (fun h e=>h (by rw [e]))
 have n2:out.Nodup:=hr.imp (fun h e=>by rw [e] at h; exact Nat.lt_irrefl _ h)
 rw [List.perm_ext_iff_of_nodup n1 n2]
 exact fun x=>⟨h2 x,fun hx=>(h3 x hx).2 (hl _)⟩
theorem key_inv {key:Value} {kl:Lit} (h:keyOf Tryz.prog 32 key=some kl) : ∃ t:Nat,key=.int .u64 (t:Int)/\kl=.int .u64 (t:Int):=by
 have hu:=Tryz.underlying32
 simp only [keyOf,hu,mapKey] at h
 cases key with
 |int q n =>
  simp at h
  obtain ⟨⟨rfl,hw⟩,rfl⟩:=h
  have h1:IntKind.u64.min=0:=rfl
  simp [Lit.wf,h1] at hw
  exact ⟨n.toNat,by congr 1; omega,by congr 1; omega⟩
 |_=>simp at h
theorem entry_item {out:List It} {t:Nat} {c:It} {yd:DataW It} {yp:List MemPlace} (hv:rdIt (iv c)=some (yd,yp)) (hat : ∀ zd,(Dof out).atKey (.int .u64 (t:Int)) zd=yd):c∈out/\c.tag=t:=by
 rw [rdIt_iv] at hv
 simp at hv
 obtain ⟨rfl,rfl⟩:=hv
 have h1:=hat .nil
 rw [atKey_Dof] at h1
 cases hf:findT out t with
 |none=>rw [hf] at h1; cases h1
 |some x =>
  rw [hf] at h1
  injection h1 with h1
  subst h1
  exact findT_some hf
theorem values1_in (F:Fence) (n:Nat) (h58:F.fn 166) (hro:F.round=none) (hn:1<=n) (l Bm b:Nat) (out:List It) (hr:Rise out) (J Jx:List It->World->Prop)
  (hY : ∀ pre x W,J pre W->pre.length<out.length->YieldAt F (n-1) Tryz.prog l #[iv x] W fun e W' =>
   (e=.returned (.bool true)/\J (pre++[x]) W'/\KeepsWalks W W')\/(e=.returned (.bool false)/\Jx (pre++[x]) W'))
  (W:World) (hJ:AbidesFrom W.heap.size J) (hm:W.cell? ⟨Bm,0,none⟩=some (.map (some b))) (hown:OutAt W b out) (h0:J [] W) :
  CallsIn F n Tryz.prog 166 #[.func (.yield l) #[] #[],.pointer (some ⟨Bm,0,none⟩)] W fun e W'=>(∃ v,e=.returned v) /\
   ((∃ xs,xs.Perm out/\J xs W')\/(∃ pre,True/\Jx pre W')):=by
 refine callsIn_of_wp Tryz.func166 rfl h58 ?_ hro
 simp only [Tryz.ntmps166,List.size_toArray,List.length_cons,List.length_nil,Nat.reduceAdd,Nat.reduceSub,Array.replicate_succ,Array.replicate_zero,List.push_toArray,List.append_toArray,List.nil_append,List.cons_append]
 have hD:Maps.size (Dof out)=out.length:=size_Dof out
 gi_wp2_with (first
  |(gi_at_range; refine wpListIn_range_own _ rfl _ 160 rfl 32 74 keyed Tryz.underlying160 rdIt b out.length (Dof out) rfl hown ?_; intro w0 hrg0 hg0 hs0)
  |gi_in)
 go_frame
 gi_loopw [4] (fun _ wr => ∃ (left:Lit->Bool) (cnt:Nat) (ps:List It),wr.ranges Tryz.prog 32 rdIt b W.heap.size out.length (Dof out) left cnt/\ps.length+cnt<=out.length/\Come out left ps/\J ps wr)
  (fun _ wr=>wr.rangeLeft b W.heap.size)
 case atStart =>
  exact ⟨_,_,[],hrg0,by rw [hD]; simp,Come.start out,hJ [] W w0 none h0 hg0 (fun r e=>by cases e)⟩
 case round =>
  obtain ⟨left,cnt,ps,hrg,hcs,hC,hJs⟩:=hrel
  gi_wp2_with (first
   |(gi_at_next; refine wpListIn_next_ranges _ rfl _ rfl 32 keyed rdIt (fun t:Nat=>Value.int .u64 (t:Int)) iv (fun key kl hk=>by obtain ⟨t,ht,_⟩:=key_inv hk; exact ⟨t,ht⟩) (fun v y hv=>by obtain ⟨c,hc,_⟩:=rdIt_inv hv; exact ⟨c,hc⟩) b W.heap.size out.length _ _ _ rfl hrg ?_ ?_)
   |gi_in)
  ·intro hc0 hl0
   gi_wp2
   go_end0
   exact ⟨⟨_,rfl⟩,.inl ⟨ps,hC.perm hr hl0,hJs⟩⟩
  ·intro x c kl yd yp w2 cnt2 hkey hlk hv hat hrg2 hlt hg2 hs2 hen
   obtain ⟨t,ht,rfl⟩:=key_inv hkey
   obtain rfl:x=t:=by simp at ht; omega
   obtain ⟨hc,rfl⟩:=entry_item hv hat
   have hJ2:J ps w2:=hJ ps wr w2 (some W.heap.size) hJs hg2 (fun r e=>by cases e; exact ⟨yyH _,hrg.iter_walk⟩)
   obtain ⟨w3,fold⟩ : ∃ w3,w2.alloc (.cells #[.int .u64 (c.tag:Int),.int .i64 c.m.o,.int .u64 c.m.s,.int .i64 c.m.hop,.string c.m.ex,.string c.m.key,.string c.m.body,.bool c.again] 74)=w3:=⟨_,rfl⟩
   have hJ3:J ps w3:=hJ ps w2 w3 none hJ2 (by rw [<- fold]; exact World.grownBy_alloc _ _ _) (fun r e=>by cases e)
   have hrg3:=hrg2.alloc (.cells #[.int .u64 (c.tag:Int),.int .i64 c.m.o,.int .u64 c.m.s,.int .i64 c.m.hop,.string c.m.ex,.string c.m.key,.string c.m.body,.bool c.again] 74)
   rw [fold] at hrg3
   have i3:ItAt w3 w2.heap.size 0 c:=by rw [<- fold]; constructor <;> simp [World.cell?_alloc_at]
   obtain ⟨x0,x1,x2,x3,x4,x5,x6,x7⟩:=i3
   simp only [Nat.zero_add] at x0 x1 x2 x3 x4 x5 x6 x7
   obtain ⟨fn,tmps,assign,body,hy,hR⟩:=hY ps c w3 hJ3 (by omega)
   clear hs2 ht hkey hv hat
   gi_wp2
   refine hR.mono ?_
   have hC2:=hC.step hr hc hlk
   rintro e W3 (⟨rfl,hJ4,hk4⟩ | ⟨rfl,hJx4⟩)
   ·gi_wp2
    have hrg4:=hrg3.of_walks hk4
    go_roundw
    case rel=>exact ⟨_,cnt2,ps++[c],hrg4,by simp; omega,hC2,hJ4⟩
    case measure=>rw [hrg4.left_eq,hrg.left_eq]; exact hlt
   ·gi_wp2
    refine bodyPost_ret (results_none rfl _ _ _) rfl ?_
    exact ⟨⟨_,rfl⟩,.inr ⟨ps++[c],trivial,hJx4⟩⟩
attribute [local go_sem] Oper.semAt_some
theorem values1_nil (F:Fence) (n:Nat) (h58:F.fn 166) (hro:F.round=none) (l Bm:Nat) (J:List It->World->Prop) (W:World) (hJ:AbidesFrom W.heap.size J) (hm:W.cell? ⟨Bm,0,none⟩=some (.map none)) (h0:J [] W) :
  CallsIn F n Tryz.prog 166 #[.func (.yield l) #[] #[],.pointer (some ⟨Bm,0,none⟩)] W fun e W'=>(∃ v,e=.returned v)/\J [] W':=by
 refine callsIn_of_wp Tryz.func166 rfl h58 ?_ hro
 simp only [Tryz.ntmps166,List.size_toArray,List.length_cons,List.length_nil,Nat.reduceAdd,Nat.reduceSub,Array.replicate_succ,Array.replicate_zero,List.push_toArray,List.append_toArray,List.nil_append,List.cons_append]
 have hrg:=run_range_nilMap (P:=Tryz.prog) W 160 32 74 Tryz.underlying160
 have hnx : ∀ ty,(Instr.next (.pointer (some ⟨W.heap.size,0,none⟩)) false ty).run Tryz.prog (W.alloc (.mapIter none 0 #[] 0))=_:=fun ty=>run_next_nilMap _ ty 0 0 #[]
 gi_wp2
 refine wpIn_loop_rounds 1 ?_
 rw [roundsIn_succ]
 gi_wp2
 go_end0
 exact ⟨⟨_,rfl⟩,hJ [] W _ none h0 (World.grownBy_alloc W _ none) (fun r e=>by cases e)⟩
def MapAt (w:World) (mb:Option Nat) (out:List It):Prop:=(mb=none/\out=[]) \/ ∃ b,mb=some b/\OutAt w b out
theorem MapAt.below {w w':World} {mb:Option Nat} {out:List It} (h:MapAt w mb out) (hb:Below w.heap.size w w'):MapAt w' mb out:=by
 rcases h with h | ⟨b,rfl,ho⟩
 ·exact .inl h
 ·exact .inr ⟨b,rfl,ho.same (hb.block b ho.lt)⟩
theorem values_stops (Bm:Nat) (mb:Option Nat) (out:List It) (hr:Rise out) (n:Nat) (hn:1<=n) (w:World) (hBm:w.cell? ⟨Bm,0,none⟩=some (.map mb)) (hown:MapAt w mb out) :
  SeqStopsK Fence.wide n Tryz.prog 166 #[.pointer (some ⟨Bm,0,none⟩)] (fun x:It => #[iv x]) KeepsWalks (fun xs=>xs.Perm out) (fun _=>True) out.length w:=fun l J Jx W hW hJ _ hY h0=>by
 have hm:W.cell? ⟨Bm,0,none⟩=some (.map mb):=(hW.cell (p:=⟨Bm,0,none⟩) (World.block_lt_of_cell? _ _ hBm)).trans hBm
 rcases hown.below hW with ⟨rfl,rfl⟩ | ⟨b,rfl,ho⟩
 ·exact (values1_nil Fence.wide n trivial rfl l Bm J W hJ hm h0).mono fun _ _ ⟨he,hj⟩=>⟨he,.inl ⟨[],List.Perm.refl _,hj⟩⟩
 ·exact values1_in Fence.wide n trivial rfl hn l Bm b out hr J Jx hY W hJ hm ho h0
theorem item_news (W:World) (x:It) : ∀ j u,(icells x)[j]? = some u->(W.alloc (.cells #[.int .u64 (x.tag:Int),.int .i64 x.m.o,.int .u64 x.m.s,.int .i64 x.m.hop,.string x.m.ex,.string x.m.key,.string x.m.body,.bool x.again] 74)).cell? ((⟨W.heap.size,0,none⟩:Addr).add j)=some u:=by
 intro j u hj
 rw [Addr.add_lit,Nat.zero_add]
 have:=cell_of_list (C:=icells x) (w:=W.alloc (.cells (icells x).toArray 74)) (g:=W.heap.size) (t:=74) (heap_alloc_new W _) j
 exact this.trans hj
theorem appendSeq_in (Bm:Nat) (mb:Option Nat) (out:List It) (hr:Rise out) (hlen:out.length<=1000000) (w:World) (hBm:w.cell? ⟨Bm,0,none⟩=some (.map mb)) (hown:MapAt w mb out) :
  CallsIn Fence.wide 5 Tryz.prog 212 #[.slice none 0 0,.func (.func 166) #[] #[.pointer (some ⟨Bm,0,none⟩)]] w fun e W' => ∃ v xs,e=.returned v/\xs.Perm out/\Own8 W' w.heap.size v xs/\Below w.heap.size w W':=by
 refine callsIn_of_wp_marks Tryz.func212 rfl trivial ?_ rfl
 simp only [Tryz.ntmps212,List.size_toArray,List.length_cons,List.length_nil,Nat.reduceAdd,Nat.reduceSub,Array.replicate_succ,Array.replicate_zero,List.push_toArray,List.append_toArray,List.nil_append,List.cons_append]
 gi_wp2
 obtain ⟨W0,hW0⟩ : ∃ W0,w.alloc (.cells #[.slice none 0 0] 57)=W0:=⟨_,rfl⟩
 have bS:Boxed W0 w.heap.size 57 (.slice none 0 0):=by rw [<- hW0]; exact Boxed.new w _ _
 have hB0:Below w.heap.size w W0:=by rw [<- hW0]; exact (Below.refl _ w).alloc (yyH _) _
 have hsz:W0.heap.size=w.heap.size+1:=by rw [<- hW0]; simp
 rw [hW0]
 clear hW0
 obtain ⟨i0,hi0,hz0,hzs,hzb⟩:=itemInfo
 refine wpIn_rangeFunc_ownH rfl (by decide) (gf:=166) (lb := #[.pointer (some ⟨Bm,0,none⟩)]) rfl trivial (enters_of Tryz.func166 (by kernel_rfl) rfl)
  (values_stops Bm mb out hr (5-1) (by decide) w hBm hown) walksK_t walksK_b hB0 (fun _=>rfl)
  (fun pre W=>(∃ v,Boxed W w.heap.size 57 v/\W.ownsRow w.heap.size 74 8 v pre.length (cellsOf icells pre)/\True)/\Below w.heap.size w W)
  (fun _ _ _=>False)
  (OwnFrom.and (Own.from (holdsRow_own w.heap.size w.heap.size 57 74 8 (fun pre:List It=>pre.length) (fun pre=>cellsOf icells pre) (fun _ _=>True)) _) (ownFrom_below (yyH _) (by omega)))
  (fun _ _ _ _ _ hs _ _=>hs)
  ⟨⟨_,bS,World.ownsRow_nil _ _ _ _,trivial⟩,hB0⟩
  (fun x a' W => ∃ Bx,w.heap.size<Bx/\W.heap[Bx]? = some (.cells (icells x).toArray 74 (0,0))/\a'={ tmps := #[.slice none 0 0,.func (.func 166) #[] #[.pointer (some ⟨Bm,0,none⟩)],.pointer (some ⟨w.heap.size,0,none⟩),undef,.slice none 0 0,.pointer (some ⟨Bx,0,none⟩),.func (.func 166) #[] #[.pointer (some ⟨Bm,0,none⟩)],iv x,undef,undef,undef,undef,undef],defers:=[] })
  (fun x a' _ X Y row hs hg hr=>by
   obtain ⟨Bx,h1,h2,h3⟩:=hs
   refine ⟨Bx,h1,(hg.block Bx (yyD h2).1 (fun e=>?_)).trans h2,h3⟩
   obtain ⟨_,o,ho,hc⟩:=hr Bx e.symm
   rw [h2] at ho; cases ho; cases hc)
  ?assign ?body ?done ?stop
 case assign =>
  rintro l pre x W K ⟨⟨v,bS1,hrow,_⟩,hB1⟩ hK
  gi_wp2
  exact hK _ _ ((KeepsOthers.alloc _ _).from _) (KeepsWalks.alloc _ _) ⟨⟨v,bS1.alloc _,hrow.alloc _,trivial⟩,hB1.alloc hB1.size _⟩ ⟨W.heap.size,bS1.lt,heap_alloc_new W _,rfl⟩
 case body =>
  rintro l pre x a' W hl ⟨r,hr'⟩ ⟨⟨v,bS1,hrow,_⟩,hB1⟩ ⟨Bx,hBx,hX,rfl⟩ hlt
  have cS:=bS1.cell
  have fS:=bS1.frozen
  have iX:ItAt W Bx 0 x:=by constructor <;> simp [World.cell?,hX,icells]
  obtain ⟨x0,x1,x2,x3,x4,x5,x6,x7⟩:=iX
  simp only [Nat.zero_add] at x0 x1 x2 x3 x4 x5 x6 x7
  have hBl:=bS1.lt
  gi_wp2_with (first
   |(gi_at_builtin; refine wpListIn_append_own _ rfl _ _ 57 rfl w.heap.size 74 i0 _ 8 88 Tryz.underlying57 hi0 hz0 hzs hzb rfl (by decide) v pre.length (cellsOf icells pre) rfl (hrow.alloc _) ⟨W.heap.size,0,none⟩ 1 1 (icells x) rfl rfl (item_news W x) (Enc.one x) (by unfold maxLen; omega) (by omega) (by have:=hB1.size; simp; omega) ?_; intro v' w1 hown' hgrow _; obtain ⟨g',cap',rfl⟩:=ownsRow_succ hown'; obtain ⟨hv1,hv2,hr2,hk2,hb2⟩:=bS1.appended (by decide) hrow hB1.size (yyH _) hown' hgrow; have hc1:=hv1.cell; have hf1:=hv1.frozen)
   |gi_in)
  refine ⟨hk2.from _,hk2.walks,⟨_,hv2,?_,trivial⟩,hB1.trans hb2⟩
  rw [cellsOf_append,List.length_append]
  simpa [cellsOf_cons,cellsOf_nil] using hr2
 case done =>
  rintro D xs W hD hperm ⟨⟨v,bS1,hrow,_⟩,hB1⟩ hK
  have cS:=bS1.cell
  obtain ⟨va,vc,rfl⟩:=(show Own8 W w.heap.size v xs from hrow).rng.slice
  gi_wp2
  refine ⟨by simp,.inl ⟨_,_,rfl,run_takeDeferred hK,?_⟩⟩
  exact ⟨_,results_tmp (t:=4) rfl _ _ _,.slice va xs.length vc,xs,rfl,hperm,ownsRow_putObj hrow _ hK rfl,hB1.trans (belowK_b (w:=w) (yyH _) W D _ _ (by omega) hK rfl rfl)⟩
 case stop =>
  rintro D c pre W _ _ h _
  exact h.elim
theorem collect_any (Bm:Nat) (mb:Option Nat) (out:List It) (hr:Rise out) (hlen:out.length<=1000000) (w:World) (hBm:w.cell? ⟨Bm,0,none⟩=some (.map mb)) (hown:MapAt w mb out) :
  Calls Tryz.prog 164 #[.func (.func 166) #[] #[.pointer (some ⟨Bm,0,none⟩)]] w fun e W' => ∃ v xs,e=.returned v/\xs.Perm out/\Own8 W' w.heap.size v xs/\Below w.heap.size w W':=by
 have hA:=callsIn_wide.1 (appendSeq_in Bm mb out hr hlen w hBm hown)
 go_enter Tryz.func164,Tryz.ntmps164
 go_wp2_with fail
 refine hA.mono ?_
 rintro e w1 ⟨v,xs,rfl,hp,own,b⟩
 obtain ⟨va,vc,rfl⟩:=own.rng.slice
 go_wp2
 go_ret
 exact ⟨_,xs,rfl,hp,own,b⟩
theorem values_any (mb:Option Nat) (w:World) :
  Calls Tryz.prog 104 #[.map mb] w fun e w'=>e=.returned (.func (.func 166) #[] #[.pointer (some ⟨w.heap.size,0,none⟩)])/\w'=w.alloc (.cells #[.map mb] 160):=by
 go_enter Tryz.func104,Tryz.ntmps104
 go_wp2
 go_ret
 exact ⟨rfl,rfl⟩
end Go.Proofs.YtnhnpnafchkhiaaGreatDoor.F
namespace Go.Proofs.YtnhnpnafchkhiaaGreatDoor.F
open Go.Proofs.YtnhnpnafchkhiaaGreatDoor.K
open Go.RowKit Go.Sort
instance:Inhabited It:=⟨zeroIt⟩
def cmpR (x y:It):Int:=if x.tag<y.tag then -1 else if y.tag<x.tag then 1 else 0
theorem ltR (x y:It):ltOf cmpR x y=decide (x.tag<y.tag):=by
 unfold ltOf cmpR
 by_cases h1:x.tag<y.tag
 ·simp [h1]
 ·by_cases h2:y.tag<x.tag <;> simp [h1,h2]
theorem swoR:SWO (ltOf cmpR) where
 irrefl x:=by rw [ltR]; simp
 trans x y z h1 h2:=by rw [ltR] at *; simp at *; omega
 ntrans x y z h1 h2:=by rw [ltR] at *; simp at *; omega
theorem compare_any (x y:Nat) (W:World):Calls Tryz.prog 106 #[.int .u64 (x:Int),.int .u64 (y:Int)] W fun e w'=>e=.returned (.int .i64 (if x<y then -1 else if y<x then 1 else 0))/\w'=W:=by
 by_cases h1:x<y
 ·have h1':(x:Int)<(y:Int):=by omega
  rw [if_pos h1]
  go_enter Tryz.func106,Tryz.ntmps106
  go_wp2
  all_goals go_ret
  all_goals exact ⟨rfl,rfl⟩
 ·have h1' : ¬ (x:Int)<(y:Int):=by omega
  rw [if_neg h1]
  by_cases h2:y<x
  ·have h2':(y:Int)<(x:Int):=by omega
   rw [if_pos h2]
   go_enter Tryz.func106,Tryz.ntmps106
   go_wp2
   all_goals go_ret
   all_goals exact ⟨rfl,rfl⟩
  ·have h2' : ¬ (y:Int)<(x:Int):=by omega
   rw [if_neg h2]
   go_enter Tryz.func106,Tryz.ntmps106
   go_wp2
   all_goals go_ret
   all_goals exact ⟨rfl,rfl⟩
theorem outc_any (x y:It) (W:World):Calls Tryz.prog 105 #[iv x,iv y] W fun e w'=>e=.returned (.int .i64 (cmpR x y)) /\ ∃ q os',w'=grow (W.drewN q) os':=by
 have hcon:=fun W'=>compare_any x.tag y.tag W'
 unfold cmpR
 generalize (if x.tag<y.tag then (-1:Int) else if y.tag<x.tag then 1 else 0)=r at hcon ⊢
 go_enter Tryz.func105,Tryz.ntmps105
 go_wp2_with (go_at_call 106; refine (hcon _).mono ?_; rintro e w' ⟨rfl,rfl⟩)
 go_ret
 exact ⟨rfl,0,_,by rw [alloc_eq_grow,alloc_eq_grow,grow_grow]; rfl⟩
theorem flatR (l:List It):flatK icells 8 l.toArray=(cellsOf icells l).toArray:=by
 have hll:=cellsOf_length (enc:=icells) l
 refine ext_get! (by simp [hll]) fun t ht=>?_
 have ht':t<l.length*8:=by simpa using ht
 rw [get_flatK _ _ _ _ (by simpa using ht')]
 have hil:t / 8<l.length:=by omega
 have hj:t % 8<8:=Nat.mod_lt _ (by decide)
 have hg:=cellsOf_get (enc:=icells) l (t / 8) (t % 8) hil hj
 rw [show t / 8*8+t % 8=t by omega] at hg
 have e:l.toArray[t / 8]! = l[t / 8]:=by simp [hil]
 have hb:t<(cellsOf icells l).length:=by rw [hll]; exact ht'
 have hr:(cellsOf icells l).toArray[t]! = (cellsOf icells l)[t]:=by rw [getElem!_pos _ t (by simpa using hb)]; simp
 rw [hr,e]
 rw [List.getElem?_eq_getElem hb] at hg
 have hc:t % 8<(icells l[t / 8]).length:=hj
 rw [List.getElem?_eq_getElem hc] at hg
 injection hg with hg
 rw [hg]
 first
  |rw [getElem!_pos _ _ hc]
  |simp [hc]
theorem holdsR {w:World} {g:Nat} {l:List It} {T:List Value} (hg:w.heap[g]? = some (.cells (cellsOf icells l++T).toArray 74 (0,0))):HoldsK icells 8 w g 0 l.toArray:=by
 intro j hj
 rw [flatR] at hj ⊢
 have hj':j<(cellsOf icells l).length:=by simpa using hj
 refine ⟨?_,frozen_of_list hg _⟩
 rw [Nat.zero_add,cell_of_list hg,List.getElem?_append_left hj',List.getElem?_eq_getElem hj',getElem!_pos _ j (by simpa using hj')]
 simp
theorem sortedWorld {w:World} {g n:Nat} {l l':List It} {T:List Value} {os:Array Obj} (hg:w.heap[g]? = some (.cells (cellsOf icells l++T).toArray 74 (0,0))) (hl:l'.length=l.length) :
  (sortWorldK icells 8 w g 0 n l'.toArray os).heap[g]? = some (.cells (cellsOf icells l'++T).toArray 74 (0,0))/\w.grownBy (sortWorldK icells 8 w g 0 n l'.toArray os) (some g):=by
 have hlt:=(yyD hg).1
 have hsz:(putRowK icells 8 (Sort.ahead w n) g 0 l'.toArray).heap.size=w.heap.size:=by unfold putRowK; simp
 have hgb:(putRowK icells 8 (Sort.ahead w n) g 0 l'.toArray).heap[g]? = some (.cells (cellsOf icells l'++T).toArray 74 (0,0)):=by
  unfold putRowK putRow mapBlock
  show (w.heap.modify g _)[g]? = _
  rw [Array.getElem?_modify,if_pos rfl,hg]
  simp only [Option.map_some,onCells,flatR]
  congr 2
  apply Array.ext'
  apply List.ext_getElem?
  intro k
  have e1:=cellsOf_length (enc:=icells) l
  have e2:=cellsOf_length (enc:=icells) l'
  unfold putCells
  simp only [Array.toList_mapIdx,List.getElem?_mapIdx,Nat.zero_le,true_and,Nat.zero_add,Nat.sub_zero,List.size_toArray,id]
  by_cases hk:k<(cellsOf icells l').length
  ·have hk2:k<(cellsOf icells l).length:=by omega
   rw [List.getElem?_append_left hk2,List.getElem?_append_left hk,List.getElem?_eq_getElem hk2,List.getElem?_eq_getElem hk]
   simp [hk]
  ·rw [List.getElem?_append_right (by omega),List.getElem?_append_right (by omega),e1,e2,hl]
   have hk3 : ¬ k<l.length*8:=by omega
   cases T[k-l.length*8]? with
   |none=>rfl
   |some x=>simp [hk3]
 refine ⟨?_,?_⟩
 ·unfold sortWorldK
  rw [heap_grow_old _ _ (by rw [hsz]; exact hlt)]
  exact hgb
 ·refine ⟨rfl,rfl,rfl,?_,fun k hk hne=>?_⟩
  ·unfold sortWorldK
   rw [size_grow,hsz]; omega
  ·unfold sortWorldK
   rw [heap_grow_old _ _ (by rw [hsz]; exact hk)]
   unfold putRowK putRow mapBlock
   show (w.heap.modify g _)[k]? = _
   rw [Array.getElem?_modify,if_neg (fun he=>hne (by rw [he]))]
theorem sort_any (base:Nat) (v:Value) (l:List It) (w:World) (hown:Own8 w base v l) (hlen:l.length<=1000000) :
  Calls Tryz.prog 165 #[v,.func (.func 105) #[] #[]] w fun e w'=>e=.returned (.tuple #[]) /\ ∃ l',l'.Perm l/\(∀ i j (hi:i<l'.length) (hj:j<l'.length),i<j->l'[i].tag<=l'[j].tag)/\Own8 w' base v l'/\w.grownBy w' v.ownBlock:=by
 by_cases hp:0<l.length
 ·rcases hown.split with ⟨rfl,rfl⟩ | ⟨g,c,T,rfl,hbg,hg,h1,h2,hT⟩
  ·simp at hp
  ·have eg : ∀ args w,(callFunc 105 args).run Tryz.prog w=.ok (.enter 105 args) w:=enters_of Tryz.func105 (by kernel_rfl) rfl
   have hcon:=AnyQ.slices_SortFunc Tryz.sortR 8 Tryz.isAgg74 Tryz.sizeOf74 icells (fun _=>rfl) (fun x v hv=>Enc.one x v hv) cmpR swoR 105 #[] g 0 c l.toArray w eg
    (fun _ _ _ _ x y=>outc_any x y _) (holdsR hg) (yyD hg).1 (by simp; omega)
   change Calls Tryz.prog 165 _ _ _ at hcon
   refine hcon.mono ?_
   rintro e w' ⟨rfl,d',n,os,hperm,hsort,rfl⟩
   have hd:d'=d'.toList.toArray:=by simp
   have hs:d'.toList.length=l.length:=by simpa using hperm.1
   obtain ⟨hw1,hw2⟩:=sortedWorld (n:=n) (l':=d'.toList) (os:=os) hg hs
   rw [<- hd] at hw1 hw2
   refine ⟨rfl,d'.toList,?_,fun i j hi hj hij=>?_,ownOf_mk hbg hw1 hs.symm (by omega) h2 (by rw [hs]; exact hT),hw2⟩
   ·have h3:=hperm.2.2
    have e1:d'.extract 0 l.toArray.size=d':=by rw [<- hperm.1]; simp
    rw [e1] at h3
    simpa using h3
   ·have h4:=hsort i j (Nat.zero_le _) hij (by rw [hs] at hj; simpa using hj)
    rw [ltR] at h4
    have a1:d'[i]! = d'.toList[i]:=by rw [getElem!_pos _ i (by simpa using hi)]; simp
    have a2:d'[j]! = d'.toList[j]:=by rw [getElem!_pos _ j (by simpa using hj)]; simp
    rw [a1,a2] at h4
    simp at h4
    simpa using h4
 ·obtain rfl:l=[]:=List.eq_nil_of_length_eq_zero (by omega)
  obtain ⟨a,cap,rfl⟩:=hown.rng.slice
  have hcon:=AnyF.slices_SortFunc_none Tryz.sortR a cap (.func (.func 105) #[] #[]) w
  change Calls Tryz.prog 165 _ _ _ at hcon
  refine hcon.mono ?_
  rintro e w' ⟨rfl,rfl⟩
  exact ⟨rfl,[],List.Perm.refl _,fun i j hi=>by simp at hi,hown,⟨rfl,rfl,rfl,yyH _,fun _ _ _=>rfl⟩⟩
theorem sorted_eq {l' out:List It} (hr:Rise out) (hp:l'.Perm out) (hs : ∀ i j (hi:i<l'.length) (hj:j<l'.length),i<j->l'[i].tag<=l'[j].tag):l'=out :=
 List.Perm.eq_of_pairwise (le:=fun a b:It=>a.tag<=b.tag) (fun a b ha hb h1 h2=>hr.unique (hp.mem_iff.1 ha) hb (by omega)) (List.pairwise_iff_getElem.2 hs) (hr.imp (fun h=>Nat.le_of_lt h)) hp
theorem sortedFunc_any (Bm:Nat) (mb:Option Nat) (out:List It) (hr:Rise out) (hlen:out.length<=1000000) (w:World) (hBm:w.cell? ⟨Bm,0,none⟩=some (.map mb)) (hown:MapAt w mb out) :
  Calls Tryz.prog 103 #[.func (.func 166) #[] #[.pointer (some ⟨Bm,0,none⟩)],.func (.func 105) #[] #[]] w fun e W' => ∃ v,e=.returned v/\Own8 W' w.heap.size v out/\Below w.heap.size w W':=by
 have hC:=collect_any Bm mb out hr hlen w hBm hown
 go_enter Tryz.func103,Tryz.ntmps103
 go_wp2_with fail
 refine hC.mono ?_
 rintro e w1 ⟨v,xs,rfl,hp,own,b⟩
 have hl:xs.length<=1000000:=by rw [hp.length_eq]; exact hlen
 have hS:=sort_any w.heap.size v xs w1 own hl
 obtain ⟨va,vc,hva⟩:=own.rng.slice
 subst hva
 go_wp2_with fail
 refine hS.mono ?_
 rintro e w2 ⟨rfl,l2,hp2,hs2,own2,gr2⟩
 obtain rfl:=sorted_eq hr (hp2.trans hp) hs2
 have bel:Below w.heap.size w w2:=own.below gr2 b b.size (yyH _)
 go_wp2
 go_ret
 exact ⟨_,rfl,own2,bel⟩
theorem out_map (p:Nat) (mb:Option Nat) (out:List It) (v0 v1 v2:Value) (hr:Rise out) (hlen:out.length<=1000000) (w:World) (hb:w.heap[p]? = some (.cells #[v0,v1,v2,.map mb] 162 (0,0))) (hm:MapAt w mb out) :
  Calls Tryz.prog 54 #[.pointer (some ⟨p,0,none⟩)] w fun e w' => ∃ v',e=.returned v'/\Own8 w' w.heap.size v' out/\Below w.heap.size w w':=by
 obtain ⟨⟨c0,c1,c2,c3⟩,_⟩:=cells4 hb
 have b1:Below w.heap.size w (w.alloc (.cells #[.map mb] 160)):=(Below.refl _ _).alloc (yyH _) _
 have hS:=sortedFunc_any w.heap.size mb out hr hlen _ (cell_new_r w (.map mb) 160) (hm.below b1)
 clear hb
 go_enter Tryz.func54,Tryz.ntmps54
 go_wp2_with fail
 refine (values_any mb w).mono ?_
 rintro e w1 ⟨rfl,rfl⟩
 go_wp2_with fail
 refine hS.mono ?_
 rintro e w2 ⟨v,rfl,own,b⟩
 obtain ⟨va,vc,rfl⟩:=own.rng.slice
 go_wp2
 go_ret
 exact ⟨_,rfl,own.mono b1.size,b1.trans (b.mono b1.size)⟩
theorem out_any (p:Nat) (F:Nat->Prop) (s:St) (w:World) (h:Q w p F s) (ok:s.Ok) :
  Calls Tryz.prog 54 #[.pointer (some ⟨p,0,none⟩)] w fun e w' => ∃ v',e=.returned v'/\Own8 w' w.heap.size v' s.out/\Below w.heap.size w w':=by
 obtain ⟨v,b,hq,_⟩:=h
 exact out_map p (some b) s.out _ _ _ ok.o (by have:=ok.room; have:=ok.m; omega) w hq.blk (.inr ⟨b,rfl,hq.out⟩)
end Go.Proofs.YtnhnpnafchkhiaaGreatDoor.F
