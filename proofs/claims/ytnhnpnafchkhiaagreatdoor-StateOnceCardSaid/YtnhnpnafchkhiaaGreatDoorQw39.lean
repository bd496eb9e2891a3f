import Derived.Test.YtnhnpnafchkhiaaGreatDoorQwA
import Derived.Test.YtnhnpnafchkhiaaGreatDoorQw28
import Derived.Test.YtnhnpnafchkhiaaGreatDoorQw26
import Derived.Test.YtnhnpnafchkhiaaGreatDoorQw31
import Derived.Test.YtnhnpnafchkhiaaGreatDoorQw36
import Derived.Test.YtnhnpnafchkhiaaGreatDoorQw38
set_option maxHeartbeats 2000000
set_option maxRecDepth 20000
namespace Go.Proofs.YtnhnpnafchkhiaaGreatDoor
open Go.RowKit Go.Maps
def bootM (s:Sm):Sm:={ s with boots:=s.boots+1,qs:=s.qs.map fun x=>(x.1,x.2.reset.2) }
def resetsM (s:Sm) (left:Lit->Bool):Sm:={ s with qs:=s.qs.map fun x=>cond (left (.string x.1.data.toList)) x (x.1,x.2.reset.2) }
theorem resetsM_step {s:Sm} (fit:(s.qs.map Prod.fst).Nodup) (hs : ∀ x∈s.qs,x.1.size<=maxLen) {left:Lit->Bool} {n:ByteArray} {q:F.St} (hm:(n,q)∈s.qs):resetsM s (fun x=>left x && !x.sameKey (.string n.data.toList))={ resetsM s left with qs:=setQ (resetsM s left).qs n q.reset.2 }:=by
 unfold resetsM setQ
 simp only [List.map_map]
 congr 1
 refine List.map_congr_left fun x hx=>?_
 have hk:KeysOf Tryz.prog 9 (.string n.data.toList):=⟨_,keyOf_str (hs _ hm)⟩
 simp only [Function.comp]
 by_cases e:x.1=n
 ·obtain ⟨n',q'⟩:=x
  have e:n'=n:=e
  subst e
  obtain rfl:=nodup_pair fit hm hx
  rw [(sameKey_iff sKeyed.one hk).2 rfl]
  simp only [Bool.not_true,Bool.and_false,cond_false]
  cases left (.string n'.data.toList) <;> simp
 ·have hne:(Lit.string x.1.data.toList).sameKey (.string n.data.toList)=false:=by
   rw [Bool.eq_false_iff]
   intro h
   exact e (str_inj ((sameKey_iff sKeyed.one hk).1 h))
  rw [hne]
  simp only [Bool.not_false,Bool.and_true]
  cases left (.string x.1.data.toList) <;> simp [e]
theorem ranges_same {H:Type} {P:Program} {k:TypeId} {R:Value->Option (DataW H × List MemPlace)} {w w':World} {b r n:Nat} {D:DataW H} {left:Lit->Bool} {cnt:Nat} (h:w.ranges P k R b r n D left cnt) (h1:w'.heap[b]? = w.heap[b]?) (h2:w'.heap[r]? = w.heap[r]?):w'.ranges P k R b r n D left cnt:=by
 obtain ⟨es,clock,since,seen,c0,hb,F,hs,hD,hr,rest⟩:=h
 exact ⟨es,clock,since,seen,c0,h1.trans hb,F,hs,hD,h2.trans hr,rest⟩
def BootIn (w wr:World) (p:Nat) (G:Nat->Prop) (qm r0:Nat) (ps:List Pe) (s:Sm) (left:Lit->Bool):Prop :=
 ∃ ft d,SAt wr p ft d (resetsM s left)/\d.qm=qm/\d.ps=ps/\Moved w wr G (fun k => ∃ a,ft a k) /\ ¬ (∃ a,ft a r0)
theorem boot14_any (p:Nat) (G:Nat->Prop) (s:Sm) (a:Ax) (w:World) (h:SS w p G s) (fit:s.Fit) (ok : ∀ x∈s.qs,x.2.Ok) (hb:s.boots<18446744073709551615) :
  Calls Tryz.prog 92 #[.pointer (some ⟨p,0,none⟩),av a] w (DeedPost p G w 0 (bootM s)):=by
 obtain ⟨W,fold⟩ : ∃ W,w.alloc (.cells #[.int .i64 a.kind,.string a.name,.int .i64 a.n,.int .u64 a.tag,.int .i64 a.to,.string a.xn,.int .i64 a.xk,.bool a.xf,.string a.be,.string a.bq,.string a.bp,.int .i64 a.m.origin,.int .u64 a.m.seq,.int .i64 a.m.hop,.string a.m.ex,.string a.m.key,.string a.m.body] 42)=W:=⟨_,rfl⟩
 have bW:Below w.heap.size w W:=by rw [<- fold]; exact box_below w _
 obtain ⟨ft,d,hs,hF⟩:=h.kept bW
 obtain ⟨c0,c1,c2,c3,c4,c5,c6,c7,c8,c9⟩:=cells10 hs.blk
 have f5:W.frozen? ⟨p,5,none⟩=false:=frozen_of_row W p 5 _ _ hs.blk
 have hwr:IntKind.u64.wrap ((s.boots:Int)+1)=((s.boots+1:Nat):Int):=by rw [IntKind.wrap_u64]; omega
 have hlt:(s.boots:Int)<18446744073709551615:=by omega
 obtain ⟨V,fV⟩ : ∃ V,W.setCell ⟨p,5,none⟩ (.int .u64 ((s.boots+1:Nat):Int))=V:=⟨_,rfl⟩
 obtain ⟨s1,hs1⟩ : ∃ z,({ s with seq:=s.seq,boots:=s.boots+1 }:Sm)=z:=⟨_,rfl⟩
 have hV:SAt V p ft d s1:=by
  rw [<- hs1]
  refine hs.turnMain (seq:=s.seq) (boots:=s.boots+1) (fun k hk=>by rw [<- fV]; exact heap_setCell_other _ _ _ _ hk) ?_
  rw [<- fV]
  exact heap_setCell_same _ _ _ _ _ _ hs.blk
 have mV:Moved W V (fun k => ∃ a,ft a k) (fun k => ∃ a,ft a k):=⟨by rw [<- fV]; rfl,by rw [<- fV]; rfl,by rw [<- fV]; rfl,by rw [<- fV]; simp,fun k hk hn=>by rw [<- fV]; exact heap_setCell_other _ _ _ _ (fun e=>hn ⟨.main,(hs.fm k).2 e⟩),fun k hk=>.inl hk⟩
 have v7:V.cell? ⟨p,7,none⟩=some (.map (some d.qm)):=(cells10 hV.blk).2.2.2.2.2.2.2.1
 have hown:V.ownsMap Tryz.prog 9 rdP d.qm d.ps.length (DofG pkl pd d.ps):=hV.qmap
 have eG:G=fun k => ∃ a,ft a k:=funext fun k=>propext (hF k)
 have fit1:s1.Fit:=by rw [<- hs1]; exact ⟨fit.names,fit.short,fit.tos,fit.small,fit.few⟩
 have HQ:Hid ((s1.qs.map Prod.fst).Nodup/\(∀ x∈s1.qs,x.1.size<=maxLen)/\(∀ x∈s1.qs,x.2.Ok)/\DL d.ps/\d.ps.map Prod.fst=s1.qs.map Prod.fst/\bootM s=resetsM s1 (fun _=>false)) :=
  ⟨fit1.names,fun x hx=>by have:=fit1.short x hx; unfold maxLen; omega,by rw [<- hs1]; exact ok,hV.dl fit1,hV.names,by rw [<- hs1]; unfold bootM resetsM; simp⟩
 have hlts:=hV.lts
 have HV:Hid (w.heap.size<=V.heap.size):=by have h1:=bW.size; have h2:=mV.size; show _<=_; omega
 have H0:Hid (SAt V p ft d s1/\Moved w V G (fun k => ∃ a,ft a k) /\ ∀ a k,ft a k->k<V.heap.size):=⟨hV,by rw [eG]; exact Moved.from_below bW mV,hlts⟩
 obtain ⟨ps,hps⟩ : ∃ z,d.ps=z:=⟨_,rfl⟩
 obtain ⟨qm,hqm⟩ : ∃ z,d.qm=z:=⟨_,rfl⟩
 rw [hps] at hown HQ
 rw [hqm] at hown v7
 have HP:Hid (d.ps=ps/\d.qm=qm):=⟨hps,hqm⟩
 clear hs hF hV mV eG fit1 hlts bW hps hqm c0 c1 c2 c3 c4 c6 c7 c8 c9 h fit ok hb hs1
 obtain ⟨bI,hbI⟩ : ∃ z,(s.boots:Int)=z:=⟨_,rfl⟩
 obtain ⟨bJ,hbJ⟩ : ∃ z,((s.boots+1:Nat):Int)=z:=⟨_,rfl⟩
 rw [hbI,hbJ] at hwr
 rw [hbI] at c5 hlt
 rw [hbJ] at fV
 clear hbI hbJ
 go_enter Tryz.func92,Tryz.ntmps92
 go_wp2_with (first
  |(at_range; (try rw [fold]); (try rw [fV]); refine wpList_range_own _ rfl _ 83 rfl 9 102 sKeyed Tryz.underlying83 rdP qm ps.length (DofG pkl pd ps) rfl hown ?_; intro w0 hrg0 hg0 hs0)
  |go_in)
 go_frame
 have HS0:Hid (BootIn w w0 p G qm V.heap.size ps s1 (Maps.has (DofG pkl pd ps))):=by
  have e:resetsM s1 (Maps.has (DofG pkl pd ps))=s1:=by
   unfold resetsM
   have:(s1.qs.map fun x=>cond (Maps.has (DofG pkl pd ps) (.string x.1.data.toList)) x (x.1,x.2.reset.2))=s1.qs:=by
    conv=>rhs; rw [<- List.map_id s1.qs]
    refine List.map_congr_left fun x hx=>?_
    have hm:x.1∈ps.map Prod.fst:=by rw [HQ.out.2.2.2.2.1]; exact List.mem_map.2 ⟨x,hx,rfl⟩
    obtain ⟨y,hy,ey⟩:=List.mem_map.1 hm
    rw [show Maps.has (DofG pkl pd ps) (.string x.1.data.toList)=true by rw [<- ey]; exact (has_DofG sKeyed.one (HQ.out.2.2.2.1.keys y hy)).2 ⟨y,hy,rfl⟩]
    rfl
   rw [this]
  refine ⟨ft,d,?_,HP.out.2,HP.out.1,?_,?_⟩
  ·rw [e]
   exact H0.out.1.same fun a k hk=>hg0.block k (H0.out.2.2 a k hk) (by simp)
  ·exact H0.out.2.1.trans (.of_below ⟨hg0.os,hg0.tape,hg0.output,hg0.size,fun k hk=>hg0.block k hk (by simp)⟩)
  ·rintro ⟨a,ha⟩
   have:=H0.out.2.2 a _ ha
   omega
 clear hg0 hs0 H0 v7 c5 f5 hwr hlt hown
 go_loopw [6] (fun _ wr => ∃ (left:Lit->Bool) (cnt:Nat),wr.ranges Tryz.prog 9 rdP qm V.heap.size ps.length (DofG pkl pd ps) left cnt/\Hid (BootIn w wr p G qm V.heap.size ps s1 left))
  (fun _ wr=>wr.rangeLeft qm V.heap.size)
 case atStart=>exact ⟨_,_,hrg0,HS0⟩
 case round =>
  obtain ⟨left,cnt,hrg,HB⟩:=hrel
  clear hrg0 HS0
  go_wp2_with (first
   |(at_next; refine wpList_next_ranges _ rfl _ rfl 9 sKeyed rdP (fun s:ByteArray=>Value.string s) ptrO (fun key kl hk=>by obtain ⟨s,hs,_⟩:=skey_inv hk; exact ⟨s,hs⟩) (fun v y hv=>by obtain ⟨o,ho,_⟩:=rdP_inv hv; exact ⟨o,ho⟩) qm V.heap.size ps.length _ _ _ rfl hrg ?_ ?_)
   |go_in)
  ·intro _ hl0
   have HE:Hid (DeedPost p G w 0 (bootM s) (.returned (.int .i64 0)) wr):=by
    obtain ⟨ft',d',h1,_,_,h4,_⟩:=HB.out
    have e:left=fun _=>false:=funext hl0
    rw [e] at h1
    rw [HQ.out.2.2.2.2.2]
    exact ⟨rfl,_,⟨ft',d',h1,fun _=>Iff.rfl⟩,h4⟩
   go_wp2
   go_ret
   exact HE.out
  ·intro kn ko kl yd yp w1 cnt1 hkey hlx hv hat hrg1 hlt1 hg1 hs1' hen
   obtain ⟨c,hc,hck,hvo⟩:=p_entry HQ.out.2.2.2.1 hv hat
   rw [hvo] at hv hen ⊢
   obtain ⟨ft',d',h1,h2,h3,h4,h5⟩:=HB.out
   have hcm:c.1∈s1.qs.map Prod.fst:=by rw [<- HQ.out.2.2.2.2.1]; exact List.mem_map.2 ⟨c,hc,rfl⟩
   obtain ⟨⟨n,q⟩,hq,hqn⟩:=List.mem_map.1 hcm
   have hqn:n=c.1:=hqn
   have hmem:(n,q)∈(resetsM s1 left).qs:=by
    unfold resetsM
    refine List.mem_map.2 ⟨(n,q),hq,?_⟩
    rw [show left (.string (n,q).1.data.toList)=true by show left (.string n.data.toList)=true; rw [hqn]; show left (pkl c)=true; rw [hck]; exact hlx]
    rfl
   have h1w:SAt w1 p ft' d' (resetsM s1 left):=h1.same fun a k hk=>hg1.block k (h1.lts a k hk) (by simp; intro e; exact h5 ⟨a,e ▸ hk⟩)
   obtain ⟨b,hb1,hb2⟩:=h1w.queue n q hmem
   obtain rfl:b=c.2:=by
    rw [h3] at hb1
    have:(n,c.2)∈ps:=by rw [hqn]; exact hc
    have hnd:(ps.map Prod.fst).Nodup:=by rw [HQ.out.2.2.2.2.1]; exact HQ.out.1
    exact nodup_pair hnd hb1 this
   have hR:=F.reset_any c.2 _ q w1 hb2 (HQ.out.2.2.1 _ hq)
   have HB1:Hid (SAt w1 p ft' d' (resetsM s1 left)/\d'.qm=qm/\d'.ps=ps/\Moved w w1 G (fun k => ∃ a,ft' a k) /\ ¬ (∃ a,ft' a V.heap.size)/\(n,c.2)∈d'.ps/\resetsM s1 (fun x=>left x && !x.sameKey kl)={ resetsM s1 left with qs:=setQ (resetsM s1 left).qs n q.reset.2 }):=by
    refine ⟨h1w,h2,h3,?_,h5,by rw [h3,hqn]; exact hc,?_⟩
    ·exact ⟨hg1.os.trans h4.os,hg1.tape.trans h4.tape,hg1.output.trans h4.output,Nat.le_trans h4.size hg1.size,fun k hk hn=>(hg1.block k (Nat.lt_of_lt_of_le hk h4.size) (by have:=HV.out; simp; omega)).trans (h4.block k hk hn),h4.sub⟩
    ·rw [<- hck,show pkl c=.string n.data.toList by rw [hqn]; rfl]
     exact resetsM_step HQ.out.1 HQ.out.2.1 hq
   clear h1 h2 h3 h4 h5 h1w hb1 hb2 hmem hcm hq hqn hkey hlx hv hat hs1' hg1 HB
   go_wp2_with fail
   refine hR.mono ?_
   rintro e w2 ⟨rfl,F2,hQ2,m2⟩
   clear hR
   have hn6:Hid (BootIn w w2 p G qm V.heap.size ps s1 (fun x=>left x && !x.sameKey kl)/\w2.heap[qm]? = w1.heap[qm]? /\ w2.heap[V.heap.size]? = w1.heap[V.heap.size]?):=by
    have h1:=HB1.out.1
    have hr0:=hrg1.lt
    refine ⟨⟨_,_,by rw [HB1.out.2.2.2.2.2.2]; exact h1.turnQueue HB1.out.2.2.2.2.2.1 m2 hQ2,HB1.out.2.1,HB1.out.2.2.1,HB1.out.2.2.2.1.trans (moved_upd m2),?_⟩,?_,?_⟩
    ·rintro ⟨a,ha⟩
     by_cases e:a=.queue n
     ·rw [e,upd_same] at ha
      rcases m2.sub _ ha with hk | hk
      ·exact HB1.out.2.2.2.2.1 ⟨_,hk⟩
      ·omega
     ·rw [upd_other ft' F2 e] at ha
      exact HB1.out.2.2.2.2.1 ⟨_,ha⟩
    ·refine m2.block qm hrg1.owns.lt fun hk=>?_
     have:=h1.one (.queue n) .qmap qm hk ((h1.fq qm).2 HB1.out.2.1.symm)
     cases this
    ·exact m2.block _ hr0 fun hk=>HB1.out.2.2.2.2.1 ⟨_,hk⟩
   have hrg2:=ranges_same hrg1 hn6.out.2.1 hn6.out.2.2
   go_wp2
   go_roundw
   case rel=>exact ⟨_,cnt1,hrg2,hn6.out.1⟩
   case measure=>rw [hrg2.left_eq,hrg.left_eq]; exact hlt1
end Go.Proofs.YtnhnpnafchkhiaaGreatDoor
namespace Go.Proofs.YtnhnpnafchkhiaaGreatDoor
open Go.RowKit
def noQueueM (s:Sm) (n:ByteArray):Int × Sm:=match findQ s.qs n with
 |some _=>(0,{ s with qs:=s.qs.filter fun y => !decide (y.1=n),tb:={ s.tb with bs:=B.keepB (fun b=>b.que.toList==n.toList) s.tb.bs } })
 |none=>(3,s)
theorem noQueueM_some {s:Sm} {n:ByteArray} {q:F.St} (h:findQ s.qs n=some q):noQueueM s n=(0,{ s with qs:=s.qs.filter fun y => !decide (y.1=n),tb:={ s.tb with bs:=B.keepB (fun b=>b.que.toList==n.toList) s.tb.bs } }):=by unfold noQueueM; rw [h]
theorem noQueueM_none {s:Sm} {n:ByteArray} (h:findQ s.qs n=none):noQueueM s n=(3,s):=by unfold noQueueM; rw [h]
theorem dropQ_any (p:Nat) (G:Nat->Prop) (s:Sm) (a:Ax) (w:World) (h:SS w p G s) (fit:s.Fit) (ok:s.tb.Ok) (hs:a.name.size<=maxLen) :
  Calls Tryz.prog 82 #[.pointer (some ⟨p,0,none⟩),av a] w (DeedPost p G w (noQueueM s a.name).1 (noQueueM s a.name).2):=by
 obtain ⟨W,fold⟩ : ∃ W,w.alloc (.cells #[.int .i64 a.kind,.string a.name,.int .i64 a.n,.int .u64 a.tag,.int .i64 a.to,.string a.xn,.int .i64 a.xk,.bool a.xf,.string a.be,.string a.bq,.string a.bp,.int .i64 a.m.origin,.int .u64 a.m.seq,.int .i64 a.m.hop,.string a.m.ex,.string a.m.key,.string a.m.body] 42)=W:=⟨_,rfl⟩
 have hB:Boxd w W a:=by rw [<- fold]; exact boxd_new w a
 have hlt:=h.lts
 have hW:=(h.kept hB.bel).kept (drew_below W)
 have H0:Hid (SS w p G s/\Below w.heap.size w W):=⟨h,hB.bel⟩
 obtain ⟨ft,d,hs',hF⟩:=hW
 have HS:Hid (SAt W.drew p ft d s/\(∀ k,G k ↔ ∃ a,ft a k)/\Boxd w W a):=⟨hs',hF,hB⟩
 have hl:(Instr.lookup 83 (.map (some d.qm)) (.string a.name) false).run Tryz.prog W.drew=.ok (ptrO ((findP d.ps a.name).map Prod.snd)) W.drew:=DAt.look (w:=W.drew) (hs'.qmap) (hs'.dl fit) hs
 obtain ⟨c0,c1,c2,c3,c4,c5,c6,c7,c8,c9⟩:=cells10 hs'.blk
 obtain ⟨x0,x1,x2,x3,x4,x5,x6,x7,x8,x9,x10,x11,x12,x13,x14,x15,x16⟩:=cells17 hB.box
 have c7':W.cell? ⟨p,7,none⟩=some (.map (some d.qm)):=c7
 have c6':W.cell? ⟨p,6,none⟩=some (.pointer (some ⟨d.tp,0,none⟩)):=c6
 have hq:=hs'.queueAt fit a.name
 have hdl:=hs'.dl fit
 clear hs' hF hB c0 c1 c2 c3 c4 c5 c6 c7 c8 c9 x0 x2 x3 x4 x5 x6 x7 x8 x9 x10 x11 x12 x13 x14 x15 x16 h
 rcases hq with ⟨q1,q2⟩ | ⟨q,b,q1,q2,q3,q4⟩
 ·rw [q2] at hl
  replace hl:(Instr.lookup 83 (.map (some d.qm)) (.string a.name) false).run Tryz.prog W.drew=.ok (.pointer none) W.drew:=hl
  rw [noQueueM_none q1]
  clear q1 q2 hdl hlt
  go_enter Tryz.func82,Tryz.ntmps82
  go_wp2
  try rw [fold]
  (go_region_held3 (fun w'=>w'.cell? ⟨p,7,none⟩=some (.map (some d.qm))/\w'.cell? ⟨w.heap.size,1,none⟩=some (.string a.name)/\(Instr.lookup 83 (.map (some d.qm)) (.string a.name) false).run Tryz.prog w'=.ok (.pointer none) w') (first | exact ⟨c7',x1,hl⟩ | go_keep) (first | fail))
  all_goals go_wp2
  all_goals go_ret
  all_goals exact deed_none H0.out.1 (keptW H0.out.2 (drew_below W)) 3
 ·rw [q2] at hl
  replace hl:(Instr.lookup 83 (.map (some d.qm)) (.string a.name) false).run Tryz.prog W.drew=.ok (.pointer (some ⟨b,0,none⟩)) W.drew:=hl
  rw [noQueueM_some q1]
  have hsv:SAt W.drew.drew p ft d s:=HS.out.1.same fun _ _ _=>rfl
  obtain ⟨f,hf⟩:=hsv.qmap.del hdl hs
  obtain ⟨w2,e2⟩ : ∃ w2,f 0=w2:=⟨_,rfl⟩
  have hf2:=hf 0
  rw [e2] at hf2
  obtain ⟨r2,d2,g2⟩:=hf2
  obtain ⟨s2,m2⟩:=hsv.cutQueue d2 g2
  have s2d:SAt w2.drew p _ _ _:=s2.same fun _ _ _=>rfl
  have hpw:p<W.heap.size:=(yyD HS.out.1.blk).1
  have hbw:w.heap.size<W.heap.size:=(yyD HS.out.2.2.box).1
  have hpq:p≠d.qm:=fun e=>by have:=HS.out.1.one .main .qmap p ((HS.out.1.fm p).2 rfl) ((HS.out.1.fq p).2 e); cases this
  have hbq:w.heap.size≠d.qm:=fun e=>by have:=hlt _ ((HS.out.2.1 d.qm).2 ⟨.qmap,(HS.out.1.fq _).2 rfl⟩); omega
  have k2 : ∀ g j u,g<W.heap.size->g≠d.qm->W.cell? ⟨g,j,none⟩=some u->w2.cell? ⟨g,j,none⟩=some u:=fun g j u hg hne hu=>(World.cell?_of_block (w:=W) (a:=⟨g,j,none⟩) (g2.block g hg (by simpa using hne))).trans hu
  have z7:=k2 _ _ _ hpw hpq c7'
  have z6:=k2 _ _ _ hpw hpq c6'
  have z1:=k2 _ _ _ hbw hbq x1
  have hFg:=B.forget_any d.tp (upd ft (.queue a.name) (fun _=>False) .table) s.tb a.name w2.drew s2d.table ok
  have hbw2:w.heap.size<w2.heap.size:=Nat.lt_of_lt_of_le hbw g2.size
  have H2:Hid (∀ w3 F3 tb',B.T w3 d.tp F3 tb'->Moved w2.drew w3 (upd ft (.queue a.name) (fun _=>False) .table) F3->Hid (DeedPost p G w 0 { s with qs:=s.qs.filter fun y => !decide (y.1=a.name),tb:=tb' } (.returned (.int .i64 0)) w3)/\w3.cell? ⟨p,6,none⟩=some (.pointer (some ⟨d.tp,0,none⟩))/\w3.cell? ⟨w.heap.size,1,none⟩=some (.string a.name)):=by
   intro w3 F3 tb' t3 m3
   have e:G=fun k => ∃ a,ft a k:=funext fun k=>propext (HS.out.2.1 k)
   have mm:=(Moved.from_below (keptW (keptW HS.out.2.2.bel (drew_below W)) (drew_below W.drew)) m2).trans ((Moved.of_below (drew_below w2)).trans (moved_upd m3))
   have kk:=keepP (w:=w) (F:=fun k => ∃ c,upd ft (.queue a.name) (fun _=>False) c k) s2d (fun k=>Iff.rfl) (fun k hk=>by
    obtain ⟨c,hc⟩:=hk
    by_cases ec:c=.queue a.name
    ·rw [ec,upd_same] at hc; exact hc.elim
    ·rw [upd_other ft _ ec] at hc; exact hlt k ((HS.out.2.1 k).2 ⟨c,hc⟩)) hbw2 (by simp) m3
   exact ⟨⟨rfl,_,⟨_,_,s2d.turnTable m3 t3,fun k=>Iff.rfl⟩,by rw [e]; exact mm⟩,kk.1 6 _ z6,kk.2 1 _ z1⟩
  clear q1 q2 q3 q4 hdl hlt hf s2 m2 s2d d2 g2 e2 k2 hsv hbw hbw2 hpw hpq hbq
  go_enter Tryz.func82,Tryz.ntmps82
  go_wp2
  try rw [fold]
  (go_region_held3 (fun w'=>w'.cell? ⟨p,7,none⟩=some (.map (some d.qm))/\w'.cell? ⟨w.heap.size,1,none⟩=some (.string a.name)/\(Instr.lookup 83 (.map (some d.qm)) (.string a.name) false).run Tryz.prog w'=.ok (.pointer (some ⟨b,0,none⟩)) w') (first | exact ⟨c7',x1,hl⟩ | go_keep) (first | fail))
  all_goals go_wp2
  (go_region_held3 (fun w'=>w'.cell? ⟨p,7,none⟩=some (.map (some d.qm))/\w'.cell? ⟨w.heap.size,1,none⟩=some (.string a.name)) (first | exact ⟨c7',x1⟩ | go_keep) (first | fail))
  all_goals go_wp2
  (go_region_held3 (fun w'=>w'.cell? ⟨p,6,none⟩=some (.pointer (some ⟨d.tp,0,none⟩))/\w'.cell? ⟨w.heap.size,1,none⟩=some (.string a.name)) (first | exact ⟨z6,z1⟩ | go_keep) (first
   |(go_at_call 132; refine hFg.mono ?_; rintro e w3 ⟨rfl,F3,t3,m3⟩; obtain ⟨p3,f1,f2⟩:=H2.out w3 F3 _ t3 m3; clear t3 m3 hFg H2)))
  all_goals go_wp2
  all_goals go_ret
  all_goals exact p3.out
def actM (s:Sm) (a:Ax):Int × Sm :=
 if goodA a=false then (2,s)
 else if a.kind=1 then queueM s a.name a.n
 else if a.kind=2 then noQueueM s a.name
 else if a.kind=3 then ((s.tb.declare ⟨a.xn,a.xk,a.xf⟩).1,{ s with tb:=(s.tb.declare ⟨a.xn,a.xk,a.xf⟩).2 })
 else if a.kind=4 then ((s.tb.drop a.name).1,{ s with tb:=(s.tb.drop a.name).2 })
 else if a.kind=5 then ((bindM s ⟨a.be,a.bq,a.bp⟩).1,{ s with tb:=(bindM s ⟨a.be,a.bq,a.bp⟩).2 })
 else if a.kind=6 then ((s.tb.unbind ⟨a.be,a.bq,a.bp⟩).1,{ s with tb:=(s.tb.unbind ⟨a.be,a.bq,a.bp⟩).2 })
 else if a.kind=7 then enterM s a.m
 else if a.kind=8 then onQ s a.name giveM
 else if a.kind=9 then onQ s a.name (fun q=>q.done a.tag.toNat)
 else if a.kind=10 then onQ s a.name (fun q=>q.back a.tag.toNat)
 else if a.kind=11 then sentM s a.to a.n.toNat
 else (0,bootM s)
def toldM (s:Sm) (a:Ax):List ByteArray:=if goodA a=true/\a.kind=7/\(actM s a).1=0 then intoM s a.m else []
theorem linkOf_cons (y:Int × List Ms) (r:List (Int × List Ms)) (t:Int):linkOf (y::r) t=if y.1=t then y.2 else linkOf r t:=by
 unfold linkOf
 by_cases h:y.1=t
 ·simp [h]
 ·simp [h]
theorem linkOf_ins {l:List (Int × List Ms)} (up:Up l) (t:Int) (x:List Ms) (t':Int):linkOf (insL t x l) t'=if t'=t then x else linkOf l t':=by
 have sw : ∀ a b:List Ms,(if t=t' then a else b)=if t'=t then a else b:=fun a b=>by
  by_cases h:t=t'
  ·rw [if_pos h,if_pos h.symm]
  ·rw [if_neg h,if_neg fun e=>h e.symm]
 induction l with
 |nil =>
  unfold insL
  rw [linkOf_cons,sw]
 |cons y r ih =>
  have ih:=ih up.tail
  unfold insL
  by_cases h1:t<y.1
  ·rw [if_pos h1,linkOf_cons,sw]
  ·rw [if_neg h1]
   by_cases h2:y.1=t
   ·rw [if_pos h2,linkOf_cons,sw,linkOf_cons,h2,sw]
    by_cases h:t'=t
    ·rw [if_pos h,if_pos h]
    ·rw [if_neg h,if_neg h,if_neg h]
   ·rw [if_neg h2,linkOf_cons,ih,linkOf_cons]
    by_cases h3:y.1=t'
    ·rw [if_pos h3,if_pos h3,if_neg fun e=>h2 (by omega)]
    ·rw [if_neg h3,if_neg h3]
structure Inv (k:Nat) (s:Sm):Prop where
 r:s.Ready
 upk:UpK s.qs
 nq:s.qs.length<=16
 len:S.LenF k s.bk
 boots:s.boots<=k
 top:O.GoodT s.S s.E s.H
 site:1<=s.site/\s.site<=s.S
 tos : ∀ x∈s.lk,1<=x.1/\x.1<=8
 some : ∀ x∈s.lk,x.2≠[]
theorem addS_len {l:List (Nat × Nat)} {n:Nat} (h:S.Apart 1 l):(S.addS l n).length<=l.length+1:=by
 unfold S.addS
 split
 ·have h1:=S.from_le_to (n:=n) h
  have h2:=S.to_le l n
  simp only [S.addL,List.length_append,List.length_take,List.length_cons,List.length_drop]
  omega
 ·omega
theorem lenF_add {f:Nat->List (Nat × Nat)} {n:Nat} (h:S.LenF n f) (hf:S.FineF f) (o:Int) (s:Nat):S.LenF (n+1) (S.addF f o s):=by
 unfold S.addF
 split
 ·refine h.put (by omega) ?_
  have:=addS_len (n:=s) (hf (o-1).toNat (by omega)).1
  have:=h (o-1).toNat (by omega)
  omega
 ·exact fun i hi=>Nat.le_trans (h i hi) (by omega)
theorem nextL_in {S:Int} {E:List (Int × Int)} {a n:Int} (h:n∈O.nextL S E a):1<=n/\n<=S:=O.mem_sites.1 (List.mem_filter.1 h).1
theorem onward_in {S:Int} {E:List (Int × Int)} {H:Int} (g:O.GoodT S E H) {a x n:Int} (h:n∈O.onwardT S E H a x):1<=n/\n<=8:=by
 unfold O.onwardT at h
 split at h
 ·have h1:=(List.mem_filter.1 h).1
  unfold O.nextT at h1
  rw [if_pos g] at h1
  have:=nextL_in h1
  have:=g.1
  omega
 ·cases h
theorem onward_up (S:Int) (E:List (Int × Int)) (H a x:Int):(O.onwardT S E H a x).Pairwise (· < ·):=by
 unfold O.onwardT O.nextT
 split
 ·split
  ·exact (O.nextL_lt _ _ _).filter _
  ·exact List.Pairwise.nil
 ·exact List.Pairwise.nil
theorem up_short {α:Type} {l:List (Int × α)} (up:Up l) (h : ∀ x∈l,1<=x.1/\x.1<=8):l.length<=8:=by
 have h1:(l.map Prod.fst).length<=(O.sites 8).length:=O.nodup_le (up.imp fun h=>Int.ne_of_lt h) fun x hx=>by
  obtain ⟨y,hy,rfl⟩:=List.mem_map.1 hx
  exact O.mem_sites.2 (h y hy)
 simpa [O.sites] using h1
theorem admit_ways {s:Sm} (g:O.GoodT s.S s.E s.H) {m:Ms} {ways:List Int} (h:admitM s m=(ways,0)):(∀ t∈ways,1<=t/\t<=8)/\ways.Pairwise (· < ·):=by
 have key : ∀ a x,ways=O.onwardT s.S s.E s.H a x\/ways=[]->(∀ t∈ways,1<=t/\t<=8)/\ways.Pairwise (· < ·):=fun a x h=>by
  rcases h with rfl | rfl
  ·exact ⟨fun t ht=>onward_in g ht,onward_up _ _ _ _ _⟩
  ·exact ⟨fun t ht=>(by cases ht),List.Pairwise.nil⟩
 unfold admitM ownM at h
 split at h
 ·split at h
  ·simp at h
  ·split at h
   ·simp at h
   ·split at h
    ·simp at h
    ·split at h
     ·simp at h
     ·split at h
      ·exact key _ _ (.inl (Prod.mk.inj h).1.symm)
      ·exact key 0 0 (.inr (Prod.mk.inj h).1.symm)
 ·split at h
  ·simp at h
  ·split at h
   ·simp at h
   ·split at h
    ·simp at h
    ·exact key _ _ (.inl (Prod.mk.inj h).1.symm)
theorem ways_short {ways:List Int} (h1 : ∀ t∈ways,1<=t/\t<=8) (h2:ways.Pairwise (· < ·)):ways.length<=8:=by
 have h3:ways.length<=(O.sites 8).length:=O.nodup_le (h2.imp fun h=>Int.ne_of_lt h) fun x hx=>O.mem_sites.2 (h1 x hx)
 simpa [O.sites] using h3
structure LkOk (l:List (Int × List Ms)):Prop where
 up:Up l
 tos : ∀ x∈l,1<=x.1/\x.1<=8
 few : ∀ x∈l,x.2.length<=200
 some : ∀ x∈l,x.2≠[]
theorem LkOk.put {l:List (Int × List Ms)} (h:LkOk l) {t:Int} (ht:1<=t/\t<=8) {x:List Ms} (hx:x.length<=200) (hn:x≠[]):LkOk (insL t x l) where
 up:=insL_up t x l h.up
 tos:=fun y hy=>(insL_mem h.up hy).elim (fun e=>e ▸ ht) (h.tos y)
 few:=fun y hy=>(insL_mem h.up hy).elim (fun e=>by rw [e]; exact hx) (h.few y)
 some:=fun y hy=>(insL_mem h.up hy).elim (fun e=>by rw [e]; exact hn) (h.some y)
theorem Inv.lk {k:Nat} {s:Sm} (h:Inv k s):LkOk s.lk:=⟨h.r.up,h.tos,h.r.few,h.some⟩
theorem Inv.of {k k':Nat} {s s':Sm} (h:Inv k s) (e1:s'.S=s.S) (e2:s'.E=s.E) (e3:s'.H=s.H) (e4:s'.site=s.site) (hl:LkOk s'.lk) (hn:UpK s'.qs) (hq : ∀ x∈s'.qs,x.1.size<=20/\x.2.Ok) (hq2:s'.qs.length<=16) (ht:s'.tb.Ok) (hf:S.FineF s'.bk) (hlen:S.LenF k' s'.bk) (hk:k'<=1000) (hs:s'.seq<18446744073709551616) (hb:s'.boots<=k'):Inv k' s' where
 r:={
  fit:=⟨hn.imp (fun {a b} h e=>by rw [e] at h; have h2:B.cmpS b b=0:=B.cmpS3.self b; omega),fun x hx=>(hq x hx).1,hl.up.imp (fun h=>Int.ne_of_lt h),fun x hx=>by have:=hl.tos x hx; unfold I64; omega,fun x hx=>by have:=hl.few x hx; omega⟩
  tb:=ht
  bk:=⟨hf,fun i hi=>Nat.le_trans (hlen i hi) (by omega)⟩
  seq:=hs
  qok:=fun x hx=>(hq x hx).2
  up:=hl.up
  few:=hl.few
  nlk:=up_short hl.up hl.tos }
 upk:=hn
 nq:=hq2
 len:=hlen
 boots:=hb
 top:=by rw [e1,e2,e3]; exact h.top
 site:=by rw [e1,e4]; exact h.site
 tos:=hl.tos
 some:=hl.some
end Go.Proofs.YtnhnpnafchkhiaaGreatDoor
