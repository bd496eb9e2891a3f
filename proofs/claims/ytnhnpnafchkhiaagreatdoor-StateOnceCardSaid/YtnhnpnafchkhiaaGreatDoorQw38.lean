import Derived.Test.YtnhnpnafchkhiaaGreatDoorQwA
import Derived.Test.YtnhnpnafchkhiaaGreatDoorQw30
import Derived.Test.YtnhnpnafchkhiaaGreatDoorQw37
import Derived.Test.YtnhnpnafchkhiaaGreatDoorQw28
set_option maxHeartbeats 4000000
set_option maxRecDepth 20000
namespace Go.Proofs.YtnhnpnafchkhiaaGreatDoor
open Go.RowKit Go.Sort
theorem ixI_any (v:Value) (l:List Int) (t:Int) (w:World) (hr:Row w v (icells l)) :
  Calls Tryz.prog 251 #[v,.int .i64 t] w fun e w' => ∃ z:Int,e=.returned (.int .i64 z)/\(0<=z↔l.any (fun x=>decide (t=x))=true) /\ ∃ k,w'=w.drewN k:=by
 obtain ⟨a,cap,hv⟩:=hr.slice
 rw [icells_length] at hv
 subst hv
 obtain ⟨n,hn⟩ : ∃ z,l.length=z:=⟨_,rfl⟩
 rw [hn] at hr ⊢
 have H0:Hid (Row w (.slice a n cap) (icells l)/\l.length=n):=⟨hr,hn⟩
 obtain ⟨r,hR⟩ : ∃ r,l.any (fun x=>decide (t=x))=r:=⟨_,rfl⟩
 rw [hR]
 have HR:Hid (l.any (fun x=>decide (t=x))=r):=hR
 clear hr hn hR
 go_enter Tryz.func251,Tryz.ntmps251
 go_wp2
 go_loopg [5,8] n (fun g u5 u8 wr => ∃ i:Nat,u8=.int .i64 (i:Int)/\i<=n/\g=n-i/\Hid ((l.take i).any (fun x=>decide (t=x))=false) /\ ∃ k,wr=w.drewN k)
 case atStart=>exact ⟨0,rfl,Nat.zero_le _,rfl,rfl,0,rfl⟩
 case round =>
  obtain ⟨i,rfl,hi,rfl,HI,k,rfl⟩:=hrel
  by_cases hlt:i<n
  ·have hlt':(i:Int)<(n:Int):=by omega
   have hil:i<l.length:=by rw [H0.out.2]; exact hlt
   obtain ⟨x,hx⟩ : ∃ x,l[i]=x:=⟨_,rfl⟩
   obtain ⟨b,off,cap',hv,hc1,hc2,hcs⟩:=H0.out.1.at (by rw [icells_length]; omega)
   have hc:w.cell? ⟨b,off+i,none⟩=some (.int .i64 x):=by
    rw [hcs i (by rw [icells_length]; exact hil),<- hx]
    simp [icells]
   rw [icells_length,H0.out.2] at hv hc1
   injection hv with hv1 _ hv2
   subst hv1 hv2
   have hi7:i<9223372036854775807:=by unfold maxLen at hc2; omega
   have HX:Hid ((l.take (i+1)).any (fun x=>decide (t=x))=decide (t=x)/\i<9223372036854775807):=⟨by rw [List.take_succ_eq_append_getElem hil,List.any_append,HI.out,hx]; simp,hi7⟩
   clear hx hcs hc1 hc2 hi7
   by_cases he:t=x
   ·rw [decide_eq_true he] at HX
    go_wp2
    go_ret
    obtain rfl:true=r:=(any_take HX.out.1).symm.trans HR.out
    exact ⟨_,rfl,⟨fun _=>rfl,fun _=>by omega⟩,_,rfl⟩
   ·rw [decide_eq_false he] at HX
    go_wp2
    go_roundg (n-(i+1))
    case measure=>omega
    case rel=>exact ⟨i+1,congrArg (Value.int IntKind.i64) (by have:=HX.out; unfold wrap64; omega),by omega,rfl,HX.out.1,_,rfl⟩
  ·have hlt' : ¬ (i:Int)<(n:Int):=by omega
   obtain rfl:i=n:=by omega
   have HF:Hid (l.any (fun x=>decide (t=x))=false):=by
    have:=HI.out
    rw [List.take_of_length_le (by rw [H0.out.2]; exact yyH _)] at this
    exact this
   obtain rfl:false=r:=HF.out.symm.trans HR.out
   go_wp2
   go_ret
   exact ⟨_,rfl,by simp,_,rfl⟩
theorem coI_any (v:Value) (l:List Int) (t:Int) (w:World) (hr:Row w v (icells l)) :
  Calls Tryz.prog 191 #[v,.int .i64 t] w fun e w'=>e=.returned (.bool (l.any (fun x=>decide (t=x)))) /\ ∃ k,w'=w.drewN k:=by
 have hI:=ixI_any v l t w hr
 obtain ⟨a,cap,hv⟩:=hr.slice
 rw [icells_length] at hv
 subst hv
 generalize l.any (fun x=>decide (t=x))=r at hI ⊢
 generalize l.length=n at hI ⊢
 clear hr
 go_enter Tryz.func191,Tryz.ntmps191
 go_wp2_with fail
 refine hI.mono ?_
 rintro e w2 ⟨z,rfl,hz,k,rfl⟩
 clear hI
 cases r
 ·have hz' : ¬ 0<=z:=fun h=>absurd (hz.1 h) (by decide)
  clear hz
  go_wp2
  go_ret
  exact ⟨by simp [hz'],k,rfl⟩
 ·have hz':0<=z:=hz.2 rfl
  clear hz
  go_wp2
  go_ret
  exact ⟨by simp,k,rfl⟩
def leadsM (s:Sm) (t:Int):Bool:=(O.nextT s.S s.E s.H s.site).any (fun x=>decide (t=x))
theorem leads14_any (p:Nat) (G:Nat->Prop) (s:Sm) (t:Int) (w:World) (h:SS w p G s) :
  Calls Tryz.prog 147 #[.pointer (some ⟨p,0,none⟩),.int .i64 t] w fun e w'=>e=.returned (.bool (leadsM s t))/\Below w.heap.size w w':=by
 have hW:=h.kept (drew_below w)
 obtain ⟨ft,d,hs',hF⟩:=hW
 have hD:=O.next_any s.S s.H s.site d.ev s.E w.drew hs'.edges.rng
 obtain ⟨c0,c1,c2,c3,c4,c5,c6,c7,c8,c9⟩:=cells10 hs'.blk
 obtain ⟨ea,ec,hev⟩:=hs'.edges.rng.slice
 obtain ⟨n,hn⟩ : ∃ z,s.E.length=z:=⟨_,rfl⟩
 rw [hn] at hev
 rw [hev] at hD c2
 have k0:w.cell? ⟨p,0,none⟩=some (.int .i64 s.site):=c0
 have k1:w.cell? ⟨p,1,none⟩=some (.int .i64 s.S):=c1
 have k2:w.cell? ⟨p,2,none⟩=some (.slice ea n ec):=c2
 have k3:w.cell? ⟨p,3,none⟩=some (.int .i64 s.H):=c3
 have HK:Hid (∀ V,Below w.drew.heap.size w.drew V->V.cell? ⟨p,0,none⟩=some (.int .i64 s.site)/\V.cell? ⟨p,1,none⟩=some (.int .i64 s.S)/\V.cell? ⟨p,2,none⟩=some (.slice ea n ec)/\V.cell? ⟨p,3,none⟩=some (.int .i64 s.H)):=fun V b=>⟨cell_on b k0,cell_on b k1,cell_on b k2,cell_on b k3⟩
 unfold leadsM
 obtain ⟨L,hL⟩ : ∃ z,O.nextT s.S s.E s.H s.site=z:=⟨_,rfl⟩
 rw [hL] at hD ⊢
 obtain ⟨R,hR⟩ : ∃ z,L.any (fun x=>decide (t=x))=z:=⟨_,rfl⟩
 have HC:Hid (∀ V v,Row V v (icells L)->Calls Tryz.prog 191 #[v,.int .i64 t] V fun e w'=>e=.returned (.bool R) /\ ∃ k,w'=V.drewN k):=fun V v hr=>by have:=coI_any v L t V hr; rw [hR] at this; exact this
 rw [hR]
 clear hs' hF c0 c1 c2 c3 c4 c5 c6 c7 c8 c9 h hev hn hL hR
 go_enter Tryz.func147,Tryz.ntmps147
 go_wp2
 (go_region_held3 (fun w'=>w'.cell? ⟨p,0,none⟩=some (.int .i64 s.site)/\w'.cell? ⟨p,1,none⟩=some (.int .i64 s.S)/\w'.cell? ⟨p,2,none⟩=some (.slice ea n ec)/\w'.cell? ⟨p,3,none⟩=some (.int .i64 s.H)) (first | exact ⟨k0,k1,k2,k3⟩ | go_keep) (first
  |(go_at_call 45; refine hD.mono ?_; rintro e w2 ⟨v2,rfl,r2,b2⟩; have H2:Hid (O.RowI w2 w.drew.heap.size v2 L/\Below w.drew.heap.size w.drew w2):=⟨r2,b2⟩; obtain ⟨f0,f1,f2,f3⟩:=HK.out w2 b2; clear r2 b2 hD)
  |(go_at_call 191; refine (HC.out _ _ H2.out.1.row).mono ?_; rintro e w3 ⟨rfl,k,rfl⟩)))
 all_goals go_wp2
 all_goals go_ret
 all_goals exact ⟨rfl,keptW (keptW (drew_below w) H2.out.2) (drewN_below _ _)⟩
end Go.Proofs.YtnhnpnafchkhiaaGreatDoor
namespace Go.Proofs.YtnhnpnafchkhiaaGreatDoor
open Go.RowKit
section
variable {w w2:World} {p:Nat} {ft:Ix->Nat->Prop} {d:Ad} {s:Sm}
theorem filter_tos {α β:Type} (n:Int) : ∀ (l:List (Int × α)) (k:List (Int × β)),l.map Prod.fst=k.map Prod.fst->(l.filter fun y => !decide (y.1=n)).map Prod.fst=(k.filter fun y => !decide (y.1=n)).map Prod.fst
 |[],[],_=>rfl
 |[],_::_,h=>by simp at h
 |_::_,[],h=>by simp at h
 |a::l,b::k,h=>by
  simp only [List.map_cons,List.cons.injEq] at h
  have ih:=filter_tos n l k h.2
  by_cases hn:b.1=n
  ·simp [h.1,hn] at ih ⊢
   exact ih
  ·simp [h.1,hn] at ih ⊢
   exact ih
theorem SAt.cutLink (h:SAt w p ft d s) {t:Int} (hd:LAt w2 d.lm (d.es.filter fun y => !decide (y.1=t))) (g:w.grownBy w2 (some d.lm)) :
  SAt w2 p (upd ft (.link t) fun _=>False) { d with es:=d.es.filter fun y => !decide (y.1=t) } { s with lk:=s.lk.filter fun y => !decide (y.1=t) }/\Moved w w2 (fun k => ∃ a,ft a k) (fun k => ∃ a,upd ft (.link t) (fun _=>False) a k):=by
 have ho : ∀ a,a≠.lmap -> ∀ k,ft a k->w2.heap[k]? = w.heap[k]? := fun a ha k hk=>g.block k (h.lts a k hk) (by simpa using fun e=>ha (h.one a .lmap k hk ((h.fl k).2 e)))
 refine ⟨⟨?_,?_,?_,?_,?_,?_,?_,?_,hd,?_,h.names,?_,?_,?_,?_,?_,?_⟩,?_⟩
 ·rw [ho .main (by simp) p ((h.fm p).2 rfl)]; exact h.blk
 ·rw [upd_other ft _ (by simp)]; exact h.fm
 ·exact h.edges.same fun g hg=>ho .edges (by simp) g ((h.fe g).2 hg)
 ·rw [upd_other ft _ (by simp)]; exact h.fe
 ·rw [upd_other ft _ (by simp)]; exact h.table.same fun k hk=>ho .table (by simp) k hk
 ·exact h.qmap.same (ho .qmap (by simp) _ ((h.fq _).2 rfl))
 ·rw [upd_other ft _ (by simp)]; exact h.fq
 ·rw [upd_other ft _ (by simp)]; exact h.book.same fun k hk=>ho .book (by simp) k hk
 ·rw [upd_other ft _ (by simp)]; exact h.fl
 ·intro n q hq
  rw [upd_other ft _ (by simp)]
  obtain ⟨b,h1,h2⟩:=h.queue n q hq
  exact ⟨b,h1,h2.same fun k hk=>ho _ (by simp) k hk⟩
 ·intro n hn
  rw [upd_other ft _ (by simp)]
  exact h.noq n hn
 ·exact filter_tos t d.es s.lk h.tos
 ·intro t' l' hl'
  obtain ⟨hm,hne⟩:=List.mem_filter.1 hl'
  have hne:t'≠t:=by simpa using hne
  rw [upd_other ft _ (by simpa using hne)]
  obtain ⟨v,h1,h2,h3⟩:=h.link t' l' hm
  exact ⟨v,List.mem_filter.2 ⟨h1,by simpa using hne⟩,h2.same fun g hg=>ho (.link t') (by simp) g ((h3 g).2 hg),h3⟩
 ·intro t' ht' k
  by_cases e:t'=t
  ·rw [e,upd_same]; exact id
  ·rw [upd_other ft _ (by simpa using e)]
   refine h.nol t' (fun hm=>ht' ?_) k
   obtain ⟨x,hx,e2⟩:=List.mem_map.1 hm
   exact List.mem_map.2 ⟨x,List.mem_filter.2 ⟨hx,by rw [e2]; simpa using e⟩,e2⟩
 ·intro a c k ha hc
  by_cases ea:a=.link t
  ·rw [ea,upd_same] at ha; exact ha.elim
  ·by_cases ec:c=.link t
   ·rw [ec,upd_same] at hc; exact hc.elim
   ·rw [upd_other ft _ ea] at ha
    rw [upd_other ft _ ec] at hc
    exact h.one a c k ha hc
 ·refine ⟨g.os,g.tape,g.output,g.size,fun k hk hn=>g.block k hk (by simpa using fun e=>hn ⟨.lmap,(h.fl k).2 e⟩),fun k ⟨a,ha⟩=>?_⟩
  by_cases ea:a=.link t
  ·rw [ea,upd_same] at ha; exact ha.elim
  ·rw [upd_other ft _ ea] at ha
   exact .inl ⟨a,ha⟩
end
def sentM (s:Sm) (t:Int) (n:Nat):Int × Sm :=
 if leadsM s t=false then (3,s) else if (linkOf s.lk t).length<n then (10,s) else if (linkOf s.lk t).length=n then (0,{ s with lk:=(insL t ((linkOf s.lk t).drop n) s.lk).filter fun y => !decide (y.1=t) }) else (0,{ s with lk:=insL t ((linkOf s.lk t).drop n) s.lk })
structure SentIn (V1:World) (p bx lm:Nat) (t:Int) (n n0:Nat) (va:Option Addr) (vc:Nat):Prop where
 cells : ∀ V:World,V.heap[p]? = V1.heap[p]? -> V.heap[bx]? = V1.heap[bx]? -> V.cell? ⟨p,9,none⟩=some (.map (some lm))/\V.cell? ⟨bx,4,none⟩=some (.int .i64 t)/\V.cell? ⟨bx,2,none⟩=some (.int .i64 (n:Int))
 look : ∀ V:World,V.heap[lm]? = V1.heap[lm]? -> (Instr.lookup 86 (.map (some lm)) (.int .i64 t) false).run Tryz.prog V=.ok (.slice va n0 vc) V
theorem sent14_any (p:Nat) (G:Nat->Prop) (s:Sm) (a:Ax) (n:Nat) (w:World) (h:SS w p G s) (fit:s.Fit) (up:Up s.lk) (hlk:s.lk.length<=1000) (ht:I64 a.to) (hna:a.n=(n:Int)) (hn:1<=n/\n<=200) :
  Calls Tryz.prog 91 #[.pointer (some ⟨p,0,none⟩),av a] w (DeedPost p G w (sentM s a.to n).1 (sentM s a.to n).2):=by
 obtain ⟨W,fold⟩ : ∃ W,w.alloc (.cells #[.int .i64 a.kind,.string a.name,.int .i64 a.n,.int .u64 a.tag,.int .i64 a.to,.string a.xn,.int .i64 a.xk,.bool a.xf,.string a.be,.string a.bq,.string a.bp,.int .i64 a.m.origin,.int .u64 a.m.seq,.int .i64 a.m.hop,.string a.m.ex,.string a.m.key,.string a.m.body] 42)=W:=⟨_,rfl⟩
 have hB:Boxd w W a:=by rw [<- fold]; exact boxd_new w a
 have hL:=leads14_any p G s a.to W (h.kept hB.bel)
 have x4:W.cell? ⟨w.heap.size,4,none⟩=some (.int .i64 a.to):=(cells17 hB.box).2.2.2.2.1
 have H0:Hid (SS w p G s/\Boxd w W a):=⟨h,hB⟩
 have H1:Hid (s.Fit/\Up s.lk/\s.lk.length<=1000/\I64 a.to/\a.n=(n:Int)/\1<=n/\n<=200):=⟨fit,up,hlk,ht,hna,hn⟩
 clear h fit up hlk ht hna hn hB
 go_enter Tryz.func91,Tryz.ntmps91
 go_wp2_with fail
 try rw [fold]
 refine hL.mono ?_
 rintro e V1 ⟨rfl,b1⟩
 clear hL x4 fold
 have HB1:Hid (Below w.heap.size w V1/\Below W.heap.size W V1):=⟨keptW H0.out.2.bel b1,b1⟩
 clear b1
 cases hld:leadsM s a.to
 ·have hS:sentM s a.to n=(3,s):=by unfold sentM; rw [if_pos hld]
  have HSm:Hid _:=hS
  clear hld hS
  go_wp2
  go_ret
  rw [HSm.out]
  exact deed_none H0.out.1 HB1.out.1 3
 obtain ⟨ft,d,hs,hF⟩:=(H0.out.1.kept HB1.out.1)
 have ho:=hs.linkAt H1.out.1 a.to
 obtain ⟨va,vc,hv⟩:=ho.rng.slice
 obtain ⟨n0,hn0⟩ : ∃ z,(linkOf s.lk a.to).length=z:=⟨_,rfl⟩
 rw [hn0] at hv
 have hbx:V1.heap[w.heap.size]? = some (.cells (xcells a).toArray 42 (0,0)):=(HB1.out.2.block _ (yyD H0.out.2.box).1).trans H0.out.2.box
 have HI:Hid (SentIn V1 p w.heap.size d.lm a.to n n0 va vc):=by
  refine ⟨fun V h1 h2=>⟨(cells10 (h1.trans hs.blk)).2.2.2.2.2.2.2.2.2,(cells17 (h2.trans hbx)).2.2.2.2.1,?_⟩,fun V h1=>?_⟩
  ·rw [<- H1.out.2.2.2.2.1]; exact (cells17 (h2.trans hbx)).2.2.1
  ·rw [LAt.look (w:=V) (hs.lmap.same h1) (hs.ll H1.out.1) H1.out.2.2.2.1,hv]
 have HS:Hid (SAt V1 p ft d s/\(∀ k,G k ↔ ∃ a,ft a k)/\OwnM V1 0 (.slice va n0 vc) (linkOf s.lk a.to)/\linkV d a.to=.slice va n0 vc/\(linkOf s.lk a.to).length=n0/\leadsM s a.to=true):=⟨hs,hF,by rw [<- hv]; exact ho,hv,hn0,hld⟩
 have HG:Hid (w.heap.size<V1.heap.size /\ ¬ G w.heap.size):=⟨(yyD hbx).1,fun hk=>by have:=H0.out.1.lts _ hk; omega⟩
 obtain ⟨lm,hlm⟩ : ∃ z,d.lm=z:=⟨_,rfl⟩
 rw [hlm] at HI
 have HLM:Hid (d.lm=lm):=hlm
 clear hs hF ho hv hn0 hbx hld hlm
 go_wp2
 refine wp_region_noPanic ?_
 refine wp_region_held_drew (S:=fun w'=>w'.cell? ⟨p,9,none⟩=some (.map (some lm))/\w'.cell? ⟨w.heap.size,4,none⟩=some (.int .i64 a.to)/\w'.cell? ⟨w.heap.size,2,none⟩=some (.int .i64 (n:Int))) (by kernel_rfl) (HI.out.cells V1.drew rfl rfl) (fun hHeld=>?_)
 refine wpAnyH_take (i:=0) (v:=.pointer (some ⟨p,0,none⟩)) (by simp only [yyG,yyE]; rfl) (by kernel_rfl) (by kernel_rfl) (by kernel_rfl) (fun _ _ _ h=>h) (Or.inl ⟨by rfl,?_⟩) (by assumption) ?_
 ·(intro wq hSq; clear hSq; go_simp; try with_reducible rfl)
 try simp only [Act.put,yyA,yyB,yyC]
 refine wpAnyH_take (i:=1) (v:=.pointer (some ⟨p,0,none⟩)) (by simp only [yyG,yyF,yyE]; rfl) (by kernel_rfl) (by kernel_rfl) (by kernel_rfl) (fun _ _ _ h=>h) (Or.inl ⟨by rfl,?_⟩) (by assumption) ?_
 ·(intro wq hSq; clear hSq; go_simp; try with_reducible rfl)
 try simp only [Act.put,yyA,yyB,yyC]
 refine wpAnyH_take (i:=2) (v:=.pointer (some ⟨p,9,none⟩)) (by simp only [yyG,yyF,yyE]; rfl) (by kernel_rfl) (by kernel_rfl) (by kernel_rfl) (fun _ _ _ h=>h) (Or.inl ⟨by rfl,?_⟩) (by assumption) ?_
 ·(intro wq hSq; clear hSq; go_simp; try with_reducible rfl)
 try simp only [Act.put,yyA,yyB,yyC]
 refine wpAnyH_take (i:=3) (v:=.map (some lm)) (by simp only [yyG,yyF,yyE]; rfl) (by kernel_rfl) (by kernel_rfl) (by kernel_rfl) (fun _ _ _ h=>h) (Or.inl ⟨by rfl,?_⟩) (by assumption) ?_
 ·(intro wq hSq; obtain ⟨q0,q1,q2⟩:=hSq; go_simp; try with_reducible rfl)
 try simp only [Act.put,yyA,yyB,yyC]
 refine wpAnyH_take (i:=4) (v:=.pointer (some ⟨w.heap.size,4,none⟩)) (by simp only [yyG,yyF,yyE]; rfl) (by kernel_rfl) (by kernel_rfl) (by kernel_rfl) (fun _ _ _ h=>h) (Or.inl ⟨by rfl,?_⟩) (by assumption) ?_
 ·(intro wq hSq; clear hSq; go_simp; try with_reducible rfl)
 try simp only [Act.put,yyA,yyB,yyC]
 refine wpAnyH_take (i:=5) (v:=.int .i64 a.to) (by simp only [yyG,yyF,yyE]; rfl) (by kernel_rfl) (by kernel_rfl) (by kernel_rfl) (fun _ _ _ h=>h) (Or.inl ⟨by rfl,?_⟩) (by assumption) ?_
 ·(intro wq hSq; obtain ⟨q0,q1,q2⟩:=hSq; go_simp; try with_reducible rfl)
 try simp only [Act.put,yyA,yyB,yyC]
 refine wpAnyH_ready (rs:=[6]) (by kernel_rfl) (by simp) ?_
 refine AllReadyH.cons rfl (fun KK hK=>?_) AllReadyH.nil
 have lk0:=HI.out.look V1.drew rfl
 go_simp
 refine hK.out _ _ (HI.out.cells V1.drew rfl rfl) (fun hHeld=>?_)
 clear hK KK
 try simp only [Act.put,yyA,yyB,yyC]
 clear lk0
 refine wpAnyH_take (i:=7) (v:=.slice va n0 vc) (by simp only [yyG,yyF,yyE]; rfl) (by kernel_rfl) (by kernel_rfl) (by kernel_rfl) (fun _ _ _ h=>h) (Or.inl ⟨by rfl,?_⟩) (by assumption) ?_
 ·(intro wq hSq; clear hSq; go_simp; try with_reducible rfl)
 try simp only [Act.put,yyA,yyB,yyC]
 refine wpAnyH_done (by kernel_rfl) ?_ _
 refine NoPanic.normal ?_
 clear hHeld
 have y2:V1.drew.cell? ⟨w.heap.size,2,none⟩=some (.int .i64 (n:Int)):=(HI.out.cells V1.drew rfl rfl).2.2
 by_cases hlt:(n0:Int)<(n:Int)
 ·have hS:sentM s a.to n=(10,s):=by
   unfold sentM
   rw [if_neg (by rw [HS.out.2.2.2.2.2]; simp),if_pos (by rw [HS.out.2.2.2.2.1]; omega)]
  have HSm:Hid _:=hS
  clear hS
  go_wp2
  go_ret
  rw [HSm.out]
  exact deed_none H0.out.1 (keptW HB1.out.1 (drew_below V1)) 10
 obtain ⟨X,fX⟩ : ∃ X,V1.drew.drew=X:=⟨_,rfl⟩
 have hXh:X.heap=V1.heap:=by rw [<- fX]; rfl
 have bX:Below V1.heap.size V1 X:=by rw [<- fX]; exact keptW (drew_below V1) (drew_below _)
 have hsplit:linkOf s.lk a.to=(linkOf s.lk a.to).take n++(linkOf s.lk a.to).drop n:=(List.take_append_drop _ _).symm
 have hlen:((linkOf s.lk a.to).take n).length=n:=by rw [List.length_take,HS.out.2.2.2.2.1]; omega
 have oX:OwnM X 0 (.slice va n0 vc) ((linkOf s.lk a.to).take n++(linkOf s.lk a.to).drop n):=by rw [<- hsplit]; exact HS.out.2.2.1.kept bX (yyH _)
 have hD:=deleteM_any 0 (.slice va n0 vc) _ _ X oX (by rw [hlen]; exact H1.out.2.2.2.2.2.1)
 rw [hlen] at hD
 have HX:Hid (SAt X p ft d s/\Below V1.heap.size V1 X/\X.heap=V1.heap):=⟨HS.out.1.same fun a k hk=>by rw [hXh],bX,hXh⟩
 have HFin:Hid (∀ w2 va2 nv2 vc2,X.grownBy w2 (Value.slice va n0 vc).ownBlock->OwnM w2 0 (.slice va2 nv2 vc2) ((linkOf s.lk a.to).drop n)->(Value.slice va2 nv2 vc2).ownBlock=(Value.slice va n0 vc).ownBlock->(w2.heap[p]? = V1.heap[p]? /\ w2.heap[w.heap.size]? = V1.heap[w.heap.size]?) /\ ∃ w3,(Instr.mapUpdate 86 (.map (some lm)) (.int .i64 a.to) (.slice va2 nv2 vc2)).run Tryz.prog w2=.ok () w3/\(w3.heap[p]? = V1.heap[p]? /\ w3.heap[w.heap.size]? = V1.heap[w.heap.size]?) /\ ∃ ft' d',SAt w3 p ft' d' { s with lk:=insL a.to ((linkOf s.lk a.to).drop n) s.lk }/\d'.lm=lm/\Moved X w3 G (fun k => ∃ a,ft' a k)):=fun w2 va2 nv2 vc2 g2 o2 e2=>by
  have hfoot:=HX.out.1.linkFoot H1.out.1 a.to
  rw [HS.out.2.2.2.1] at hfoot
  have hpl:=HX.out.1.lts .main p ((HX.out.1.fm p).2 rfl)
  have np : ¬ ft (.link a.to) p:=fun hk=>by have:=HX.out.1.one _ _ p hk ((HX.out.1.fm p).2 rfl); cases this
  have nl : ¬ ft (.link a.to) d.lm:=fun hk=>by have:=HX.out.1.one _ _ d.lm hk ((HX.out.1.fl _).2 rfl); cases this
  have nb : ¬ ft (.link a.to) w.heap.size:=fun hk=>HG.out.2 ((HS.out.2.1 _).2 ⟨_,hk⟩)
  have hgl:w.heap.size<X.heap.size:=by rw [HX.out.2.2]; exact HG.out.1
  have ne : ∀ k,k<X.heap.size -> ¬ ft (.link a.to) k->w2.heap[k]? = V1.heap[k]? := fun k hk hn=>(g2.block k hk fun e=>hn ((hfoot k).2 e.symm)).trans (by rw [HX.out.2.2])
  have hpq:p≠d.lm:=fun e=>by have:=HX.out.1.one .main .lmap p ((HX.out.1.fm p).2 rfl) ((HX.out.1.fl p).2 e); cases this
  have hbq:w.heap.size≠d.lm:=fun e=>HG.out.2 ((HS.out.2.1 _).2 ⟨.lmap,(HX.out.1.fl _).2 e⟩)
  have hll:=HX.out.1.lts .lmap d.lm ((HX.out.1.fl _).2 rfl)
  have hes:d.es.length<=1000000000:=by
   have h1:=congrArg List.length HX.out.1.tos
   simp only [List.length_map] at h1
   have:=H1.out.2.2.1
   omega
  have hl2:LAt w2 d.lm d.es:=HX.out.1.lmap.same ((ne d.lm hll nl).trans (by rw [HX.out.2.2]))
  obtain ⟨w3,r3,d3,g3⟩:=hl2.put (HX.out.1.ll H1.out.1) H1.out.2.2.2.1 va2 nv2 vc2 hes
  obtain ⟨s3,m3⟩:=HX.out.1.putLink H1.out.1 H1.out.2.1 H1.out.2.2.2.1 (by rw [HS.out.2.2.2.1]; exact g2) o2 (.inl (by rw [HS.out.2.2.2.1]; exact e2)) d3 g3
  rw [HLM.out] at r3
  have e:G=fun k => ∃ a,ft a k:=funext fun k=>propext (HS.out.2.1 k)
  refine ⟨⟨ne p hpl np,ne _ hgl nb⟩,w3,r3,⟨(g3.block p (by have:=g2.size; omega) (by simpa using hpq)).trans (ne p hpl np),(g3.block _ (by have:=g2.size; omega) (by simpa using hbq)).trans (ne _ hgl nb)⟩,_,_,s3,HLM.out,by rw [e]; exact m3⟩
 clear hsplit oX hlen bX
 go_wp2
 refine wp_region_noPanic ?_
 refine wp_region_held_drew (S:=fun w'=>w'.cell? ⟨p,9,none⟩=some (.map (some lm))/\w'.cell? ⟨w.heap.size,4,none⟩=some (.int .i64 a.to)/\w'.cell? ⟨w.heap.size,2,none⟩=some (.int .i64 (n:Int))) (by kernel_rfl) (by rw [fX]; exact HI.out.cells X (by rw [hXh]) (by rw [hXh])) (fun hHeld=>?_)
 refine wpAnyH_take (i:=0) (v:=.pointer (some ⟨p,0,none⟩)) (by simp only [yyG,yyE]; rfl) (by kernel_rfl) (by kernel_rfl) (by kernel_rfl) (fun _ _ _ h=>h) (Or.inl ⟨by rfl,?_⟩) (by assumption) ?_
 ·(intro wq hSq; clear hSq; go_simp; try with_reducible rfl)
 try simp only [Act.put,yyA,yyB,yyC]
 refine wpAnyH_take (i:=1) (v:=.pointer (some ⟨p,0,none⟩)) (by simp only [yyG,yyF,yyE]; rfl) (by kernel_rfl) (by kernel_rfl) (by kernel_rfl) (fun _ _ _ h=>h) (Or.inl ⟨by rfl,?_⟩) (by assumption) ?_
 ·(intro wq hSq; clear hSq; go_simp; try with_reducible rfl)
 try simp only [Act.put,yyA,yyB,yyC]
 refine wpAnyH_take (i:=2) (v:=.pointer (some ⟨p,9,none⟩)) (by simp only [yyG,yyF,yyE]; rfl) (by kernel_rfl) (by kernel_rfl) (by kernel_rfl) (fun _ _ _ h=>h) (Or.inl ⟨by rfl,?_⟩) (by assumption) ?_
 ·(intro wq hSq; clear hSq; go_simp; try with_reducible rfl)
 try simp only [Act.put,yyA,yyB,yyC]
 refine wpAnyH_take (i:=3) (v:=.map (some lm)) (by simp only [yyG,yyF,yyE]; rfl) (by kernel_rfl) (by kernel_rfl) (by kernel_rfl) (fun _ _ _ h=>h) (Or.inl ⟨by rfl,?_⟩) (by assumption) ?_
 ·(intro wq hSq; obtain ⟨q0,q1,q2⟩:=hSq; go_simp; try with_reducible rfl)
 try simp only [Act.put,yyA,yyB,yyC]
 refine wpAnyH_take (i:=4) (v:=.pointer (some ⟨w.heap.size,4,none⟩)) (by simp only [yyG,yyF,yyE]; rfl) (by kernel_rfl) (by kernel_rfl) (by kernel_rfl) (fun _ _ _ h=>h) (Or.inl ⟨by rfl,?_⟩) (by assumption) ?_
 ·(intro wq hSq; clear hSq; go_simp; try with_reducible rfl)
 try simp only [Act.put,yyA,yyB,yyC]
 refine wpAnyH_take (i:=5) (v:=.int .i64 a.to) (by simp only [yyG,yyF,yyE]; rfl) (by kernel_rfl) (by kernel_rfl) (by kernel_rfl) (fun _ _ _ h=>h) (Or.inl ⟨by rfl,?_⟩) (by assumption) ?_
 ·(intro wq hSq; obtain ⟨q0,q1,q2⟩:=hSq; go_simp; try with_reducible rfl)
 try simp only [Act.put,yyA,yyB,yyC]
 refine wpAnyH_take (i:=6) (v:=.slice va n0 vc) (by simp only [yyG,yyF,yyE]; rfl) (by kernel_rfl) (by kernel_rfl) (by kernel_rfl) (fun _ _ _ h=>h) (Or.inl ⟨by rfl,?_⟩) (by assumption) ?_
 ·(intro wq hSq; clear hSq; go_simp; try with_reducible rfl)
 try simp only [Act.put,yyA,yyB,yyC]
 refine wpAnyH_take (i:=7) (v:=.pointer (some ⟨w.heap.size,2,none⟩)) (by simp only [yyG,yyF,yyE]; rfl) (by kernel_rfl) (by kernel_rfl) (by kernel_rfl) (fun _ _ _ h=>h) (Or.inl ⟨by rfl,?_⟩) (by assumption) ?_
 ·(intro wq hSq; clear hSq; go_simp; try with_reducible rfl)
 try simp only [Act.put,yyA,yyB,yyC]
 refine wpAnyH_take (i:=8) (v:=.int .i64 (n:Int)) (by simp only [yyG,yyF,yyE]; rfl) (by kernel_rfl) (by kernel_rfl) (by kernel_rfl) (fun _ _ _ h=>h) (Or.inl ⟨by rfl,?_⟩) (by assumption) ?_
 ·(intro wq hSq; obtain ⟨q0,q1,q2⟩:=hSq; go_simp; try with_reducible rfl)
 try simp only [Act.put,yyA,yyB,yyC]
 rw [fX] at hHeld ⊢
 clear fX hXh
 refine wpAnyH_ready (rs:=[9]) (by kernel_rfl) (by simp) ?_
 refine AllReadyH.cons rfl (fun KK hK=>?_) AllReadyH.nil
 go_simp
 go_at_call 148
 refine hD.mono ?_
 rintro e w2 ⟨v2,rfl,o2,g2,e2⟩
 obtain ⟨va2,vc2,hv2⟩:=o2.rng.slice
 obtain ⟨nv2,hnv2⟩ : ∃ z,((linkOf s.lk a.to).drop n).length=z:=⟨_,rfl⟩
 rw [hnv2] at hv2
 subst hv2
 clear hnv2 hD
 obtain ⟨k2,w3,r3,k3,ft3,d3,s3,l3,m3⟩:=HFin.out w2 va2 nv2 vc2 g2 o2 e2
 have H3:Hid (SAt w3 p ft3 d3 { s with lk:=insL a.to ((linkOf s.lk a.to).drop n) s.lk }/\d3.lm=lm/\Moved X w3 G (fun k => ∃ a,ft3 a k)/\w3.heap[p]? = V1.heap[p]? /\ w3.heap[w.heap.size]? = V1.heap[w.heap.size]?):=⟨s3,l3,m3,k3⟩
 clear o2 g2 e2 s3 l3 m3 k3 HFin
 dsimp only
 refine hK.out _ _ (HI.out.cells w2 k2.1 k2.2) (fun hHeld=>?_)
 clear hK KK
 try simp only [Act.put,yyA,yyB,yyC]
 refine wpAnyH_ready (rs:=[10]) (by kernel_rfl) (by simp) ?_
 refine AllReadyH.cons rfl (fun KK hK=>?_) AllReadyH.nil
 go_simp
 refine hK.out _ _ (HI.out.cells w3 H3.out.2.2.2.1 H3.out.2.2.2.2) (fun hHeld=>?_)
 clear hK KK
 try simp only [Act.put,yyA]
 refine wpAnyH_done (by kernel_rfl) ?_ _
 refine NoPanic.normal ?_
 clear hHeld
 clear r3 k2
 have z2:w3.cell? ⟨w.heap.size,2,none⟩=some (.int .i64 (n:Int)):=(HI.out.cells w3 H3.out.2.2.2.1 H3.out.2.2.2.2).2.2
 by_cases heq:n0=n
 ·have heq':((n0:Int)==(n:Int))=true:=by rw [beq_iff_eq]; omega
  have heq'':(n0:Int)=(n:Int):=by omega
  have hS:sentM s a.to n=(0,{ s with lk:=(insL a.to ((linkOf s.lk a.to).drop n) s.lk).filter fun y => !decide (y.1=a.to) }):=by
   unfold sentM
   rw [if_neg (by rw [HS.out.2.2.2.2.2]; simp),if_neg (by rw [HS.out.2.2.2.2.1]; omega),if_pos (HS.out.2.2.2.2.1.trans heq)]
  have HSm:Hid _:=hS
  have hsd:SAt w3.drew p ft3 d3 { s with lk:=insL a.to ((linkOf s.lk a.to).drop n) s.lk }:=H3.out.1.same fun _ _ _=>rfl
  have fit3:({ s with lk:=insL a.to ((linkOf s.lk a.to).drop n) s.lk }:Sm).Fit:=by
   have f:=H1.out.1
   have hnd:=insL_up a.to ((linkOf s.lk a.to).drop n) s.lk H1.out.2.1
   refine ⟨f.names,f.short,hnd.imp (fun h e=>by omega),fun x hx=>?_,fun x hx=>?_⟩
   ·rcases List.mem_cons.1 ((insL_perm a.to _ s.lk H1.out.2.1).mem_iff.1 hx) with rfl | hx
    ·exact H1.out.2.2.2.1
    ·exact f.small x (List.mem_filter.1 hx).1
   ·rcases List.mem_cons.1 ((insL_perm a.to _ s.lk H1.out.2.1).mem_iff.1 hx) with rfl | hx
    ·have:=linkOf_few f a.to
     simp only [List.length_drop]
     omega
    ·exact f.few x (List.mem_filter.1 hx).1
  obtain ⟨f,hf⟩:=hsd.lmap.del (hsd.ll fit3) H1.out.2.2.2.1
  obtain ⟨w4,e4⟩ : ∃ w4,f 0=w4:=⟨_,rfl⟩
  have hf4:=hf 0
  rw [e4] at hf4
  obtain ⟨r4,d4,g4⟩:=hf4
  obtain ⟨s4,m4⟩:=hsd.cutLink d4 g4
  rw [H3.out.2.1] at r4
  have hpl:=hsd.lts .main p ((hsd.fm p).2 rfl)
  have hpq:p≠d3.lm:=fun e=>by have:=hsd.one .main .lmap p ((hsd.fm p).2 rfl) ((hsd.fl p).2 e); cases this
  have hgl:w.heap.size<w3.heap.size:=Nat.lt_of_lt_of_le HG.out.1 (Nat.le_trans HX.out.2.1.size H3.out.2.2.1.size)
  have hbq:w.heap.size≠d3.lm:=fun e=>by
   rcases H3.out.2.2.1.sub d3.lm ⟨.lmap,(hsd.fl _).2 rfl⟩ with hk | hk
   ·exact HG.out.2 (e ▸ hk)
   ·have:=HG.out.1
    have:=HX.out.2.1.size
    omega
  have H4:Hid (DeedPost p G w 0 { s with lk:=(insL a.to ((linkOf s.lk a.to).drop n) s.lk).filter fun y => !decide (y.1=a.to) } (.returned (.int .i64 0)) w4/\w4.heap[p]? = V1.heap[p]? /\ w4.heap[w.heap.size]? = V1.heap[w.heap.size]?) :=
   ⟨⟨rfl,_,⟨_,_,s4,fun _=>Iff.rfl⟩,(Moved.from_below (keptW HB1.out.1 HX.out.2.1) H3.out.2.2.1).trans ((Moved.of_below (drew_below w3)).trans m4)⟩,(g4.block p hpl (by simpa using hpq)).trans H3.out.2.2.2.1,(g4.block _ hgl (by simpa using hbq)).trans H3.out.2.2.2.2⟩
  clear hS hsd fit3 hf e4 d4 g4 s4 m4 hpl hpq hgl hbq f
  go_wp2
  refine wp_region_noPanic ?_
  refine wp_region_held_drew (S:=fun w'=>w'.cell? ⟨p,9,none⟩=some (.map (some lm))/\w'.cell? ⟨w.heap.size,4,none⟩=some (.int .i64 a.to)/\w'.cell? ⟨w.heap.size,2,none⟩=some (.int .i64 (n:Int))) (by kernel_rfl) (HI.out.cells w3.drew H3.out.2.2.2.1 H3.out.2.2.2.2) (fun hHeld=>?_)
  refine wpAnyH_take (i:=0) (v:=.pointer (some ⟨p,0,none⟩)) (by simp only [yyG,yyE]; rfl) (by kernel_rfl) (by kernel_rfl) (by kernel_rfl) (fun _ _ _ h=>h) (Or.inl ⟨by rfl,?_⟩) (by assumption) ?_
  ·(intro wq hSq; clear hSq; go_simp; try with_reducible rfl)
  try simp only [Act.put,yyA,yyB,yyC]
  refine wpAnyH_take (i:=1) (v:=.pointer (some ⟨p,0,none⟩)) (by simp only [yyG,yyF,yyE]; rfl) (by kernel_rfl) (by kernel_rfl) (by kernel_rfl) (fun _ _ _ h=>h) (Or.inl ⟨by rfl,?_⟩) (by assumption) ?_
  ·(intro wq hSq; clear hSq; go_simp; try with_reducible rfl)
  try simp only [Act.put,yyA,yyB,yyC]
  refine wpAnyH_take (i:=2) (v:=.pointer (some ⟨p,9,none⟩)) (by simp only [yyG,yyF,yyE]; rfl) (by kernel_rfl) (by kernel_rfl) (by kernel_rfl) (fun _ _ _ h=>h) (Or.inl ⟨by rfl,?_⟩) (by assumption) ?_
  ·(intro wq hSq; clear hSq; go_simp; try with_reducible rfl)
  try simp only [Act.put,yyA,yyB,yyC]
  refine wpAnyH_take (i:=3) (v:=.map (some lm)) (by simp only [yyG,yyF,yyE]; rfl) (by kernel_rfl) (by kernel_rfl) (by kernel_rfl) (fun _ _ _ h=>h) (Or.inl ⟨by rfl,?_⟩) (by assumption) ?_
  ·(intro wq hSq; obtain ⟨q0,q1,q2⟩:=hSq; go_simp; try with_reducible rfl)
  try simp only [Act.put,yyA,yyB,yyC]
  refine wpAnyH_take (i:=4) (v:=.pointer (some ⟨w.heap.size,4,none⟩)) (by simp only [yyG,yyF,yyE]; rfl) (by kernel_rfl) (by kernel_rfl) (by kernel_rfl) (fun _ _ _ h=>h) (Or.inl ⟨by rfl,?_⟩) (by assumption) ?_
  ·(intro wq hSq; clear hSq; go_simp; try with_reducible rfl)
  try simp only [Act.put,yyA,yyB,yyC]
  refine wpAnyH_take (i:=5) (v:=.int .i64 a.to) (by simp only [yyG,yyF,yyE]; rfl) (by kernel_rfl) (by kernel_rfl) (by kernel_rfl) (fun _ _ _ h=>h) (Or.inl ⟨by rfl,?_⟩) (by assumption) ?_
  ·(intro wq hSq; obtain ⟨q0,q1,q2⟩:=hSq; go_simp; try with_reducible rfl)
  try simp only [Act.put,yyA,yyB,yyC]
  refine wpAnyH_ready (rs:=[6]) (by kernel_rfl) (by simp) ?_
  refine AllReadyH.cons rfl (fun KK hK=>?_) AllReadyH.nil
  go_simp
  refine hK.out _ _ (HI.out.cells w4 H4.out.2.1 H4.out.2.2) (fun hHeld=>?_)
  clear hK KK
  try simp only [Act.put,yyA]
  refine wpAnyH_done (by kernel_rfl) ?_ _
  refine NoPanic.normal ?_
  clear hHeld
  clear r4 z2
  go_wp2
  go_ret
  rw [HSm.out]
  exact H4.out.1
 ·have hS:sentM s a.to n=(0,{ s with lk:=insL a.to ((linkOf s.lk a.to).drop n) s.lk }):=by
   unfold sentM
   rw [if_neg (by rw [HS.out.2.2.2.2.2]; simp),if_neg (by rw [HS.out.2.2.2.2.1]; omega),if_neg (by rw [HS.out.2.2.2.2.1]; exact heq)]
  have HSm:Hid _:=hS
  have heq':((n0:Int)==(n:Int))=false:=by rw [beq_eq_false_iff_ne]; omega
  have heq'' : ¬ (n0:Int)=(n:Int):=by omega
  clear hS
  go_wp2
  go_ret
  rw [HSm.out]
  exact ⟨rfl,_,⟨_,_,H3.out.1,fun _=>Iff.rfl⟩,Moved.from_below (keptW HB1.out.1 HX.out.2.1) H3.out.2.2.1⟩
end Go.Proofs.YtnhnpnafchkhiaaGreatDoor
