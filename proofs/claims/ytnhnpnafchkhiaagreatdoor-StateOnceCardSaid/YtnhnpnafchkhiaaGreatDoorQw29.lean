import Derived.Test.YtnhnpnafchkhiaaGreatDoorQwA
import Derived.Test.YtnhnpnafchkhiaaGreatDoorQw28
import Derived.Test.YtnhnpnafchkhiaaGreatDoorQw21
import Derived.Test.YtnhnpnafchkhiaaGreatDoorQw27
import Derived.Test.YtnhnpnafchkhiaaGreatDoorQw5
import Derived.Test.YtnhnpnafchkhiaaGreatDoorQw20
import Derived.Deep.RegionHeld3
import Derived.Test.YtnhnpnafchkhiaaGreatDoorQw18
import Derived.Deep.CutRange
set_option maxHeartbeats 2000000
set_option maxRecDepth 20000
namespace Go.Proofs.YtnhnpnafchkhiaaGreatDoor
open Go.RowKit
structure BoxM (w W:World) (m:Ms):Prop where
 bel:Below w.heap.size w W
 box:W.heap[w.heap.size]? = some (.cells (mcells m).toArray 40 (0,0))
theorem boxM_new (w:World) (m:Ms):BoxM w (w.alloc (.cells (mcells m).toArray 40)) m:=⟨box_below w _,heap_alloc_new w _⟩
theorem cellsM {w:World} {p:Nat} {t:TypeId} {m:Ms} (h:w.heap[p]? = some (.cells (mcells m).toArray t (0,0))):w.cell? ⟨p,0,none⟩=some (.int .i64 m.origin)/\w.cell? ⟨p,1,none⟩=some (.int .u64 m.seq)/\w.cell? ⟨p,2,none⟩=some (.int .i64 m.hop)/\w.cell? ⟨p,3,none⟩=some (.string m.ex)/\w.cell? ⟨p,4,none⟩=some (.string m.key)/\w.cell? ⟨p,5,none⟩=some (.string m.body) :=
 ⟨box_at h rfl,box_at h rfl,box_at h rfl,box_at h rfl,box_at h rfl,box_at h rfl⟩
theorem onward14_any (p:Nat) (G:Nat->Prop) (s:Sm) (m:Ms) (w:World) (h:SS w p G s) :
  Calls Tryz.prog 184 #[.pointer (some ⟨p,0,none⟩),mv m] w fun e w' => ∃ v',e=.returned v'/\O.RowI w' w.heap.size v' (O.onwardT s.S s.E s.H m.origin s.site)/\Below w.heap.size w w':=by
 obtain ⟨W,fold⟩ : ∃ W,w.alloc (.cells #[.int .i64 m.origin,.int .u64 m.seq,.int .i64 m.hop,.string m.ex,.string m.key,.string m.body] 40)=W:=⟨_,rfl⟩
 have hB:BoxM w W m:=by rw [<- fold]; exact boxM_new w m
 have hW:=(h.kept hB.bel).kept (drew_below W)
 obtain ⟨ft,d,hs',hF⟩:=hW
 have hD:=O.onward_any s.S s.H m.origin s.site d.ev s.E W.drew hs'.edges.rng
 obtain ⟨c0,c1,c2,c3,c4,c5,c6,c7,c8,c9⟩:=cells10 hs'.blk
 obtain ⟨x0,x1,x2,x3,x4,x5⟩:=cellsM hB.box
 obtain ⟨ea,ec,hev⟩:=hs'.edges.rng.slice
 obtain ⟨n,hn⟩ : ∃ z,s.E.length=z:=⟨_,rfl⟩
 rw [hn] at hev
 rw [hev] at hD c2
 have k0:W.cell? ⟨p,0,none⟩=some (.int .i64 s.site):=c0
 have k1:W.cell? ⟨p,1,none⟩=some (.int .i64 s.S):=c1
 have k2:W.cell? ⟨p,2,none⟩=some (.slice ea n ec):=c2
 have k3:W.cell? ⟨p,3,none⟩=some (.int .i64 s.H):=c3
 have HK:Hid (Below w.heap.size w W /\ ∀ V,Below W.drew.heap.size W.drew V->V.cell? ⟨p,0,none⟩=some (.int .i64 s.site)/\V.cell? ⟨p,1,none⟩=some (.int .i64 s.S)/\V.cell? ⟨p,2,none⟩=some (.slice ea n ec)/\V.cell? ⟨p,3,none⟩=some (.int .i64 s.H)/\V.cell? ⟨w.heap.size,0,none⟩=some (.int .i64 m.origin)):=⟨hB.bel,fun V b=>⟨cell_on b k0,cell_on b k1,cell_on b k2,cell_on b k3,cell_on b x0⟩⟩
 obtain ⟨L,hL⟩ : ∃ z,O.onwardT s.S s.E s.H m.origin s.site=z:=⟨_,rfl⟩
 rw [hL] at hD ⊢
 clear hs' hF hB c0 c1 c2 c3 c4 c5 c6 c7 c8 c9 x1 x2 x3 x4 x5 h hev hn hL
 go_enter Tryz.func184,Tryz.ntmps184
 go_wp2
 try rw [fold]
 (go_region_held3 (fun w'=>w'.cell? ⟨p,0,none⟩=some (.int .i64 s.site)/\w'.cell? ⟨p,1,none⟩=some (.int .i64 s.S)/\w'.cell? ⟨p,2,none⟩=some (.slice ea n ec)/\w'.cell? ⟨p,3,none⟩=some (.int .i64 s.H)/\w'.cell? ⟨w.heap.size,0,none⟩=some (.int .i64 m.origin)) (first | exact ⟨k0,k1,k2,k3,x0⟩ | go_keep) (first
  |(go_at_call 13; refine hD.mono ?_; rintro e w2 ⟨v2,rfl,r2,b2⟩; have H2:Hid (O.RowI w2 W.drew.heap.size v2 L/\Below W.drew.heap.size W.drew w2):=⟨r2,b2⟩; obtain ⟨f0,f1,f2,f3,f4⟩:=HK.out.2 w2 b2; clear r2 b2 hD)))
 all_goals go_wp2
 all_goals go_ret
 all_goals exact ⟨_,rfl,H2.out.1.mono HK.out.1.size,keptW (keptW HK.out.1 (drew_below W)) H2.out.2⟩
theorem linkFull_any (p:Nat) (G:Nat->Prop) (s:Sm) (t:Int) (w:World) (h:SS w p G s) (fit:s.Fit) (ht:I64 t) :
  Calls Tryz.prog 141 #[.pointer (some ⟨p,0,none⟩),.int .i64 t] w fun e w'=>e=.returned (.bool (decide (200<=(linkOf s.lk t).length)))/\w'=w:=by
 obtain ⟨ft,d,hs,_⟩:=h
 obtain ⟨c0,c1,c2,c3,c4,c5,c6,c7,c8,c9⟩:=cells10 hs.blk
 have hl:=hs.lmap.look (hs.ll fit) ht
 have ho:=hs.linkAt fit t
 generalize (((findL d.es t).map Prod.snd).getD (.slice none 0 0))=v at hl ho
 obtain ⟨va,vc,rfl⟩:=ho.rng.slice
 generalize (linkOf s.lk t).length=n at hl ⊢
 clear ho hs c0 c1 c2 c3 c4 c5 c6 c7 c8
 by_cases hn:200<=n
 ·have hn':(200:Int)<=(n:Int):=by omega
  rw [decide_eq_true hn]
  go_enter Tryz.func141,Tryz.ntmps141
  go_wp2
  go_ret
  exact ⟨by simp,rfl⟩
 ·have hn' : ¬ (200:Int)<=(n:Int):=by omega
  rw [decide_eq_false hn]
  go_enter Tryz.func141,Tryz.ntmps141
  go_wp2
  go_ret
  exact ⟨by simp,rfl⟩
def fullQ (q:F.St):Bool:=decide ((q.most:Int)-q.rdy.length-q.out.length<1) || decide (q.next=18446744073709551615)
theorem queueFull_any (p:Nat) (G:Nat->Prop) (s:Sm) (n:ByteArray) (q:F.St) (w:World) (h:SS w p G s) (fit:s.Fit) (hn:n.size<=maxLen) (hq:findQ s.qs n=some q) (ok:q.Ok) :
  Calls Tryz.prog 139 #[.pointer (some ⟨p,0,none⟩),.string n] w fun e w'=>e=.returned (.bool (fullQ q)) /\ ∃ k,w'=w.drewN k:=by
 obtain ⟨ft,d,hs,_⟩:=h
 obtain ⟨c0,c1,c2,c3,c4,c5,c6,c7,c8,c9⟩:=cells10 hs.blk
 have hl:=hs.qmap.look (hs.dl fit) hn
 rcases hs.queueAt fit n with ⟨q1,q2⟩ | ⟨q',b,q1,q2,q3,q4⟩
 ·rw [q1] at hq; cases hq
 ·obtain rfl:=Option.some.inj (q1.symm.trans hq)
  rw [q2] at hl
  replace hl:(Instr.lookup 83 (.map (some d.qm)) (.string n) false).run Tryz.prog w=.ok (.pointer (some ⟨b,0,none⟩)) w:=hl
  have hR:=F.room_any b (ft (.queue n)) q' w q4 ok
  have hN:Hid (∀ k,Calls Tryz.prog 52 #[.pointer (some ⟨b,0,none⟩)] (w.drewN k) fun e w'=>e=.returned (.int .u64 (q'.next:Int))/\w'=w.drewN k):=fun k=>F.next_any b (ft (.queue n)) q' (w.drewN k) (q4.same fun _ _=>rfl)
  unfold fullQ
  generalize (q'.most:Int)-q'.rdy.length-q'.out.length=r at hR ⊢
  generalize q'.next=nx at hN ⊢
  clear hs q1 q2 q3 q4 c0 c1 c2 c3 c4 c5 c6 c8 c9 hq ok
  by_cases hr:r<1
  ·rw [decide_eq_true hr,Bool.true_or]
   go_enter Tryz.func139,Tryz.ntmps139
   go_wp2_with fail
   refine hR.mono ?_
   rintro e w2 ⟨rfl,k,rfl⟩
   clear hR hN
   go_wp2
   go_ret
   exact ⟨rfl,k,rfl⟩
  ·rw [decide_eq_false hr,Bool.false_or]
   go_enter Tryz.func139,Tryz.ntmps139
   go_wp2_with fail
   refine hR.mono ?_
   rintro e w2 ⟨rfl,k,rfl⟩
   have hN':=hN.out k
   clear hR hN
   by_cases hx:nx=18446744073709551615
   ·subst hx
    go_wp2_with fail
    refine hN'.mono ?_
    rintro e w3 ⟨rfl,rfl⟩
    clear hN'
    go_wp2
    go_ret
    exact ⟨rfl,k,rfl⟩
   ·have hx' : ¬ (nx:Int)=18446744073709551615:=by omega
    go_wp2_with fail
    refine hN'.mono ?_
    rintro e w3 ⟨rfl,rfl⟩
    clear hN'
    go_wp2
    go_ret
    exact ⟨by simp_all,k,rfl⟩
def newSm (site S:Int) (E:List (Int × Int)) (H:Int):Sm:=⟨site,S,E,H,0,0,B.newT,[],fun _=>[],[]⟩
theorem cells3 {w:World} {g:Nat} {a b c:Value} {t:TypeId} {fz:Nat × Nat} (h:w.heap[g]? = some (.cells #[a,b,c] t fz)) :
  w.cell? ⟨g,0,none⟩=some a/\w.cell? ⟨g,1,none⟩=some b/\w.cell? ⟨g,2,none⟩=some c:=by
 refine ⟨?_,?_,?_⟩ <;> (simp only [World.cell?]; rw [h]; rfl)
theorem cell_allocN {w:World} {b j:Nat} {v:Value} (o:Obj) (h:w.cell? ⟨b,j,none⟩=some v):(w.alloc o).cell? ⟨b,j,none⟩=some v:=cell_on (box_below w o) h
theorem new_end {w X:World} {site N0 H:Int} {E:List (Int × Int)} {ev:Value} {tp qm bp lm:Nat} {Ft Fb:Nat->Prop} {We Wt Wb Wq Wl:World} {e0 t0 b0 t1 b1:Nat}
  (hX:Below w.heap.size w X) (he:OwnE We e0 ev E) (beX:Below We.heap.size We X) (he0:w.heap.size<=e0)
  (ht:B.T Wt tp Ft B.newT) (btX:Below Wt.heap.size Wt X) (ft0 : ∀ k,Ft k->t0<=k) (ft1:Wt.heap.size<=t1)
  (hb:S.Bk Wb bp Fb (fun _=>[])) (bbX:Below Wb.heap.size Wb X) (fb0 : ∀ k,Fb k->b0<=k) (fb1:Wb.heap.size<=b1)
  (hq:DAt Wq qm []) (bqX:Below Wq.heap.size Wq X) (hl:LAt Wl lm []) (blX:Below Wl.heap.size Wl X)
  (wt:w.heap.size<=t0) (wb:w.heap.size<=b0) (wq:w.heap.size<=qm) (wl:w.heap.size<=lm) (et:We.heap.size<=t0) (eb:We.heap.size<=b0) (eq:We.heap.size<=qm) (el:We.heap.size<=lm)
  (tb:t1<=b0\/b1<=t0) (tq:t1<=qm\/qm<t0) (tl:t1<=lm\/lm<t0) (bq:b1<=qm\/qm<b0) (bl:b1<=lm\/lm<b0) (ql:qm≠lm) :
  ∃ F,SS (X.alloc (.cells #[.int .i64 site,.int .i64 N0,ev,.int .i64 H,.int .u64 0,.int .u64 0,.pointer (some ⟨tp,0,none⟩),.map (some qm),.pointer (some ⟨bp,0,none⟩),.map (some lm)] 88)) X.heap.size F (newSm site N0 E H)/\(∀ k,F k->w.heap.size<=k)/\Below w.heap.size w (X.alloc (.cells #[.int .i64 site,.int .i64 N0,ev,.int .i64 H,.int .u64 0,.int .u64 0,.pointer (some ⟨tp,0,none⟩),.map (some qm),.pointer (some ⟨bp,0,none⟩),.map (some lm)] 88)):=by
 obtain ⟨o,ho⟩ : ∃ o:Obj,Obj.cells #[.int .i64 site,.int .i64 N0,ev,.int .i64 H,.int .u64 0,.int .u64 0,.pointer (some ⟨tp,0,none⟩),.map (some qm),.pointer (some ⟨bp,0,none⟩),.map (some lm)] 88=o:=⟨_,rfl⟩
 rw [ho]
 have bX:=box_below X o
 have ltE : ∀ k,ev.ownBlock=some k->e0<=k/\k<We.heap.size:=fun k hk=>he.lt hk
 have ltT:=ht.lts
 have ltB:=hb.lts
 have ltQ:=hq.lt
 have ltL:=hl.lt
 have sE:=beX.size
 have sT:=btX.size
 have sB:=bbX.size
 have sQ:=bqX.size
 have sL:=blX.size
 let ft:Ix->Nat->Prop:=fun a=>match a with
  | .main=>fun k=>k=X.heap.size
  | .edges=>fun k=>ev.ownBlock=some k
  | .table=>Ft
  | .qmap=>fun k=>k=qm
  | .book=>Fb
  | .lmap=>fun k=>k=lm
  | .queue _=>fun _=>False
  | .link _=>fun _=>False
 refine ⟨fun k => ∃ a,ft a k,⟨ft,⟨ev,tp,qm,bp,lm,[],[]⟩,⟨?_,fun k=>Iff.rfl,?_,fun k=>Iff.rfl,?_,?_,fun k=>Iff.rfl,?_,?_,fun k=>Iff.rfl,rfl,(fun n q h=>by cases h),(fun _ _ _=>id),rfl,(fun t l h=>by cases h),(fun _ _ _=>id),?_⟩,fun k=>Iff.rfl⟩,?_,keptW hX bX⟩
 ·rw [<- ho]; exact heap_alloc_new X _
 ·exact (he.mono (Nat.zero_le _)).kept (keptW beX bX) (yyH _)
 ·exact ht.kept (keptW btX bX)
 ·exact hq.same ((keptW bqX bX).block _ ltQ)
 ·exact hb.kept (keptW bbX bX)
 ·exact hl.same ((keptW blX bX).block _ ltL)
 ·intro a c k ha hc
  cases a <;> cases c <;> first | rfl | exact ha.elim | exact hc.elim | skip
  all_goals exfalso
  all_goals simp only [ft] at ha hc
  ·have:=ltE k hc; omega
  ·have:=ltT k hc; omega
  ·omega
  ·have:=ltB k hc; omega
  ·omega
  ·have:=ltE k ha; omega
  ·have:=ltE k ha; have:=ft0 k hc; omega
  ·have:=ltE k ha; omega
  ·have:=ltE k ha; have:=fb0 k hc; omega
  ·have:=ltE k ha; omega
  ·have:=ltT k ha; omega
  ·have:=ltE k hc; have:=ft0 k ha; omega
  ·have:=ltT k ha; have:=ft0 k ha; omega
  ·have:=ltT k ha; have:=ft0 k ha; have:=ltB k hc; have:=fb0 k hc; omega
  ·have:=ltT k ha; have:=ft0 k ha; omega
  ·omega
  ·have:=ltE k hc; omega
  ·have:=ltT k hc; have:=ft0 k hc; omega
  ·have:=ltB k hc; have:=fb0 k hc; omega
  ·omega
  ·have:=ltB k ha; omega
  ·have:=ltE k hc; have:=fb0 k ha; omega
  ·have:=ltT k hc; have:=ft0 k hc; have:=ltB k ha; have:=fb0 k ha; omega
  ·have:=ltB k ha; have:=fb0 k ha; omega
  ·have:=ltB k ha; have:=fb0 k ha; omega
  ·omega
  ·have:=ltE k hc; omega
  ·have:=ltT k hc; have:=ft0 k hc; omega
  ·omega
  ·have:=ltB k hc; have:=fb0 k hc; omega
 ·rintro k ⟨a,ha⟩
  cases a <;> simp only [ft] at ha
  ·have:=hX.size; omega
  ·have:=ltE k ha; omega
  ·have:=ft0 k ha; omega
  ·omega
  ·have:=fb0 k ha; omega
  ·omega
def AdmPost (w:World) (l:List Int) (er:Int) (e:Ending) (w':World):Prop := ∃ v',e=.returned (.tuple #[v',.int .i64 er])/\O.RowI w' w.heap.size v' l/\Below w.heap.size w w'
theorem adm_none {w w':World} (b:Below w.heap.size w w') (er:Int):AdmPost w [] er (.returned (.tuple #[.slice none 0 0,.int .i64 er])) w':=⟨_,rfl,.inl ⟨rfl,rfl⟩,b⟩
def ownM (s:Sm) (m:Ms):List Int × Int :=
 if s.seq=18446744073709551615 then ([],11) else if m.seq≠(s.seq:Int)+1 then ([],10) else if m.hop≠0 then ([],2) else match B.findX s.tb.xs m.ex with
  |none=>([],3)
  |some x=>if x.fed then (O.onwardT s.S s.E s.H m.origin s.site,0) else ([],0)
theorem admitOwn_any (p:Nat) (G:Nat->Prop) (s:Sm) (m:Ms) (w:World) (h:SS w p G s) (ok:s.tb.Ok) (hsq:s.seq<18446744073709551616) (hx:m.ex.size<=maxLen) :
  Calls Tryz.prog 183 #[.pointer (some ⟨p,0,none⟩),mv m] w (AdmPost w (ownM s m).1 (ownM s m).2):=by
 obtain ⟨W,fold⟩ : ∃ W,w.alloc (.cells #[.int .i64 m.origin,.int .u64 m.seq,.int .i64 m.hop,.string m.ex,.string m.key,.string m.body] 40)=W:=⟨_,rfl⟩
 have hB:BoxM w W m:=by rw [<- fold]; exact boxM_new w m
 have HB:Hid (SS W p G s/\BoxM w W m):=⟨h.kept hB.bel,hB⟩
 obtain ⟨ft,d,hs',hF⟩:=HB.out.1
 have hFd:Hid (∀ V,Below W.heap.size W V->Calls Tryz.prog 151 #[.pointer (some ⟨d.tp,0,none⟩),.string m.ex] V fun e w'=>e=.returned (.tuple #[B.xv ((B.findX s.tb.xs m.ex).getD B.zeroEx),.bool (B.findX s.tb.xs m.ex).isSome])/\Below V.heap.size V w'):=fun V b=>B.find_any d.tp (ft .table) s.tb m.ex V (hs'.table.kept b) ok hx
 have HK:Hid (∀ V,Below W.heap.size W V->V.cell? ⟨p,6,none⟩=some (.pointer (some ⟨d.tp,0,none⟩))/\V.cell? ⟨w.heap.size,3,none⟩=some (.string m.ex)):=fun V b=>⟨cell_on b (cells10 hs'.blk).2.2.2.2.2.2.1,cell_on b (cellsM hB.box).2.2.2.1⟩
 obtain ⟨z0,z1⟩:=HK.out W (Below.refl _ _)
 obtain ⟨xx,hxx⟩ : ∃ z,(B.findX s.tb.xs m.ex).getD B.zeroEx=z:=⟨_,rfl⟩
 obtain ⟨is,his⟩ : ∃ z,(B.findX s.tb.xs m.ex).isSome=z:=⟨_,rfl⟩
 rw [hxx,his] at hFd
 have HX:Hid ((B.findX s.tb.xs m.ex).getD B.zeroEx=xx/\(B.findX s.tb.xs m.ex).isSome=is/\s.seq<18446744073709551616):=⟨hxx,his,hsq⟩
 clear hB hs' hF h hxx his ok
 have bD:Hid (Below W.heap.size W W.drew):=drew_below W
 have a0:=fun o=>cell_allocN o (show W.drew.cell? ⟨p,6,none⟩=_ from z0)
 have a1:=fun o=>cell_allocN o (show W.drew.cell? ⟨w.heap.size,3,none⟩=_ from z1)
 obtain ⟨⟨l,er⟩,hr⟩ : ∃ r,ownM s m=r:=⟨_,rfl⟩
 rw [hr]
 have HR:Hid (ownM s m=(l,er)):=hr
 clear hr
 show Calls _ _ _ _ (AdmPost w l er)
 go_enter Tryz.func183,Tryz.ntmps183
 go_wp2
 try rw [fold]
 go_cut [6,7] from 8 to 47 (fun s6 s7 wx => ∃ g:Nat,s6=.pointer (some ⟨g,0,none⟩)/\s7=.bool is/\Hid (Below W.heap.size W wx/\wx.cell? ⟨g,2,none⟩=some (.bool xx.fed)))
 case first =>
  refine wp_region_noPanic ?_
  refine wp_region_held_drew (S:=fun w'=>w'.cell? ⟨p,6,none⟩=some (.pointer (some ⟨d.tp,0,none⟩))/\w'.cell? ⟨w.heap.size,3,none⟩=some (.string m.ex)) (by kernel_rfl) ⟨z0,z1⟩ (fun hHeld=>?_)
  refine wpAnyH_take (i:=0) (v:=.pointer (some ⟨p,0,none⟩)) (by simp only [yyG,yyE]; rfl) (by kernel_rfl) (by kernel_rfl) (by kernel_rfl) (fun _ _ _ h=>h) (Or.inl ⟨by rfl,?_⟩) (by assumption) ?_
  ·(intro wq hSq; clear hSq; go_simp; try with_reducible rfl)
  try simp only [Act.put,yyA,yyB,yyC]
  refine wpAnyH_take (i:=1) (v:=.pointer (some ⟨p,0,none⟩)) (by simp only [yyG,yyF,yyE]; rfl) (by kernel_rfl) (by kernel_rfl) (by kernel_rfl) (fun _ _ _ h=>h) (Or.inl ⟨by rfl,?_⟩) (by assumption) ?_
  ·(intro wq hSq; clear hSq; go_simp; try with_reducible rfl)
  try simp only [Act.put,yyA,yyB,yyC]
  refine wpAnyH_take (i:=2) (v:=.pointer (some ⟨p,6,none⟩)) (by simp only [yyG,yyF,yyE]; rfl) (by kernel_rfl) (by kernel_rfl) (by kernel_rfl) (fun _ _ _ h=>h) (Or.inl ⟨by rfl,?_⟩) (by assumption) ?_
  ·(intro wq hSq; clear hSq; go_simp; try with_reducible rfl)
  try simp only [Act.put,yyA,yyB,yyC]
  refine wpAnyH_take (i:=3) (v:=.pointer (some ⟨d.tp,0,none⟩)) (by simp only [yyG,yyF,yyE]; rfl) (by kernel_rfl) (by kernel_rfl) (by kernel_rfl) (fun _ _ _ h=>h) (Or.inl ⟨by rfl,?_⟩) (by assumption) ?_
  ·(intro wq hSq; obtain ⟨q0,q1⟩:=hSq; go_simp; try with_reducible rfl)
  try simp only [Act.put,yyA,yyB,yyC]
  refine wpAnyH_take (i:=4) (v:=.pointer (some ⟨w.heap.size,3,none⟩)) (by simp only [yyG,yyF,yyE]; rfl) (by kernel_rfl) (by kernel_rfl) (by kernel_rfl) (fun _ _ _ h=>h) (Or.inl ⟨by rfl,?_⟩) (by assumption) ?_
  ·(intro wq hSq; clear hSq; go_simp; try with_reducible rfl)
  try simp only [Act.put,yyA,yyB,yyC]
  refine wpAnyH_take (i:=5) (v:=.string m.ex) (by simp only [yyG,yyF,yyE]; rfl) (by kernel_rfl) (by kernel_rfl) (by kernel_rfl) (fun _ _ _ h=>h) (Or.inl ⟨by rfl,?_⟩) (by assumption) ?_
  ·(intro wq hSq; obtain ⟨q0,q1⟩:=hSq; go_simp; try with_reducible rfl)
  try simp only [Act.put,yyA,yyB,yyC]
  obtain ⟨V0,fV0⟩ : ∃ X,W.drew=X:=⟨_,rfl⟩
  have B0:Below W.heap.size W V0:=by rw [<- fV0]; exact drew_below W
  rw [fV0] at hHeld ⊢
  clear fV0
  refine wpAnyH_ready (rs:=[6,10]) (by kernel_rfl) (by simp) ?_
  refine AllReadyH.cons rfl (fun K hK=>?_) ?_
  ·skip
   go_simp
   go_at_call 151
   refine (hFd.out V0 B0).mono ?_
   rintro e V1 ⟨rfl,b_V1⟩
   dsimp only
   refine hK.out _ _ (HK.out V1 (keptW B0 b_V1)) (fun hHeld=>?_)
   clear hK K
   try simp only [Act.put,yyA,yyB,yyC]
   refine wpAnyH_take (i:=7) (v:=.tuple #[B.xv xx,.bool is]) (by simp only [yyG,yyF,yyE]; rfl) (by kernel_rfl) (by kernel_rfl) (by kernel_rfl) (fun _ _ _ h=>h) (Or.inl ⟨by rfl,?_⟩) (by assumption) ?_
   ·(intro wq hSq; clear hSq; go_simp; try with_reducible rfl)
   try simp only [Act.put,yyA,yyB,yyC]
   refine wpAnyH_take (i:=8) (v:=B.xv xx) (by simp only [yyG,yyF,yyE]; rfl) (by kernel_rfl) (by kernel_rfl) (by kernel_rfl) (fun _ _ _ h=>h) (Or.inl ⟨by rfl,?_⟩) (by assumption) ?_
   ·(intro wq hSq; clear hSq; go_simp; try with_reducible rfl)
   try simp only [Act.put,yyA,yyB,yyC]
   refine wpAnyH_take (i:=9) (v:=.bool is) (by simp only [yyG,yyF,yyE]; rfl) (by kernel_rfl) (by kernel_rfl) (by kernel_rfl) (fun _ _ _ h=>h) (Or.inl ⟨by rfl,?_⟩) (by assumption) ?_
   ·(intro wq hSq; clear hSq; go_simp; try with_reducible rfl)
   try simp only [Act.put,yyA,yyB,yyC]
   refine wpAnyH_ready (rs:=[10]) (by kernel_rfl) (by simp) ?_
   refine AllReadyH.cons rfl (fun K hK=>?_) AllReadyH.nil
   go_simp
   obtain ⟨V2,f_V2⟩ : ∃ X,V1.alloc (.cells #[.string ⟨#[]⟩,.int .i64 0,.bool false] 34)=X:=⟨_,rfl⟩
   have b_V2:Below V1.heap.size V1 V2:=by rw [<- f_V2]; exact box_below V1 _
   have k_V2:V2.heap[V1.heap.size]? = some (.cells #[.string ⟨#[]⟩,.int .i64 0,.bool false] 34 (0,0)):=by rw [<- f_V2]; exact heap_alloc_new V1 _
   try rw [f_V2]
   refine hK.out _ _ (HK.out V2 (keptW (keptW B0 b_V1) b_V2)) (fun hHeld=>?_)
   clear hK K
   try simp only [Act.put,yyA,yyB,yyC]
   have hgw:W.heap.size<=V1.heap.size:=(keptW B0 b_V1).size
   have kk:V2.heap[V1.heap.size]? = some (.cells #[.string ⟨#[]⟩,.int .i64 0,.bool false] 34 (0,0)):=k_V2
   obtain ⟨y0,y1,y2⟩:=cells3 kk
   have fr:=fun j=>frozen_of_row V2 V1.heap.size j _ _ kk
   obtain ⟨Y,hY⟩ : ∃ Y,((V2.setCell ⟨V1.heap.size,0,none⟩ (.string xx.name)).setCell ⟨V1.heap.size,1,none⟩ (.int .i64 xx.kind)).setCell ⟨V1.heap.size,2,none⟩ (.bool xx.fed)=Y:=⟨_,rfl⟩
   have eY:Y.heap[V1.heap.size]? = some (.cells (B.xcells xx).toArray 34 (0,0)):=by rw [<- hY]; exact set_list (set_list (set_list (C:=[.string ⟨#[]⟩,.int .i64 0,.bool false]) kk _) _) _
   have bXw:Below W.heap.size W V2:=(keptW (keptW B0 b_V1) b_V2)
   have bY:Below W.heap.size W Y:=by rw [<- hY]; exact ((bXw.setCell (p:=⟨V1.heap.size,0,none⟩) hgw _).setCell (p:=⟨V1.heap.size,1,none⟩) hgw _).setCell (p:=⟨V1.heap.size,2,none⟩) hgw _
   refine wpAnyH_ready (rs:=[11]) (by kernel_rfl) (by simp) ?_
   refine AllReadyH.cons rfl (fun K hK=>?_) AllReadyH.nil
   go_simp
   try rw [hY]
   refine hK.out _ _ (HK.out Y bY) (fun hHeld=>?_)
   clear hK K
   try simp only [Act.put,yyA,yyB,yyC]
   refine wpAnyH_take (i:=12) (v:=.bool is) (by simp only [yyG,yyF,yyE]; rfl) (by kernel_rfl) (by kernel_rfl) (by kernel_rfl) (fun _ _ _ h=>h) (Or.inl ⟨by rfl,?_⟩) (by assumption) ?_
   ·(intro wq hSq; clear hSq; go_simp; try with_reducible rfl)
   try simp only [Act.put,yyA,yyB,yyC]
   refine wpAnyH_done (by kernel_rfl) ?_ _
   refine NoPanic.normal ?_
   clear hHeld
   have HE:Hid (Below W.heap.size W Y/\Y.cell? ⟨V1.heap.size,2,none⟩=some (.bool xx.fed)):=⟨bY,box_at eY rfl⟩
   clear kk y0 y1 y2 fr hY eY bXw bY
   go_wp2
   go_meet
   exact ⟨_,rfl,rfl,HE.out⟩
  refine AllReadyH.cons rfl (fun K hK=>?_) AllReadyH.nil
  go_simp
  obtain ⟨V1,f_V1⟩ : ∃ X,V0.alloc (.cells #[.string ⟨#[]⟩,.int .i64 0,.bool false] 34)=X:=⟨_,rfl⟩
  have b_V1:Below V0.heap.size V0 V1:=by rw [<- f_V1]; exact box_below V0 _
  have k_V1:V1.heap[V0.heap.size]? = some (.cells #[.string ⟨#[]⟩,.int .i64 0,.bool false] 34 (0,0)):=by rw [<- f_V1]; exact heap_alloc_new V0 _
  try rw [f_V1]
  refine hK.out _ _ (HK.out V1 (keptW B0 b_V1)) (fun hHeld=>?_)
  clear hK K
  try simp only [Act.put,yyA,yyB,yyC]
  refine wpAnyH_ready (rs:=[6]) (by kernel_rfl) (by simp) ?_
  refine AllReadyH.cons rfl (fun K hK=>?_) AllReadyH.nil
  go_simp
  go_at_call 151
  refine (hFd.out V1 (keptW B0 b_V1)).mono ?_
  rintro e V2 ⟨rfl,b_V2⟩
  dsimp only
  refine hK.out _ _ (HK.out V2 (keptW (keptW B0 b_V1) b_V2)) (fun hHeld=>?_)
  clear hK K
  try simp only [Act.put,yyA,yyB,yyC]
  refine wpAnyH_take (i:=7) (v:=.tuple #[B.xv xx,.bool is]) (by simp only [yyG,yyF,yyE]; rfl) (by kernel_rfl) (by kernel_rfl) (by kernel_rfl) (fun _ _ _ h=>h) (Or.inl ⟨by rfl,?_⟩) (by assumption) ?_
  ·(intro wq hSq; clear hSq; go_simp; try with_reducible rfl)
  try simp only [Act.put,yyA,yyB,yyC]
  refine wpAnyH_take (i:=8) (v:=B.xv xx) (by simp only [yyG,yyF,yyE]; rfl) (by kernel_rfl) (by kernel_rfl) (by kernel_rfl) (fun _ _ _ h=>h) (Or.inl ⟨by rfl,?_⟩) (by assumption) ?_
  ·(intro wq hSq; clear hSq; go_simp; try with_reducible rfl)
  try simp only [Act.put,yyA,yyB,yyC]
  refine wpAnyH_take (i:=9) (v:=.bool is) (by simp only [yyG,yyF,yyE]; rfl) (by kernel_rfl) (by kernel_rfl) (by kernel_rfl) (fun _ _ _ h=>h) (Or.inl ⟨by rfl,?_⟩) (by assumption) ?_
  ·(intro wq hSq; clear hSq; go_simp; try with_reducible rfl)
  try simp only [Act.put,yyA,yyB,yyC]
  have hgw:W.heap.size<=V0.heap.size:=B0.size
  have kk:V2.heap[V0.heap.size]? = some (.cells #[.string ⟨#[]⟩,.int .i64 0,.bool false] 34 (0,0)):=(b_V2.block _ (yyD k_V1).1).trans k_V1
  obtain ⟨y0,y1,y2⟩:=cells3 kk
  have fr:=fun j=>frozen_of_row V2 V0.heap.size j _ _ kk
  obtain ⟨Y,hY⟩ : ∃ Y,((V2.setCell ⟨V0.heap.size,0,none⟩ (.string xx.name)).setCell ⟨V0.heap.size,1,none⟩ (.int .i64 xx.kind)).setCell ⟨V0.heap.size,2,none⟩ (.bool xx.fed)=Y:=⟨_,rfl⟩
  have eY:Y.heap[V0.heap.size]? = some (.cells (B.xcells xx).toArray 34 (0,0)):=by rw [<- hY]; exact set_list (set_list (set_list (C:=[.string ⟨#[]⟩,.int .i64 0,.bool false]) kk _) _) _
  have bXw:Below W.heap.size W V2:=(keptW (keptW B0 b_V1) b_V2)
  have bY:Below W.heap.size W Y:=by rw [<- hY]; exact ((bXw.setCell (p:=⟨V0.heap.size,0,none⟩) hgw _).setCell (p:=⟨V0.heap.size,1,none⟩) hgw _).setCell (p:=⟨V0.heap.size,2,none⟩) hgw _
  refine wpAnyH_ready (rs:=[11]) (by kernel_rfl) (by simp) ?_
  refine AllReadyH.cons rfl (fun K hK=>?_) AllReadyH.nil
  go_simp
  try rw [hY]
  refine hK.out _ _ (HK.out Y bY) (fun hHeld=>?_)
  clear hK K
  try simp only [Act.put,yyA,yyB,yyC]
  refine wpAnyH_take (i:=12) (v:=.bool is) (by simp only [yyG,yyF,yyE]; rfl) (by kernel_rfl) (by kernel_rfl) (by kernel_rfl) (fun _ _ _ h=>h) (Or.inl ⟨by rfl,?_⟩) (by assumption) ?_
  ·(intro wq hSq; clear hSq; go_simp; try with_reducible rfl)
  try simp only [Act.put,yyA,yyB,yyC]
  refine wpAnyH_done (by kernel_rfl) ?_ _
  refine NoPanic.normal ?_
  clear hHeld
  have HE:Hid (Below W.heap.size W Y/\Y.cell? ⟨V0.heap.size,2,none⟩=some (.bool xx.fed)):=⟨bY,box_at eY rfl⟩
  clear kk y0 y1 y2 fr hY eY bXw bY
  go_wp2
  go_meet
  exact ⟨_,rfl,rfl,HE.out⟩
 case rest =>
  obtain ⟨g,rfl,rfl,HC⟩:=hcut
  have hS2:=HB.out.1.kept HC.out.1
  have bw:=keptW HB.out.2.bel HC.out.1
  have hO:Hid (∀ k,Calls Tryz.prog 184 #[.pointer (some ⟨p,0,none⟩),mv m] (wc.drewN k) fun e w' => ∃ v',e=.returned v'/\O.RowI w' wc.heap.size v' (O.onwardT s.S s.E s.H m.origin s.site)/\Below wc.heap.size wc w'):=fun k=>(onward14_any p G s m (wc.drewN k) (hS2.kept (drewN_below wc k))).mono fun e w' h=>by
   obtain ⟨v',h1,h2,h3⟩:=h
   exact ⟨v',h1,h2,keptW (drewN_below wc k) h3⟩
  obtain ⟨ft2,d2,hs2,_⟩:=hS2
  obtain ⟨c0,c1,c2,c3,c4,c5,c6,c7,c8,c9⟩:=cells10 hs2.blk
  obtain ⟨x0,x1,x2,x3,x4,x5⟩:=cellsM ((HC.out.1.block _ (yyD HB.out.2.box).1).trans HB.out.2.box)
  have xf:=HC.out.2
  have HW:Hid (Below w.heap.size w wc):=bw
  clear hs2 bw c0 c1 c2 c3 c5 c6 c7 c8 c9 z0 z1 a0 a1 hFd HK bD HC HB
  by_cases hmax:s.seq=18446744073709551615
  ·obtain ⟨rfl,rfl⟩:[]=l/\11=er:=by have:=HR.out; unfold ownM at this; rw [if_pos hmax] at this; exact Prod.mk.inj this
   rw [hmax] at c4
   replace c4:wc.cell? ⟨p,4,none⟩=some (.int .u64 18446744073709551615):=c4
   go_wp2
   go_ret2
   exact adm_none HW.out 11
  have H1:Hid ((if m.seq≠(s.seq:Int)+1 then (([]:List Int),(10:Int)) else if m.hop≠0 then ([],2) else match B.findX s.tb.xs m.ex with
   |none=>([],3)
   |some x=>if x.fed then (O.onwardT s.S s.E s.H m.origin s.site,0) else ([],0))=(l,er)):=by have:=HR.out; unfold ownM at this; rw [if_neg hmax] at this; exact this
  clear HR
  have hmax' : ¬ (s.seq:Int)=18446744073709551615:=by omega
  have hw:IntKind.u64.wrap ((s.seq:Int)+1)=(s.seq:Int)+1:=by have:=HX.out.2.2; rw [IntKind.wrap_u64]; omega
  obtain ⟨sq,hq⟩ : ∃ z:Int,(s.seq:Int)=z:=⟨_,rfl⟩
  rw [hq] at c4 hmax' hw H1
  clear hq hmax
  by_cases hseq:m.seq=sq+1
  ·have H2:Hid ((if m.hop≠0 then (([]:List Int),(2:Int)) else match B.findX s.tb.xs m.ex with
    |none=>([],3)
    |some x=>if x.fed then (O.onwardT s.S s.E s.H m.origin s.site,0) else ([],0))=(l,er)):=by have:=H1.out; rw [if_neg (by simpa using hseq)] at this; exact this
   clear H1
   rw [hseq] at x1
   have HQ:Hid (m.seq=sq+1):=hseq
   clear hseq
   by_cases hhop:m.hop=0
   ·have H3:Hid ((match B.findX s.tb.xs m.ex with
     |none=>(([]:List Int),(3:Int))
     |some x=>if x.fed then (O.onwardT s.S s.E s.H m.origin s.site,0) else ([],0))=(l,er)):=by have:=H2.out; rw [if_neg (by simpa using hhop)] at this; exact this
    clear H2
    have HM:Hid (m.hop=0):=hhop
    rw [hhop] at x2
    clear hhop
    cases his:is with
    |false =>
     obtain ⟨rfl,rfl⟩:[]=l/\3=er:=by
      have h1:=HX.out.2.1
      have h3:=H3.out
      rw [his] at h1
      cases hf:B.findX s.tb.xs m.ex with
      |none=>rw [hf] at h3; exact Prod.mk.inj h3
      |some x=>rw [hf] at h1; cases h1
     subst his
     clear hO H3
     go_wp2
     go_quiet (fail)
     go_wp2
     go_ret2
     exact adm_none (keptW HW.out (drewN_below wc _)) 3
    |true =>
     have H4:Hid ((if xx.fed then (O.onwardT s.S s.E s.H m.origin s.site,0) else ([],0))=(l,er)):=by
      have h1:=HX.out.2.1
      have h2:=HX.out.1
      have h3:=H3.out
      rw [his] at h1
      cases hf:B.findX s.tb.xs m.ex with
      |none=>rw [hf] at h1; cases h1
      |some x=>rw [hf] at h2 h3; rw [<- h2]; exact h3
     subst his
     clear H3
     obtain ⟨fd,hfd⟩ : ∃ z,xx.fed=z:=⟨_,rfl⟩
     rw [hfd] at xf H4
     clear hfd
     cases fd
     ·obtain ⟨rfl,rfl⟩:[]=l/\0=er:=Prod.mk.inj H4.out
      clear hO H4
      go_wp2
      go_quiet (fail)
      go_wp2
      go_ret2
      exact adm_none (keptW HW.out (drewN_below wc _)) 0
     ·obtain ⟨hl,rfl⟩:O.onwardT s.S s.E s.H m.origin s.site=l/\0=er:=Prod.mk.inj H4.out
      rw [hl] at hO
      clear H4 hl
      have hO2:Hid (∀ k,Calls Tryz.prog 184 #[.pointer (some ⟨p,0,none⟩),.agg #[.int .i64 m.origin,.int .u64 (sq+1),.int .i64 0,.string m.ex,.string m.key,.string m.body]] (wc.drewN k) fun e w' => ∃ v',e=.returned v'/\O.RowI w' wc.heap.size v' l/\Below wc.heap.size wc w'):=fun k=>by
       have h:=hO.out k
       have e:mv m=.agg #[.int .i64 m.origin,.int .u64 (sq+1),.int .i64 0,.string m.ex,.string m.key,.string m.body]:=by show Value.agg #[.int .i64 m.origin,.int .u64 m.seq,.int .i64 m.hop,.string m.ex,.string m.key,.string m.body]=_; rw [HQ.out,HM.out]
       rw [e] at h
       exact h
      clear hO HQ HM
      go_wp2
      go_quiet (fail)
      go_wp2_with fail
      refine (hO2.out _).mono ?_
      rintro e w3 ⟨v3,rfl,r3,b3⟩
      obtain ⟨va,vc,rfl⟩:=r3.slice
      have HE:Hid (O.RowI w3 w.heap.size (.slice va l.length vc) l/\Below w.heap.size w w3):=⟨r3.mono HW.out.size,keptW HW.out b3⟩
      clear r3 b3 hO2
      go_wp2
      go_ret2
      exact ⟨_,rfl,HE.out⟩
   ·obtain ⟨rfl,rfl⟩:[]=l/\2=er:=by have:=H2.out; rw [if_pos (by simpa using hhop)] at this; exact Prod.mk.inj this
    clear hO H2
    go_wp2
    go_quiet (fail)
    go_wp2
    go_ret2
    exact adm_none (keptW HW.out (drewN_below wc _)) 2
  ·obtain ⟨rfl,rfl⟩:[]=l/\10=er:=by have:=H1.out; rw [if_pos (by simpa using hseq)] at this; exact Prod.mk.inj this
   have hd:decide (m.seq=sq+1)=false:=decide_eq_false hseq
   have hb:(m.seq==sq+1)=false:=by simpa using hseq
   clear hO H1
   go_wp2
   go_quiet (fail)
   go_wp2
   go_ret2
   exact adm_none (keptW HW.out (drewN_below wc _)) 10
end Go.Proofs.YtnhnpnafchkhiaaGreatDoor
