import Derived.Test.YtnhnpnafchkhiaaGreatDoorQwA
import Derived.Test.YtnhnpnafchkhiaaGreatDoorQw28
import Derived.Test.YtnhnpnafchkhiaaGreatDoorQw30
import Derived.Test.YtnhnpnafchkhiaaGreatDoorQw6
import Derived.Test.YtnhnpnafchkhiaaGreatDoorQw5
import Derived.Sort.KeysCollected
import Derived.Test.YtnhnpnafchkhiaaGreatDoorQw12
set_option maxHeartbeats 1000000
set_option maxRecDepth 20000
namespace Go.Proofs.YtnhnpnafchkhiaaGreatDoor
open Go.RowKit
def insK {α:Type} (n:ByteArray) (x:α):List (ByteArray × α)->List (ByteArray × α)
 |[]=>[(n,x)]
 |y::t=>if B.cmpS n y.1<0 then (n,x)::y::t else y::insK n x t
theorem insK_perm {α:Type} (n:ByteArray) (x:α) : ∀ l:List (ByteArray × α),(insK n x l).Perm ((n,x)::l)
 |[]=>List.Perm.refl _
 |y::t=>by
  unfold insK
  split
  ·exact List.Perm.refl _
  ·exact ((insK_perm n x t).cons y).trans (List.Perm.swap _ _ _)
theorem insK_names {α β:Type} (n:ByteArray) (x:α) (y:β) : ∀ (l:List (ByteArray × α)) (k:List (ByteArray × β)),l.map Prod.fst=k.map Prod.fst->(insK n x l).map Prod.fst=(insK n y k).map Prod.fst
 |[],[],_=>rfl
 |[],_::_,h=>by simp at h
 |_::_,[],h=>by simp at h
 |a::l,b::k,h=>by
  simp only [List.map_cons,List.cons.injEq] at h
  unfold insK
  rw [h.1]
  split
  ·simp [h.1,h.2]
  ·simp [h.1,insK_names n x y l k h.2]
theorem filter_names {α β:Type} (n:ByteArray) : ∀ (l:List (ByteArray × α)) (k:List (ByteArray × β)),l.map Prod.fst=k.map Prod.fst->(l.filter fun y => !decide (y.1=n)).map Prod.fst=(k.filter fun y => !decide (y.1=n)).map Prod.fst
 |[],[],_=>rfl
 |[],_::_,h=>by simp at h
 |_::_,[],h=>by simp at h
 |a::l,b::k,h=>by
  simp only [List.map_cons,List.cons.injEq] at h
  have ih:=filter_names n l k h.2
  by_cases hn:b.1=n
  ·simp [h.1,hn] at ih ⊢
   exact ih
  ·simp [h.1,hn] at ih ⊢
   exact ih
section
variable {w w2 w3:World} {p:Nat} {ft:Ix->Nat->Prop} {d:Ad} {s:Sm} {Fq:Nat->Prop}
theorem old_same {b:Nat} (b2:Below w.heap.size w w2) (g:w2.grownBy w3 (some b)) {k:Nat} (hk:k<w.heap.size) (hne:k≠b):w3.heap[k]? = w.heap[k]? :=
 (g.block k (Nat.lt_of_lt_of_le hk b2.size) (by simpa using hne)).trans (b2.block k hk)
theorem SAt.addQueue (h:SAt w p ft d s) {n:ByteArray} {b:Nat} {q:F.St} (hn:n∉s.qs.map Prod.fst) (b2:Below w.heap.size w w2) (hq:F.Q w2 b Fq q) (hnew : ∀ k,Fq k->w.heap.size<=k) (hd:DAt w3 d.qm ((n,b)::d.ps)) (dl:DL ((n,b)::d.ps)) (g:w2.grownBy w3 (some d.qm)) :
  SAt w3 p (upd ft (.queue n) Fq) { d with ps:=insK n b d.ps } { s with qs:=insK n q s.qs }/\Moved w w3 (fun k => ∃ a,ft a k) (fun k => ∃ a,upd ft (.queue n) Fq a k):=by
 have hqm:d.qm<w.heap.size:=h.qmap.lt
 have ho : ∀ a,a≠.qmap -> ∀ k,ft a k->w3.heap[k]? = w.heap[k]? := fun a ha k hk=>old_same b2 g (h.lts a k hk) fun e=>ha (h.one a .qmap k hk ((h.fq k).2 e))
 refine ⟨⟨?_,?_,?_,?_,?_,?_,?_,?_,?_,?_,?_,?_,?_,h.tos,?_,?_,?_⟩,?_⟩
 ·rw [ho .main (by simp) p ((h.fm p).2 rfl)]; exact h.blk
 ·rw [upd_other ft Fq (by simp)]; exact h.fm
 ·exact h.edges.same fun g hg=>ho .edges (by simp) g ((h.fe g).2 hg)
 ·rw [upd_other ft Fq (by simp)]; exact h.fe
 ·rw [upd_other ft Fq (by simp)]; exact h.table.same fun k hk=>ho .table (by simp) k hk
 ·exact hd.permTo (dl.perm (insK_perm n b d.ps)) (insK_perm n b d.ps).symm
 ·rw [upd_other ft Fq (by simp)]; exact h.fq
 ·rw [upd_other ft Fq (by simp)]; exact h.book.same fun k hk=>ho .book (by simp) k hk
 ·exact h.lmap.same (ho .lmap (by simp) _ ((h.fl _).2 rfl))
 ·rw [upd_other ft Fq (by simp)]; exact h.fl
 ·exact insK_names n b q d.ps s.qs h.names
 ·intro n' q' hq'
  rcases List.mem_cons.1 ((insK_perm n q s.qs).mem_iff.1 hq') with e | hm
  ·injection e with e1 e2
   subst e1 e2
   rw [upd_same]
   exact ⟨b,(insK_perm n' b d.ps).mem_iff.2 List.mem_cons_self,hq.same fun k hk=>g.block k (hq.lts k hk) (by have:=hnew k hk; simp; omega)⟩
  ·have hne:n'≠n:=fun e=>hn (by rw [<- e]; exact List.mem_map.2 ⟨_,hm,rfl⟩)
   rw [upd_other ft Fq (by simpa using hne)]
   obtain ⟨b',h1,h2⟩:=h.queue n' q' hm
   exact ⟨b',(insK_perm n b d.ps).mem_iff.2 (List.mem_cons_of_mem _ h1),h2.same fun k hk=>ho _ (by simp) k hk⟩
 ·intro n' hn'
  have hn2:n'∉(insK n q s.qs).map Prod.fst:=hn'
  have hp:=(insK_perm n q s.qs).map Prod.fst
  have hne:n'≠n:=fun e=>hn2 (hp.mem_iff.2 (by rw [e]; exact List.mem_cons_self))
  rw [upd_other ft Fq (by simpa using hne)]
  exact h.noq n' fun hm=>hn2 (hp.mem_iff.2 (List.mem_cons_of_mem _ hm))
 ·intro t l hl
  rw [upd_other ft Fq (by simp)]
  obtain ⟨v,h1,h2,h3⟩:=h.link t l hl
  exact ⟨v,h1,h2.same fun g hg=>ho (.link t) (by simp) g ((h3 g).2 hg),h3⟩
 ·intro t ht
  rw [upd_other ft Fq (by simp)]
  exact h.nol t ht
 ·intro a c k ha hc
  by_cases ea:a=.queue n
  ·by_cases ec:c=.queue n
   ·rw [ea,ec]
   ·rw [ea,upd_same] at ha
    rw [upd_other ft Fq ec] at hc
    have:=hnew k ha
    have:=h.lts c k hc
    omega
  ·rw [upd_other ft Fq ea] at ha
   by_cases ec:c=.queue n
   ·rw [ec,upd_same] at hc
    have:=hnew k hc
    have:=h.lts a k ha
    omega
   ·rw [upd_other ft Fq ec] at hc
    exact h.one a c k ha hc
 ·refine ⟨g.os.trans b2.os,g.tape.trans b2.tape,g.output.trans b2.output,Nat.le_trans b2.size g.size,fun k hk hn=>old_same b2 g hk fun e=>hn ⟨.qmap,(h.fq k).2 e⟩,fun k ⟨a,ha⟩=>?_⟩
  by_cases ea:a=.queue n
  ·rw [ea,upd_same] at ha
   exact .inr (hnew k ha)
  ·rw [upd_other ft Fq ea] at ha
   exact .inl ⟨a,ha⟩
theorem SAt.cutQueue (h:SAt w p ft d s) {n:ByteArray} (hd:DAt w2 d.qm (d.ps.filter fun y => !decide (y.1=n))) (g:w.grownBy w2 (some d.qm)) :
  SAt w2 p (upd ft (.queue n) fun _=>False) { d with ps:=d.ps.filter fun y => !decide (y.1=n) } { s with qs:=s.qs.filter fun y => !decide (y.1=n) }/\Moved w w2 (fun k => ∃ a,ft a k) (fun k => ∃ a,upd ft (.queue n) (fun _=>False) a k):=by
 have ho : ∀ a,a≠.qmap -> ∀ k,ft a k->w2.heap[k]? = w.heap[k]? := fun a ha k hk=>g.block k (h.lts a k hk) (by simpa using fun e=>ha (h.one a .qmap k hk ((h.fq k).2 e)))
 refine ⟨⟨?_,?_,?_,?_,?_,hd,?_,?_,?_,?_,?_,?_,?_,h.tos,?_,?_,?_⟩,?_⟩
 ·rw [ho .main (by simp) p ((h.fm p).2 rfl)]; exact h.blk
 ·rw [upd_other ft _ (by simp)]; exact h.fm
 ·exact h.edges.same fun g hg=>ho .edges (by simp) g ((h.fe g).2 hg)
 ·rw [upd_other ft _ (by simp)]; exact h.fe
 ·rw [upd_other ft _ (by simp)]; exact h.table.same fun k hk=>ho .table (by simp) k hk
 ·rw [upd_other ft _ (by simp)]; exact h.fq
 ·rw [upd_other ft _ (by simp)]; exact h.book.same fun k hk=>ho .book (by simp) k hk
 ·exact h.lmap.same (ho .lmap (by simp) _ ((h.fl _).2 rfl))
 ·rw [upd_other ft _ (by simp)]; exact h.fl
 ·exact filter_names n d.ps s.qs h.names
 ·intro n' q' hq'
  obtain ⟨hm,hne⟩:=List.mem_filter.1 hq'
  have hne:n'≠n:=by simpa using hne
  rw [upd_other ft _ (by simpa using hne)]
  obtain ⟨b',h1,h2⟩:=h.queue n' q' hm
  exact ⟨b',List.mem_filter.2 ⟨h1,by simpa using hne⟩,h2.same fun k hk=>ho _ (by simp) k hk⟩
 ·intro n' hn' k
  by_cases e:n'=n
  ·rw [e,upd_same]; exact id
  ·rw [upd_other ft _ (by simpa using e)]
   refine h.noq n' (fun hm=>hn' ?_) k
   obtain ⟨x,hx,e2⟩:=List.mem_map.1 hm
   exact List.mem_map.2 ⟨x,List.mem_filter.2 ⟨hx,by rw [e2]; simpa using e⟩,e2⟩
 ·intro t l hl
  rw [upd_other ft _ (by simp)]
  obtain ⟨v,h1,h2,h3⟩:=h.link t l hl
  exact ⟨v,h1,h2.same fun g hg=>ho (.link t) (by simp) g ((h3 g).2 hg),h3⟩
 ·intro t ht
  rw [upd_other ft _ (by simp)]
  exact h.nol t ht
 ·intro a c k ha hc
  by_cases ea:a=.queue n
  ·rw [ea,upd_same] at ha; exact ha.elim
  ·by_cases ec:c=.queue n
   ·rw [ec,upd_same] at hc; exact hc.elim
   ·rw [upd_other ft _ ea] at ha
    rw [upd_other ft _ ec] at hc
    exact h.one a c k ha hc
 ·refine ⟨g.os,g.tape,g.output,g.size,fun k hk hn=>g.block k hk (by simpa using fun e=>hn ⟨.qmap,(h.fq k).2 e⟩),fun k ⟨a,ha⟩=>?_⟩
  by_cases ea:a=.queue n
  ·rw [ea,upd_same] at ha; exact ha.elim
  ·rw [upd_other ft _ ea] at ha
   exact .inl ⟨a,ha⟩
end
def queueM (s:Sm) (n:ByteArray) (k:Int):Int × Sm:=match findQ s.qs n with
 |some q=>(if (q.most:Int)=k then 0 else 12,s)
 |none=>if 16<=s.qs.length then (5,s) else (0,{ s with qs:=insK n (F.newS k.toNat) s.qs })
theorem queueM_some {s:Sm} {n:ByteArray} {k:Int} {q:F.St} (h:findQ s.qs n=some q):queueM s n k=(if (q.most:Int)=k then 0 else 12,s):=by unfold queueM; rw [h]
theorem queueM_none {s:Sm} {n:ByteArray} {k:Int} (h:findQ s.qs n=none):queueM s n k=if 16<=s.qs.length then (5,s) else (0,{ s with qs:=insK n (F.newS k.toNat) s.qs }):=by unfold queueM; rw [h]
theorem dl_cons {l:List Pe} (h:DL l) {n:ByteArray} (hs:n.size<=maxLen) (hn:findP l n=none) (b:Nat):DL ((n,b)::l):=by
 refine ⟨List.pairwise_cons.2 ⟨fun y hy e=>findP_none hn y hy (str_inj e).symm,h.diff⟩,fun x hx=>?_⟩
 rcases List.mem_cons.1 hx with rfl | hx
 ·exact hs
 ·exact h.fit x hx
theorem SAt.len_ps {w:World} {p:Nat} {ft:Ix->Nat->Prop} {d:Ad} {s:Sm} (h:SAt w p ft d s):d.ps.length=s.qs.length:=by
 have:=congrArg List.length h.names
 simpa using this
theorem makeQ_any (p:Nat) (G:Nat->Prop) (s:Sm) (a:Ax) (w:World) (h:SS w p G s) (fit:s.Fit) (hs:a.name.size<=maxLen) (hn:1<=a.n/\a.n<=1000) :
  Calls Tryz.prog 81 #[.pointer (some ⟨p,0,none⟩),av a] w (DeedPost p G w (queueM s a.name a.n).1 (queueM s a.name a.n).2):=by
 obtain ⟨W,fold⟩ : ∃ W,w.alloc (.cells #[.int .i64 a.kind,.string a.name,.int .i64 a.n,.int .u64 a.tag,.int .i64 a.to,.string a.xn,.int .i64 a.xk,.bool a.xf,.string a.be,.string a.bq,.string a.bp,.int .i64 a.m.origin,.int .u64 a.m.seq,.int .i64 a.m.hop,.string a.m.ex,.string a.m.key,.string a.m.body] 42)=W:=⟨_,rfl⟩
 have hB:Boxd w W a:=by rw [<- fold]; exact boxd_new w a
 have hlt:=h.lts
 have hW:=(h.kept hB.bel).kept (drew_below W)
 have H0:Hid (SS w p G s/\Below w.heap.size w W):=⟨h,hB.bel⟩
 obtain ⟨ft,d,hs',hF⟩:=hW
 have HS:Hid (SAt W.drew p ft d s/\(∀ k,G k ↔ ∃ a,ft a k)/\Boxd w W a):=⟨hs',hF,hB⟩
 have hl:(Instr.lookup 83 (.map (some d.qm)) (.string a.name) true).run Tryz.prog W.drew=.ok (.tuple #[ptrO ((findP d.ps a.name).map Prod.snd),.bool (findP d.ps a.name).isSome]) W.drew:=DAt.look2 (w:=W.drew) (hs'.qmap) (hs'.dl fit) hs
 obtain ⟨c0,c1,c2,c3,c4,c5,c6,c7,c8,c9⟩:=cells10 hs'.blk
 obtain ⟨x0,x1,x2,x3,x4,x5,x6,x7,x8,x9,x10,x11,x12,x13,x14,x15,x16⟩:=cells17 hB.box
 have c7':W.cell? ⟨p,7,none⟩=some (.map (some d.qm)):=c7
 have hq:=hs'.queueAt fit a.name
 have hpl:=hs'.len_ps
 have hlen : ∀ ty q,(Builtin.len_ #[83] ty #[.map (some d.qm)]).run Tryz.prog (W.drewN q)=.ok (.int .i64 (s.qs.length:Nat)) (W.drewN q):=fun ty q=>by have:=DAt.len (w:=W.drewN q) hs'.qmap ty; rw [hpl] at this; exact this
 have hdl:=hs'.dl fit
 clear hs' hF hB c0 c1 c2 c3 c4 c5 c6 c7 c8 c9 x0 x3 x4 x5 x6 x7 x8 x9 x10 x11 x12 x13 x14 x15 x16 h
 rcases hq with ⟨q1,q2⟩ | ⟨q,b,q1,q2,q3,q4⟩
 ·have hl2:=hl
  rw [q2] at hl2
  clear hl
  replace hl2:(Instr.lookup 83 (.map (some d.qm)) (.string a.name) true).run Tryz.prog W.drew=.ok (.tuple #[.pointer none,.bool false]) W.drew:=hl2
  rw [queueM_none q1]
  by_cases h16:16<=s.qs.length
  ·rw [if_pos h16]
   have h16':(16:Int)<=(s.qs.length:Int):=by omega
   generalize s.qs.length=L at hlen h16'
   clear q1 q2 hdl hpl h16 hlt
   go_enter Tryz.func81,Tryz.ntmps81
   go_wp2
   try rw [fold]
   (go_region_held3 (fun w'=>w'.cell? ⟨p,7,none⟩=some (.map (some d.qm))/\w'.cell? ⟨w.heap.size,1,none⟩=some (.string a.name)/\w'.cell? ⟨w.heap.size,2,none⟩=some (.int .i64 a.n)/\(Instr.lookup 83 (.map (some d.qm)) (.string a.name) true).run Tryz.prog w'=.ok (.tuple #[.pointer none,.bool false]) w') (first | exact ⟨c7',x1,x2,hl2⟩ | go_keep) (first | fail))
   all_goals go_wp2
   go_quiet (fail)
   all_goals go_wp2
   all_goals go_ret
   all_goals exact deed_none H0.out.1 (keptW H0.out.2 (drewN_below W _)) 5
  ·rw [if_neg h16]
   have h16' : ¬ (16:Int)<=(s.qs.length:Int):=by omega
   have hN:Hid (∀ V,Calls Tryz.prog 131 #[.int .i64 a.n] V fun e w' => ∃ p,e=.returned (.pointer (some ⟨p,0,none⟩)) /\ ∃ Fq,F.Q w' p Fq (F.newS a.n.toNat)/\(∀ k,Fq k->V.heap.size<=k)/\Below V.heap.size V w'):=fun V=>by
    have hN:=F.new_any a.n.toNat V (by omega) (by omega)
    rw [show ((a.n.toNat:Nat):Int)=a.n by omega] at hN
    exact hN
   have HN:Hid (∀ N w2 b Fq,Below (W.drewN N).heap.size (W.drewN N) w2->F.Q w2 b Fq (F.newS a.n.toNat)->(∀ k,Fq k->(W.drewN N).heap.size<=k) -> ∃ w3,(Instr.mapUpdate 83 (.map (some d.qm)) (.string a.name) (.pointer (some ⟨b,0,none⟩))).run Tryz.prog w2=.ok () w3/\Hid (DeedPost p G w 0 { s with qs:=insK a.name (F.newS a.n.toNat) s.qs } (.returned (.int .i64 0)) w3)/\w3.cell? ⟨p,7,none⟩=some (.map (some d.qm))/\w3.cell? ⟨w.heap.size,1,none⟩=some (.string a.name)/\w3.cell? ⟨w.heap.size,2,none⟩=some (.int .i64 a.n)/\w2.cell? ⟨p,7,none⟩=some (.map (some d.qm))/\w2.cell? ⟨w.heap.size,1,none⟩=some (.string a.name)/\w2.cell? ⟨w.heap.size,2,none⟩=some (.int .i64 a.n)):=by
    intro N w2 b Fq b2 hq hnew
    obtain ⟨V,eV⟩ : ∃ V,W.drewN N=V:=⟨_,rfl⟩
    have hV:V.heap=W.heap:=by rw [<- eV]; rfl
    have bV:Below W.heap.size W V:=by rw [<- eV]; exact drewN_below W N
    rw [eV] at b2 hnew
    have hsv:SAt V p ft d s:=HS.out.1.same fun _ _ _=>by rw [hV]; rfl
    have hsz:V.heap.size=W.heap.size:=by rw [hV]
    have b2' : ∀ k,k<W.heap.size->w2.heap[k]? = W.heap[k]? := fun k hk=>(b2.block k (by omega)).trans (by rw [hV])
    have hqm:d.qm<W.heap.size:=HS.out.1.qmap.lt
    have hd2:DAt w2 d.qm d.ps:=hsv.qmap.same (b2.block _ (by omega))
    obtain ⟨w3,r3,d3,g3⟩:=hd2.put hdl hs b (findP_none q2) (by rw [hpl]; omega)
    obtain ⟨s3,m3⟩:=hsv.addQueue (findQ_none q1) b2 hq hnew d3 (dl_cons hdl hs q2 b) g3
    have hpw:p<W.heap.size:=(yyD HS.out.1.blk).1
    have hbw:w.heap.size<W.heap.size:=(yyD HS.out.2.2.box).1
    have hpq:p≠d.qm:=fun e=>by have:=HS.out.1.one .main .qmap p ((HS.out.1.fm p).2 rfl) ((HS.out.1.fq p).2 e); cases this
    have hbq:w.heap.size≠d.qm:=fun e=>by have:=hlt _ ((HS.out.2.1 d.qm).2 ⟨.qmap,(HS.out.1.fq _).2 rfl⟩); omega
    have k2 : ∀ g j u,g<W.heap.size->W.cell? ⟨g,j,none⟩=some u->w2.cell? ⟨g,j,none⟩=some u:=fun g j u hg hu=>(World.cell?_of_block (w:=W) (a:=⟨g,j,none⟩) (b2' g hg)).trans hu
    have k3 : ∀ g j u,g<W.heap.size->g≠d.qm->W.cell? ⟨g,j,none⟩=some u->w3.cell? ⟨g,j,none⟩=some u:=fun g j u hg hne hu=>(World.cell?_of_block (w:=W) (a:=⟨g,j,none⟩) ((g3.block g (by have:=b2.size; omega) (by simpa using hne)).trans (b2' g hg))).trans hu
    have e:G=fun k => ∃ a,ft a k:=funext fun k=>propext (HS.out.2.1 k)
    refine ⟨w3,r3,⟨rfl,_,⟨_,_,s3,fun k=>Iff.rfl⟩,by rw [e]; exact Moved.from_below (keptW HS.out.2.2.bel bV) m3⟩,k3 _ _ _ hpw hpq c7',k3 _ _ _ hbw hbq x1,k3 _ _ _ hbw hbq x2,k2 _ _ _ hpw c7',k2 _ _ _ hbw x1,k2 _ _ _ hbw x2⟩
   generalize s.qs.length=L at hlen h16'
   clear q1 q2 hdl hpl h16 hlt
   go_enter Tryz.func81,Tryz.ntmps81
   go_wp2
   try rw [fold]
   (go_region_held3 (fun w'=>w'.cell? ⟨p,7,none⟩=some (.map (some d.qm))/\w'.cell? ⟨w.heap.size,1,none⟩=some (.string a.name)/\w'.cell? ⟨w.heap.size,2,none⟩=some (.int .i64 a.n)/\(Instr.lookup 83 (.map (some d.qm)) (.string a.name) true).run Tryz.prog w'=.ok (.tuple #[.pointer none,.bool false]) w') (first | exact ⟨c7',x1,x2,hl2⟩ | go_keep) (first | fail))
   all_goals go_wp2
   go_quiet (fail)
   all_goals go_wp2
   (go_region_held3 (fun w'=>w'.cell? ⟨p,7,none⟩=some (.map (some d.qm))/\w'.cell? ⟨w.heap.size,1,none⟩=some (.string a.name)/\w'.cell? ⟨w.heap.size,2,none⟩=some (.int .i64 a.n)) (first | exact ⟨c7',x1,x2⟩ | go_keep) (first
    |(go_at_call 131; refine (hN.out _).mono ?_; rintro e w2 ⟨b,rfl,Fq,q2,n2,b2⟩; obtain ⟨w3,r3,p3,f1,f2,f3,f4,f5,f6⟩:=HN.out _ w2 b Fq b2 q2 n2; clear q2 n2 b2 hN HN)))
   all_goals go_wp2
   all_goals go_ret
   all_goals exact p3.out
 ·have hl2:=hl
  rw [q2] at hl2
  clear hl
  replace hl2:(Instr.lookup 83 (.map (some d.qm)) (.string a.name) true).run Tryz.prog W.drew=.ok (.tuple #[.pointer (some ⟨b,0,none⟩),.bool true]) W.drew:=hl2
  rw [queueM_some q1]
  have hM:=F.most_any b (ft (.queue a.name)) q W.drew.drew (q4.same fun _ _=>rfl)
  obtain ⟨k,hk⟩ : ∃ k:Int,(q.most:Int)=k:=⟨_,rfl⟩
  rw [hk] at hM ⊢
  clear hk q1 q2 q3 q4 hdl hpl hlen hlt
  by_cases he:k=a.n
  ·rw [if_pos he]
   subst he
   go_enter Tryz.func81,Tryz.ntmps81
   go_wp2
   try rw [fold]
   (go_region_held3 (fun w'=>w'.cell? ⟨p,7,none⟩=some (.map (some d.qm))/\w'.cell? ⟨w.heap.size,1,none⟩=some (.string a.name)/\w'.cell? ⟨w.heap.size,2,none⟩=some (.int .i64 a.n)/\(Instr.lookup 83 (.map (some d.qm)) (.string a.name) true).run Tryz.prog w'=.ok (.tuple #[.pointer (some ⟨b,0,none⟩),.bool true]) w') (first | exact ⟨c7',x1,x2,hl2⟩ | go_keep) (first | fail))
   all_goals go_wp2
   (go_region_held3 (fun w'=>w'.cell? ⟨w.heap.size,2,none⟩=some (.int .i64 a.n)) (first | exact x2 | go_keep) (first
    |(go_at_call 51; refine hM.mono ?_; rintro e w2 ⟨rfl,rfl⟩; clear hM)))
   all_goals go_wp2
   all_goals go_ret
   all_goals exact deed_none H0.out.1 (keptW (keptW H0.out.2 (drew_below W)) (drew_below W.drew)) 0
  ·rw [if_neg he]
   go_enter Tryz.func81,Tryz.ntmps81
   go_wp2
   try rw [fold]
   (go_region_held3 (fun w'=>w'.cell? ⟨p,7,none⟩=some (.map (some d.qm))/\w'.cell? ⟨w.heap.size,1,none⟩=some (.string a.name)/\w'.cell? ⟨w.heap.size,2,none⟩=some (.int .i64 a.n)/\(Instr.lookup 83 (.map (some d.qm)) (.string a.name) true).run Tryz.prog w'=.ok (.tuple #[.pointer (some ⟨b,0,none⟩),.bool true]) w') (first | exact ⟨c7',x1,x2,hl2⟩ | go_keep) (first | fail))
   all_goals go_wp2
   (go_region_held3 (fun w'=>w'.cell? ⟨w.heap.size,2,none⟩=some (.int .i64 a.n)) (first | exact x2 | go_keep) (first
    |(go_at_call 51; refine hM.mono ?_; rintro e w2 ⟨rfl,rfl⟩; clear hM)))
   all_goals go_wp2
   all_goals go_ret
   all_goals exact deed_none H0.out.1 (keptW (keptW H0.out.2 (drew_below W)) (drew_below W.drew)) 12
end Go.Proofs.YtnhnpnafchkhiaaGreatDoor
namespace Go.Proofs.YtnhnpnafchkhiaaGreatDoor
open Go.RowKit Go.Maps Go.Shelf Go.WideShapes Go.Sort
theorem own1_lower {w:World} {b c:Nat} {e:TypeId} {v:Value} {cs:List Value} (h:Own1 w b e v cs) (hc:c<=b):Own1 w c e v cs:=by
 refine ⟨h.1,?_⟩
 rcases h.2 with hn | ⟨g,cap,cur,hv,hbg,rest⟩
 ·exact .inl hn
 ·exact .inr ⟨g,cap,cur,hv,Nat.le_trans hc hbg,rest⟩
theorem own1_same {w w':World} {b:Nat} {e:TypeId} {v:Value} {cs:List Value} (h:Own1 w b e v cs) (hs : ∀ g,v.ownBlock=some g->w'.heap[g]? = w.heap[g]?):Own1 w' b e v cs:=by
 refine ⟨h.1,?_⟩
 rcases h.2 with hn | ⟨g,cap,cur,hv,hbg,hg,rest⟩
 ·exact .inl hn
 ·exact .inr ⟨g,cap,cur,hv,hbg,by rw [hs g (by rw [hv]; rfl)]; exact hg,rest⟩
theorem cb_lt : ∀ (a b:List UInt8),Lib.compareBytes a b<0->a<b
 |[],[],h=>by simp [Lib.compareBytes] at h
 |[],_::_,_=>List.nil_lt_cons _ _
 |_::_,[],h=>by simp [Lib.compareBytes] at h
 |x::a,y::b,h=>by
  unfold Lib.compareBytes at h
  rw [List.cons_lt_cons_iff]
  by_cases h1:x<y
  ·exact .inl h1
  ·rw [if_neg h1] at h
   by_cases h2:y<x
   ·rw [if_pos h2] at h; simp at h
   ·rw [if_neg h2] at h
    have e:x=y:=UInt8.toNat_inj.1 (by rw [UInt8.lt_iff_toNat_lt] at h1 h2; omega)
    exact .inr ⟨e,cb_lt a b h⟩
def UpK {α:Type} (l:List (ByteArray × α)):Prop:=(l.map Prod.fst).Pairwise fun a b=>B.cmpS a b<0
theorem keysQ_sorted {l:List Pe} (ho:UpK l) {ss:List (List UInt8)} (hp:ss.Perm (strKeys (DofG pkl pd l))):(ss.mergeSort (fun x y=>decide (x<=y))).map Go.Proofs.encStr=scells (l.map Prod.fst)/\ss.length=l.length:=by
 have h1:(strKeys (DofG pkl pd l)).Perm (l.map fun e=>e.1.data.toList):=by
  unfold DofG strKeys
  refine ((sorted_perm (entsG pkl pd l)).map _).trans ?_
  unfold entsG
  rw [List.map_map]
  exact List.Perm.refl _
 have h2:=hp.trans h1
 have h3:(l.map fun e=>e.1.data.toList).Pairwise fun a b=>leB a b=true:=by
  rw [List.pairwise_map]
  refine (List.pairwise_map.1 ho).imp fun {a b} h=>?_
  simp only [leB,decide_eq_true_eq]
  exact List.le_of_lt (cb_lt _ _ h)
 refine ⟨?_,by rw [h2.length_eq,List.length_map]⟩
 have h4:=mergeSort_of_perm h2
 rw [List.mergeSort_of_pairwise h3] at h4
 rw [show ss.mergeSort (fun x y=>decide (x<=y))=ss.mergeSort leB from rfl,h4]
 unfold scells
 rw [List.map_map,List.map_map]
 exact List.map_congr_left fun e _=>by simp [Go.Proofs.encStr]
theorem sortsS_at (m:Nat):AnyZ.SortsIn Tryz.prog Tryz.sortedS_ren Fence.wide m :=
 ⟨fun blk off cap ss W hH hblk hsz=>callsIn_wide.2 (AnyM.slices_Sort_string Tryz.sortS blk off cap ss W hH hblk hsz),
  fun p cap W=>callsIn_wide.2 (AnyM.slices_Sort_string_none Tryz.sortS p cap W)⟩
theorem keysQ_at (mb:Option Nat) (W:World):Calls Tryz.prog 65 #[.map mb] W fun e w'=>e=.returned (.func (.func 117) #[] #[.pointer (some ⟨W.heap.size,0,none⟩)])/\w'=W.alloc (.cells #[.map mb] 83) :=
 callsIn_wide.1 (AnyZ.keys_in Tryz.keysQ Fence.wide 5 trivial rfl mb W)
theorem sortedQ_at (b:Nat) (l:List Pe) (w:World) (hown:DAt w b l) (ho:UpK l) (hlen:l.length<=1000000) :
  Calls Tryz.prog 64 #[.func (.func 117) #[] #[.pointer (some ⟨w.heap.size,0,none⟩)]] (w.alloc (.cells #[.map (some b)] 83)) fun e w' => ∃ v,e=.returned v/\Own1 w' w.heap.size 9 v (scells (l.map Prod.fst))/\Below w.heap.size w w':=by
 have hbl:=hown.lt
 have hsz:Maps.size (DofG pkl pd l)=l.length:=by rw [size_DofG]
 have hseq:SeqGives Fence.wide 2 Tryz.prog 117 #[.pointer (some ⟨w.heap.size,0,none⟩)] Go.Proofs.encStr (fun ss=>ss.Perm (strKeys (DofG pkl pd l))) (Maps.size (DofG pkl pd l)) (w.alloc (.cells #[.map (some b)] 83)) :=
  AnyZ.keys_gives (ρ:=Tryz.keysQ_ren) { Tryz.keysQ with } Fence.wide _ trivial rfl (by omega) w.heap.size b _ (DofG pkl pd l) _ (by simp) (by simp) (hown.same (Below.heap_alloc _ _ b hbl))
 refine (callsIn_wide.1 (AnyZ.sorted_in Tryz.sortedS Fence.wide 5 trivial trivial trivial trivial rfl (by omega) (sortsS_at _) (enters_of Tryz.func116 (by kernel_rfl) rfl) 117 #[.pointer (some ⟨w.heap.size,0,none⟩)] trivial (enters_of Tryz.func117 (by kernel_rfl) rfl) _ _ (by rw [hsz]; unfold maxLen; omega) (by rw [hsz]; omega) _ hseq)).mono ?_
 rintro e w' ⟨v,ss,rfl,hS,hrow,_,hb⟩
 obtain ⟨h1,h2⟩:=keysQ_sorted ho hS
 rw [h1,h2] at hrow
 refine ⟨v,rfl,?_,((Below.refl _ w).alloc (yyH _) _).trans (hb.mono (by simp))⟩
 have h3:w'.ownsRow (w.alloc (.cells #[.map (some b)] 83)).heap.size 9 1 v (scells (l.map Prod.fst)).length (scells (l.map Prod.fst)):=by
  rw [show (scells (l.map Prod.fst)).length=l.length by simp [scells]]
  exact hrow
 exact own1_lower h3 (by simp)
theorem keysL_sorted {l:List Le} (ho:Up l) {ss:List Int} (hp:ss.Perm (intKeys (DofG lkl ld l))):(ss.mergeSort (fun x y=>decide (x<=y))).map encZ=icells (l.map Prod.fst)/\ss.length=l.length:=by
 have h1:(intKeys (DofG lkl ld l)).Perm (l.map Prod.fst):=by
  unfold DofG intKeys
  refine ((sorted_perm (entsG lkl ld l)).map _).trans ?_
  unfold entsG
  rw [List.map_map]
  exact List.Perm.refl _
 have h2:=hp.trans h1
 have h3:(l.map Prod.fst).Pairwise fun a b=>decide (a<=b)=true:=by
  refine ho.imp fun {a b} h=>?_
  simp only [decide_eq_true_eq]
  omega
 refine ⟨?_,by rw [h2.length_eq,List.length_map]⟩
 have h4:ss.mergeSort (fun x y=>decide (x<=y))=(l.map Prod.fst).mergeSort (fun x y=>decide (x<=y)):=by
  refine List.Perm.eq_of_pairwise (le:=fun a b:Int=>decide (a<=b)=true) (fun a b _ _ h1 h2=>?_) (List.pairwise_mergeSort (fun a b c h1 h2=>?_) (fun a b=>?_) _) (List.pairwise_mergeSort (fun a b c h1 h2=>?_) (fun a b=>?_) _) (((List.mergeSort_perm _ _).trans h2).trans (List.mergeSort_perm _ _).symm)
  ·simp at h1 h2; omega
  ·simp at h1 h2 ⊢; omega
  ·simp; omega
  ·simp at h1 h2 ⊢; omega
  ·simp; omega
 rw [h4,List.mergeSort_of_pairwise h3]
 rfl
theorem sortsI_at (m:Nat):AnyZI.SortsIn Tryz.prog Tryz.sortedI_ren Fence.wide m :=
 ⟨fun blk off cap ss W hH hblk hsz=>callsIn_wide.2 (AnyM.slices_Sort_int Tryz.sortI blk off cap ss W hH hblk hsz),
  fun p cap W=>callsIn_wide.2 (AnyM.slices_Sort_int_none Tryz.sortI p cap W)⟩
theorem keysL_at (mb:Option Nat) (W:World):Calls Tryz.prog 70 #[.map mb] W fun e w'=>e=.returned (.func (.func 124) #[] #[.pointer (some ⟨W.heap.size,0,none⟩)])/\w'=W.alloc (.cells #[.map mb] 86) :=
 callsIn_wide.1 (AnyZI.keys_in Tryz.keysL Fence.wide 5 trivial rfl mb W)
theorem sortedL_at (b:Nat) (l:List Le) (w:World) (hown:LAt w b l) (ho:Up l) (hlen:l.length<=1000000) :
  Calls Tryz.prog 69 #[.func (.func 124) #[] #[.pointer (some ⟨w.heap.size,0,none⟩)]] (w.alloc (.cells #[.map (some b)] 86)) fun e w' => ∃ v,e=.returned v/\Own1 w' w.heap.size 3 v (icells (l.map Prod.fst))/\Below w.heap.size w w':=by
 have hbl:=hown.lt
 have hsz:Maps.size (DofG lkl ld l)=l.length:=by rw [size_DofG]
 have hseq:SeqGives Fence.wide 2 Tryz.prog 124 #[.pointer (some ⟨w.heap.size,0,none⟩)] encZ (fun ss=>ss.Perm (intKeys (DofG lkl ld l))) (Maps.size (DofG lkl ld l)) (w.alloc (.cells #[.map (some b)] 86)) :=
  AnyZI.keys_gives (ρ:=Tryz.keysL_ren) { Tryz.keysL with } Fence.wide _ trivial rfl (by omega) w.heap.size b _ (DofG lkl ld l) _ (by simp) (by simp) (hown.same (Below.heap_alloc _ _ b hbl))
 refine (callsIn_wide.1 (AnyZI.sorted_in Tryz.sortedI Fence.wide 5 trivial trivial trivial trivial rfl (by omega) (sortsI_at _) (enters_of Tryz.func98 (by kernel_rfl) rfl) 124 #[.pointer (some ⟨w.heap.size,0,none⟩)] trivial (enters_of Tryz.func124 (by kernel_rfl) rfl) _ _ (by rw [hsz]; unfold maxLen; omega) (by rw [hsz]; omega) _ hseq)).mono ?_
 rintro e w' ⟨v,ss,rfl,hS,hrow,_,hb⟩
 obtain ⟨h1,h2⟩:=keysL_sorted ho hS
 rw [h1,h2] at hrow
 refine ⟨v,rfl,?_,((Below.refl _ w).alloc (yyH _) _).trans (hb.mono (by simp))⟩
 have h3:w'.ownsRow (w.alloc (.cells #[.map (some b)] 86)).heap.size 3 1 v (icells (l.map Prod.fst)).length (icells (l.map Prod.fst)):=by
  rw [show (icells (l.map Prod.fst)).length=l.length by simp [icells]]
  exact hrow
 exact own1_lower h3 (by simp)
theorem names14_any (p:Nat) (G:Nat->Prop) (s:Sm) (w:World) (h:SS w p G s) (hu:UpK s.qs) (hl:s.qs.length<=1000000) :
  Calls Tryz.prog 28 #[.pointer (some ⟨p,0,none⟩)] w fun e w' => ∃ v,e=.returned v/\Own1 w' w.heap.size 9 v (scells (s.qs.map Prod.fst))/\Below w.heap.size w w':=by
 obtain ⟨ft,d,hs,_⟩:=h
 have hS:=sortedQ_at d.qm d.ps w hs.qmap (by unfold UpK; rw [hs.names]; exact hu) (by rw [hs.len_ps]; exact hl)
 rw [hs.names] at hS
 have hK:=keysQ_at (some d.qm) w
 obtain ⟨c0,c1,c2,c3,c4,c5,c6,c7,c8,c9⟩:=cells10 hs.blk
 clear hs
 go_enter Tryz.func28,Tryz.ntmps28
 go_wp2_with fail
 refine hK.mono ?_
 rintro e w1 ⟨rfl,rfl⟩
 go_wp2_with fail
 refine hS.mono ?_
 rintro e w2 ⟨v,rfl,row,b⟩
 obtain ⟨va,vc,hv⟩:=row.row.slice
 subst hv
 clear hS hK
 go_wp2
 go_ret
 exact ⟨_,rfl,row,b⟩
theorem wanting14_any (p:Nat) (G:Nat->Prop) (s:Sm) (w:World) (h:SS w p G s) (hu:Up s.lk) (hl:s.lk.length<=1000000) :
  Calls Tryz.prog 31 #[.pointer (some ⟨p,0,none⟩)] w fun e w' => ∃ v,e=.returned v/\Own1 w' w.heap.size 3 v (icells (s.lk.map Prod.fst))/\Below w.heap.size w w':=by
 obtain ⟨ft,d,hs,_⟩:=h
 have hlen:d.es.length=s.lk.length:=by have:=congrArg List.length hs.tos; simpa using this
 have hS:=sortedL_at d.lm d.es w hs.lmap (by unfold Up; rw [hs.tos]; exact hu) (by rw [hlen]; exact hl)
 rw [hs.tos] at hS
 have hK:=keysL_at (some d.lm) w
 obtain ⟨c0,c1,c2,c3,c4,c5,c6,c7,c8,c9⟩:=cells10 hs.blk
 clear hs
 go_enter Tryz.func31,Tryz.ntmps31
 go_wp2_with fail
 refine hK.mono ?_
 rintro e w1 ⟨rfl,rfl⟩
 go_wp2_with fail
 refine hS.mono ?_
 rintro e w2 ⟨v,rfl,row,b⟩
 obtain ⟨va,vc,hv⟩:=row.row.slice
 subst hv
 clear hS hK
 go_wp2
 go_ret
 exact ⟨_,rfl,row,b⟩
end Go.Proofs.YtnhnpnafchkhiaaGreatDoor
namespace Go.Proofs.YtnhnpnafchkhiaaGreatDoor
open Go.RowKit
inductive All2 {α β:Type} (R:α->β->Prop):List α->List β->Prop
 |nil:All2 R [] []
 |cons {a:α} {b:β} {l:List α} {m:List β}:R a b->All2 R l m->All2 R (a::l) (b::m)
theorem All2.len {α β:Type} {R:α->β->Prop} {l:List α} {m:List β} (h:All2 R l m):l.length=m.length:=by
 induction h with
 |nil=>rfl
 |cons _ _ ih=>simp [ih]
theorem All2.imp {α β:Type} {R S:α->β->Prop} {l:List α} {m:List β} (h:All2 R l m) (hi : ∀ a b,R a b->S a b):All2 S l m:=by
 induction h with
 |nil=>exact .nil
 |cons h _ ih=>exact .cons (hi _ _ h) ih
theorem All2.snoc {α β:Type} {R:α->β->Prop} {l:List α} {m:List β} (h:All2 R l m) {a:α} {b:β} (hr:R a b):All2 R (l++[a]) (m++[b]):=by
 induction h with
 |nil=>exact .cons hr .nil
 |cons h _ ih=>exact .cons h ih
theorem All2.at {α β:Type} {R:α->β->Prop} {l:List α} {m:List β} (h:All2 R l m) : ∀ (i:Nat) (hi:i<l.length) (hj:i<m.length),R l[i] m[i]:=by
 induction h with
 |nil=>intro i hi; simp at hi
 |cons h _ ih =>
  intro i hi hj
  cases i with
  |zero=>exact h
  |succ i=>exact ih i (by simpa using hi) (by simpa using hj)
structure But (T:TypeId) (B:Nat) (w w':World):Prop where
 bel:Below B w w'
 size:w.heap.size<=w'.heap.size
 keep : ∀ (k:Nat) (c:Array Value) (T':TypeId) (z:Nat × Nat),w.heap[k]? = some (.cells c T' z)->T'≠T->w'.heap[k]? = w.heap[k]?
theorem owns_but {w w':World} {lo B:Nat} {T T':TypeId} {K n:Nat} {v:Value} {cs:List Value} (h:w.ownsRow lo T' K v n cs) (hb:But T B w w') (hne:T'≠T):w'.ownsRow lo T' K v n cs:=by
 refine ⟨h.1,?_⟩
 rcases h.2 with hn | ⟨g,cap,cur,hv,hbg,hg,rest⟩
 ·exact .inl hn
 ·exact .inr ⟨g,cap,cur,hv,hbg,by rw [hb.keep g _ _ _ hg hne]; exact hg,rest⟩
theorem owns_same {w w':World} {lo:Nat} {T':TypeId} {K n:Nat} {v:Value} {cs:List Value} (h:w.ownsRow lo T' K v n cs) (hs : ∀ g,lo<=g->g<w.heap.size->w'.heap[g]? = w.heap[g]?):w'.ownsRow lo T' K v n cs:=by
 refine ⟨h.1,?_⟩
 rcases h.2 with hn | ⟨g,cap,cur,hv,hbg,hg,rest⟩
 ·exact .inl hn
 ·exact .inr ⟨g,cap,cur,hv,hbg,by rw [hs g hbg (yyD hg).1]; exact hg,rest⟩
theorem owns_lower {w:World} {b c:Nat} {T':TypeId} {K n:Nat} {v:Value} {cs:List Value} (h:w.ownsRow b T' K v n cs) (hc:c<=b):w.ownsRow c T' K v n cs:=by
 refine ⟨h.1,?_⟩
 rcases h.2 with hn | ⟨g,cap,cur,hv,hbg,rest⟩
 ·exact .inl hn
 ·exact .inr ⟨g,cap,cur,hv,Nat.le_trans hc hbg,rest⟩
theorem but_grown {w w':World} {lo:Nat} {T:TypeId} {K n:Nat} {v:Value} {cs:List Value} (h:w.ownsRow lo T K v n cs) (hg:w.grownBy w' v.ownBlock) (hlo:lo<=w.heap.size):But T lo w w':=by
 refine ⟨(Below.refl _ _).grown hg hlo (fun k hk=>(World.ownsRow.lt h k hk).1),hg.size,fun k c T' z hk hne=>hg.block k (yyD hk).1 fun e=>?_⟩
 rcases h.2 with ⟨rfl,_⟩ | ⟨g,cap,cur,hv,hbg,hg',_⟩
 ·simp [Value.ownBlock] at e
 ·rw [hv] at e
  simp only [Value.ownBlock] at e
  injection e with e
  subst e
  rw [hk] at hg'
  injection hg' with hg'
  injection hg' with _ h2 _
  exact hne h2
theorem but_setCell {w:World} {g j B:Nat} {c:Array Value} {T:TypeId} {z:Nat × Nat} (h:w.heap[g]? = some (.cells c T z)) (hB:B<=g) (v:Value):But T B w (w.setCell ⟨g,j,none⟩ v):=by
 refine ⟨(Below.refl _ _).setCell (p:=⟨g,j,none⟩) hB v,by simp,fun k c' T' z' hk hne=>heap_setCell_other _ _ _ _ fun e=>?_⟩
 have e:k=g:=e
 subst e
 rw [h] at hk
 injection hk with hk
 injection hk with _ h2 _
 exact hne h2.symm
theorem but_setRow {w:World} {g B:Nat} {c:Array Value} {T:TypeId} {z:Nat × Nat} (h:w.heap[g]? = some (.cells c T z)) (hB:B<=g) (cs:Array Value):But T B w (w.setRow g cs):=by
 refine ⟨below_setRow (Below.refl _ _) hB cs,by simp [World.setRow],fun k c' T' z' hk hne=>setRow_other14 _ _ _ _ fun e=>?_⟩
 subst e
 rw [h] at hk
 injection hk with hk
 injection hk with _ h2 _
 exact hne h2.symm
structure Pt where
 seq:Int
 boots:Int
 x:Sl
 b:Sl
 q:Sl
 s:Sl
 l:Sl
def ptcells (x:Pt):List Value:=[.int .u64 x.seq,.int .u64 x.boots,slv x.x,slv x.b,slv x.q,slv x.s,slv x.l]
abbrev ptv (x:Pt):Value:=.agg #[.int .u64 x.seq,.int .u64 x.boots,slv x.x,slv x.b,slv x.q,slv x.s,slv x.l]
def zSl:Sl:=(none,0,0)
def zPt:Pt:=⟨0,0,zSl,zSl,zSl,zSl,zSl⟩
theorem infoPt:(Tryz.prog.info? 49).map (·.size)=some 7:=by kernel_rfl
theorem onePt (x:Pt):(ptcells x).toArray.all (·.oneCell')=true:=by simp [ptcells,Value.oneCell']
def spcells (x:Int × Sl):List Value:=[.int .i64 x.1,slv x.2]
instance encSp:K.Enc spcells 2:=⟨fun _=>rfl,fun m u hu=>by simp [spcells] at hu; rcases hu with rfl | rfl <;> rfl,by decide⟩
theorem infoQP : ∃ i,Tryz.prog.info? 59=some i/\i.zero=some (qpv zQp)/\i.size=5/\i.bytes=80:=by
 have hinfo:(Tryz.prog.info? 59).map (fun i=>(i.zero,i.size,i.bytes))=some (some (qpv zQp),5,80):=by kernel_rfl
 cases h:Tryz.prog.info? 59 with
 |none=>rw [h] at hinfo; simp at hinfo
 |some i =>
  rw [h] at hinfo
  simp only [Option.map_some,Option.some.injEq,Prod.mk.injEq] at hinfo
  exact ⟨i,rfl,hinfo.1,hinfo.2.1,hinfo.2.2⟩
theorem infoSP : ∃ i,Tryz.prog.info? 99=some i/\i.zero=some (.agg #[.int .i64 0,.slice none 0 0])/\i.size=2/\i.bytes=32:=by
 have hinfo:(Tryz.prog.info? 99).map (fun i=>(i.zero,i.size,i.bytes))=some (some (.agg #[.int .i64 0,.slice none 0 0]),2,32):=by kernel_rfl
 cases h:Tryz.prog.info? 99 with
 |none=>rw [h] at hinfo; simp at hinfo
 |some i =>
  rw [h] at hinfo
  simp only [Option.map_some,Option.some.injEq,Prod.mk.injEq] at hinfo
  exact ⟨i,rfl,hinfo.1,hinfo.2.1,hinfo.2.2⟩
theorem infoLP : ∃ i,Tryz.prog.info? 101=some i/\i.zero=some (.agg #[.int .i64 0,.slice none 0 0])/\i.size=2/\i.bytes=32:=by
 have hinfo:(Tryz.prog.info? 101).map (fun i=>(i.zero,i.size,i.bytes))=some (some (.agg #[.int .i64 0,.slice none 0 0]),2,32):=by kernel_rfl
 cases h:Tryz.prog.info? 101 with
 |none=>rw [h] at hinfo; simp at hinfo
 |some i =>
  rw [h] at hinfo
  simp only [Option.map_some,Option.some.injEq,Prod.mk.injEq] at hinfo
  exact ⟨i,rfl,hinfo.1,hinfo.2.1,hinfo.2.2⟩
abbrev OwnQp (w:World) (base:Nat) (v:Value) (l:List Qp):Prop:=K.OwnOf qpcells 5 59 w base v l
abbrev OwnSp (w:World) (base:Nat) (v:Value) (l:List (Int × Sl)):Prop:=K.OwnOf spcells 2 99 w base v l
abbrev OwnLp (w:World) (base:Nat) (v:Value) (l:List (Int × Sl)):Prop:=K.OwnOf spcells 2 101 w base v l
def SpIs (w:World) (base:Nat) (bk:Nat->List (Nat × Nat)) (x:Int × Sl) (o:Int):Prop:=x.1=o/\S.Own2 w base (slv x.2) (S.ofF bk o)
def LpIs (w:World) (base:Nat) (x:Int × Sl) (y:Int × List Ms):Prop:=x.1=y.1/\OwnM w base (slv x.2) y.2
structure PtIs (w:World) (base:Nat) (P:Pt) (s:Sm) (qs:List (ByteArray × F.St)) (os:List Int) (lk:List (Int × List Ms)):Prop where
 seq:P.seq=s.seq
 boots:P.boots=s.boots
 x:B.OwnX w base (slv P.x) s.tb.xs
 b:B.OwnB w base (slv P.b) s.tb.bs
 q : ∃ Q,OwnQp w base (slv P.q) Q/\All2 (fun x y=>QpIs w base x y.1 y.2) Q qs
 s : ∃ Q,OwnSp w base (slv P.s) Q/\All2 (SpIs w base s.bk) Q os
 l : ∃ Q,OwnLp w base (slv P.l) Q/\All2 (LpIs w base) Q lk
def PartsIs (w:World) (base:Nat) (P:Pt) (s:Sm):Prop:=PtIs w base P s s.qs (S.places (S.liveL s.bk)) s.lk
section
variable {w w':World} {base:Nat} {P:Pt} {s:Sm} {qs:List (ByteArray × F.St)} {os:List Int} {lk:List (Int × List Ms)}
theorem PtIs.same (h:PtIs w base P s qs os lk) (hs : ∀ g,base<=g->g<w.heap.size->w'.heap[g]? = w.heap[g]?):PtIs w' base P s qs os lk:=by
 obtain ⟨Q1,q1,a1⟩:=h.q
 obtain ⟨Q2,q2,a2⟩:=h.s
 obtain ⟨Q3,q3,a3⟩:=h.l
 exact ⟨h.seq,h.boots,owns_same h.x hs,owns_same h.b hs,⟨Q1,owns_same q1 hs,a1.imp fun _ _ r=>⟨r.name,r.most,r.next,owns_same r.r hs,owns_same r.o hs⟩⟩,⟨Q2,owns_same q2 hs,a2.imp fun _ _ r=>⟨r.1,owns_same r.2 hs⟩⟩,⟨Q3,owns_same q3 hs,a3.imp fun _ _ r=>⟨r.1,owns_same r.2 hs⟩⟩⟩
theorem PtIs.kept (h:PtIs w base P s qs os lk) (hb:Below w.heap.size w w'):PtIs w' base P s qs os lk:=h.same fun g _ hg=>hb.block g hg
theorem PtIs.butPt {B:Nat} (h:PtIs w base P s qs os lk) (hb:But 49 B w w'):PtIs w' base P s qs os lk:=by
 obtain ⟨Q1,q1,a1⟩:=h.q
 obtain ⟨Q2,q2,a2⟩:=h.s
 obtain ⟨Q3,q3,a3⟩:=h.l
 exact ⟨h.seq,h.boots,owns_but h.x hb (by decide),owns_but h.b hb (by decide),⟨Q1,owns_but q1 hb (by decide),a1.imp fun _ _ r=>⟨r.name,r.most,r.next,owns_but r.r hb (by decide),owns_but r.o hb (by decide)⟩⟩,⟨Q2,owns_but q2 hb (by decide),a2.imp fun _ _ r=>⟨r.1,owns_but r.2 hb (by decide)⟩⟩,⟨Q3,owns_but q3 hb (by decide),a3.imp fun _ _ r=>⟨r.1,owns_but r.2 hb (by decide)⟩⟩⟩
theorem PtIs.addQ {B:Nat} (h:PtIs w base P s qs os lk) (hb:But 59 B w w') {v:Sl} {Q:List Qp} {x:Qp} {y:ByteArray × F.St} (a1:All2 (fun x y=>QpIs w base x y.1 y.2) Q qs) (hv:OwnQp w' base (slv v) (Q++[x])) (hx:QpIs w base x y.1 y.2):PtIs w' base { P with q:=v } s (qs++[y]) os lk:=by
 obtain ⟨Q2,q2,a2⟩:=h.s
 obtain ⟨Q3,q3,a3⟩:=h.l
 exact ⟨h.seq,h.boots,owns_but h.x hb (by decide),owns_but h.b hb (by decide),⟨Q++[x],hv,(a1.snoc hx).imp fun _ _ r=>⟨r.name,r.most,r.next,owns_but r.r hb (by decide),owns_but r.o hb (by decide)⟩⟩,⟨Q2,owns_but q2 hb (by decide),a2.imp fun _ _ r=>⟨r.1,owns_but r.2 hb (by decide)⟩⟩,⟨Q3,owns_but q3 hb (by decide),a3.imp fun _ _ r=>⟨r.1,owns_but r.2 hb (by decide)⟩⟩⟩
theorem PtIs.addS {B:Nat} (h:PtIs w base P s qs os lk) (hb:But 99 B w w') {v:Sl} {Q:List (Int × Sl)} {x:Int × Sl} {o:Int} (a2:All2 (SpIs w base s.bk) Q os) (hv:OwnSp w' base (slv v) (Q++[x])) (hx:SpIs w base s.bk x o):PtIs w' base { P with s:=v } s qs (os++[o]) lk:=by
 obtain ⟨Q1,q1,a1⟩:=h.q
 obtain ⟨Q3,q3,a3⟩:=h.l
 exact ⟨h.seq,h.boots,owns_but h.x hb (by decide),owns_but h.b hb (by decide),⟨Q1,owns_but q1 hb (by decide),a1.imp fun _ _ r=>⟨r.name,r.most,r.next,owns_but r.r hb (by decide),owns_but r.o hb (by decide)⟩⟩,⟨Q++[x],hv,(a2.snoc hx).imp fun _ _ r=>⟨r.1,owns_but r.2 hb (by decide)⟩⟩,⟨Q3,owns_but q3 hb (by decide),a3.imp fun _ _ r=>⟨r.1,owns_but r.2 hb (by decide)⟩⟩⟩
theorem PtIs.addL {B:Nat} (h:PtIs w base P s qs os lk) (hb:But 101 B w w') {v:Sl} {Q:List (Int × Sl)} {x:Int × Sl} {y:Int × List Ms} (a3:All2 (LpIs w base) Q lk) (hv:OwnLp w' base (slv v) (Q++[x])) (hx:LpIs w base x y):PtIs w' base { P with l:=v } s qs os (lk++[y]):=by
 obtain ⟨Q1,q1,a1⟩:=h.q
 obtain ⟨Q2,q2,a2⟩:=h.s
 exact ⟨h.seq,h.boots,owns_but h.x hb (by decide),owns_but h.b hb (by decide),⟨Q1,owns_but q1 hb (by decide),a1.imp fun _ _ r=>⟨r.name,r.most,r.next,owns_but r.r hb (by decide),owns_but r.o hb (by decide)⟩⟩,⟨Q2,owns_but q2 hb (by decide),a2.imp fun _ _ r=>⟨r.1,owns_but r.2 hb (by decide)⟩⟩,⟨Q++[x],hv,(a3.snoc hx).imp fun _ _ r=>⟨r.1,owns_but r.2 hb (by decide)⟩⟩⟩
end
structure PIn (w V:World) (g1:Nat) (P:Pt) (s:Sm) (qs:List (ByteArray × F.St)) (os:List Int) (lk:List (Int × List Ms)):Prop where
 bel:Below w.heap.size w V
 box:V.heap[w.heap.size]? = some (.cells (ptcells zPt).toArray 49 (0,0))
 blk:V.heap[g1]? = some (.cells (ptcells P).toArray 49 (0,0))
 ne:w.heap.size<g1
 is:PtIs V w.heap.size P s qs os lk
section
variable {w V V1 V2:World} {g1:Nat} {P:Pt} {s:Sm} {qs:List (ByteArray × F.St)} {os:List Int} {lk:List (Int × List Ms)}
theorem PIn.go (h:PIn w V g1 P s qs os lk) (hb:Below V.heap.size V V1):PIn w V1 g1 P s qs os lk :=
 ⟨keptW h.bel hb,(hb.block _ (yyD h.box).1).trans h.box,(hb.block _ (yyD h.blk).1).trans h.blk,h.ne,h.is.kept hb⟩
theorem PIn.start {xv bv:Sl} (hb:Below w.heap.size w V) (box:V.heap[w.heap.size]? = some (.cells (ptcells zPt).toArray 49 (0,0))) (blk:V.heap[g1]? = some (.cells (ptcells zPt).toArray 49 (0,0))) (ne:w.heap.size<g1) (hx:B.OwnX V w.heap.size (slv xv) s.tb.xs) (hB:B.OwnB V w.heap.size (slv bv) s.tb.bs) :
  PIn w (V.setRow g1 (ptcells ⟨s.seq,s.boots,xv,bv,zSl,zSl,zSl⟩).toArray) g1 ⟨s.seq,s.boots,xv,bv,zSl,zSl,zSl⟩ s [] [] []:=by
 have bu:=but_setRow (B:=w.heap.size) blk (Nat.le_of_lt ne) (ptcells ⟨s.seq,s.boots,xv,bv,zSl,zSl,zSl⟩).toArray
 have h0:PtIs V w.heap.size ⟨s.seq,s.boots,xv,bv,zSl,zSl,zSl⟩ s [] [] []:=⟨rfl,rfl,hx,hB,⟨[],K.ownOf_nil _ _,.nil⟩,⟨[],K.ownOf_nil _ _,.nil⟩,⟨[],K.ownOf_nil _ _,.nil⟩⟩
 exact ⟨below_setRow hb (Nat.le_of_lt ne) _,(setRow_other14 _ _ _ _ (by omega)).trans box,setRow_heap _ _ _ _ _ _ blk,ne,h0.butPt bu⟩
theorem PIn.put (h:PIn w V g1 P s qs os lk) {T:TypeId} (hb:But T w.heap.size V V1) (hT:49≠T) {P':Pt} {qs':List (ByteArray × F.St)} {os':List Int} {lk':List (Int × List Ms)} (hi:PtIs V1 w.heap.size P' s qs' os' lk') {j:Nat} {v:Value} (hj:(ptcells P).set j v=ptcells P'):PIn w (V1.setCell ⟨g1,j,none⟩ v) g1 P' s qs' os' lk':=by
 have blk1:=(hb.keep _ _ _ _ h.blk hT).trans h.blk
 have bu:=but_setCell (B:=w.heap.size) (j:=j) blk1 (Nat.le_of_lt h.ne) v
 have hlt:=yyD h.box
 refine ⟨(h.bel.trans hb.bel).trans bu.bel,?_,?_,h.ne,hi.butPt bu⟩
 ·exact (heap_setCell_other _ _ _ _ (by show w.heap.size≠g1; have:=h.ne; omega)).trans ((hb.keep _ _ _ _ h.box hT).trans h.box)
 ·rw [<- hj]
  exact set_list blk1 v
end
end Go.Proofs.YtnhnpnafchkhiaaGreatDoor
