import Derived.Test.YtnhnpnafchkhiaaGreatDoorQwA
import Derived.Test.YtnhnpnafchkhiaaGreatDoorQw27
import Derived.Test.YtnhnpnafchkhiaaGreatDoorQw39
import Derived.Test.YtnhnpnafchkhiaaGreatDoorQw40
import Derived.Test.YtnhnpnafchkhiaaGreatDoorQw34
import Derived.Test.YtnhnpnafchkhiaaGreatDoorQw31
import Derived.Test.YtnhnpnafchkhiaaGreatDoorQw30
import Derived.Test.YtnhnpnafchkhiaaGreatDoorQw19
import Derived.Test.YtnhnpnafchkhiaaGreatDoorQw26
import Derived.Test.YtnhnpnafchkhiaaGreatDoorQw13
import Derived.Test.YtnhnpnafchkhiaaGreatDoorQw28
import Derived.Maps.RangeWalk
namespace Go.Proofs.YtnhnpnafchkhiaaGreatDoor
open Go.RowKit
theorem SAt.freshTB {w w4 w5:World} {p:Nat} {ft:Ix->Nat->Prop} {d:Ad} {s:Sm} (h:SAt w p ft d s) (b:Below w.heap.size w w4) {tp bp lim:Nat} {F3 F4:Nat->Prop} {tb:B.Tb} {bk:Nat->List (Nat × Nat)} (h3:B.T w4 tp F3 tb) (h4:S.Bk w4 bp F4 bk)
  (l3 : ∀ k,F3 k->w.heap.size<=k/\k<lim) (l4 : ∀ k,F4 k->lim<=k) (hle:w.heap.size<=lim) (hw : ∀ k,k≠p->w5.heap[k]? = w4.heap[k]?)
  (hb:w5.heap[p]? = some (.cells (scells14 { d with tp:=tp,bp:=bp } { s with tb:=tb,bk:=bk }) 88 (0,0))) :
  SAt w5 p (upd (upd ft .table F3) .book F4) { d with tp:=tp,bp:=bp } { s with tb:=tb,bk:=bk }:=by
 have hp:p<w.heap.size:=h.lts .main p ((h.fm p).2 rfl)
 have old : ∀ a,a≠.main -> ∀ k,ft a k->w5.heap[k]? = w.heap[k]? := fun a ha k hk=>by
  rw [hw k (fun e=>ha (h.one a .main k hk ((h.fm k).2 e)))]
  exact b.block k (h.lts a k hk)
 have ho : ∀ a,a≠.table->a≠.book->upd (upd ft .table F3) .book F4 a=ft a:=fun a h1 h2=>by rw [upd_other _ _ h2,upd_other _ _ h1]
 have ht:upd (upd ft .table F3) .book F4 .table=F3:=by rw [upd_other _ _ (by intro e; cases e),upd_same]
 have hk:upd (upd ft .table F3) .book F4 .book=F4:=upd_same _ _ _
 refine ⟨hb,?_,?_,?_,?_,?_,?_,?_,?_,?_,h.names,?_,?_,h.tos,?_,?_,?_⟩
 ·rw [ho _ (by intro e; cases e) (by intro e; cases e)]; exact h.fm
 ·exact h.edges.same fun g hg=>old .edges (by intro e; cases e) g ((h.fe g).2 hg)
 ·rw [ho _ (by intro e; cases e) (by intro e; cases e)]; exact h.fe
 ·rw [ht]
  exact h3.same fun k hk=>hw k (by have:=(l3 k hk).1; omega)
 ·exact h.qmap.same (old .qmap (by intro e; cases e) _ ((h.fq _).2 rfl))
 ·rw [ho _ (by intro e; cases e) (by intro e; cases e)]; exact h.fq
 ·rw [hk]
  exact h4.same fun k hk=>hw k (by have:=l4 k hk; omega)
 ·exact h.lmap.same (old .lmap (by intro e; cases e) _ ((h.fl _).2 rfl))
 ·rw [ho _ (by intro e; cases e) (by intro e; cases e)]; exact h.fl
 ·intro n q hq
  obtain ⟨c,h1,h2⟩:=h.queue n q hq
  rw [ho _ (by intro e; cases e) (by intro e; cases e)]
  exact ⟨c,h1,h2.same fun k hk=>old _ (by intro e; cases e) k hk⟩
 ·intro n hn
  rw [ho _ (by intro e; cases e) (by intro e; cases e)]
  exact h.noq n hn
 ·intro t l hl
  obtain ⟨v,h1,h2,h5⟩:=h.link t l hl
  rw [ho _ (by intro e; cases e) (by intro e; cases e)]
  exact ⟨v,h1,h2.same fun g hg=>old (.link t) (by intro e; cases e) g ((h5 g).2 hg),h5⟩
 ·intro t ht'
  rw [ho _ (by intro e; cases e) (by intro e; cases e)]
  exact h.nol t ht'
 ·intro a c k ha hc
  have key : ∀ a,upd (upd ft .table F3) .book F4 a k->(a=.book/\lim<=k)\/(a=.table/\w.heap.size<=k/\k<lim)\/(ft a k/\k<w.heap.size):=fun a ha=>by
   by_cases e2:a=.book
   ·subst e2; rw [hk] at ha; exact .inl ⟨rfl,l4 k ha⟩
   ·by_cases e1:a=.table
    ·subst e1; rw [ht] at ha; exact .inr (.inl ⟨rfl,l3 k ha⟩)
    ·rw [ho a e1 e2] at ha; exact .inr (.inr ⟨ha,h.lts a k ha⟩)
  rcases key a ha with ⟨e,h1⟩ | ⟨e,h1,h2⟩ | ⟨h1,h2⟩ <;> rcases key c hc with ⟨e',h1'⟩ | ⟨e',h1',h2'⟩ | ⟨h1',h2'⟩
  ·rw [e,e']
  ·omega
  ·omega
  ·omega
  ·rw [e,e']
  ·omega
  ·omega
  ·omega
  ·exact h.one a c k h1 h1'
end Go.Proofs.YtnhnpnafchkhiaaGreatDoor
namespace Go.Proofs.YtnhnpnafchkhiaaGreatDoor
open Go.RowKit Go.Maps
theorem upK_ext {α:Type} {l m:List (ByteArray × α)} (hl:UpK l) (hm:UpK m) (h : ∀ x,x∈l↔x∈m):l=m:=by
 have hl':l.Pairwise fun a b=>B.cmpS a.1 b.1<0:=List.pairwise_map.1 hl
 have hm':m.Pairwise fun a b=>B.cmpS a.1 b.1<0:=List.pairwise_map.1 hm
 have irr : ∀ a:ByteArray,¬ B.cmpS a a<0:=fun a h=>by have:=B.cmpS3.self a; omega
 have nd : ∀ {l:List (ByteArray × α)},l.Pairwise (fun a b=>B.cmpS a.1 b.1<0)->l.Nodup:=fun h=>h.imp fun h e=>by rw [e] at h; exact irr _ h
 refine List.Perm.eq_of_pairwise (le:=fun a b=>B.cmpS a.1 b.1<0) (fun a b _ _ h1 h2=>?_) hl' hm' ((List.perm_ext_iff_of_nodup (nd hl') (nd hm')).2 h)
 have:=B.cmpS3.neg a.1 b.1
 omega
def doneM (l:List (ByteArray × F.St)) (left:Lit->Bool):List (ByteArray × F.St):=l.filter fun x => !left (.string x.1.data.toList)
theorem doneM_all (l:List (ByteArray × F.St)):doneM l (fun _=>false)=l:=List.filter_eq_self.2 fun _ _=>rfl
theorem doneM_step {l:List (ByteArray × F.St)} (hu:UpK l) (hn:(l.map Prod.fst).Nodup) (hs : ∀ x∈l,x.1.size<=maxLen) {left:Lit->Bool} {n:ByteArray} {q:F.St} (hm:(n,q)∈l) (hl:left (.string n.data.toList)=true) :
  n∉(doneM l left).map Prod.fst/\doneM l (fun x=>left x && !x.sameKey (.string n.data.toList))=insK n q (doneM l left):=by
 have hk:KeysOf Tryz.prog 9 (.string n.data.toList):=⟨_,keyOf_str (hs _ hm)⟩
 have same : ∀ x:ByteArray,(Lit.string x.data.toList).sameKey (.string n.data.toList)=true↔x=n:=fun x=>by
  rw [sameKey_iff sKeyed.one hk]
  exact ⟨str_inj,fun e=>by rw [e]⟩
 have hno:n∉(doneM l left).map Prod.fst:=fun h=>by
  obtain ⟨y,hy,e⟩:=List.mem_map.1 h
  have h2:=(List.mem_filter.1 hy).2
  rw [e,hl] at h2
  cases h2
 refine ⟨hno,upK_ext (upK_filter hu _) (insK_up (upK_filter hu _) hno) fun x=>?_⟩
 rw [(insK_perm n q (doneM l left)).mem_iff,List.mem_cons]
 unfold doneM
 rw [List.mem_filter,List.mem_filter]
 constructor
 ·rintro ⟨h1,h2⟩
  by_cases e:x.1=n
  ·left
   obtain ⟨n',q'⟩:=x
   have e:n'=n:=e
   subst e
   rw [nodup_pair hn h1 hm]
  ·right
   refine ⟨h1,?_⟩
   have h3:(Lit.string x.1.data.toList).sameKey (.string n.data.toList)=false:=Bool.eq_false_iff.2 fun h=>e ((same _).1 h)
   simp only [h3] at h2
   simpa using h2
 ·rintro (rfl | ⟨h1,h2⟩)
  ·refine ⟨hm,?_⟩
   show (!(left (.string n.data.toList) && !(Lit.string n.data.toList).sameKey (.string n.data.toList)))=true
   rw [(same n).2 rfl,hl]
   rfl
  ·refine ⟨h1,?_⟩
   have h3:left (.string x.1.data.toList)=false:=by simpa using h2
   simp only [h3]
   rfl
theorem up_ext {α:Type} {l m:List (Int × α)} (hl:Up l) (hm:Up m) (h : ∀ x,x∈l↔x∈m):l=m:=by
 have hl':l.Pairwise fun a b=>a.1<b.1:=List.pairwise_map.1 hl
 have hm':m.Pairwise fun a b=>a.1<b.1:=List.pairwise_map.1 hm
 have nd : ∀ {l:List (Int × α)},l.Pairwise (fun a b=>a.1<b.1)->l.Nodup:=fun h=>h.imp fun h e=>by rw [e] at h; omega
 exact List.Perm.eq_of_pairwise (le:=fun a b:Int × α=>a.1<b.1) (fun a b _ _ h1 h2=>by omega) hl' hm' ((List.perm_ext_iff_of_nodup (nd hl') (nd hm')).2 h)
def doneL (l:List (Int × List Ms)) (left:Lit->Bool):List (Int × List Ms):=l.filter fun x => !left (.int .i64 x.1)
theorem doneL_all (l:List (Int × List Ms)):doneL l (fun _=>false)=l:=List.filter_eq_self.2 fun _ _=>rfl
theorem doneL_up {l:List (Int × List Ms)} (hu:Up l) (left:Lit->Bool):Up (doneL l left):=List.pairwise_map.2 ((List.pairwise_map.1 hu).sublist List.filter_sublist)
theorem up_pair {l:List (Int × List Ms)} (hu:Up l) {t:Int} {a b:List Ms} (h1:(t,a)∈l) (h2:(t,b)∈l):a=b:=by
 have hp:=List.pairwise_map.1 hu
 obtain ⟨i,hi,e1⟩:=List.getElem_of_mem h1
 obtain ⟨j,hj,e2⟩:=List.getElem_of_mem h2
 have h3:=List.pairwise_iff_getElem.1 hp
 rcases Nat.lt_trichotomy i j with h | h | h
 ·have:=h3 i j hi hj h; rw [e1,e2] at this; exact absurd this (by simp)
 ·subst h; rw [e1] at e2; injection e2
 ·have:=h3 j i hj hi h; rw [e1,e2] at this; exact absurd this (by simp)
theorem doneL_step {l:List (Int × List Ms)} (hu:Up l) (hs : ∀ x∈l,I64 x.1) {left:Lit->Bool} {t:Int} {x:List Ms} (hm:(t,x)∈l) (hl:left (.int .i64 t)=true) :
  t∉(doneL l left).map Prod.fst/\doneL l (fun z=>left z && !z.sameKey (.int .i64 t))=insL t x (doneL l left):=by
 have hk:KeysOf Tryz.prog 3 (.int .i64 t):=⟨_,keyOf_int (hs _ hm)⟩
 have same : ∀ y:Int,(Lit.int .i64 y).sameKey (.int .i64 t)=true↔y=t:=fun y=>by
  rw [sameKey_iff iKeyed.one hk]
  exact ⟨int_inj,fun e=>by rw [e]⟩
 have hno:t∉(doneL l left).map Prod.fst:=fun h=>by
  obtain ⟨y,hy,e⟩:=List.mem_map.1 h
  have h2:=(List.mem_filter.1 hy).2
  rw [e,hl] at h2
  cases h2
 have up:=doneL_up hu left
 refine ⟨hno,up_ext (doneL_up hu _) (insL_up t x _ up) fun y=>?_⟩
 rw [(insL_perm t x (doneL l left) up).mem_iff,List.mem_cons,List.mem_filter]
 unfold doneL
 rw [List.mem_filter,List.mem_filter]
 constructor
 ·rintro ⟨h1,h2⟩
  by_cases e:y.1=t
  ·left
   obtain ⟨t',x'⟩:=y
   have e:t'=t:=e
   subst e
   rw [up_pair hu h1 hm]
  ·right
   have h3:(Lit.int .i64 y.1).sameKey (.int .i64 t)=false:=Bool.eq_false_iff.2 fun h=>e ((same _).1 h)
   simp only [h3] at h2
   exact ⟨⟨h1,by simpa using h2⟩,by simpa using e⟩
 ·rintro (rfl | ⟨⟨h1,h2⟩,_⟩)
  ·refine ⟨hm,?_⟩
   show (!(left (.int .i64 t) && !(Lit.int .i64 t).sameKey (.int .i64 t)))=true
   rw [(same t).2 rfl,hl]
   rfl
  ·refine ⟨h1,?_⟩
   have h3:left (.int .i64 y.1)=false:=by simpa using h2
   simp only [h3]
   rfl
theorem rdS_sl {v:Value} {y:DataW Value × List MemPlace} (hv:rdS v=some y) : ∃ x:Sl,v=slv x:=by
 unfold rdS at hv
 split at hv
 ·exact ⟨(_,_,_),rfl⟩
 ·cases hv
def CopyIn (w wr:World) (p1 r0:Nat) (s1:Sm):Prop := ∃ ft d,SAt wr p1 ft d s1/\(∀ a k,ft a k->w.heap.size<=k) /\ ¬ (∃ a,ft a r0)/\Below w.heap.size w wr
set_option maxRecDepth 20000 in
set_option maxHeartbeats 4000000 in
theorem copy14_any (p:Nat) (G:Nat->Prop) (s:Sm) (k0:Nat) (w:World) (h:SS w p G s) (hi:Inv k0 s) (hE:s.E.length<=1000000) :
  Calls Tryz.prog 10 #[.pointer (some ⟨p,0,none⟩)] w fun e w' => ∃ p',e=.returned (.pointer (some ⟨p',0,none⟩)) /\ ∃ G',SS w' p' G' s/\(∀ k,G' k->w.heap.size<=k)/\Below w.heap.size w w':=by
 have hM:=made14_any p G s w h
 obtain ⟨ft,d,hs,hF⟩:=h
 obtain ⟨c0,c1,c2,c3,c4,c5,c6,c7,c8,c9⟩:=cells10 hs.blk
 have hg:O.goodB s.S s.E s.H=true:=decide_eq_true hi.top
 have HN:Hid (∀ V,Below w.heap.size w V->Calls Tryz.prog 7 #[.int .i64 s.site,O.tv s.S d.ev s.H] V (NewPost V s.site s.S s.H s.E)):=fun V b=>new14_any s.site s.S s.H d.ev s.E V (hs.edges.rng.below b (yyH _)) hE hg hi.site.1 hi.site.2
 have H0:Hid (SAt w p ft d s/\Inv k0 s /\ ∀ k,G k ↔ ∃ a,ft a k):=⟨hs,hi,hF⟩
 obtain ⟨ea,en,ec,hev⟩ : ∃ a n c,d.ev=.slice a n c:=by obtain ⟨a,c,e⟩:=hs.edges.rng.slice; exact ⟨a,_,c,e⟩
 rw [hev] at c2 HN
 have HEV:Hid (d.ev=.slice ea en ec):=hev
 have HP:Hid (p<w.heap.size):=(yyD H0.out.1.blk).1
 obtain ⟨z0,hz0⟩ : ∃ z,s.site=z:=⟨_,rfl⟩
 obtain ⟨z1,hz1⟩ : ∃ z,s.S=z:=⟨_,rfl⟩
 obtain ⟨z3,hz3⟩ : ∃ z,s.H=z:=⟨_,rfl⟩
 have HZ:Hid (s.site=z0/\s.S=z1/\s.H=z3):=⟨hz0,hz1,hz3⟩
 rw [hz0] at c0 HN
 rw [hz1] at c1 HN
 rw [hz3] at c3 HN
 have HK:Hid (∀ V,Below w.heap.size w V->V.cell? ⟨p,0,none⟩=some (.int .i64 z0)/\V.cell? ⟨p,1,none⟩=some (.int .i64 z1)/\V.cell? ⟨p,2,none⟩=some (.slice ea en ec)/\V.cell? ⟨p,3,none⟩=some (.int .i64 z3)):=fun V b=>⟨(b.cell (p:=⟨p,0,none⟩) HP.out).trans c0,(b.cell (p:=⟨p,1,none⟩) HP.out).trans c1,(b.cell (p:=⟨p,2,none⟩) HP.out).trans c2,(b.cell (p:=⟨p,3,none⟩) HP.out).trans c3⟩
 clear hz0 hz1 hz3 c4 c5 c6 c7 c8 c9
 clear hs hi hF hg hev hE
 go_enter Tryz.func10,Tryz.ntmps10
 go_wp2_with fail
 refine hM.mono ?_
 rintro e W ⟨rfl,rfl⟩
 clear hM
 go_wp2
 (go_region_held3 (fun w'=>w'.cell? ⟨p,0,none⟩=some (.int .i64 z0)/\w'.cell? ⟨p,1,none⟩=some (.int .i64 z1)/\w'.cell? ⟨p,2,none⟩=some (.slice ea en ec)/\w'.cell? ⟨p,3,none⟩=some (.int .i64 z3)) (first | exact ⟨c0,c1,c2,c3⟩ | go_keep) (first
  |(go_at_call 7; refine (HN.out W.drew (drew_below W)).mono ?_; rintro e V1 ⟨p1,rfl,G1,hS1,hG1,b1⟩; have B1:Hid (Below W.heap.size W V1):=keptW (drew_below W) b1; have HS1:Hid (SS V1 p1 G1 (newSm z0 z1 s.E z3) /\ ∀ k,G1 k->W.heap.size<=k):=⟨hS1,hG1⟩; obtain ⟨n0,n1,n2,n3⟩:=HK.out V1 B1.out; clear hS1 hG1 b1)))
 clear HK HN c0 c1 c2 c3 n0 n1 n2 n3
 have hc:=cells10 (H0.out.1.same fun a k hk=>B1.out.block k (H0.out.1.lts a k hk)).blk
 obtain ⟨_,_,_,_,c4,c5,_⟩:=hc
 obtain ⟨ft1,d1,hs1,hF1⟩:=HS1.out.1
 obtain ⟨_,_,_,_,e4,e5,_⟩:=cells10 hs1.blk
 have e4:V1.cell? ⟨p1,4,none⟩=some (.int .u64 0):=e4
 have e5:V1.cell? ⟨p1,5,none⟩=some (.int .u64 0):=e5
 have f1:=fun k=>frozen_of_row V1 p1 k _ _ hs1.blk
 have hne:p≠p1:=by
  have h1:=HS1.out.2 p1 ((hF1 p1).2 ⟨.main,(hs1.fm p1).2 rfl⟩)
  have:=HP.out
  omega
 have hne':p1≠p:=fun e=>hne e.symm
 obtain ⟨sq,hsq⟩ : ∃ z,(s.seq:Int)=z:=⟨_,rfl⟩
 obtain ⟨bt,hbt⟩ : ∃ z,(s.boots:Int)=z:=⟨_,rfl⟩
 rw [hsq] at c4
 rw [hbt] at c5
 have HQ:Hid ((s.seq:Int)=sq/\(s.boots:Int)=bt/\SAt V1 p1 ft1 d1 (newSm z0 z1 s.E z3) /\ ∀ k,G1 k ↔ ∃ a,ft1 a k):=⟨hsq,hbt,hs1,hF1⟩
 clear hsq hbt hs1 hF1
 go_wp2
 go_region
 obtain ⟨V2,fV2⟩ : ∃ X,(V1.setCell ⟨p1,4,none⟩ (.int .u64 sq)).setCell ⟨p1,5,none⟩ (.int .u64 bt)=X:=⟨_,rfl⟩
 rw [fV2]
 have hs2:SAt V2.drew p1 ft1 d1 { newSm z0 z1 s.E z3 with seq:=s.seq,boots:=s.boots }:=by
  refine HQ.out.2.2.1.turnMain (seq:=s.seq) (boots:=s.boots) (fun k hk=>?_) ?_
  ·show V2.heap[k]? = V1.heap[k]?
   rw [<- fV2,heap_setCell_other _ _ _ _ hk,heap_setCell_other _ _ _ _ hk]
  ·show V2.heap[p1]? = _
   rw [<- fV2,<- HQ.out.1,<- HQ.out.2.1]
   exact set_list (C:=(scells14 d1 { newSm z0 z1 s.E z3 with seq:=s.seq }).toList) (set_list (C:=(scells14 d1 (newSm z0 z1 s.E z3)).toList) HQ.out.2.2.1.blk _) _
 have b2:Below W.heap.size W V2.drew:=by
  refine keptW ?_ (drew_below V2)
  rw [<- fV2]
  have h1:=HS1.out.2 p1 ((HQ.out.2.2.2 p1).2 ⟨.main,(HQ.out.2.2.1.fm p1).2 rfl⟩)
  exact (B1.out.setCell (p:=⟨p1,4,none⟩) h1 _).setCell (p:=⟨p1,5,none⟩) h1 _
 obtain ⟨X2,fX2⟩ : ∃ X,V2.drew=X:=⟨_,rfl⟩
 rw [fX2] at hs2 b2 ⊢
 have H2:Hid (SAt X2 p1 ft1 d1 { newSm z0 z1 s.E z3 with seq:=s.seq,boots:=s.boots }/\Below W.heap.size W X2 /\ ∀ a k,ft1 a k->W.heap.size<=k):=⟨hs2,b2,fun a k hk=>HS1.out.2 k ((HQ.out.2.2.2 k).2 ⟨a,hk⟩)⟩
 clear hs2 b2 fV2 fX2 c4 c5 e4 e5 f1 HS1 HQ B1
 obtain ⟨_,_,_,_,_,_,c6,_,c8,_⟩:=cells10 (H0.out.1.same fun a k hk=>H2.out.2.1.block k (H0.out.1.lts a k hk)).blk
 have HK:Hid (∀ V,Below X2.heap.size X2 V->(V.cell? ⟨p,6,none⟩=some (.pointer (some ⟨d.tp,0,none⟩))/\V.cell? ⟨p,8,none⟩=some (.pointer (some ⟨d.bp,0,none⟩)))/\V.cell? ⟨p1,6,none⟩=some (.pointer (some ⟨d1.tp,0,none⟩))/\V.cell? ⟨p1,8,none⟩=some (.pointer (some ⟨d1.bp,0,none⟩)) /\ ∀ j,V.frozen? ⟨p1,j,none⟩=false):=fun V b=>by
  have h1:=cells10 (H0.out.1.same fun a k hk=>(keptW H2.out.2.1 b).block k (H0.out.1.lts a k hk)).blk
  have h3:=H2.out.1.same fun a k hk=>b.block k (H2.out.1.lts a k hk)
  have h2:=cells10 h3.blk
  exact ⟨⟨h1.2.2.2.2.2.2.1,h1.2.2.2.2.2.2.2.2.1⟩,h2.2.2.2.2.2.2.1,h2.2.2.2.2.2.2.2.2.1,fun j=>frozen_of_row V p1 j _ _ h3.blk⟩
 have HT:Hid (∀ V,Below X2.heap.size X2 V->Calls Tryz.prog 32 #[.pointer (some ⟨d.tp,0,none⟩)] V fun e w' => ∃ p',e=.returned (.pointer (some ⟨p',0,none⟩)) /\ ∃ F',B.T w' p' F' s.tb/\(∀ k,F' k->V.heap.size<=k)/\Below V.heap.size V w'):=fun V b=>B.copy_any d.tp (ft .table) s.tb V (H0.out.1.same fun a k hk=>(keptW H2.out.2.1 b).block k (H0.out.1.lts a k hk)).table
 have HBk:Hid (∀ V,Below X2.heap.size X2 V->Calls Tryz.prog 33 #[.pointer (some ⟨d.bp,0,none⟩)] V fun e w' => ∃ p',e=.returned (.pointer (some ⟨p',0,none⟩)) /\ ∃ F',S.Bk w' p' F' s.bk/\(∀ k,F' k->V.heap.size<=k)/\Below V.heap.size V w'):=fun V b=>S.copyB_any d.bp (ft .book) s.bk V (H0.out.1.same fun a k hk=>(keptW H2.out.2.1 b).block k (H0.out.1.lts a k hk)).book H0.out.2.1.r.bk.fine (fun i hi=>Nat.le_trans (H0.out.2.1.r.bk.len i hi) (by omega))
 obtain ⟨⟨x6,x8⟩,y6,y8,yf⟩:=HK.out X2 (Below.refl _ _)
 clear c6 c8
 obtain ⟨tp,htp⟩ : ∃ z,d.tp=z:=⟨_,rfl⟩
 obtain ⟨bp,hbp⟩ : ∃ z,d.bp=z:=⟨_,rfl⟩
 rw [htp] at x6 HT HK
 rw [hbp] at x8 HBk HK
 obtain ⟨tp1,htp1⟩ : ∃ z,d1.tp=z:=⟨_,rfl⟩
 obtain ⟨bp1,hbp1⟩ : ∃ z,d1.bp=z:=⟨_,rfl⟩
 rw [htp1] at y6 HK
 rw [hbp1] at y8 HK
 have HD:Hid (d.tp=tp/\d.bp=bp/\d1.tp=tp1/\d1.bp=bp1):=⟨htp,hbp,htp1,hbp1⟩
 clear htp hbp htp1 hbp1
 go_wp2
 (go_region_held3 (fun w'=>w'.cell? ⟨p,6,none⟩=some (.pointer (some ⟨tp,0,none⟩))/\w'.cell? ⟨p,8,none⟩=some (.pointer (some ⟨bp,0,none⟩))) (first | exact ⟨x6,x8⟩ | go_keep) (first
  |(go_at_call 32; first
   |(refine (HT.out X2.drew (drew_below X2)).mono ?_; rintro e V3 ⟨p3,rfl,F3,hT3,hF3,b3⟩; have B3:Hid (Below X2.heap.size X2 V3):=keptW (drew_below X2) b3; have HT3:Hid (B.T V3 p3 F3 s.tb /\ ∀ k,F3 k->X2.heap.size<=k):=⟨hT3,hF3⟩; obtain ⟨⟨n6,n8⟩,r6,r8,rf⟩:=HK.out V3 B3.out; clear hT3 hF3 b3)
   |(refine (HT.out V4 B4.out).mono ?_; rintro e V3 ⟨p3,rfl,F3,hT3,hF3,b3⟩))
  |(go_at_call 33; first
   |(refine (HBk.out X2.drew (drew_below X2)).mono ?_; rintro e V4 ⟨p4,rfl,F4,hT4,hF4,b4⟩; have B4:Hid (Below X2.heap.size X2 V4):=keptW (drew_below X2) b4; have HB4:Hid (S.Bk V4 p4 F4 s.bk /\ ∀ k,F4 k->X2.heap.size<=k):=⟨hT4,hF4⟩; obtain ⟨⟨n6,n8⟩,r6,r8,rf⟩:=HK.out V4 B4.out; clear hT4 hF4 b4)
   |(refine (HBk.out V3 B3.out).mono ?_; rintro e V4 ⟨p4,rfl,F4,hT4,hF4,b4⟩; have B4:Hid (Below X2.heap.size X2 V4):=keptW B3.out b4; have HB4:Hid (S.Bk V4 p4 F4 s.bk/\B.T V4 p3 F3 s.tb/\(∀ k,F4 k->V3.heap.size<=k)):=⟨hT4,HT3.out.1.kept b4,hF4⟩; clear n6 n8 r6 r8 rf; obtain ⟨⟨n6,n8⟩,r6,r8,rf⟩:=HK.out V4 B4.out; clear hT4 hF4 b4))))
 obtain ⟨V5,fV5⟩ : ∃ X,(V4.setCell ⟨p1,6,none⟩ (.pointer (some ⟨p3,0,none⟩))).setCell ⟨p1,8,none⟩ (.pointer (some ⟨p4,0,none⟩))=X:=⟨_,rfl⟩
 rw [fV5]
 have hp1:W.heap.size<=p1:=H2.out.2.2 .main p1 ((H2.out.1.fm p1).2 rfl)
 have hw5 : ∀ k,k≠p1->V5.heap[k]? = V4.heap[k]? := fun k hk=>by rw [<- fV5,heap_setCell_other _ _ _ _ hk,heap_setCell_other _ _ _ _ hk]
 have hs5:SAt V5 p1 (upd (upd ft1 .table F3) .book F4) { d1 with tp:=p3,bp:=p4 } { newSm z0 z1 s.E z3 with seq:=s.seq,boots:=s.boots,tb:=s.tb,bk:=s.bk }:=by
  refine H2.out.1.freshTB (lim:=V3.heap.size) B4.out HB4.out.2.1 HB4.out.1 (fun k hk=>⟨HT3.out.2 k hk,HT3.out.1.lts k hk⟩) HB4.out.2.2 B3.out.size hw5 ?_
  rw [<- fV5]
  have hb4:=(H2.out.1.same fun a k hk=>B4.out.block k (H2.out.1.lts a k hk)).blk
  exact set_list (C:=(scells14 { d1 with tp:=p3 } { newSm z0 z1 s.E z3 with seq:=s.seq,boots:=s.boots }).toList) (set_list (C:=(scells14 d1 { newSm z0 z1 s.E z3 with seq:=s.seq,boots:=s.boots }).toList) hb4 _) _
 have b5:Below W.heap.size W V5:=by
  rw [<- fV5]
  exact ((keptW H2.out.2.1 B4.out).setCell (p:=⟨p1,6,none⟩) hp1 _).setCell (p:=⟨p1,8,none⟩) hp1 _
 have own5 : ∀ a k,upd (upd ft1 .table F3) .book F4 a k->W.heap.size<=k:=fun a k hk=>by
  have h2:=H2.out.2.1.size
  have h3:=B3.out.size
  by_cases e2:a=.book
  ·subst e2; rw [upd_same] at hk; have:=HB4.out.2.2 k hk; omega
  ·rw [upd_other _ _ e2] at hk
   by_cases e1:a=.table
   ·subst e1; rw [upd_same] at hk; have:=HT3.out.2 k hk; omega
   ·rw [upd_other _ _ e1] at hk; exact H2.out.2.2 a k hk
 have H5:Hid (∃ ft5 d5,SAt V5 p1 ft5 d5 { newSm z0 z1 s.E z3 with seq:=s.seq,boots:=s.boots,tb:=s.tb,bk:=s.bk }/\(∀ a k,ft5 a k->W.heap.size<=k)/\Below W.heap.size W V5):=⟨_,_,hs5,own5,b5⟩
 clear hs5 b5 own5 hw5 hp1 fV5 HB4 B4 B3 HT3 n6 n8 r6 r8 rf H2 HK HT HBk x6 x8 y6 y8 yf HD
 obtain ⟨s0,hs0⟩ : ∃ z,({ newSm z0 z1 s.E z3 with seq:=s.seq,boots:=s.boots,tb:=s.tb,bk:=s.bk }:Sm)=z:=⟨_,rfl⟩
 rw [hs0] at H5
 have HS0:Hid (({ newSm z0 z1 s.E z3 with seq:=s.seq,boots:=s.boots,tb:=s.tb,bk:=s.bk }:Sm)=s0/\s0.qs=[]/\s0.lk=[]):=⟨hs0,by rw [<- hs0]; rfl,by rw [<- hs0]; rfl⟩
 clear hs0
 have ho5:SAt V5 p ft d s:=H0.out.1.same fun a k hk=>by obtain ⟨_,_,_,_,b5⟩:=H5.out; exact b5.block k (H0.out.1.lts a k hk)
 have v7:V5.cell? ⟨p,7,none⟩=some (.map (some d.qm)):=(cells10 ho5.blk).2.2.2.2.2.2.2.1
 have hown:V5.ownsMap Tryz.prog 9 rdP d.qm d.ps.length (DofG pkl pd d.ps):=ho5.qmap
 have HQ:Hid (DL d.ps/\d.ps.map Prod.fst=s.qs.map Prod.fst/\(∀ x∈s.qs,x.1.size<=maxLen)):=⟨ho5.dl H0.out.2.1.r.fit,ho5.names,fun x hx=>by have:=H0.out.2.1.r.fit.short x hx; unfold maxLen; omega⟩
 obtain ⟨ps,hps⟩ : ∃ z,d.ps=z:=⟨_,rfl⟩
 obtain ⟨qm,hqm⟩ : ∃ z,d.qm=z:=⟨_,rfl⟩
 rw [hps] at hown HQ
 rw [hqm] at hown v7
 have HPq:Hid (d.ps=ps/\d.qm=qm):=⟨hps,hqm⟩
 clear ho5 hps hqm
 go_wp2_with (first
  |(at_range; refine wpList_range_own _ rfl _ 83 rfl 9 102 sKeyed Tryz.underlying83 rdP qm ps.length (DofG pkl pd ps) rfl hown ?_; intro w0 hrg0 hg0 hs0)
  |go_in)
 try go_frame
 have HL0:Hid (CopyIn W w0 p1 V5.heap.size { s0 with qs:=doneM s.qs (Maps.has (DofG pkl pd ps)) }):=by
  have e:doneM s.qs (Maps.has (DofG pkl pd ps))=[]:=by
   unfold doneM
   rw [List.filter_eq_nil_iff]
   intro x hx
   have hm:x.1∈ps.map Prod.fst:=by rw [HQ.out.2.1]; exact List.mem_map.2 ⟨x,hx,rfl⟩
   obtain ⟨y,hy,ey⟩:=List.mem_map.1 hm
   rw [show Maps.has (DofG pkl pd ps) (.string x.1.data.toList)=true by rw [<- ey]; exact (has_DofG sKeyed.one (HQ.out.1.keys y hy)).2 ⟨y,hy,rfl⟩]
   simp
  obtain ⟨ft5,d5,h1,h2,h3⟩:=H5.out
  have e2:({ s0 with qs:=doneM s.qs (Maps.has (DofG pkl pd ps)) }:Sm)=s0:=by rw [e,<- HS0.out.2.1]
  rw [e2]
  refine ⟨ft5,d5,h1.same fun a k hk=>hg0.block k (h1.lts a k hk) (by simp),h2,fun ⟨a,ha⟩=>?_,keptW h3 ⟨hg0.os,hg0.tape,hg0.output,hg0.size,fun k hk=>hg0.block k hk (by simp)⟩⟩
  have:=h1.lts a _ ha
  omega
 have HV5:Hid (W.heap.size<=V5.heap.size):=by obtain ⟨_,_,_,_,b⟩:=H5.out; exact b.size
 clear hg0 hs0 H5 v7 hown
 go_loopw [4,5] (fun _ _ wr => ∃ (left:Lit->Bool) (cnt:Nat),wr.ranges Tryz.prog 9 rdP qm V5.heap.size ps.length (DofG pkl pd ps) left cnt/\Hid (CopyIn W wr p1 V5.heap.size { s0 with qs:=doneM s.qs left }))
  (fun _ _ wr=>wr.rangeLeft qm V5.heap.size)
 case atStart=>exact ⟨_,_,hrg0,HL0⟩
 case round =>
  obtain ⟨left,cnt,hrg,HB⟩:=hrel
  clear hrg0 HL0
  go_wp2_with (first
   |(at_next; refine wpList_next_ranges _ rfl _ rfl 9 sKeyed rdP (fun s:ByteArray=>Value.string s) ptrO (fun key kl hk=>by obtain ⟨s,hs,_⟩:=skey_inv hk; exact ⟨s,hs⟩) (fun v y hv=>by obtain ⟨o,ho,_⟩:=rdP_inv hv; exact ⟨o,ho⟩) qm V5.heap.size ps.length _ _ _ rfl hrg ?_ ?_)
   |go_in)
  ·intro _ hl0
   have HE:Hid (CopyIn W wr p1 V5.heap.size { s0 with qs:=s.qs }):=by
    have e:left=fun _=>false:=funext hl0
    have h:=HB.out
    rw [e,doneM_all] at h
    exact h
   clear HB hrg
   obtain ⟨wA,hwA⟩ : ∃ z,z=wr:=⟨_,rfl⟩
   subst hwA
   have hoA:SAt wA p ft d s:=H0.out.1.same fun a k hk=>by obtain ⟨_,_,_,_,_,b⟩:=HE.out; exact b.block k (H0.out.1.lts a k hk)
   have v9:wA.cell? ⟨p,9,none⟩=some (.map (some d.lm)):=(cells10 hoA.blk).2.2.2.2.2.2.2.2.2
   have hownL:wA.ownsMap Tryz.prog 3 rdS d.lm d.es.length (DofG lkl ld d.es):=hoA.lmap
   have HQL:Hid (LL d.es/\d.es.map Prod.fst=s.lk.map Prod.fst/\(∀ x∈s.lk,I64 x.1)):=⟨hoA.ll H0.out.2.1.r.fit,hoA.tos,H0.out.2.1.r.fit.small⟩
   obtain ⟨es,hes⟩ : ∃ z,d.es=z:=⟨_,rfl⟩
   obtain ⟨lm,hlm⟩ : ∃ z,d.lm=z:=⟨_,rfl⟩
   rw [hes] at hownL HQL
   rw [hlm] at hownL v9
   have HPl:Hid (d.es=es/\d.lm=lm):=⟨hes,hlm⟩
   clear hoA hes hlm
   go_wp2_with (first
    |(at_range; refine wpList_range_own _ rfl _ 86 rfl 3 62 iKeyed Tryz.underlying86 rdS lm es.length (DofG lkl ld es) rfl hownL ?_; intro w0 hrg0 hg0 hs0)
    |go_in)
   try go_frame
   have HL0:Hid (CopyIn W w0 p1 wA.heap.size { s0 with qs:=s.qs,lk:=doneL s.lk (Maps.has (DofG lkl ld es)) }):=by
    have e:doneL s.lk (Maps.has (DofG lkl ld es))=[]:=by
     unfold doneL
     rw [List.filter_eq_nil_iff]
     intro x hx
     have hm:x.1∈es.map Prod.fst:=by rw [HQL.out.2.1]; exact List.mem_map.2 ⟨x,hx,rfl⟩
     obtain ⟨y,hy,ey⟩:=List.mem_map.1 hm
     rw [show Maps.has (DofG lkl ld es) (.int .i64 x.1)=true by rw [<- ey]; exact (has_DofG iKeyed.one (HQL.out.1.keys y hy)).2 ⟨y,hy,rfl⟩]
     simp
    obtain ⟨ft5,d5,h1,h2,_,h3⟩:=HE.out
    have e2:({ s0 with qs:=s.qs,lk:=doneL s.lk (Maps.has (DofG lkl ld es)) }:Sm)={ s0 with qs:=s.qs }:=by rw [e,<- HS0.out.2.2]
    rw [e2]
    refine ⟨ft5,d5,h1.same fun a k hk=>hg0.block k (h1.lts a k hk) (by simp),h2,fun ⟨a,ha⟩=>?_,keptW h3 ⟨hg0.os,hg0.tape,hg0.output,hg0.size,fun k hk=>hg0.block k hk (by simp)⟩⟩
    have:=h1.lts a _ ha
    omega
   have HVA:Hid (W.heap.size<=wA.heap.size):=by obtain ⟨_,_,_,_,_,b⟩:=HE.out; exact b.size
   clear hg0 hs0 HE v9 hownL
   go_loopw [6,7] (fun _ _ wr => ∃ (left:Lit->Bool) (cnt:Nat),wr.ranges Tryz.prog 3 rdS lm wA.heap.size es.length (DofG lkl ld es) left cnt/\Hid (CopyIn W wr p1 wA.heap.size { s0 with qs:=s.qs,lk:=doneL s.lk left }))
    (fun _ _ wr=>wr.rangeLeft lm wA.heap.size)
   case atStart=>exact ⟨_,_,hrg0,HL0⟩
   case round =>
    obtain ⟨left,cnt,hrg,HB⟩:=hrel
    clear hrg0 HL0
    go_wp2_with (first
     |(at_next; refine wpList_next_ranges _ rfl _ rfl 3 iKeyed rdS (Value.int IntKind.i64) slv (fun key kl hk=>by obtain ⟨x,rfl,_⟩:=Maps.keyOf_int_inv Tryz.underlying3 hk; exact ⟨x,rfl⟩) (fun v y hv=>rdS_sl hv) lm wA.heap.size es.length _ _ _ rfl hrg ?_ ?_)
     |go_in)
    ·intro _ hl0
     have HE2:Hid (∃ G',SS wr p1 G' s/\(∀ k,G' k->W.heap.size<=k)/\Below W.heap.size W wr):=by
      have e:left=fun _=>false:=funext hl0
      obtain ⟨ft5,d5,h1,h2,_,h4⟩:=HB.out
      rw [e,doneL_all] at h1
      have e2:({ s0 with qs:=s.qs,lk:=s.lk }:Sm)=s:=by
       rw [<- HS0.out.1,<- HZ.out.1,<- HZ.out.2.1,<- HZ.out.2.2]
       rfl
      rw [e2] at h1
      exact ⟨_,⟨ft5,d5,h1,fun _=>Iff.rfl⟩,fun k ⟨a,ha⟩=>h2 a k ha,h4⟩
     go_wp2
     go_ret
     exact ⟨p1,rfl,HE2.out⟩
    ·intro kn va vn vc kl yd yp w1 cnt1 hkey hlx hv hat hrg1 hlt1 hg1 hs1' hen
     obtain ⟨c,hc,hck,hvo⟩:=l_entry HQL.out.1 hv hat
     have hcm:c.1∈s.lk.map Prod.fst:=by rw [<- HQL.out.2.1]; exact List.mem_map.2 ⟨c,hc,rfl⟩
     obtain ⟨⟨t,l⟩,hq,hqn⟩:=List.mem_map.1 hcm
     replace hqn:t=c.1:=hqn
     have hkl:kl=.int .i64 t:=by rw [<- hck,hqn]; rfl
     have hkn:kn=t:=by
      obtain ⟨x,ex,hk',_⟩:=Maps.keyOf_int_inv Tryz.underlying3 hkey
      injection ex with _ ex
      rw [hkl] at hk'
      injection hk' with _ hk'
      rw [ex,hk']
     obtain ⟨ft5,d5,h1,h2,h3,h4⟩:=HB.out
     have bw1:Below W.heap.size W w1:=⟨hg1.os.trans h4.os,hg1.tape.trans h4.tape,hg1.output.trans h4.output,Nat.le_trans h4.size hg1.size,fun k hk=>(hg1.block k (Nat.lt_of_lt_of_le hk h4.size) (by have:=HVA.out; simp; omega)).trans (h4.block k hk)⟩
     have ho1:SAt w1 p ft d s:=H0.out.1.same fun a k hk=>bw1.block k (H0.out.1.lts a k hk)
     obtain ⟨v,hb1,hb2,_⟩:=ho1.link t l hq
     have hv2:v=slv (va,vn,vc):=by
      rw [hvo]
      rw [HPl.out.1] at hb1
      have h6:(t,c.2)∈es:=by rw [hqn]; exact hc
      have h7:(es.map Prod.fst).Nodup:=by rw [HQL.out.2.1]; exact H0.out.2.1.r.fit.tos
      exact nodup_pair h7 hb1 h6
     rw [hv2] at hb2
     have h1w:SAt w1 p1 ft5 d5 { s0 with qs:=s.qs,lk:=doneL s.lk left }:=h1.same fun a k hk=>hg1.block k (h1.lts a k hk) (by simp; intro e; exact h3 ⟨a,e ▸ hk⟩)
     have hst:=doneL_step (left:=left) H0.out.2.1.r.up HQL.out.2.2 hq (by rw [<- hkl]; exact hlx)
     have HC:Hid (∀ V,Below w1.heap.size w1 V->Calls Tryz.prog 35 #[.slice va vn vc] V fun e w' => ∃ v',e=.returned v'/\OwnM w' V.heap.size v' l/\Below V.heap.size V w'):=fun V bV=>anotherM_any _ l V (hb2.rng.below bV (yyH _)) (by have:=H0.out.2.1.r.few _ hq; show l.length<=_; have h9:l.length<=200:=this; omega)
     have fit1:({ s0 with qs:=s.qs,lk:=doneL s.lk left }:Sm).Fit:=⟨H0.out.2.1.r.fit.names,H0.out.2.1.r.fit.short,H0.out.2.1.r.fit.tos.sublist (List.filter_sublist.map _),fun x hx=>H0.out.2.1.r.fit.small x (List.mem_filter.1 hx).1,fun x hx=>H0.out.2.1.r.fit.few x (List.mem_filter.1 hx).1⟩
     have hll:LL d5.es:=h1w.ll fit1
     have HNx:Hid (∀ w2 a m cc,Below w1.heap.size w1 w2->OwnM w2 w1.heap.size (.slice a m cc) l -> ∃ w3,(Instr.mapUpdate 86 (.map (some d5.lm)) (.int .i64 t) (.slice a m cc)).run Tryz.prog w2=.ok () w3/\Hid (CopyIn W w3 p1 wA.heap.size { s0 with qs:=s.qs,lk:=doneL s.lk fun x=>left x && !x.sameKey kl })/\w3.heap[lm]? = w1.heap[lm]? /\ w3.heap[wA.heap.size]? = w1.heap[wA.heap.size]? /\ w3.cell? ⟨p1,9,none⟩=some (.map (some d5.lm))/\w2.cell? ⟨p1,9,none⟩=some (.map (some d5.lm))):=by
      intro w2 a m cc b2 hO2
      have hlm5:d5.lm<w1.heap.size:=h1w.lmap.lt
      have hd2:LAt w2 d5.lm d5.es:=h1w.lmap.same (b2.block _ hlm5)
      have hfr : ∀ y∈d5.es,y.1≠t:=fun y hy e=>hst.1 (by have h6:y.1∈d5.es.map Prod.fst:=List.mem_map.2 ⟨y,hy,rfl⟩; rw [h1w.tos,e] at h6; exact h6)
      have hfn:findL d5.es t=none:=List.find?_eq_none.2 fun y hy=>by simpa using hfr y hy
      have hlen:d5.es.length<=1000000000:=by
       have h6:=congrArg List.length h1w.tos
       rw [List.length_map,List.length_map] at h6
       have h7:(doneL s.lk left).length<=s.lk.length:=List.length_filter_le _ _
       have h8:=H0.out.2.1.r.nlk
       have h6:d5.es.length=(doneL s.lk left).length:=h6
       omega
      have ht:I64 t:=HQL.out.2.2 _ hq
      have hlv:(linkV d5 t).ownBlock=none:=by unfold linkV; rw [hfn]; rfl
      obtain ⟨w3,r3,d3,g3⟩:=hd2.put hll ht a m cc hlen
      have hnew : ∀ k,(Value.slice a m cc).ownBlock=some k->w1.heap.size<=k:=fun k hk=>(hO2.lt hk).1
      obtain ⟨s3,m3⟩:=h1w.putLink (v':=.slice a m cc) (l':=l) (w2:=w2) fit1 (doneL_up H0.out.2.1.r.up left) ht (by rw [hlv]; exact ⟨b2.os,b2.tape,b2.output,b2.size,fun k hk _=>b2.block k hk⟩) (hO2.mono (Nat.zero_le _)) (by
       unfold K.NewOr
       rw [hlv]
       cases ho:(Value.slice a m cc).ownBlock with
       |none=>exact .inl rfl
       |some g=>exact .inr ⟨g,rfl,hnew g ho⟩) d3 g3
      have hW1:=bw1.size
      have hr0:=hrg1.lt
      have hqlt:lm<W.heap.size:=by rw [<- HPl.out.2]; exact H0.out.1.lmap.lt
      have hq5:W.heap.size<=d5.lm:=h2 .lmap d5.lm ((h1w.fl _).2 rfl)
      have hp5:p1<w1.heap.size:=(yyD h1w.blk).1
      have hpq:p1≠d5.lm:=fun e=>by have:=h1w.one .main .lmap p1 ((h1w.fm p1).2 rfl) ((h1w.fl p1).2 e); cases this
      have hrq:wA.heap.size≠d5.lm:=fun e=>h3 ⟨.lmap,(h1w.fl _).2 e⟩
      have blk3 : ∀ k,k<w1.heap.size->k≠d5.lm->w3.heap[k]? = w1.heap[k]? := fun k hk hne=>old_same b2 g3 hk hne
      have c9:=(cells10 h1w.blk).2.2.2.2.2.2.2.2.2
      refine ⟨w3,r3,⟨_,_,by rw [hkl,hst.2]; exact s3,?_,?_,?_⟩,blk3 _ (by omega) (by omega),blk3 _ hr0 hrq,(World.cell?_of_block (w:=w1) (a:=⟨p1,9,none⟩) (blk3 p1 hp5 hpq)).trans c9,(World.cell?_of_block (w:=w1) (a:=⟨p1,9,none⟩) (b2.block p1 hp5)).trans c9⟩
      ·intro a k hk
       by_cases e:a=.link t
       ·subst e; rw [upd_same] at hk; have:=hnew k hk; omega
       ·rw [upd_other _ _ e] at hk; exact h2 a k hk
      ·rintro ⟨a,hk⟩
       by_cases e:a=.link t
       ·subst e; rw [upd_same] at hk; have:=hnew _ hk; omega
       ·rw [upd_other _ _ e] at hk; exact h3 ⟨a,hk⟩
      ·exact ⟨g3.os.trans (b2.os.trans bw1.os),g3.tape.trans (b2.tape.trans bw1.tape),g3.output.trans (b2.output.trans bw1.output),Nat.le_trans hW1 (Nat.le_trans b2.size g3.size),fun k hk=>(blk3 k (by omega) (by omega)).trans (bw1.block k hk)⟩
     have e9:w1.cell? ⟨p1,9,none⟩=some (.map (some d5.lm)):=(cells10 h1w.blk).2.2.2.2.2.2.2.2.2
     obtain ⟨lm1,hlm1⟩ : ∃ z,d5.lm=z:=⟨_,rfl⟩
     rw [hlm1] at HNx e9
     rw [hkn] at hen ⊢
     clear hlm1 hll hst h1w hb1 hb2 hv2 ho1 bw1 h1 h2 h3 h4 hkn hq hqn hcm hkey hlx hv hat hs1' hg1 HB hck hc hvo fit1
     go_wp2
     (go_region_held3 (fun w'=>w'.cell? ⟨p1,9,none⟩=some (.map (some lm1))) (first | exact e9 | go_keep) (first
      |(go_at_call 35; refine (HC.out w1.drew (drew_below w1)).mono ?_; rintro e w2 ⟨v2,rfl,hO2,b2⟩; obtain ⟨a2,c2,hv2⟩:=hO2.rng.slice; subst hv2; obtain ⟨w3,r3,HL3,q3,v3,f3,f2⟩:=HNx.out w2 a2 _ c2 (keptW (drew_below w1) b2) hO2; clear hO2 b2 HC HNx)))
     have hrg2:=ranges_same hrg1 q3 v3
     clear q3 v3 f2 r3
     go_wp2
     go_roundw
     case rel=>exact ⟨_,cnt1,hrg2,HL3⟩
     case measure=>rw [hrg2.left_eq,hrg.left_eq]; exact hlt1
  ·intro kn ko kl yd yp w1 cnt1 hkey hlx hv hat hrg1 hlt1 hg1 hs1' hen
   obtain ⟨c,hc,hck,hvo⟩:=p_entry HQ.out.1 hv hat
   rw [hvo] at hv hen ⊢
   have hcm:c.1∈s.qs.map Prod.fst:=by rw [<- HQ.out.2.1]; exact List.mem_map.2 ⟨c,hc,rfl⟩
   obtain ⟨⟨n,q⟩,hq,hqn⟩:=List.mem_map.1 hcm
   replace hqn:n=c.1:=hqn
   have hkl:kl=.string n.data.toList:=by rw [<- hck,hqn]; rfl
   have hkn:kn=n:=by
    obtain ⟨s',hs',hk'⟩:=skey_inv hkey
    injection hs' with hs'
    rw [hkl] at hk'
    rw [hs']
    exact str_inj hk'.symm
   obtain ⟨ft5,d5,h1,h2,h3,h4⟩:=HB.out
   have bw1:Below W.heap.size W w1:=⟨hg1.os.trans h4.os,hg1.tape.trans h4.tape,hg1.output.trans h4.output,Nat.le_trans h4.size hg1.size,fun k hk=>(hg1.block k (Nat.lt_of_lt_of_le hk h4.size) (by have:=HV5.out; simp; omega)).trans (h4.block k hk)⟩
   have ho1:SAt w1 p ft d s:=H0.out.1.same fun a k hk=>bw1.block k (H0.out.1.lts a k hk)
   obtain ⟨b,hb1,hb2⟩:=ho1.queue n q hq
   have hnd:(s.qs.map Prod.fst).Nodup:=H0.out.2.1.r.fit.names
   obtain rfl:b=c.2:=by
    rw [HPq.out.1] at hb1
    have h6:(n,c.2)∈ps:=by rw [hqn]; exact hc
    have h7:(ps.map Prod.fst).Nodup:=by rw [HQ.out.2.1]; exact hnd
    exact nodup_pair h7 hb1 h6
   have h1w:SAt w1 p1 ft5 d5 { s0 with qs:=doneM s.qs left }:=h1.same fun a k hk=>hg1.block k (h1.lts a k hk) (by simp; intro e; exact h3 ⟨a,e ▸ hk⟩)
   have hst:=doneM_step (left:=left) H0.out.2.1.upk hnd HQ.out.2.2 hq (by rw [<- hkl]; exact hlx)
   have HC:Hid (∀ V,Below w1.heap.size w1 V->Calls Tryz.prog 34 #[.pointer (some ⟨c.2,0,none⟩)] V fun e w' => ∃ p',e=.returned (.pointer (some ⟨p',0,none⟩)) /\ ∃ F',F.Q w' p' F' q/\(∀ k,F' k->V.heap.size<=k)/\Below V.heap.size V w'):=fun V bV=>F.copy_any c.2 _ q V (hb2.same fun k hk=>bV.block k (ho1.lts _ k hk)) (H0.out.2.1.r.qok _ hq)
   have hdl:DL d5.ps:=by
    refine h1w.dl ⟨?_,?_,?_,?_,?_⟩
    ·exact hnd.sublist (List.filter_sublist.map _)
    ·exact fun x hx=>H0.out.2.1.r.fit.short x (List.mem_filter.1 hx).1
    ·show (s0.lk.map Prod.fst).Nodup
     rw [HS0.out.2.2]; exact List.nodup_nil
    ·show ∀ x∈s0.lk,_
     rw [HS0.out.2.2]; intro x hx; cases hx
    ·show ∀ x∈s0.lk,_
     rw [HS0.out.2.2]; intro x hx; cases hx
   have HNx:Hid (∀ w2 b Fq,Below w1.heap.size w1 w2->F.Q w2 b Fq q->(∀ k,Fq k->w1.heap.size<=k) -> ∃ w3,(Instr.mapUpdate 83 (.map (some d5.qm)) (.string n) (.pointer (some ⟨b,0,none⟩))).run Tryz.prog w2=.ok () w3/\Hid (CopyIn W w3 p1 V5.heap.size { s0 with qs:=doneM s.qs fun x=>left x && !x.sameKey kl })/\w3.heap[qm]? = w1.heap[qm]? /\ w3.heap[V5.heap.size]? = w1.heap[V5.heap.size]? /\ w3.cell? ⟨p1,7,none⟩=some (.map (some d5.qm))/\w2.cell? ⟨p1,7,none⟩=some (.map (some d5.qm))):=by
    intro w2 b Fq b2 hQ2 hnew
    have hqm5:d5.qm<w1.heap.size:=h1w.qmap.lt
    have hd2:DAt w2 d5.qm d5.ps:=h1w.qmap.same (b2.block _ hqm5)
    have hfr : ∀ y∈d5.ps,y.1≠n:=fun y hy e=>hst.1 (by have h6:y.1∈d5.ps.map Prod.fst:=List.mem_map.2 ⟨y,hy,rfl⟩; rw [h1w.names,e] at h6; exact h6)
    have hfn:findP d5.ps n=none:=List.find?_eq_none.2 fun y hy=>by simpa using hfr y hy
    have hlen:d5.ps.length<=1000000000:=by
     have h6:=congrArg List.length h1w.names
     rw [List.length_map,List.length_map] at h6
     have h7:(doneM s.qs left).length<=s.qs.length:=List.length_filter_le _ _
     have h8:=H0.out.2.1.nq
     have h6:d5.ps.length=(doneM s.qs left).length:=h6
     omega
    have hsn:n.size<=maxLen:=HQ.out.2.2 _ hq
    obtain ⟨w3,r3,d3,g3⟩:=hd2.put hdl hsn b hfr hlen
    obtain ⟨s3,m3⟩:=h1w.addQueue hst.1 b2 hQ2 hnew d3 (dl_cons hdl hsn hfn b) g3
    have hW1:=bw1.size
    have hr0:=hrg1.lt
    have hqlt:qm<W.heap.size:=by rw [<- HPq.out.2]; exact H0.out.1.qmap.lt
    have hq5:W.heap.size<=d5.qm:=h2 .qmap d5.qm ((h1w.fq _).2 rfl)
    have hp5:p1<w1.heap.size:=(yyD h1w.blk).1
    have hpq:p1≠d5.qm:=fun e=>by have:=h1w.one .main .qmap p1 ((h1w.fm p1).2 rfl) ((h1w.fq p1).2 e); cases this
    have hrq:V5.heap.size≠d5.qm:=fun e=>h3 ⟨.qmap,(h1w.fq _).2 e⟩
    have blk3 : ∀ k,k<w1.heap.size->k≠d5.qm->w3.heap[k]? = w1.heap[k]? := fun k hk hne=>old_same b2 g3 hk hne
    have c7:=(cells10 h1w.blk).2.2.2.2.2.2.2.1
    refine ⟨w3,r3,⟨_,_,by rw [hkl,hst.2]; exact s3,?_,?_,?_⟩,blk3 _ (by omega) (by omega),blk3 _ hr0 hrq,(World.cell?_of_block (w:=w1) (a:=⟨p1,7,none⟩) (blk3 p1 hp5 hpq)).trans c7,(World.cell?_of_block (w:=w1) (a:=⟨p1,7,none⟩) (b2.block p1 hp5)).trans c7⟩
    ·intro a k hk
     by_cases e:a=.queue n
     ·subst e; rw [upd_same] at hk; have:=hnew k hk; omega
     ·rw [upd_other _ _ e] at hk; exact h2 a k hk
    ·rintro ⟨a,hk⟩
     by_cases e:a=.queue n
     ·subst e; rw [upd_same] at hk; have:=hnew _ hk; omega
     ·rw [upd_other _ _ e] at hk; exact h3 ⟨a,hk⟩
    ·exact ⟨g3.os.trans (b2.os.trans bw1.os),g3.tape.trans (b2.tape.trans bw1.tape),g3.output.trans (b2.output.trans bw1.output),Nat.le_trans hW1 (Nat.le_trans b2.size g3.size),fun k hk=>(blk3 k (by omega) (by omega)).trans (bw1.block k hk)⟩
   have e7:w1.cell? ⟨p1,7,none⟩=some (.map (some d5.qm)):=(cells10 h1w.blk).2.2.2.2.2.2.2.1
   obtain ⟨qm1,hqm1⟩ : ∃ z,d5.qm=z:=⟨_,rfl⟩
   rw [hqm1] at HNx e7
   rw [hkn] at hen ⊢
   clear hqm1 hdl hst h1w hnd hb1 hb2 ho1 bw1 h1 h2 h3 h4 hkn hq hqn hcm hkey hlx hv hat hs1' hg1 HB hck hc
   go_wp2
   (go_region_held3 (fun w'=>w'.cell? ⟨p1,7,none⟩=some (.map (some qm1))) (first | exact e7 | go_keep) (first
    |(go_at_call 34; refine (HC.out w1.drew (drew_below w1)).mono ?_; rintro e w2 ⟨b,rfl,Fq,hQ2,hn2,b2⟩; obtain ⟨w3,r3,HL3,q3,v3,f3,f2⟩:=HNx.out w2 b Fq (keptW (drew_below w1) b2) hQ2 hn2; clear hQ2 hn2 b2 HC HNx)))
   have hrg2:=ranges_same hrg1 q3 v3
   clear q3 v3 f2 r3
   go_wp2
   go_roundw
   case rel=>exact ⟨_,cnt1,hrg2,HL3⟩
   case measure=>rw [hrg2.left_eq,hrg.left_eq]; exact hlt1
end Go.Proofs.YtnhnpnafchkhiaaGreatDoor
