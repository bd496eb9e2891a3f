import Derived.Test.YtnhnpnafchkhiaaGreatDoorQwA
import Derived.Test.YtnhnpnafchkhiaaGreatDoorQw40
import Derived.Test.YtnhnpnafchkhiaaGreatDoorQw28
import Derived.BigQuiet
namespace Go.Proofs.YtnhnpnafchkhiaaGreatDoor
open Go.RowKit
theorem setQ_id {l:List (ByteArray × F.St)} (hn:(l.map Prod.fst).Nodup) {n:ByteArray} {q:F.St} (hf:findQ l n=some q):setQ l n q=l:=by
 unfold setQ
 conv=>rhs; rw [<- List.map_id l]
 refine List.map_congr_left fun x hx=>?_
 by_cases h:x.1=n
 ·rw [if_pos h]
  have hm:=findQ_some hf
  obtain ⟨i,hi,e1⟩:=List.getElem_of_mem hx
  obtain ⟨j,hj,e2⟩:=List.getElem_of_mem hm
  have hij:i=j:=by
   have h1:(l.map Prod.fst)[i]'(by simpa using hi)=(l.map Prod.fst)[j]'(by simpa using hj):=by
    simp only [List.getElem_map,e1,e2]
    exact h
   exact (List.getElem_inj hn).1 h1
  subst hij
  rw [e1] at e2
  rw [e2]
  rfl
 ·rw [if_neg h]; rfl
theorem onQ_no {s:Sm} (hn:(s.qs.map Prod.fst).Nodup) {n:ByteArray} {f:F.St->Int × F.St} (hf : ∀ q,(f q).1≠0->(f q).2=q) (he:(onQ s n f).1≠0):(onQ s n f).2=s:=by
 cases h:findQ s.qs n with
 |none=>rw [onQ_none h]
 |some q =>
  rw [onQ_some h] at he ⊢
  simp only at he ⊢
  rw [hf q he,setQ_id hn h]
theorem enter_no {s:Sm} {m:Ms} (he:(enterM s m).1≠0):(enterM s m).2=s:=by
 unfold enterM at he ⊢
 cases ha:admitM s m with
 |mk ways er =>
  rw [ha] at he
  simp only at he ⊢
  split
  ·rfl
  ·split
   ·rfl
   ·split
    ·rfl
    ·rename_i h1 h2 h3
     rw [if_neg h1,if_neg h2,if_neg h3] at he
     exact absurd rfl he
theorem actM_ind {s:Sm} {a:Ax} {P:Int × Sm->Prop} (h0:P (2,s)) (h1:a.kind=1->P (queueM s a.name a.n)) (h2:a.kind=2->P (noQueueM s a.name)) (h3:a.kind=3->P ((s.tb.declare ⟨a.xn,a.xk,a.xf⟩).1,{ s with tb:=(s.tb.declare ⟨a.xn,a.xk,a.xf⟩).2 })) (h4:a.kind=4->P ((s.tb.drop a.name).1,{ s with tb:=(s.tb.drop a.name).2 })) (h5:a.kind=5->P ((bindM s ⟨a.be,a.bq,a.bp⟩).1,{ s with tb:=(bindM s ⟨a.be,a.bq,a.bp⟩).2 })) (h6:a.kind=6->P ((s.tb.unbind ⟨a.be,a.bq,a.bp⟩).1,{ s with tb:=(s.tb.unbind ⟨a.be,a.bq,a.bp⟩).2 })) (h7:a.kind=7->P (enterM s a.m)) (h8:a.kind=8->P (onQ s a.name giveM)) (h9:a.kind=9->P (onQ s a.name (fun q=>q.done a.tag.toNat))) (h10:a.kind=10->P (onQ s a.name (fun q=>q.back a.tag.toNat))) (h11:a.kind=11->P (sentM s a.to a.n.toNat)) (h12:P (0,bootM s)):P (actM s a):=by
 unfold actM
 by_cases hg:goodA a=false
 ·rw [if_pos hg]; exact h0
 rw [if_neg hg]
 by_cases k1:a.kind=1
 ·rw [if_pos k1]; exact h1 k1
 rw [if_neg k1]
 by_cases k2:a.kind=2
 ·rw [if_pos k2]; exact h2 k2
 rw [if_neg k2]
 by_cases k3:a.kind=3
 ·rw [if_pos k3]; exact h3 k3
 rw [if_neg k3]
 by_cases k4:a.kind=4
 ·rw [if_pos k4]; exact h4 k4
 rw [if_neg k4]
 by_cases k5:a.kind=5
 ·rw [if_pos k5]; exact h5 k5
 rw [if_neg k5]
 by_cases k6:a.kind=6
 ·rw [if_pos k6]; exact h6 k6
 rw [if_neg k6]
 by_cases k7:a.kind=7
 ·rw [if_pos k7]; exact h7 k7
 rw [if_neg k7]
 by_cases k8:a.kind=8
 ·rw [if_pos k8]; exact h8 k8
 rw [if_neg k8]
 by_cases k9:a.kind=9
 ·rw [if_pos k9]; exact h9 k9
 rw [if_neg k9]
 by_cases k10:a.kind=10
 ·rw [if_pos k10]; exact h10 k10
 rw [if_neg k10]
 by_cases k11:a.kind=11
 ·rw [if_pos k11]; exact h11 k11
 rw [if_neg k11]
 exact h12
theorem queue_no {s:Sm} {n:ByteArray} {k:Int} (he:(queueM s n k).1≠0):(queueM s n k).2=s:=by
 cases hf:findQ s.qs n with
 |some q=>rw [queueM_some hf]
 |none =>
  rw [queueM_none hf] at he ⊢
  by_cases h:16<=s.qs.length
  ·rw [if_pos h]
  ·rw [if_neg h] at he; exact absurd rfl he
theorem noQueue_no {s:Sm} {n:ByteArray} (he:(noQueueM s n).1≠0):(noQueueM s n).2=s:=by
 cases hf:findQ s.qs n with
 |some q=>rw [noQueueM_some hf] at he; exact absurd rfl he
 |none=>rw [noQueueM_none hf]
theorem declare_no {t:B.Tb} {x:B.Ex} (he:(t.declare x).1≠0):(t.declare x).2=t:=by
 unfold B.Tb.declare at he ⊢
 by_cases hg:B.goodX x=false
 ·rw [if_pos hg]
 rw [if_neg hg] at he ⊢
 cases hf:B.findX t.xs x.name with
 |some y=>simp only; split <;> rfl
 |none =>
  rw [hf] at he
  simp only at he ⊢
  by_cases h:8<=t.xs.length
  ·rw [if_pos h]
  ·rw [if_neg h] at he; exact absurd rfl he
theorem drop_no {t:B.Tb} {n:ByteArray} (he:(t.drop n).1≠0):(t.drop n).2=t:=by
 unfold B.Tb.drop at he ⊢
 cases hf:B.findX t.xs n with
 |none=>rfl
 |some y=>rw [hf] at he; exact absurd rfl he
theorem bind_no {t:B.Tb} {b:B.Bd} (he:(t.bind b).1≠0):(t.bind b).2=t:=by
 unfold B.Tb.bind at he ⊢
 by_cases hg:nameB (txt b.que)=false
 ·rw [if_pos hg]
 rw [if_neg hg] at he ⊢
 cases hf:B.findX t.xs b.ex with
 |none=>rfl
 |some x =>
  rw [hf] at he
  simp only at he ⊢
  by_cases h1:B.mayP x.kind b.pat=false
  ·rw [if_pos h1]
  rw [if_neg h1] at he ⊢
  by_cases h2:b∈t.bs
  ·rw [if_pos h2]
  rw [if_neg h2] at he ⊢
  by_cases h3:32<=t.bs.length
  ·rw [if_pos h3]
  ·rw [if_neg h3] at he; exact absurd rfl he
theorem unbind_no {t:B.Tb} {b:B.Bd} (he:(t.unbind b).1≠0):(t.unbind b).2=t:=by
 unfold B.Tb.unbind at he ⊢
 by_cases h:b∈t.bs
 ·rw [if_pos h] at he; exact absurd rfl he
 ·rw [if_neg h]
theorem sent_no {s:Sm} {t:Int} {n:Nat} (he:(sentM s t n).1≠0):(sentM s t n).2=s:=by
 unfold sentM at he ⊢
 by_cases h1:leadsM s t=false
 ·rw [if_pos h1]
 rw [if_neg h1] at he ⊢
 by_cases h2:(linkOf s.lk t).length<n
 ·rw [if_pos h2]
 rw [if_neg h2] at he ⊢
 by_cases h3:(linkOf s.lk t).length=n
 ·rw [if_pos h3] at he; exact absurd rfl he
 ·rw [if_neg h3] at he; exact absurd rfl he
theorem act_no {k:Nat} {s:Sm} (h:Inv k s) (a:Ax) (he:(actM s a).1≠0):(actM s a).2=s:=by
 have hn:=h.r.fit.names
 have tbe : ∀ t:B.Tb,t=s.tb->({ s with tb:=t }:Sm)=s:=fun t ht=>by subst ht; rfl
 revert he
 refine actM_ind (P:=fun r=>r.1≠0->r.2=s) (fun _=>rfl) (fun _ he=>queue_no he) (fun _ he=>noQueue_no he) (fun _ he=>tbe _ (declare_no he)) (fun _ he=>tbe _ (drop_no he)) (fun _ he=>tbe _ ?_) (fun _ he=>tbe _ (unbind_no he)) (fun _ he=>enter_no he) (fun _ he=>onQ_no hn (fun q hq=>?_) he) (fun _ he=>onQ_no hn (fun q hq=>?_) he) (fun _ he=>onQ_no hn (fun q hq=>?_) he) (fun _ he=>sent_no he) (fun he=>absurd rfl he)
 ·simp only at he
  unfold bindM at he ⊢
  by_cases hq:(findQ s.qs a.bq).isSome=true
  ·rw [if_pos hq] at he ⊢
   exact bind_no he
  ·rw [if_neg hq]
 ·unfold giveM F.St.give at hq ⊢
  cases hr:q.rdy with
  |nil=>rfl
  |cons x t=>rw [hr] at hq; exact absurd rfl hq
 ·unfold F.St.done at hq ⊢
  cases hf:F.findT q.out a.tag.toNat with
  |none=>rfl
  |some x=>rw [hf] at hq; exact absurd rfl hq
 ·unfold F.St.back at hq ⊢
  cases hf:F.findT q.out a.tag.toNat with
  |none=>rfl
  |some x=>rw [hf] at hq; exact absurd rfl hq
theorem pushQ_bk (m:Ms) (s:Sm) (n:ByteArray):(pushQ m s n).bk=s.bk/\(pushQ m s n).seq=s.seq/\(pushQ m s n).site=s.site:=by
 unfold pushQ
 split <;> exact ⟨rfl,rfl,rfl⟩
theorem pushes_bk (m:Ms) (l:List ByteArray) (s:Sm):(l.foldl (pushQ m) s).bk=s.bk/\(l.foldl (pushQ m) s).seq=s.seq/\(l.foldl (pushQ m) s).site=s.site:=by
 induction l generalizing s with
 |nil=>exact ⟨rfl,rfl,rfl⟩
 |cons n t ih =>
  obtain ⟨h1,h2,h3⟩:=ih (pushQ m s n)
  obtain ⟨g1,g2,g3⟩:=pushQ_bk m s n
  exact ⟨h1.trans g1,h2.trans g2,h3.trans g3⟩
theorem links_bk (m:Ms) (l:List Int) (s:Sm):(l.foldl (linkAdd m) s).bk=s.bk/\(l.foldl (linkAdd m) s).seq=s.seq/\(l.foldl (linkAdd m) s).site=s.site:=by
 induction l generalizing s with
 |nil=>exact ⟨rfl,rfl,rfl⟩
 |cons n t ih =>
  obtain ⟨h1,h2,h3⟩:=ih (linkAdd m s n)
  exact ⟨h1.trans rfl,h2.trans rfl,h3.trans rfl⟩
theorem taken_bk (s:Sm) (m:Ms) (ways:List Int):(takenM s m ways).bk=S.addF s.bk m.origin m.seq.toNat/\(takenM s m ways).seq=(if m.origin=s.site then m.seq.toNat else s.seq)/\(takenM s m ways).site=s.site:=by
 unfold takenM
 obtain ⟨h1,h2,h3⟩:=links_bk (hopM m) ways ((intoM s m).foldl (pushQ m) { s with bk:=S.addF s.bk m.origin m.seq.toNat,seq:=if m.origin=s.site then m.seq.toNat else s.seq })
 obtain ⟨g1,g2,g3⟩:=pushes_bk m (intoM s m) { s with bk:=S.addF s.bk m.origin m.seq.toNat,seq:=if m.origin=s.site then m.seq.toNat else s.seq }
 exact ⟨h1.trans g1,h2.trans g2,h3.trans g3⟩
theorem act_bk (s:Sm) (a:Ax) (h7:a.kind≠7):(actM s a).2.bk=s.bk/\(actM s a).2.seq=s.seq/\(actM s a).2.site=s.site:=by
 have hon : ∀ (n:ByteArray) (f:F.St->Int × F.St),(onQ s n f).2.bk=s.bk/\(onQ s n f).2.seq=s.seq/\(onQ s n f).2.site=s.site:=fun n f=>by
  cases h:findQ s.qs n with
  |none=>rw [onQ_none h]; exact ⟨rfl,rfl,rfl⟩
  |some q=>rw [onQ_some h]; exact ⟨rfl,rfl,rfl⟩
 refine actM_ind (P:=fun r=>r.2.bk=s.bk/\r.2.seq=s.seq/\r.2.site=s.site) ⟨rfl,rfl,rfl⟩ (fun _=>?_) (fun _=>?_) (fun _=>⟨rfl,rfl,rfl⟩) (fun _=>⟨rfl,rfl,rfl⟩) (fun _=>⟨rfl,rfl,rfl⟩) (fun _=>⟨rfl,rfl,rfl⟩) (fun h=>absurd h h7) (fun _=>hon _ _) (fun _=>hon _ _) (fun _=>hon _ _) (fun _=>?_) ⟨rfl,rfl,rfl⟩
 ·cases hf:findQ s.qs a.name with
  |some q=>rw [queueM_some hf]; exact ⟨rfl,rfl,rfl⟩
  |none=>rw [queueM_none hf]; split <;> exact ⟨rfl,rfl,rfl⟩
 ·cases hf:findQ s.qs a.name with
  |some q=>rw [noQueueM_some hf]; exact ⟨rfl,rfl,rfl⟩
  |none=>rw [noQueueM_none hf]; exact ⟨rfl,rfl,rfl⟩
 ·unfold sentM
  by_cases h1:leadsM s a.to=false
  ·rw [if_pos h1]; exact ⟨rfl,rfl,rfl⟩
  rw [if_neg h1]
  by_cases h2:(linkOf s.lk a.to).length<a.n.toNat
  ·rw [if_pos h2]; exact ⟨rfl,rfl,rfl⟩
  rw [if_neg h2]
  split <;> exact ⟨rfl,rfl,rfl⟩
theorem ofF_add {f:Nat->List (Nat × Nat)} (hf : ∀ i,i<8->S.Apart 1 (f i)) {o:Int} (ho:1<=o/\o<=8) (n:Nat) (o':Int) (m:Nat):S.Mem (S.ofF (S.addF f o n) o') m↔S.Mem (S.ofF f o') m\/(o'=o/\m=n/\n≠0):=by
 obtain ⟨i,hi,hoi⟩ : ∃ i:Nat,i<8/\o=(i:Int)+1:=⟨(o-1).toNat,by omega,by omega⟩
 rw [S.addF_in hi hoi]
 by_cases ho':1<=o'/\o'<=8
 ·obtain ⟨j,hj,hoj⟩ : ∃ j:Nat,j<8/\o'=(j:Int)+1:=⟨(o'-1).toNat,by omega,by omega⟩
  rw [S.ofF_in hj hoj,S.ofF_in hj hoj]
  by_cases e:j=i
  ·subst e
   rw [S.putF_at,S.addS_mem (hf j hj)]
   exact ⟨fun h=>h.imp id fun h=>⟨by omega,h⟩,fun h=>h.imp id fun h=>h.2⟩
  ·rw [S.putF_ne _ _ e]
   exact ⟨fun h=>.inl h,fun h=>h.elim id fun h=>absurd h.1 (by omega)⟩
 ·rw [S.ofF_out ho',S.ofF_out ho']
  exact ⟨fun h=>.inl h,fun h=>h.elim id fun h=>absurd h.1 (by omega)⟩
theorem good7 {a:Ax} (hg:goodA a=true) (h7:a.kind=7):(1<=a.m.origin/\a.m.origin<=8)/\1<=a.m.seq:=by
 have hl:lettersL a.kind=some [109]:=by rw [h7]; rfl
 have:=good_name hg hl 109 (by simp)
 have hm:goodM a.m=true:=this
 unfold goodM inB at hm
 simp only [Bool.and_eq_true,decide_eq_true_eq] at hm
 obtain ⟨⟨⟨⟨⟨h1,h2⟩,_⟩,_⟩,_⟩,_⟩:=hm
 exact ⟨h1,h2⟩
def Below14 (s:Sm):Prop := ∀ n:Nat,S.Mem (S.ofF s.bk s.site) n->n<=s.seq
theorem entered {k:Nat} {s:Sm} (h:Inv k s) (hb:Below14 s) {a:Ax} (h7:a.kind=7) (he:(actM s a).1=0) :
  goodA a=true /\ ∃ ways,(actM s a).2=takenM s a.m ways/\(ways=[]\/ways=O.onwardT s.S s.E s.H a.m.origin s.site)/\(∀ t∈ways,fullT s t=false)/\(∀ n∈intoM s a.m,fullN s n=false)/\hasM s a.m.origin a.m.seq=false/\hasM (actM s a).2 a.m.origin a.m.seq=true/\Below14 (actM s a).2 /\ ∀ o n,hasM s o n=true->hasM (actM s a).2 o n=true:=by
 have hg:goodA a=true:=by
  by_cases hg:goodA a=false
  ·unfold actM at he; rw [if_pos hg] at he; simp at he
  ·simpa using hg
 have hA:actM s a=enterM s a.m:=by
  unfold actM
  rw [if_neg (by rw [hg]; simp)]
  simp [h7]
 obtain ⟨ho,hs⟩:=good7 hg h7
 rw [hA] at he ⊢
 generalize a.m=m at *
 have fine : ∀ i,i<8->S.Apart 1 (s.bk i):=fun i hi=>(h.r.bk.fine i hi).1
 cases ha:admitM s m with
 |mk ways er =>
  have hE:enterM s m=if er≠0 then (er,s) else if (intoM s m).any (fullN s)=true then (6,s) else if ways.any (fullT s)=true then (6,s) else (0,takenM s m ways):=by unfold enterM; rw [ha]
  by_cases h0:er≠0
  ·rw [hE,if_pos h0] at he; exact absurd he h0
  have h0:er=0:=by simpa using h0
  subst h0
  rw [if_neg (by simp)] at hE
  by_cases hq:(intoM s m).any (fullN s)=true
  ·rw [hE,if_pos hq] at he; simp at he
  rw [if_neg hq] at hE
  by_cases hf:ways.any (fullT s)=true
  ·rw [hE,if_pos hf] at he; simp at he
  rw [if_neg hf] at hE
  rw [hE]
  obtain ⟨t1,t2,t3⟩:=taken_bk s m ways
  have hway:(ways=[]\/ways=O.onwardT s.S s.E s.H m.origin s.site)/\hasM s m.origin m.seq=false/\(m.origin=s.site->m.seq.toNat=s.seq+1):=by
   unfold admitM at ha
   by_cases hso:m.origin=s.site
   ·rw [if_pos hso] at ha
    unfold ownM at ha
    split at ha
    ·simp at ha
    ·split at ha
     ·simp at ha
     ·rename_i g2
      split at ha
      ·simp at ha
      ·have hsq:m.seq=(s.seq:Int)+1:=by simpa using g2
       refine ⟨?_,?_,fun _=>by omega⟩
       ·cases hx:B.findX s.tb.xs m.ex with
        |none=>rw [hx] at ha; simp at ha
        |some x =>
         rw [hx] at ha
         simp only at ha
         by_cases hfed:x.fed=true
         ·rw [if_pos hfed] at ha
          injection ha with ha _
          exact .inr ha.symm
         ·rw [if_neg hfed] at ha
          injection ha with ha _
          exact .inl ha.symm
       ·unfold hasM
        rw [S.memB_false]
        intro hm
        rw [hso] at hm
        have:=hb _ hm
        omega
   ·rw [if_neg hso] at ha
    split at ha
    ·simp at ha
    ·rename_i g1
     split at ha
     ·simp at ha
     ·split at ha
      ·simp at ha
      ·injection ha with ha _
       exact ⟨.inr ha.symm,by simpa using g1,fun e=>absurd e hso⟩
  have hmem : ∀ o n,S.Mem (S.ofF (takenM s m ways).bk o) n↔S.Mem (S.ofF s.bk o) n\/(o=m.origin/\n=m.seq.toNat/\m.seq.toNat≠0):=fun o n=>by
   rw [t1]
   exact ofF_add fine ho _ _ _
  refine ⟨hg,ways,rfl,hway.1,fun t ht=>?_,fun n hn=>?_,hway.2.1,?_,?_,fun o n hn=>?_⟩
  ·have hf':ways.any (fullT s)=false:=by simpa using hf
   simpa using List.any_eq_false.1 hf' t ht
  ·have hq':(intoM s m).any (fullN s)=false:=by simpa using hq
   simpa using List.any_eq_false.1 hq' n hn
  ·unfold hasM
   rw [S.memB_iff,hmem]
   exact .inr ⟨rfl,rfl,by omega⟩
  ·intro n hn
   rw [t3,hmem] at hn
   rw [t2]
   rcases hn with hn | ⟨e1,e2,_⟩
   ·have:=hb n hn
    split
    ·rename_i e
     have:=hway.2.2 e
     omega
    ·exact this
   ·rw [if_pos e1.symm]; omega
  ·unfold hasM at hn ⊢
   rw [S.memB_iff] at hn ⊢
   exact (hmem _ _).2 (.inl hn)
theorem act_seen {k:Nat} {s:Sm} (h:Inv k s) (hb:Below14 s) (a:Ax):Below14 (actM s a).2 /\ ∀ o n,hasM s o n=true->hasM (actM s a).2 o n=true:=by
 by_cases h7:a.kind=7
 ·by_cases he:(actM s a).1=0
  ·obtain ⟨_,ways,_,_,_,_,_,_,h1,h2⟩:=entered h hb h7 he
   exact ⟨h1,h2⟩
  ·rw [act_no h a he]
   exact ⟨hb,fun _ _ h=>h⟩
 ·obtain ⟨h1,h2,h3⟩:=act_bk s a h7
  unfold Below14 hasM
  rw [h1,h2,h3]
  exact ⟨hb,fun _ _ h=>h⟩
def cntQ (q:F.St):Nat:=q.rdy.length+q.out.length
theorem push_cnt {q:F.St} (h:fullQ q=false) (m:F.Msg):cntQ (q.push m).2=cntQ q+1:=by
 unfold fullQ at h
 simp only [Bool.or_eq_false_iff,decide_eq_false_iff_not] at h
 unfold F.St.push
 rw [if_neg (by omega),if_neg (by omega)]
 unfold cntQ
 simp
 omega
theorem findQ_set {l:List (ByteArray × F.St)} {n n':ByteArray} (h:n'≠n) (q:F.St):findQ (setQ l n q) n'=findQ l n':=by
 unfold findQ setQ
 induction l with
 |nil=>rfl
 |cons x t ih =>
  rw [List.map_cons]
  by_cases e:x.1=n
  ·rw [if_pos e]
   have e2 : ¬ x.1=n':=fun e3=>h (e3.symm.trans e)
   rw [List.find?_cons_of_neg (by simpa using e2),List.find?_cons_of_neg (by simpa using e2)]
   exact ih
  ·rw [if_neg e]
   by_cases e2:x.1=n'
   ·rw [List.find?_cons_of_pos (by simpa using e2),List.find?_cons_of_pos (by simpa using e2)]
   ·rw [List.find?_cons_of_neg (by simpa using e2),List.find?_cons_of_neg (by simpa using e2)]
    exact ih
theorem mem_uniq {l:List (ByteArray × F.St)} (hn:(l.map Prod.fst).Nodup) {x y:ByteArray × F.St} (hx:x∈l) (hy:y∈l) (e:x.1=y.1):x=y:=by
 obtain ⟨i,hi,e1⟩:=List.getElem_of_mem hx
 obtain ⟨j,hj,e2⟩:=List.getElem_of_mem hy
 have hij:i=j:=by
  have h1:(l.map Prod.fst)[i]'(by simpa using hi)=(l.map Prod.fst)[j]'(by simpa using hj):=by
   simp only [List.getElem_map,e1,e2]
   exact e
  exact (List.getElem_inj hn).1 h1
 subst hij
 rw [<- e1,<- e2]
theorem pushes_qs (m:Ms) (l:List ByteArray) : ∀ (s:Sm),l.Nodup->(s.qs.map Prod.fst).Nodup->(∀ n∈l,∃ q,findQ s.qs n=some q)->(l.foldl (pushQ m) s).qs=s.qs.map fun x=>if x.1∈l then (x.1,(x.2.push (toM m)).2) else x:=by
 induction l with
 |nil =>
  intro s _ _ _
  show s.qs=_
  conv=>lhs; rw [<- List.map_id s.qs]
  exact List.map_congr_left fun x _=>by simp
 |cons n t ih =>
  intro s hl hn hq
  obtain ⟨q,hf⟩:=hq n List.mem_cons_self
  obtain ⟨hnt,hlt⟩:=List.nodup_cons.1 hl
  show (t.foldl (pushQ m) (pushQ m s n)).qs=_
  rw [ih (pushQ m s n) hlt (by rw [pushQ_names]; exact hn) (fun n' hn'=>by
   rw [pushQ_some hf]
   obtain ⟨q',hf'⟩:=hq n' (List.mem_cons_of_mem _ hn')
   exact ⟨q',by rw [<- hf']; exact findQ_set (fun e=>hnt (by rw [<- e]; exact hn')) _⟩),pushQ_some hf]
  show (setQ s.qs n (q.push (toM m)).2).map _=_
  unfold setQ
  rw [List.map_map]
  refine List.map_congr_left fun x hx=>?_
  by_cases e:x.1=n
  ·have hxq:x=(n,q):=mem_uniq hn hx (findQ_some hf) e
   have h1 : ¬ x.1∈t:=by rw [e]; exact hnt
   simp only [Function.comp_apply,if_pos e]
   rw [if_neg h1,if_pos (by rw [e]; exact List.mem_cons_self),hxq]
  ·simp only [Function.comp_apply,if_neg e]
   by_cases h1:x.1∈t
   ·rw [if_pos h1,if_pos (List.mem_cons_of_mem _ h1)]
   ·rw [if_neg h1,if_neg (by rw [List.mem_cons]; exact fun h=>h.elim e h1)]
theorem into_nodup (s:Sm) (m:Ms):(intoM s m).Nodup:=by
 unfold intoM
 have:=List.Pairwise.filter (fun n => !goneQ s n) (B.queuesT_ord s.tb m.ex m.key)
 exact this.imp fun {a b} h e=>by
  subst e
  have:=B.cmpS3.self a
  omega
theorem into_has {s:Sm} {m:Ms} {n:ByteArray} (h:n∈intoM s m) : ∃ q,findQ s.qs n=some q:=by
 have:=(List.mem_filter.1 h).2
 unfold goneQ at this
 cases hf:findQ s.qs n with
 |none=>rw [hf] at this; simp at this
 |some q=>exact ⟨q,rfl⟩
theorem links_of (m:Ms) (ways:List Int) : ∀ (s:Sm),Up s.lk->ways.Nodup -> ∀ t,linkOf (ways.foldl (linkAdd m) s).lk t=linkOf s.lk t++if t∈ways then [m] else []:=by
 induction ways with
 |nil=>intro s _ _ t; simp
 |cons n l ih =>
  intro s up hn t
  obtain ⟨h1,h2⟩:=List.nodup_cons.1 hn
  show linkOf (l.foldl (linkAdd m) (linkAdd m s n)).lk t=_
  rw [ih (linkAdd m s n) (insL_up _ _ _ up) h2 t]
  show linkOf (insL n (linkOf s.lk n++[m]) s.lk) t++_=_
  rw [linkOf_ins up]
  by_cases e:t=n
  ·subst e
   rw [if_pos rfl,if_neg h1,if_pos List.mem_cons_self,List.append_nil]
  ·rw [if_neg e]
   by_cases h3:t∈l
   ·rw [if_pos h3,if_pos (List.mem_cons_of_mem _ h3)]
   ·rw [if_neg h3,if_neg (by rw [List.mem_cons]; exact fun h=>h.elim e h3)]
theorem taken_link {s:Sm} (up:Up s.lk) (m:Ms) {ways:List Int} (hw:ways.Nodup) (t:Int):(linkOf (takenM s m ways).lk t).length=(linkOf s.lk t).length+if t∈ways then 1 else 0:=by
 unfold takenM
 rw [links_of (hopM m) ways _ (by rw [pushes_lk]; exact up) hw,pushes_lk,List.length_append]
 show (linkOf s.lk t).length+_=_
 split <;> rfl
theorem taken_qs {k:Nat} {s:Sm} (h:Inv k s) (m:Ms) (ways:List Int):(takenM s m ways).qs=s.qs.map fun x=>if x.1∈intoM s m then (x.1,(x.2.push (toM m)).2) else x:=by
 unfold takenM
 rw [(links_qs (hopM m) ways _).1]
 exact pushes_qs m (intoM s m) { s with bk:=S.addF s.bk m.origin m.seq.toNat,seq:=if m.origin=s.site then m.seq.toNat else s.seq } (into_nodup s m) h.r.fit.names (fun n hn=>into_has hn)
theorem taken_cnt {k:Nat} {s:Sm} (h:Inv k s) {m:Ms} {ways:List Int} (hf : ∀ n∈intoM s m,fullN s n=false) (hl:(takenM s m ways).qs.length=s.qs.length) (i:Nat) (hi:i<s.qs.length):(takenM s m ways).qs[i].1=s.qs[i].1/\cntQ (takenM s m ways).qs[i].2=cntQ s.qs[i].2+if s.qs[i].1∈intoM s m then 1 else 0:=by
 have hq:=taken_qs h m ways
 have e:(takenM s m ways).qs[i]=if s.qs[i].1∈intoM s m then (s.qs[i].1,(s.qs[i].2.push (toM m)).2) else s.qs[i]:=by
  simp only [hq,List.getElem_map]
 rw [e]
 by_cases hin:s.qs[i].1∈intoM s m
 ·rw [if_pos hin,if_pos hin]
  refine ⟨rfl,push_cnt ?_ _⟩
  obtain ⟨q,hfq⟩:=into_has hin
  have:=hf _ hin
  rw [fullN_some hfq] at this
  have hm:=mem_uniq h.r.fit.names (List.getElem_mem hi) (findQ_some hfq) rfl
  rw [hm]
  exact this
 ·rw [if_neg hin,if_neg hin]
  exact ⟨rfl,rfl⟩
theorem taken_len {k:Nat} {s:Sm} (h:Inv k s) (m:Ms) (ways:List Int):(takenM s m ways).qs.length=s.qs.length:=by rw [taken_qs h]; simp
theorem msgs_at {w:World} {a:Option Addr} {n cap:Nat} {l:List Ms} (h:K.RowOf mcells w (.slice a n cap) l):n=l.length/\l.length<=9223372036854775807 /\ ∀ i (hi:i<l.length),∃ b off,a=some ⟨b,off,none⟩/\w.cell? ⟨b,off+i*6,none⟩=some (.int .i64 l[i].origin)/\w.cell? ⟨b,off+i*6+1,none⟩=some (.int .u64 l[i].seq)/\w.cell? ⟨b,off+i*6+2,none⟩=some (.int .i64 l[i].hop)/\w.cell? ⟨b,off+i*6+3,none⟩=some (.string l[i].ex)/\w.cell? ⟨b,off+i*6+4,none⟩=some (.string l[i].key)/\w.cell? ⟨b,off+i*6+5,none⟩=some (.string l[i].body):=by
 have hs:n=l.length:=by
  obtain ⟨_,_,hv⟩:=h.slice
  injection hv
 refine ⟨hs,?_,fun i hi=>?_⟩
 ·rcases h with ⟨_,rfl⟩ | ⟨_,_,_,h1,h2,_⟩
  ·simp
  ·unfold maxLen at h2; omega
 ·obtain ⟨b,off,c,hv,_,_,hc⟩:=h.at (by omega)
  injection hv with hv _ _
  exact ⟨b,off,hv,by simpa using K.row_cell hc i hi 0 (by decide) _ rfl,K.row_cell hc i hi 1 (by decide) _ rfl,K.row_cell hc i hi 2 (by decide) _ rfl,K.row_cell hc i hi 3 (by decide) _ rfl,K.row_cell hc i hi 4 (by decide) _ rfl,K.row_cell hc i hi 5 (by decide) _ rfl⟩
set_option maxRecDepth 20000 in
set_option maxHeartbeats 2000000 in
theorem sameM_any (va vb:Value) (l:List Ms) (w:World) (ha:K.RowOf mcells w va l) (hb:K.RowOf mcells w vb l):Calls Tryz.prog 42 #[va,vb] w fun e w'=>e=.returned (.bool true)/\Below w.heap.size w w':=by
 obtain ⟨a,cap,rfl⟩:=ha.slice
 obtain ⟨a2,cap2,rfl⟩:=hb.slice
 obtain ⟨_,l63,hA⟩:=msgs_at ha
 obtain ⟨_,_,hB⟩:=msgs_at hb
 clear ha hb
 go_enter Tryz.func42,Tryz.ntmps42
 go_wp2
 go_loopw [5,13] (fun u5 u13 wr => ∃ k:Nat,u13=.int .i64 k/\k<=l.length/\Below w.heap.size w wr) (fun u5 u13 wr=>l.length-(intOf u13).toNat)
 case atStart=>exact ⟨0,rfl,Nat.zero_le _,Below.refl _ _⟩
 case round =>
  obtain ⟨k,rfl,hk,hb⟩:=hrel
  by_cases hlt2:k<l.length
  ·have hlt:(k:Int)<(l.length:Int):=by omega
   obtain ⟨b,off,rfl,i0,i1,i2,i3,i4,i5⟩:=hA k hlt2
   obtain ⟨b2,off2,rfl,j0,j1,j2,j3,j4,j5⟩:=hB k hlt2
   have e0:=cell_on hb i0
   have e1:=cell_on hb i1
   have e2:=cell_on hb i2
   have e3:=cell_on hb i3
   have e4:=cell_on hb i4
   have e5:=cell_on hb i5
   have g0:=cell_on hb j0
   have g1:=cell_on hb j1
   have g2:=cell_on hb j2
   have g3:=cell_on hb j3
   have g4:=cell_on hb j4
   have g5:=cell_on hb j5
   clear hA hB i0 i1 i2 i3 i4 i5 j0 j1 j2 j3 j4 j5
   generalize l[k]=x at *
   go_wp2
   go_quiet (fail)
   go_wp2
   go_roundw
   case rel=>exact ⟨k+1,by go_num,by omega,hb.trans ⟨rfl,rfl,rfl,yyH _,fun _ _=>rfl⟩⟩
   case measure=>simp [intOf]; omega
  ·obtain rfl:k=l.length:=by omega
   go_wp2
   go_ret
   exact ⟨rfl,hb⟩
end Go.Proofs.YtnhnpnafchkhiaaGreatDoor
