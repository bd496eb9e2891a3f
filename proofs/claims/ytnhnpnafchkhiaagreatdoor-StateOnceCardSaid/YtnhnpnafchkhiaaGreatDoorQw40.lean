import Derived.Test.YtnhnpnafchkhiaaGreatDoorQw39
namespace Go.Proofs.YtnhnpnafchkhiaaGreatDoor
open Go.RowKit
theorem insK_up {α:Type} {n:ByteArray} {x:α} : ∀ {l:List (ByteArray × α)},UpK l->n∉l.map Prod.fst->UpK (insK n x l)
 |[],_,_=>List.pairwise_singleton _ _
 |y::t,h,hn=>by
  have h1:UpK t:=(List.pairwise_cons.1 h).2
  have h2:=(List.pairwise_cons.1 h).1
  have hne:n≠y.1:=fun e=>hn (by rw [e]; exact List.mem_cons_self)
  have hnt:n∉t.map Prod.fst:=fun hm=>hn (List.mem_cons_of_mem _ hm)
  unfold insK
  split
  ·rename_i hlt
   refine List.pairwise_cons.2 ⟨fun z hz=>?_,h⟩
   rcases List.mem_cons.1 hz with rfl | hz
   ·exact hlt
   ·exact B.cmpS3.trans _ _ _ hlt (h2 z hz)
  ·rename_i hlt
   refine List.pairwise_cons.2 ⟨fun z hz=>?_,insK_up h1 hnt⟩
   have hz':z∈n::t.map Prod.fst:=by
    have:=((insK_perm n x t).map Prod.fst).mem_iff.1 hz
    simpa using this
   rcases List.mem_cons.1 hz' with rfl | hz'
   ·have h3:=B.cmpS3.neg z y.1
    have h4:B.cmpS z y.1≠0:=fun e=>hne (B.cmpS_eq e)
    show B.cmpS y.1 z<0
    omega
   ·exact h2 z hz'
theorem upK_of {α β:Type} {l:List (ByteArray × α)} {m:List (ByteArray × β)} (h:UpK l) (e:m.map Prod.fst=l.map Prod.fst):UpK m:=by unfold UpK at h ⊢; rw [e]; exact h
theorem upK_filter {α:Type} {l:List (ByteArray × α)} (h:UpK l) (p:ByteArray × α->Bool):UpK (l.filter p):=by
 unfold UpK at h ⊢
 rw [List.pairwise_map] at h ⊢
 exact h.filter p
theorem Inv.turnQ {k:Nat} {s:Sm} (h:Inv k s) (hk:k<=1000) {n:ByteArray} {q':F.St} (ok:q'.Ok):Inv k { s with qs:=setQ s.qs n q' }:=by
 refine h.of rfl rfl rfl rfl h.lk (upK_of h.upk (setQ_names _ _ _)) (fun x hx=>?_) (by unfold setQ; rw [List.length_map]; exact h.nq) h.r.tb h.r.bk.fine h.len hk h.r.seq h.boots
 obtain ⟨m,r⟩:=x
 rcases mem_setQ hx with ⟨rfl,rfl⟩ | ⟨_,hm⟩
 ·have hx1:m∈s.qs.map Prod.fst:=by
   have h1:m∈(setQ s.qs m r).map Prod.fst:=List.mem_map.2 ⟨(m,r),hx,rfl⟩
   rw [setQ_names] at h1
   exact h1
  obtain ⟨y,hy,e⟩:=List.mem_map.1 hx1
  exact ⟨by rw [show (m,r).1=y.1 from e.symm]; exact h.r.fit.short y hy,ok⟩
 ·exact ⟨h.r.fit.short _ hm,h.r.qok _ hm⟩
theorem Inv.table {k:Nat} {s:Sm} (h:Inv k s) (hk:k<=1000) {tb':B.Tb} (ok:tb'.Ok):Inv k { s with tb:=tb' } :=
 h.of rfl rfl rfl rfl h.lk h.upk (fun x hx=>⟨h.r.fit.short x hx,h.r.qok x hx⟩) h.nq ok h.r.bk.fine h.len hk h.r.seq h.boots
theorem Inv.mono {k k':Nat} {s:Sm} (h:Inv k s) (hk:k<=k') (hk':k'<=1000):Inv k' s :=
 h.of rfl rfl rfl rfl h.lk h.upk (fun x hx=>⟨h.r.fit.short x hx,h.r.qok x hx⟩) h.nq h.r.tb h.r.bk.fine (fun i hi=>Nat.le_trans (h.len i hi) hk) hk' h.r.seq (Nat.le_trans h.boots hk)
theorem Inv.onQ {k:Nat} {s:Sm} (h:Inv k s) (hk:k<=1000) {n:ByteArray} {f:F.St->Int × F.St} (ok : ∀ q,q.Ok->(f q).2.Ok):Inv k (onQ s n f).2:=by
 cases hq:findQ s.qs n with
 |none=>rw [onQ_none hq]; exact h
 |some q=>rw [onQ_some hq]; exact h.turnQ hk (ok q (h.r.qok _ (findQ_some hq)))
theorem Inv.push {k:Nat} {s:Sm} (h:Inv k s) (hk:k<=1000) (m:Ms) (n:ByteArray):Inv k (pushQ m s n):=by
 cases hq:findQ s.qs n with
 |none=>unfold pushQ; rw [hq]; exact h
 |some q=>rw [pushQ_some hq]; exact h.turnQ hk ((h.r.qok _ (findQ_some hq)).push (toM m))
theorem pushes_lk (m:Ms) (l:List ByteArray) (s:Sm):(l.foldl (pushQ m) s).lk=s.lk:=by
 induction l generalizing s with
 |nil=>rfl
 |cons n r ih=>rw [List.foldl_cons,ih,pushQ_lk]
theorem Inv.pushes {k:Nat} {s:Sm} (h:Inv k s) (hk:k<=1000) (m:Ms) (l:List ByteArray):Inv k (l.foldl (pushQ m) s):=by
 induction l generalizing s with
 |nil=>exact h
 |cons n r ih=>exact ih (h.push hk m n)
theorem Inv.links {k:Nat} {s:Sm} (h:Inv k s) (hk:k<=1000) (m:Ms) (ways:List Int) (h1 : ∀ t∈ways,1<=t/\t<=8) (h2:ways.Pairwise (· < ·)) (h3 : ∀ t∈ways,(linkOf s.lk t).length<200):Inv k (ways.foldl (linkAdd m) s):=by
 induction ways generalizing s with
 |nil=>exact h
 |cons t r ih =>
  have ht:=h1 t List.mem_cons_self
  have hl:LkOk (linkAdd m s t).lk:=h.lk.put ht (by have:=h3 t List.mem_cons_self; rw [List.length_append]; simp only [List.length_cons,List.length_nil]; omega) (by simp)
  refine ih (h.of rfl rfl rfl rfl hl h.upk (fun x hx=>⟨h.r.fit.short x hx,h.r.qok x hx⟩) h.nq h.r.tb h.r.bk.fine h.len hk h.r.seq h.boots) (fun x hx=>h1 x (List.mem_cons_of_mem _ hx)) (List.pairwise_cons.1 h2).2 fun x hx=>?_
  have hne : ¬ x=t:=by have:=(List.pairwise_cons.1 h2).1 x hx; omega
  show (linkOf (insL t (linkOf s.lk t++[m]) s.lk) x).length<200
  rw [linkOf_ins h.r.up,if_neg hne]
  exact h3 x (List.mem_cons_of_mem _ hx)
theorem Inv.enter {k:Nat} {s:Sm} (h:Inv k s) (hk:k+1<=1000) {m:Ms} (hm:0<=m.seq/\m.seq<18446744073709551616):Inv (k+1) (enterM s m).2:=by
 unfold enterM
 cases ha:admitM s m with
 |mk ways er =>
  simp only
  by_cases h0:er≠0
  ·rw [if_pos h0]; exact h.mono (by omega) hk
  ·rw [if_neg h0]
   have h0:er=0:=by simpa using h0
   rw [h0] at ha
   obtain ⟨w1,w2⟩:=admit_ways h.top ha
   by_cases hq:(intoM s m).any (fullN s)=true
   ·rw [if_pos hq]; exact h.mono (by omega) hk
   ·rw [if_neg hq]
    by_cases hf:ways.any (fullT s)=true
    ·rw [if_pos hf]; exact h.mono (by omega) hk
    ·rw [if_neg hf]
     have hroom : ∀ t∈ways,(linkOf s.lk t).length<200:=fun t ht=>by
      have hf:ways.any (fullT s)=false:=by simpa using hf
      have:=List.any_eq_false.1 hf t ht
      unfold fullT at this
      simp at this
      exact this
     unfold takenM
     have hb:Inv (k+1) { s with bk:=S.addF s.bk m.origin m.seq.toNat,seq:=if m.origin=s.site then m.seq.toNat else s.seq } :=
      h.of rfl rfl rfl rfl h.lk h.upk (fun x hx=>⟨h.r.fit.short x hx,h.r.qok x hx⟩) h.nq h.r.tb (h.r.bk.fine.add _ (by omega)) (lenF_add h.len h.r.bk.fine _ _) hk (by
       show (if m.origin=s.site then m.seq.toNat else s.seq)<_
       split
       ·omega
       ·exact h.r.seq) (by have:=h.boots; show s.boots<=_; omega)
     refine (hb.pushes hk m (intoM s m)).links hk (hopM m) ways w1 w2 fun t ht=>?_
     rw [pushes_lk]
     exact hroom t ht
theorem nameB_size {s:ByteArray} (h:nameB (txt s)=true):s.size<=20:=B.name_short h
theorem good_name {a:Ax} {l:List UInt8} (hg:goodA a=true) (hl:lettersL a.kind=some l) : ∀ c∈l,fitsA a c=true:=by
 unfold goodA at hg
 rw [hl] at hg
 simp only [Bool.and_eq_true,List.all_eq_true] at hg
 exact hg.1
theorem Inv.act {k:Nat} {s:Sm} (h:Inv k s) (hk:k+1<=1000) {a:Ax} (ha:a.Fits):Inv (k+1) (actM s a).2:=by
 have hk0:k<=1000:=by omega
 have up : ∀ {s':Sm},Inv k s'->Inv (k+1) s':=fun h=>h.mono (by omega) hk
 unfold actM
 by_cases hg:goodA a=false
 ·rw [if_pos hg]; exact up h
 rw [if_neg hg]
 have hg:goodA a=true:=by simpa using hg
 by_cases k1:a.kind=1
 ·rw [if_pos k1]
  have hf:=good_name hg (l:=[110,100]) (by rw [k1]; rfl)
  have hn:nameB (txt a.name)=true:=hf 110 (by simp)
  have hn2:inB a.n 1 1000=true:=hf 100 (by simp)
  unfold inB at hn2
  simp at hn2
  cases hq:findQ s.qs a.name with
  |some q=>rw [queueM_some hq]; exact up h
  |none =>
   rw [queueM_none hq]
   split
   ·exact up h
   ·rename_i h16
    have hnm:=findQ_none hq
    refine up (h.of rfl rfl rfl rfl h.lk (insK_up h.upk hnm) (fun x hx=>?_) (by rw [(insK_perm _ _ _).length_eq]; simp only [List.length_cons]; omega) h.r.tb h.r.bk.fine h.len hk0 h.r.seq h.boots)
    rcases List.mem_cons.1 ((insK_perm _ _ _).mem_iff.1 hx) with rfl | hx
    ·exact ⟨nameB_size hn,F.newS_ok (by omega) (by omega)⟩
    ·exact ⟨h.r.fit.short x hx,h.r.qok x hx⟩
 rw [if_neg k1]
 by_cases k2:a.kind=2
 ·rw [if_pos k2]
  cases hq:findQ s.qs a.name with
  |none=>rw [noQueueM_none hq]; exact up h
  |some q =>
   rw [noQueueM_some hq]
   refine up (h.of rfl rfl rfl rfl h.lk (upK_filter h.upk _) (fun x hx=>?_) (Nat.le_trans (List.length_filter_le _ _) h.nq) (h.r.tb.keep _) h.r.bk.fine h.len hk0 h.r.seq h.boots)
   have:=(List.mem_filter.1 hx).1
   exact ⟨h.r.fit.short x this,h.r.qok x this⟩
 rw [if_neg k2]
 by_cases k3:a.kind=3
 ·rw [if_pos k3]; exact up (h.table hk0 (h.r.tb.declare _))
 rw [if_neg k3]
 by_cases k4:a.kind=4
 ·rw [if_pos k4]; exact up (h.table hk0 (h.r.tb.drop _))
 rw [if_neg k4]
 by_cases k5:a.kind=5
 ·rw [if_pos k5]
  refine up (h.table hk0 ?_)
  unfold bindM
  split
  ·exact h.r.tb.bind ⟨ha.be,ha.bq,ha.bp⟩
  ·exact h.r.tb
 rw [if_neg k5]
 by_cases k6:a.kind=6
 ·rw [if_pos k6]; exact up (h.table hk0 (h.r.tb.unbind _))
 rw [if_neg k6]
 by_cases k7:a.kind=7
 ·rw [if_pos k7]; exact h.enter hk ha.m.s
 rw [if_neg k7]
 by_cases k8:a.kind=8
 ·rw [if_pos k8]; exact up (h.onQ hk0 fun q ok=>ok.give)
 rw [if_neg k8]
 by_cases k9:a.kind=9
 ·rw [if_pos k9]; exact up (h.onQ hk0 fun q ok=>ok.done _)
 rw [if_neg k9]
 by_cases k10:a.kind=10
 ·rw [if_pos k10]; exact up (h.onQ hk0 fun q ok=>ok.back _)
 rw [if_neg k10]
 by_cases k11:a.kind=11
 ·rw [if_pos k11]
  have hf:=good_name hg (l:=[115,99]) (by rw [k11]; rfl)
  have ht:inB a.to 1 8=true:=hf 115 (by simp)
  unfold inB at ht
  simp at ht
  unfold sentM
  split
  ·exact up h
  ·split
   ·exact up h
   ·have hfew:=linkOf_le h.r.few a.to
    split
    ·rename_i he
     refine up (h.of rfl rfl rfl rfl ?_ h.upk (fun x hx=>⟨h.r.fit.short x hx,h.r.qok x hx⟩) h.nq h.r.tb h.r.bk.fine h.len hk0 h.r.seq h.boots)
     refine ⟨?_,fun y hy=>?_,fun y hy=>?_,fun y hy=>?_⟩
     ·have:=insL_up a.to ((linkOf s.lk a.to).drop a.n.toNat) s.lk h.r.up
      unfold Up at this ⊢
      rw [List.pairwise_map] at this ⊢
      exact this.filter _
     all_goals (obtain ⟨hy1,hy2⟩:=List.mem_filter.1 hy; rcases insL_mem h.r.up hy1 with rfl | hy1)
     ·simp at hy2
     ·exact h.tos y hy1
     ·simp at hy2
     ·exact h.r.few y hy1
     ·simp at hy2
     ·exact h.some y hy1
    ·rename_i h1 h2
     refine up (h.of rfl rfl rfl rfl (h.lk.put ht (by rw [List.length_drop]; omega) (fun e=>?_)) h.upk (fun x hx=>⟨h.r.fit.short x hx,h.r.qok x hx⟩) h.nq h.r.tb h.r.bk.fine h.len hk0 h.r.seq h.boots)
     have:=congrArg List.length e
     rw [List.length_drop,List.length_nil] at this
     omega
 rw [if_neg k11]
 refine h.of rfl rfl rfl rfl h.lk (upK_of h.upk (by unfold bootM; rw [List.map_map]; rfl)) (fun x hx=>?_) (by unfold bootM; rw [List.length_map]; exact h.nq) h.r.tb h.r.bk.fine (fun i hi=>Nat.le_trans (h.len i hi) (by omega)) hk h.r.seq (by have:=h.boots; show s.boots+1<=_; omega)
 obtain ⟨y,hy,rfl⟩:=List.mem_map.1 hx
 exact ⟨h.r.fit.short y hy,(h.r.qok y hy).reset⟩
theorem goneQ_names {s s':Sm} (h:s'.qs.map Prod.fst=s.qs.map Prod.fst) (n:ByteArray):goneQ s' n=goneQ s n:=by
 unfold goneQ
 cases h1:findQ s.qs n with
 |none =>
  cases h2:findQ s'.qs n with
  |none=>rfl
  |some q =>
   have:=findQ_none h1
   rw [<- h] at this
   exact absurd (List.mem_map.2 ⟨_,findQ_some h2,rfl⟩) this
 |some q =>
  have hm:n∈s'.qs.map Prod.fst:=by rw [h]; exact List.mem_map.2 ⟨_,findQ_some h1,rfl⟩
  obtain ⟨q',hq'⟩:=findQ_mem hm
  rw [hq']
  rfl
theorem pushes_names (m:Ms) (l:List ByteArray) (s:Sm):(l.foldl (pushQ m) s).qs.map Prod.fst=s.qs.map Prod.fst:=by
 induction l generalizing s with
 |nil=>rfl
 |cons n r ih=>rw [List.foldl_cons,ih,pushQ_names]
theorem pushQ_tb (m:Ms) (s:Sm) (n:ByteArray):(pushQ m s n).tb=s.tb:=by
 unfold pushQ
 cases findQ s.qs n <;> rfl
theorem pushes_tb (m:Ms) (l:List ByteArray) (s:Sm):(l.foldl (pushQ m) s).tb=s.tb:=by
 induction l generalizing s with
 |nil=>rfl
 |cons n r ih=>rw [List.foldl_cons,ih,pushQ_tb]
theorem links_qs (m:Ms) (l:List Int) (s:Sm):(l.foldl (linkAdd m) s).qs=s.qs/\(l.foldl (linkAdd m) s).tb=s.tb:=by
 induction l generalizing s with
 |nil=>exact ⟨rfl,rfl⟩
 |cons n r ih=>rw [List.foldl_cons]; exact ih _
theorem into_taken (s:Sm) (m:Ms) (ways:List Int):intoM (takenM s m ways) m=intoM s m:=by
 have h1:=links_qs (hopM m) ways ((intoM s m).foldl (pushQ m) { s with bk:=S.addF s.bk m.origin m.seq.toNat,seq:=if m.origin=s.site then m.seq.toNat else s.seq })
 have hq:(takenM s m ways).qs.map Prod.fst=s.qs.map Prod.fst:=by
  unfold takenM
  rw [h1.1,pushes_names]
 have ht:(takenM s m ways).tb=s.tb:=by
  unfold takenM
  rw [h1.2,pushes_tb]
 unfold intoM
 rw [ht]
 exact List.filter_congr fun n _=>by rw [goneQ_names hq]
theorem into_enter (s:Sm) (m:Ms):intoM (enterM s m).2 m=intoM s m:=by
 unfold enterM
 cases ha:admitM s m with
 |mk ways er =>
  simp only
  split
  ·rfl
  ·split
   ·rfl
   ·split
    ·rfl
    ·exact into_taken s m ways
theorem toldM_not {s:Sm} {a:Ax} (h:a.kind≠7\/goodA a=false):toldM s a=[]:=by
 unfold toldM
 rw [if_neg]
 rintro ⟨h1,h2,_⟩
 rcases h with h | h
 ·exact h h2
 ·rw [h] at h1; cases h1
theorem kind_in {a:Ax} (hg:goodA a=true):1<=a.kind/\a.kind<=12:=by
 unfold goodA at hg
 cases hl:lettersL a.kind with
 |none=>rw [hl] at hg; cases hg
 |some l =>
  unfold lettersL at hl
  by_cases h:1<=a.kind/\a.kind<=12
  ·exact h
  ·exfalso
   rw [if_neg (by omega),if_neg (by omega),if_neg (by omega),if_neg (by omega),if_neg (by omega),if_neg (by omega),if_neg (by omega),if_neg (by omega),if_neg (by omega),if_neg (by omega),if_neg (by omega),if_neg (by omega)] at hl
   cases hl
set_option maxHeartbeats 1000000 in
theorem applyAny (p:Nat) (G:Nat->Prop) (s:Sm) (a:Ax) (k:Nat) (w:World) (h:SS w p G s) (hK:Kinds w) (ha:a.Fits) (hi:Inv k s) (hk:k+1<=1000) :
  Calls Tryz.prog 11 #[.pointer (some ⟨p,0,none⟩),av a] w (AppPost p G w (toldM s a) (actM s a).1 (actM s a).2):=by
 have r:=hi.r
 by_cases hg:goodA a=false
 ·rw [toldM_not (.inr hg),show actM s a=(2,s) by unfold actM; rw [if_pos hg]]
  exact apply_bad p G s a w h hK ha hg
 have hg:goodA a=true:=by simpa using hg
 have hin:=kind_in hg
 have e0 : ¬ goodA a=false:=by simp [hg]
 by_cases k7:a.kind=7
 ·have ea:actM s a=enterM s a.m:=by unfold actM; rw [if_neg e0,if_neg (by omega),if_neg (by omega),if_neg (by omega),if_neg (by omega),if_neg (by omega),if_neg (by omega),if_pos k7]
  have hgm:=good_name hg (l:=[109]) (by rw [k7]; rfl) 109 (by simp)
  have hgm:goodM a.m=true:=hgm
  unfold goodM at hgm
  simp only [Bool.and_eq_true,inB,decide_eq_true_eq] at hgm
  have hin:a.m.In:=⟨ha.m.e,ha.m.k,ha.m.s,by omega⟩
  have et:toldM s a=if (enterM s a.m).1=0 then intoM (enterM s a.m).2 a.m else []:=by
   unfold toldM
   rw [ea]
   by_cases h0:(enterM s a.m).1=0
   ·rw [if_pos ⟨hg,k7,h0⟩,if_pos h0,into_enter]
   ·rw [if_neg (fun h=>h0 h.2.2),if_neg h0]
  rw [et,ea]
  have hready:(enterM s a.m).2.Fit/\(enterM s a.m).2.tb.Ok:=by
   have:=hi.enter hk (m:=a.m) ha.m.s
   exact ⟨this.r.fit,this.r.tb⟩
  exact apply7_any p G s a w h hK ha hg k7 _ _ hready.1 hready.2 hin fun V b=>enter_any p G s a V (h.kept b) r hin fun ways hw=>by
   obtain ⟨h1,h2⟩:=admit_ways hi.top hw
   exact ⟨h1,by have:=ways_short h1 h2; omega⟩
 rw [toldM_not (.inl k7)]
 by_cases k1:a.kind=1
 ·have ea:actM s a=queueM s a.name a.n:=by unfold actM; rw [if_neg e0,if_pos k1]
  have hn2:inB a.n 1 1000=true:=good_name hg (l:=[110,100]) (by rw [k1]; rfl) 100 (by simp)
  unfold inB at hn2
  simp at hn2
  rw [ea]
  exact apply1_any p G s a w h hK ha hg k1 _ _ fun V b=>makeQ_any p G s a V (h.kept b) r.fit ha.nm hn2
 by_cases k2:a.kind=2
 ·have ea:actM s a=noQueueM s a.name:=by unfold actM; rw [if_neg e0,if_neg k1,if_pos k2]
  rw [ea]
  exact apply2_any p G s a w h hK ha hg k2 _ _ fun V b=>dropQ_any p G s a V (h.kept b) r.fit r.tb ha.nm
 by_cases k3:a.kind=3
 ·have ea:actM s a=((s.tb.declare ⟨a.xn,a.xk,a.xf⟩).1,{ s with tb:=(s.tb.declare ⟨a.xn,a.xk,a.xf⟩).2 }):=by unfold actM; rw [if_neg e0,if_neg k1,if_neg k2,if_pos k3]
  rw [ea]
  exact apply3_any p G s a w h hK ha hg k3 _ _ fun V b=>makeEx_any p G s a V (h.kept b) r.tb ha.xn
 by_cases k4:a.kind=4
 ·have ea:actM s a=((s.tb.drop a.name).1,{ s with tb:=(s.tb.drop a.name).2 }):=by unfold actM; rw [if_neg e0,if_neg k1,if_neg k2,if_neg k3,if_pos k4]
  rw [ea]
  exact apply4_any p G s a w h hK ha hg k4 _ _ fun V b=>dropEx_any p G s a V (h.kept b) r.tb ha.nm
 by_cases k5:a.kind=5
 ·have ea:actM s a=((bindM s ⟨a.be,a.bq,a.bp⟩).1,{ s with tb:=(bindM s ⟨a.be,a.bq,a.bp⟩).2 }):=by unfold actM; rw [if_neg e0,if_neg k1,if_neg k2,if_neg k3,if_neg k4,if_pos k5]
  rw [ea]
  exact apply5_any p G s a w h hK ha hg k5 _ _ fun V b=>makeBd_any p G s a V (h.kept b) r.fit r.tb ⟨ha.be,ha.bq,ha.bp⟩
 by_cases k6:a.kind=6
 ·have ea:actM s a=((s.tb.unbind ⟨a.be,a.bq,a.bp⟩).1,{ s with tb:=(s.tb.unbind ⟨a.be,a.bq,a.bp⟩).2 }):=by unfold actM; rw [if_neg e0,if_neg k1,if_neg k2,if_neg k3,if_neg k4,if_neg k5,if_pos k6]
  rw [ea]
  exact apply6_any p G s a w h hK ha hg k6 _ _ fun V b=>dropBd_any p G s a V (h.kept b) r.tb ⟨ha.be,ha.bq,ha.bp⟩
 by_cases k8:a.kind=8
 ·have ea:actM s a=onQ s a.name giveM:=by unfold actM; rw [if_neg e0,if_neg k1,if_neg k2,if_neg k3,if_neg k4,if_neg k5,if_neg k6,if_neg k7,if_pos k8]
  rw [ea]
  exact apply8_any p G s a w h hK ha hg k8 _ _ fun V b=>give14_any p G s a V (h.kept b) r.fit r.qok ha.nm
 by_cases k9:a.kind=9
 ·have ea:actM s a=onQ s a.name (fun q=>q.done a.tag.toNat):=by unfold actM; rw [if_neg e0,if_neg k1,if_neg k2,if_neg k3,if_neg k4,if_neg k5,if_neg k6,if_neg k7,if_neg k8,if_pos k9]
  rw [ea]
  exact apply9_any p G s a w h hK ha hg k9 _ _ fun V b=>ack14_any p G s a V (h.kept b) r.fit r.qok ha.nm ha.t
 by_cases k10:a.kind=10
 ·have ea:actM s a=onQ s a.name (fun q=>q.back a.tag.toNat):=by unfold actM; rw [if_neg e0,if_neg k1,if_neg k2,if_neg k3,if_neg k4,if_neg k5,if_neg k6,if_neg k7,if_neg k8,if_neg k9,if_pos k10]
  rw [ea]
  exact apply10_any p G s a w h hK ha hg k10 _ _ fun V b=>back14_any p G s a V (h.kept b) r.fit r.qok ha.nm ha.t
 by_cases k11:a.kind=11
 ·have ea:actM s a=sentM s a.to a.n.toNat:=by unfold actM; rw [if_neg e0,if_neg k1,if_neg k2,if_neg k3,if_neg k4,if_neg k5,if_neg k6,if_neg k7,if_neg k8,if_neg k9,if_neg k10,if_pos k11]
  have hf:=good_name hg (l:=[115,99]) (by rw [k11]; rfl)
  have ht:inB a.to 1 8=true:=hf 115 (by simp)
  have hn:inB a.n 1 200=true:=hf 99 (by simp)
  unfold inB at ht hn
  simp at ht hn
  rw [ea]
  exact apply11_any p G s a w h hK ha hg k11 _ _ fun V b=>sent14_any p G s a a.n.toNat V (h.kept b) r.fit r.up (by have:=r.nlk; omega) (by unfold I64; omega) (by omega) (by omega)
 have k12:a.kind=12:=by omega
 have ea:actM s a=(0,bootM s):=by unfold actM; rw [if_neg e0,if_neg k1,if_neg k2,if_neg k3,if_neg k4,if_neg k5,if_neg k6,if_neg k7,if_neg k8,if_neg k9,if_neg k10,if_neg k11]
 rw [ea]
 exact apply12_any p G s a w h hK ha hg k12 _ _ fun V b=>boot14_any p G s a V (h.kept b) r.fit r.qok (by have:=hi.boots; omega)
end Go.Proofs.YtnhnpnafchkhiaaGreatDoor
