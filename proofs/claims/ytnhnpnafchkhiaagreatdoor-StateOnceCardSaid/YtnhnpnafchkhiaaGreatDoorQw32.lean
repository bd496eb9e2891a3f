import Derived.Test.YtnhnpnafchkhiaaGreatDoorQwA
import Derived.Test.YtnhnpnafchkhiaaGreatDoorQw30
import Derived.Test.YtnhnpnafchkhiaaGreatDoorQw28
import Derived.Test.YtnhnpnafchkhiaaGreatDoorQw24
namespace Go.Proofs.YtnhnpnafchkhiaaGreatDoor
open Go.RowKit
def toM (m:Ms):F.Msg:=⟨m.origin,m.seq,m.hop,m.ex,m.key,m.body⟩
def pushQ (m:Ms) (s:Sm) (n:ByteArray):Sm:=match findQ s.qs n with
 |some q=>{ s with qs:=setQ s.qs n (q.push (toM m)).2 }
 |none=>s
theorem pushQ_some {m:Ms} {s:Sm} {n:ByteArray} {q:F.St} (h:findQ s.qs n=some q):pushQ m s n={ s with qs:=setQ s.qs n (q.push (toM m)).2 }:=by unfold pushQ; rw [h]
def linkAdd (m:Ms) (s:Sm) (t:Int):Sm:={ s with lk:=insL t (linkOf s.lk t++[m]) s.lk }
def hopM (m:Ms):Ms:={ m with hop:=m.hop+1 }
theorem pushQ_names (m:Ms) (s:Sm) (n:ByteArray):(pushQ m s n).qs.map Prod.fst=s.qs.map Prod.fst:=by
 cases h:findQ s.qs n with
 |none=>unfold pushQ; rw [h]
 |some q=>rw [pushQ_some h]; exact setQ_names _ _ _
theorem pushQ_lk (m:Ms) (s:Sm) (n:ByteArray):(pushQ m s n).lk=s.lk:=by
 unfold pushQ
 split <;> rfl
theorem findQ_mem {l:List (ByteArray × F.St)} {n:ByteArray} (h:n∈l.map Prod.fst) : ∃ q,findQ l n=some q:=by
 cases hq:findQ l n with
 |none=>exact absurd h (findQ_none hq)
 |some q=>exact ⟨q,rfl⟩
structure Sm.Whole (s:Sm):Prop where
 fit:s.Fit
 qok : ∀ x∈s.qs,x.2.Ok
theorem Sm.Whole.push {s:Sm} (h:s.Whole) (m:Ms) (n:ByteArray):(pushQ m s n).Whole:=by
 have hn:=pushQ_names m s n
 have hl:=pushQ_lk m s n
 refine ⟨⟨by rw [hn]; exact h.fit.names,fun x hx=>?_,by rw [hl]; exact h.fit.tos,by rw [hl]; exact h.fit.small,by rw [hl]; exact h.fit.few⟩,fun x hx=>?_⟩
 ·have:x.1∈(pushQ m s n).qs.map Prod.fst:=List.mem_map.2 ⟨x,hx,rfl⟩
  rw [hn] at this
  obtain ⟨y,hy,e⟩:=List.mem_map.1 this
  rw [<- e]
  exact h.fit.short y hy
 ·cases hq:findQ s.qs n with
  |none=>unfold pushQ at hx; rw [hq] at hx; exact h.qok x hx
  |some q =>
   rw [pushQ_some hq] at hx
   obtain ⟨x1,x2⟩:=x
   rcases mem_setQ hx with ⟨rfl,rfl⟩ | ⟨_,hm⟩
   ·exact (h.qok _ (findQ_some hq)).push _
   ·exact h.qok _ hm
theorem pushAll_whole {s:Sm} (h:s.Whole) (m:Ms) (l:List ByteArray):(l.foldl (pushQ m) s).Whole/\(l.foldl (pushQ m) s).qs.map Prod.fst=s.qs.map Prod.fst/\(l.foldl (pushQ m) s).lk=s.lk:=by
 induction l generalizing s with
 |nil=>exact ⟨h,rfl,rfl⟩
 |cons n t ih =>
  obtain ⟨h1,h2,h3⟩:=ih (h.push m n)
  exact ⟨h1,h2.trans (pushQ_names m s n),h3.trans (pushQ_lk m s n)⟩
def takenM (s:Sm) (m:Ms) (ways:List Int):Sm :=
 ways.foldl (linkAdd (hopM m)) ((intoM s m).foldl (pushQ m) { s with bk:=S.addF s.bk m.origin m.seq.toNat,seq:=if m.origin=s.site then m.seq.toNat else s.seq })
def enterM (s:Sm) (m:Ms):Int × Sm:=match admitM s m with
 |(ways,er)=>if er≠0 then (er,s) else if (intoM s m).any (fullN s)=true then (6,s) else if ways.any (fullT s)=true then (6,s) else (0,takenM s m ways)
def Away (V:World) (G:Nat->Prop) (v:Value) (n:Nat):Prop:=n=0 \/ ∃ g cap,v=.slice (some ⟨g,0,none⟩) n cap/\g<V.heap.size /\ ¬ G g
theorem Away.move {V V':World} {G G':Nat->Prop} {v:Value} {n:Nat} (h:Away V G v n) (m:Moved V V' G G'):Away V' G' v n :=
 h.imp id fun ⟨g,cap,h1,h2,h3⟩=>⟨g,cap,h1,Nat.lt_of_lt_of_le h2 m.size,fun hg=>(m.sub g hg).elim h3 fun h=>by omega⟩
theorem Row.away {V V':World} {G G':Nat->Prop} {v:Value} {cs:List Value} (h:Row V v cs) (a:Away V G v cs.length) (m:Moved V V' G G'):Row V' v cs:=by
 rcases h with h | ⟨ad,cap,hv,h1,h2,h3⟩
 ·exact .inl h
 ·refine .inr ⟨ad,cap,hv,h1,h2,fun j u hj=>?_⟩
  have hj':=(List.getElem?_eq_some_iff.1 hj).1
  rcases a with a | ⟨g,cap',hv',hg,hn⟩
  ·omega
  ·rw [hv] at hv'
   injection hv' with e
   injection e with e
   have hb:(ad.add j).block=g:=by rw [e]; exact Addr.block_add _ _
   rw [World.cell?_of_block (w:=V) (a:=ad.add j) (by rw [hb]; exact m.block g hg hn)]
   exact h3 j u hj
theorem away_of {V:World} {G:Nat->Prop} {base:Nat} {v:Value} {cs:List Value} (hr:Row V v cs) (hn:Newer base v cs.length) (hG : ∀ k,G k->k<base):Away V G v cs.length:=by
 rcases hn with hn | ⟨g,cap,hv,hg⟩
 ·exact .inl hn
 ·by_cases h0:cs.length=0
  ·exact .inl h0
  ·refine .inr ⟨g,cap,hv,?_,fun hk=>by have:=hG g hk; omega⟩
   rcases hr with ⟨_,e⟩ | ⟨ad,cap',e,_,_,h3⟩
   ·rw [e] at h0; exact absurd rfl h0
   ·rw [hv] at e
    injection e with e
    injection e with e
    have hc:=h3 0 _ (List.getElem?_eq_getElem (show 0<cs.length by omega))
    have:=World.block_lt_of_cell? V _ hc
    rw [<- e,Addr.block_add] at this
    exact this
def EIn (w V:World) (p bm:Nat) (G:Nat->Prop) (s:Sm) (m:Ms) (vn:Value) (ns:List ByteArray) (vw:Value) (ts:List Int):Prop :=
 ∃ G',SS V p G' s/\Moved w V G G'/\(V.heap[bm]? = some (.cells (mcells m).toArray 40 (0,0)) /\ ¬ G' bm)/\(Row V vn (scells ns)/\Away V G' vn ns.length)/\Row V vw (icells ts)/\Away V G' vw ts.length
theorem EIn.step {w V V':World} {p bm:Nat} {G G' G'':Nat->Prop} {s':Sm} {m:Ms} {vn:Value} {ns:List ByteArray} {vw:Value} {ts:List Int} (m0:Moved w V G G') (hb:V.heap[bm]? = some (.cells (mcells m).toArray 40 (0,0)) /\ ¬ G' bm) (hn:Row V vn (scells ns)/\Away V G' vn ns.length) (ht:Row V vw (icells ts)/\Away V G' vw ts.length) (h':SS V' p G'' s') (m':Moved V V' G' G''):EIn w V' p bm G s' m vn ns vw ts:=by
 have hlt:=(yyD hb.1).1
 refine ⟨G'',h',m0.trans m',⟨(m'.block bm hlt hb.2).trans hb.1,fun hg=>(m'.sub bm hg).elim hb.2 fun h=>by omega⟩,⟨hn.1.away (by rw [scells_length]; exact hn.2) m',hn.2.move m'⟩,ht.1.away (by rw [icells_length]; exact ht.2) m',ht.2.move m'⟩
theorem EIn.pushAt {w V:World} {p bm:Nat} {G:Nat->Prop} {sc:Sm} {m:Ms} {vn:Value} {ns:List ByteArray} {vw:Value} {ts:List Int} (h:EIn w V p bm G sc m vn ns vw ts) (wh:sc.Whole) {x:ByteArray} {q:F.St} (hx:x.size<=maxLen) (hq:findQ sc.qs x=some q) :
  ∃ (qm b:Nat) (Fq:Nat->Prop),(∀ V',V'.heap[p]? = V.heap[p]? -> V'.heap[qm]? = V.heap[qm]? -> V'.heap[bm]? = V.heap[bm]? -> V'.cell? ⟨p,7,none⟩=some (.map (some qm))/\(Instr.lookup 83 (.map (some qm)) (.string x) false).run Tryz.prog V'=.ok (.pointer (some ⟨b,0,none⟩)) V'/\V'.cell? ⟨bm,0,none⟩=some (.int .i64 m.origin)/\V'.cell? ⟨bm,1,none⟩=some (.int .u64 m.seq)/\V'.cell? ⟨bm,2,none⟩=some (.int .i64 m.hop)/\V'.cell? ⟨bm,3,none⟩=some (.string m.ex)/\V'.cell? ⟨bm,4,none⟩=some (.string m.key)/\V'.cell? ⟨bm,5,none⟩=some (.string m.body))/\F.Q V.drew b Fq q /\ ∀ V' F',F.Q V' b F' (q.push (toM m)).2->Moved V.drew V' Fq F'->EIn w V' p bm G (pushQ m sc x) m vn ns vw ts/\V'.heap[p]? = V.heap[p]? /\ V'.heap[qm]? = V.heap[qm]? /\ V'.heap[bm]? = V.heap[bm]? := by
 obtain ⟨G',⟨ft,d,hs,hF⟩,m0,hb,hn,ht⟩:=h
 rcases hs.queueAt wh.fit x with ⟨q1,_⟩ | ⟨q',b,q1,q2,q3,q4⟩
 ·rw [q1] at hq; cases hq
 obtain rfl:=Option.some.inj (q1.symm.trans hq)
 refine ⟨d.qm,b,ft (.queue x),fun V' h1 h2 h3=>?_,q4.same fun _ _=>rfl,fun V' F' t' m'=>?_⟩
 ·have hc:=(cells10 (h1.trans hs.blk)).2.2.2.2.2.2.2.1
  have hl:=DAt.look (w:=V') (hs.qmap.same h2) (hs.dl wh.fit) hx
  rw [q2] at hl
  exact ⟨hc,hl,cellsM (h3.trans hb.1)⟩
 ·have m1:Moved V V' (ft (.queue x)) F':=Moved.from_below (drew_below V) m'
  have e:G'=fun k => ∃ a,ft a k:=funext fun k=>propext (hF k)
  have h':=hs.turnQueue q3 m1 t'
  have mm:Moved V V' G' (fun k => ∃ a,upd ft (.queue x) F' a k):=by rw [e]; exact moved_upd m1
  have hE:=EIn.step m0 hb hn ht ⟨_,d,h',fun k=>Iff.rfl⟩ mm
  rw [<- pushQ_some hq] at hE
  refine ⟨hE,hs.others m1 .main (by simp) p ((hs.fm p).2 rfl),hs.others m1 .qmap (by simp) d.qm ((hs.fq _).2 rfl),?_⟩
  exact mm.block bm (yyD hb.1).1 hb.2
structure Like (V V':World) (p lm bm:Nat):Prop where
 p:V'.heap[p]? = V.heap[p]?
 lm:V'.heap[lm]? = V.heap[lm]?
 bm:V'.heap[bm]? = V.heap[bm]?
theorem EIn.addAt {w V:World} {p bm:Nat} {G:Nat->Prop} {sc:Sm} {m:Ms} {vn:Value} {ns:List ByteArray} {vw:Value} {ts:List Int} (h:EIn w V p bm G sc m vn ns vw ts) (fit:sc.Fit) (up:Up sc.lk) (hnl:sc.lk.length<=1000000) {t:Int} (ht:I64 t) :
  ∃ (lm:Nat) (vl:Value),(p<V.heap.size/\lm<V.heap.size/\bm<V.heap.size)/\(∀ V':World,V'.heap[p]? = V.heap[p]? -> V'.cell? ⟨p,9,none⟩=some (.map (some lm)))/\(∀ V':World,V'.heap[bm]? = V.heap[bm]? -> V'.cell? ⟨bm,0,none⟩=some (.int .i64 m.origin)/\V'.cell? ⟨bm,1,none⟩=some (.int .u64 m.seq)/\V'.cell? ⟨bm,2,none⟩=some (.int .i64 m.hop)/\V'.cell? ⟨bm,3,none⟩=some (.string m.ex)/\V'.cell? ⟨bm,4,none⟩=some (.string m.key)/\V'.cell? ⟨bm,5,none⟩=some (.string m.body))/\(∀ V':World,V'.heap[lm]? = V.heap[lm]? -> (Instr.lookup 86 (.map (some lm)) (.int .i64 t) false).run Tryz.prog V'=.ok vl V')/\OwnM V 0 vl (linkOf sc.lk t) /\
   ∀ X w2 v',Below V.heap.size V X->X.grownBy w2 vl.ownBlock->OwnM w2 0 v' (linkOf sc.lk t++[m])->K.NewOr X vl v'->Like V w2 p lm bm /\ ∃ w3,(Instr.mapUpdate 86 (.map (some lm)) (.int .i64 t) v').run Tryz.prog w2=.ok () w3/\EIn w w3 p bm G (linkAdd m sc t) m vn ns vw ts/\w3.heap[p]? = V.heap[p]? /\ w3.heap[bm]? = V.heap[bm]? := by
 obtain ⟨G',⟨ft,d,hs,hF⟩,m0,hb,hn,htt⟩:=h
 have hpl:=hs.lts .main p ((hs.fm p).2 rfl)
 have hll:=hs.lts .lmap d.lm ((hs.fl _).2 rfl)
 have hbl:=(yyD hb.1).1
 have hfoot:=hs.linkFoot fit t
 refine ⟨d.lm,linkV d t,⟨hpl,hll,hbl⟩,fun V' h1=>(cells10 (h1.trans hs.blk)).2.2.2.2.2.2.2.2.2,fun V' h1=>cellsM (h1.trans hb.1),fun V' h1=>LAt.look (w:=V') (hs.lmap.same h1) (hs.ll fit) ht,hs.linkAt fit t,fun X w2 v' bX g2 o2 hnew=>?_⟩
 have hX:SAt X p ft d sc:=hs.same fun a k hk=>bX.block k (hs.lts a k hk)
 have ne : ∀ k,k<V.heap.size -> ¬ ft (.link t) k->w2.heap[k]? = V.heap[k]? := fun k hk hn=>(g2.block k (Nat.lt_of_lt_of_le hk bX.size) fun e=>hn ((hfoot k).2 e.symm)).trans (bX.block k hk)
 have np : ¬ ft (.link t) p:=fun hk=>by have:=hs.one _ _ p hk ((hs.fm p).2 rfl); cases this
 have nl : ¬ ft (.link t) d.lm:=fun hk=>by have:=hs.one _ _ d.lm hk ((hs.fl _).2 rfl); cases this
 have nb : ¬ ft (.link t) bm:=fun hk=>hb.2 ((hF bm).2 ⟨_,hk⟩)
 have L:Like V w2 p d.lm bm:=⟨ne p hpl np,ne d.lm hll nl,ne bm hbl nb⟩
 obtain ⟨va,vc,hv⟩:=o2.rng.slice
 have hl2:LAt w2 d.lm d.es:=hs.lmap.same L.lm
 have hlen:d.es.length<=1000000000:=by
  have h1:=congrArg List.length hs.tos
  simp only [List.length_map] at h1
  omega
 rw [hv] at o2 hnew ⊢
 obtain ⟨w3,r3,d3,g3⟩:=hl2.put (hs.ll fit) ht va _ vc hlen
 obtain ⟨s3,m3⟩:=hX.putLink fit up ht g2 o2 hnew d3 g3
 have e:G'=fun k => ∃ a,ft a k:=funext fun k=>propext (hF k)
 have mm:=Moved.from_below bX m3
 rw [<- e] at mm
 refine ⟨L,w3,r3,EIn.step m0 hb hn htt ⟨_,_,s3,fun k=>Iff.rfl⟩ mm,?_,mm.block bm hbl hb.2⟩
 have hpq:p≠d.lm:=fun e=>by have:=hs.one .main .lmap p ((hs.fm p).2 rfl) ((hs.fl p).2 e); cases this
 exact (g3.block p (by have:=g2.size; have:=bX.size; omega) (by simpa using hpq)).trans L.p
theorem insL_mem {α:Type} {t:Int} {v:α} {l:List (Int × α)} (up:Up l) {x:Int × α} (h:x∈insL t v l):x=(t,v)\/x∈l:=by
 rcases List.mem_cons.1 ((insL_perm t v l up).mem_iff.1 h) with h | h
 ·exact .inl h
 ·exact .inr (List.mem_filter.1 h).1
theorem insL_len {α:Type} {t:Int} {v:α} {l:List (Int × α)} (up:Up l):(insL t v l).length<=l.length+1:=by
 rw [(insL_perm t v l up).length_eq,List.length_cons]
 have:=List.length_filter_le (fun y:Int × α => !decide (y.1=t)) l
 omega
structure Lk (n:Nat) (s:Sm):Prop where
 fit:s.Fit
 up:Up s.lk
 few : ∀ x∈s.lk,x.2.length<=200+n
 len:s.lk.length<=8+n
theorem linkOf_le {s:Sm} {k:Nat} (h : ∀ x∈s.lk,x.2.length<=k) (t:Int):(linkOf s.lk t).length<=k:=by
 unfold linkOf
 cases hf:s.lk.find? fun x=>decide (x.1=t) with
 |none=>exact Nat.zero_le _
 |some y=>exact h y (List.mem_of_find?_eq_some hf)
theorem Lk.add {n:Nat} {s:Sm} (h:Lk n s) (hn:n<=500) (m:Ms) {t:Int} (ht:I64 t):Lk (n+1) (linkAdd m s t):=by
 have hl:=linkOf_le h.few t
 have hu:=insL_up t (linkOf s.lk t++[m]) s.lk h.up
 have hf : ∀ x∈(linkAdd m s t).lk,x.2.length<=200+(n+1):=fun x hx=>by
  rcases insL_mem h.up hx with rfl | hx
  ·show (linkOf s.lk t++[m]).length<=_
   rw [List.length_append]
   simp only [List.length_cons,List.length_nil]
   omega
  ·have:=h.few x hx; omega
 refine ⟨⟨h.fit.names,h.fit.short,hu.imp fun h=>Int.ne_of_lt h,fun x hx=>?_,fun x hx=>by have:=hf x hx; omega⟩,hu,hf,?_⟩
 ·rcases insL_mem h.up hx with rfl | hx
  ·exact ht
  ·exact h.fit.small x hx
 ·have:=insL_len (t:=t) (v:=linkOf s.lk t++[m]) h.up
  have:=h.len
  show (insL t (linkOf s.lk t++[m]) s.lk).length<=_
  omega
theorem linkAll_lk {s:Sm} {n:Nat} (h:Lk n s) (m:Ms) (l:List Int) (hl : ∀ t∈l,I64 t) (hn:n+l.length<=500):Lk (n+l.length) (l.foldl (linkAdd m) s):=by
 induction l generalizing s n with
 |nil=>exact h
 |cons t r ih =>
  have h1:=h.add (by simp only [List.length_cons] at hn; omega) m (hl t List.mem_cons_self)
  have h2:=ih h1 (fun x hx=>hl x (List.mem_cons_of_mem _ hx)) (by simp only [List.length_cons] at hn; omega)
  rw [show n+(t::r).length=n+1+r.length by simp only [List.length_cons]; omega]
  exact h2
theorem infoM:(Tryz.prog.info? 40).map (·.size)=some 6:=by kernel_rfl
theorem oneM (m:Ms):(mcells m).toArray.all (·.oneCell')=true:=by simp [mcells,Value.oneCell']
structure Sm.Ready (s:Sm):Prop where
 fit:s.Fit
 tb:s.tb.Ok
 bk:s.Bk
 seq:s.seq<18446744073709551616
 qok : ∀ x∈s.qs,x.2.Ok
 up:Up s.lk
 few : ∀ x∈s.lk,x.2.length<=200
 nlk:s.lk.length<=8
structure Ms.In (m:Ms):Prop where
 ex:m.ex.size<=maxLen
 key:m.key.size<=maxLen
 seq:0<=m.seq/\m.seq<18446744073709551616
 hop:0<=m.hop/\m.hop<=1000
theorem intoM_in {s:Sm} (r:s.Ready) (m:Ms) : ∀ n∈intoM s m,n.size<=maxLen /\ ∃ q,findQ s.qs n=some q/\q.Ok:=by
 intro n hn
 obtain ⟨h1,h2⟩:=List.mem_filter.1 hn
 refine ⟨queuesT_fit r.tb m.ex m.key n h1,?_⟩
 unfold goneQ at h2
 cases hq:findQ s.qs n with
 |none=>rw [hq] at h2; cases h2
 |some q=>exact ⟨q,rfl,r.qok _ (findQ_some hq)⟩
set_option maxRecDepth 20000 in
set_option maxHeartbeats 4000000 in
theorem enter_any (p:Nat) (G:Nat->Prop) (s:Sm) (a:Ax) (w:World) (h:SS w p G s) (r:s.Ready) (hm:a.m.In) (hways : ∀ ways,admitM s a.m=(ways,0)->(∀ t∈ways,1<=t/\t<=8)/\ways.length<=100) :
  Calls Tryz.prog 87 #[.pointer (some ⟨p,0,none⟩),av a] w (DeedPost p G w (enterM s a.m).1 (enterM s a.m).2):=by
 obtain ⟨W,fold⟩ : ∃ W,w.alloc (.cells #[.int .i64 a.kind,.string a.name,.int .i64 a.n,.int .u64 a.tag,.int .i64 a.to,.string a.xn,.int .i64 a.xk,.bool a.xf,.string a.be,.string a.bq,.string a.bp,.int .i64 a.m.origin,.int .u64 a.m.seq,.int .i64 a.m.hop,.string a.m.ex,.string a.m.key,.string a.m.body] 42)=W:=⟨_,rfl⟩
 have hB:Boxd w W a:=by rw [<- fold]; exact boxd_new w a
 obtain ⟨x0,x1,x2,x3,x4,x5,x6,x7,x8,x9,x10,x11,x12,x13,x14,x15,x16⟩:=cells17 hB.box
 obtain ⟨m,hmm⟩ : ∃ m,a.m=m:=⟨_,rfl⟩
 rw [hmm] at x11 x12 x13 x14 x15 x16 hm hways ⊢
 obtain ⟨X0,foldX⟩ : ∃ X,W.alloc (.cells #[.int .i64 0,.int .u64 0,.int .i64 0,.string ⟨#[]⟩,.string ⟨#[]⟩,.string ⟨#[]⟩] 40)=X:=⟨_,rfl⟩
 have zX:X0.heap[W.heap.size]? = some (.cells (mcells zM).toArray 40 (0,0)):=by rw [<- foldX]; exact heap_alloc_new W _
 have bX0:Below W.heap.size W X0:=by rw [<- foldX]; exact box_below W _
 obtain ⟨V1,foldV1⟩ : ∃ X,X0.setRow W.heap.size (mcells m).toArray=X:=⟨_,rfl⟩
 have bV1:Below W.heap.size W V1:=by rw [<- foldV1]; exact below_setRow bX0 (yyH _) _
 have kV1:V1.heap[W.heap.size]? = some (.cells (mcells m).toArray 40 (0,0)):=by rw [<- foldV1]; exact setRow_heap _ _ _ _ _ _ zX
 have b1:=keptW hB.bel bV1
 have hS1:=h.kept b1
 have hA:=admit_any p G s m V1 hS1 r.tb r.bk r.seq hm.ex hm.seq
 have H1:Hid (SS w p G s/\s.Ready/\m.In/\Below w.heap.size w V1/\V1.heap[W.heap.size]? = some (.cells (mcells m).toArray 40 (0,0))/\(∀ k,G k->k<w.heap.size)/\w.heap.size<=W.heap.size):=⟨h,r,hm,b1,kV1,h.lts,hB.bel.size⟩
 have HZ:Hid (X0.heap[W.heap.size]? = some (.cells (mcells zM).toArray 40 (0,0))):=zX
 have HV1:Hid (X0.setRow W.heap.size (mcells m).toArray=V1):=foldV1
 have HW:Hid (∀ ways,admitM s m=(ways,0)->(∀ t∈ways,1<=t/\t<=8)/\ways.length<=100):=hways
 obtain ⟨⟨ways,er⟩,hr⟩ : ∃ z,admitM s m=z:=⟨_,rfl⟩
 rw [hr] at hA
 replace hA:Calls Tryz.prog 137 #[.pointer (some ⟨p,0,none⟩),mv m] V1 (AdmPost V1 ways er):=hA
 obtain ⟨⟨er',s'⟩,he⟩ : ∃ z,enterM s m=z:=⟨_,rfl⟩
 have HE:Hid ((if er≠0 then (er,s) else if (intoM s m).any (fullN s)=true then (6,s) else if ways.any (fullT s)=true then (6,s) else (0,takenM s m ways))=(er',s')):=by
  have:=he
  unfold enterM at this
  rw [hr] at this
  exact this
 rw [he]
 show Calls _ _ _ _ (DeedPost p G w er' s')
 have HR:Hid (admitM s m=(ways,er)):=hr
 clear hB x0 x1 x2 x3 x4 x5 x6 x7 x8 x9 x10 zX bX0 bV1 kV1 b1 hS1 h r hm hways hr he hmm foldV1
 go_enter Tryz.func87,Tryz.ntmps87
 go_wp2_with (first
  |refine wpList_store_row rfl 40 _ _ rfl W.heap.size (mcells m).toArray rfl rfl 40 (mcells zM).toArray HZ.out infoM rfl (oneM m) ?_
  |refine wpList_load_row rfl 40 _ rfl W.heap.size rfl 40 (mcells m).toArray (0,0) _ (by first | exact H1.out.2.2.2.2.1 | (rw [HV1.out]; exact H1.out.2.2.2.2.1)) Tryz.underlying40 rfl infoM ?_)
 try rw [HV1.out]
 refine hA.mono ?_
 rintro e V2 ⟨vw,rfl,rw2,b2⟩
 clear hA
 have H2:Hid (Below w.heap.size w V2/\V2.heap[W.heap.size]? = some (.cells (mcells m).toArray 40 (0,0))/\O.RowI V2 V1.heap.size vw ways):=⟨keptW H1.out.2.2.2.1 b2,(b2.block _ (yyD H1.out.2.2.2.2.1).1).trans H1.out.2.2.2.2.1,rw2⟩
 obtain ⟨wya,wyc,hvw⟩:=rw2.slice
 obtain ⟨nw,hnw⟩ : ∃ z,ways.length=z:=⟨_,rfl⟩
 rw [hnw] at hvw
 subst hvw
 have HNw:Hid (ways.length=nw):=hnw
 clear rw2 b2 hnw fold foldX HZ HV1 x11 x12 x13 x14 x15 x16
 by_cases her:er=0
 rotate_left
 ·obtain ⟨rfl,rfl⟩:er=er'/\s=s':=by have:=HE.out; rw [if_pos her] at this; exact Prod.mk.inj this
  go_wp2
  go_ret
  exact deed_none H1.out.1 H2.out.1 _
 subst her
 have HE1:Hid ((if (intoM s m).any (fullN s)=true then ((6:Int),s) else if ways.any (fullT s)=true then (6,s) else (0,takenM s m ways))=(er',s')):=by have:=HE.out; rw [if_neg (by simp)] at this; exact this
 have hI:=into_any p G s m V2 (H1.out.1.kept H2.out.1) H1.out.2.1.fit H1.out.2.1.tb H1.out.2.2.1.ex H1.out.2.2.1.key
 clear HE
 go_wp2_with (refine wpList_load_row rfl 40 _ rfl W.heap.size rfl 40 (mcells m).toArray (0,0) _ H2.out.2.1 Tryz.underlying40 rfl infoM ?_)
 refine hI.mono ?_
 rintro e V3 ⟨vn,rfl,⟨rn,nn⟩,b3⟩
 clear hI
 have H3:Hid (Below w.heap.size w V3/\V3.heap[W.heap.size]? = some (.cells (mcells m).toArray 40 (0,0))/\O.RowI V3 V1.heap.size (.slice wya nw wyc) ways/\Row V3 vn (scells (intoM s m))/\Newer V2.heap.size vn (intoM s m).length):=⟨keptW H2.out.1 b3,(b3.block _ (yyD H2.out.2.1).1).trans H2.out.2.1,H2.out.2.2.below b3 (yyH _),rn,nn⟩
 obtain ⟨na,nc,hvn⟩:=rn.sliceStrs
 obtain ⟨nn',hnn⟩ : ∃ z,(intoM s m).length=z:=⟨_,rfl⟩
 rw [hnn] at hvn
 subst hvn
 have HNn:Hid ((intoM s m).length=nn'):=hnn
 have hC:=conS_any p G s _ (intoM s m) V3 (H1.out.1.kept H3.out.1) H1.out.2.1.fit rn (intoM_in H1.out.2.1 m)
 obtain ⟨r1,hr1⟩ : ∃ z,(intoM s m).any (fullN s)=z:=⟨_,rfl⟩
 rw [hr1] at hC
 have HR1:Hid ((intoM s m).any (fullN s)=r1):=hr1
 clear rn nn b3 hnn hr1
 go_wp2_with fail
 refine hC.mono ?_
 rintro e V4 ⟨rfl,k4,rfl⟩
 clear hC
 have hC:Hid (Calls Tryz.prog 140 #[.slice wya nw wyc,.func (.func 141) #[.pointer (some ⟨p,0,none⟩)] #[]] (V3.drewN k4) fun e w'=>e=.returned (.bool (ways.any (fullT s))) /\ ∃ k,w'=(V3.drewN k4).drewN k):=conI_any p G s _ ways (V3.drewN k4) (H1.out.1.kept (keptW H3.out.1 (drewN_below V3 k4))) H1.out.2.1.fit (H3.out.2.2.1.row.below (drewN_below V3 k4) (yyH _)) (fun t ht=>by have:=(HW.out ways HR.out).1 t ht; unfold I64; omega)
 cases r1
 rotate_left
 ·obtain ⟨rfl,rfl⟩:6=er'/\s=s':=by have:=HE1.out; rw [HR1.out,if_pos rfl] at this; exact Prod.mk.inj this
  go_wp2
  go_ret
  exact deed_none H1.out.1 (keptW H3.out.1 (drewN_below V3 k4)) 6
 have HE2:Hid ((if ways.any (fullT s)=true then ((6:Int),s) else (0,takenM s m ways))=(er',s')):=by have:=HE1.out; rw [HR1.out,if_neg (by simp)] at this; exact this
 obtain ⟨r2,hr2⟩ : ∃ z,ways.any (fullT s)=z:=⟨_,rfl⟩
 rw [hr2] at hC HE2
 clear HE1 HR1 hr2
 have hC2:=hC.out
 clear hC
 go_wp2_with fail
 refine hC2.mono ?_
 rintro e V5 ⟨rfl,k5,rfl⟩
 clear hC2
 cases r2
 rotate_left
 ·obtain ⟨rfl,rfl⟩:6=er'/\s=s':=Prod.mk.inj HE2.out
  go_wp2
  go_ret
  exact deed_none H1.out.1 (keptW H3.out.1 (drewN_below V3 _)) 6
 obtain ⟨rfl,rfl⟩:0=er'/\takenM s m ways=s':=Prod.mk.inj HE2.out
 clear HE2
 obtain ⟨V5,fV5⟩ : ∃ X,(V3.drewN k4).drewN k5=X:=⟨_,rfl⟩
 have b5:Below V3.heap.size V3 V5:=by rw [<- fV5]; exact keptW (drewN_below V3 k4) (drewN_below _ k5)
 rw [fV5]
 have HI:Hid (EIn w V5 p W.heap.size G s m (.slice na nn' nc) (intoM s m) (.slice wya nw wyc) ways):=by
  have b05:=keptW H3.out.1 b5
  have hG:=H1.out.2.2.2.2.2.1
  refine ⟨G,H1.out.1.kept b05,.of_below b05,⟨(b5.block _ (yyD H3.out.2.1).1).trans H3.out.2.1,fun hk=>by have:=hG _ hk; have:=H1.out.2.2.2.2.2.2; omega⟩,⟨H3.out.2.2.2.1.below b5 (yyH _),?_⟩,H3.out.2.2.1.row.below b5 (yyH _),?_⟩
  ·have:=away_of (G:=G) (H3.out.2.2.2.1.below b5 (yyH _)) (by rw [scells_length]; exact H3.out.2.2.2.2) (fun k hk=>Nat.lt_of_lt_of_le (hG k hk) H2.out.1.size)
   rwa [scells_length] at this
  ·have hri:=H3.out.2.2.1.below b5 (yyH _)
   rcases hri with ⟨_,e⟩ | ⟨g,cap,hv,h1,h2,_⟩
   ·exact .inl (by rw [e]; rfl)
   ·exact .inr ⟨g,cap,hv,h2,fun hk=>by have:=hG g hk; have:=H1.out.2.2.2.1.size; omega⟩
 have HG:Hid (Newer (W.heap.size+1) (.slice wya nw wyc) ways.length):=by
  rcases H3.out.2.2.1 with ⟨_,e⟩ | ⟨g,cap,hv,h1,_⟩
  ·exact .inl (by rw [e]; rfl)
  ·exact .inr ⟨g,cap,hv,by have:=(yyD H1.out.2.2.2.2.1).1; omega⟩
 clear fV5 b5 H2 H3
 obtain ⟨G5,hS5,m5,hb5,hn5,ht5⟩:=HI.out
 have HQ:Hid (Moved w V5 G G5/\(V5.heap[W.heap.size]? = some (.cells (mcells m).toArray 40 (0,0)) /\ ¬ G5 W.heap.size)/\(Row V5 (.slice na nn' nc) (scells (intoM s m))/\Away V5 G5 (.slice na nn' nc) (intoM s m).length)/\Row V5 (.slice wya nw wyc) (icells ways)/\Away V5 G5 (.slice wya nw wyc) ways.length):=⟨m5,hb5,hn5,ht5⟩
 have hSd:=hS5.kept (drew_below V5)
 obtain ⟨ft,d,hs5,hF5⟩:=hSd
 have hA:=S.badd_any d.bp (ft .book) s.bk m.origin m.seq.toNat V5.drew hs5.book H1.out.2.1.bk.fine H1.out.2.1.bk.len (by have:=H1.out.2.2.1.seq; omega)
 rw [show ((m.seq.toNat:Nat):Int)=m.seq by have:=H1.out.2.2.1.seq; omega] at hA
 replace hA:Calls Tryz.prog 142 #[.pointer (some ⟨d.bp,0,none⟩),.agg #[.int .i64 m.origin,.int .u64 m.seq]] V5.drew fun e w'=>e=.returned (.bool (S.freshF s.bk m.origin m.seq.toNat)) /\ ∃ F',S.Bk w' d.bp F' (S.addF s.bk m.origin m.seq.toNat)/\Moved V5.drew w' (ft .book) F':=hA
 obtain ⟨fr,hfr⟩ : ∃ z,S.freshF s.bk m.origin m.seq.toNat=z:=⟨_,rfl⟩
 rw [hfr] at hA
 have c8:V5.cell? ⟨p,8,none⟩=some (.pointer (some ⟨d.bp,0,none⟩)):=(cells10 hs5.blk).2.2.2.2.2.2.2.2.1
 obtain ⟨y0,y1,y2,y3,y4,y5⟩:=cellsM hb5.1
 have HA:Hid (∀ V6 F6,S.Bk V6 d.bp F6 (S.addF s.bk m.origin m.seq.toNat)->Moved V5.drew V6 (ft .book) F6->Hid (EIn w V6 p W.heap.size G { s with bk:=S.addF s.bk m.origin m.seq.toNat } m (.slice na nn' nc) (intoM s m) (.slice wya nw wyc) ways)/\V6.cell? ⟨p,8,none⟩=some (.pointer (some ⟨d.bp,0,none⟩))/\V6.cell? ⟨W.heap.size,0,none⟩=some (.int .i64 m.origin)/\V6.cell? ⟨W.heap.size,1,none⟩=some (.int .u64 m.seq)):=by
  intro V6 F6 t6 m6
  have e:G5=fun k => ∃ a,ft a k:=funext fun k=>propext (hF5 k)
  have h6:=hs5.turnBook m6 t6
  have mm:Moved V5 V6 G5 (fun k => ∃ a,upd ft .book F6 a k):=by rw [e]; exact Moved.from_below (drew_below V5) (moved_upd m6)
  have hE:=EIn.step HQ.out.1 HQ.out.2.1 HQ.out.2.2.1 HQ.out.2.2.2 ⟨_,d,h6,fun k=>Iff.rfl⟩ mm
  have k6:=mm.block W.heap.size (yyD HQ.out.2.1.1).1 HQ.out.2.1.2
  exact ⟨hE,(cells10 h6.blk).2.2.2.2.2.2.2.2.1,(cellsM (k6.trans HQ.out.2.1.1)).1,(cellsM (k6.trans HQ.out.2.1.1)).2.1⟩
 clear hs5 hF5 hS5 m5 hb5 hn5 ht5 y2 y3 y4 y5 hfr HI
 go_wp2
 (go_region_held3 (fun w'=>w'.cell? ⟨p,8,none⟩=some (.pointer (some ⟨d.bp,0,none⟩))/\w'.cell? ⟨W.heap.size,0,none⟩=some (.int .i64 m.origin)/\w'.cell? ⟨W.heap.size,1,none⟩=some (.int .u64 m.seq)) (first | exact ⟨c8,y0,y1⟩ | go_keep) (first
  |(go_at_call 142; refine hA.mono ?_; rintro e V6 ⟨rfl,F6,t6,m6⟩; obtain ⟨HI6,f0,f1,f2⟩:=HA.out V6 F6 t6 m6; clear t6 m6 hA HA)))
 clear c8 y0 y1 f0 f1 f2 HQ
 obtain ⟨s1,hs1⟩ : ∃ z,{ s with bk:=S.addF s.bk m.origin m.seq.toNat }=z:=⟨_,rfl⟩
 rw [hs1] at HI6
 have HS1:Hid ({ s with bk:=S.addF s.bk m.origin m.seq.toNat }=s1/\s1.site=s.site):=⟨hs1,by rw [<- hs1]⟩
 clear hs1
 obtain ⟨G6,hS6,m6,hb6,hn6,ht6⟩:=HI6.out
 have HQ6:Hid (SS V6 p G6 s1/\Moved w V6 G G6/\(V6.heap[W.heap.size]? = some (.cells (mcells m).toArray 40 (0,0)) /\ ¬ G6 W.heap.size)/\(Row V6 (.slice na nn' nc) (scells (intoM s m))/\Away V6 G6 (.slice na nn' nc) (intoM s m).length)/\Row V6 (.slice wya nw wyc) (icells ways)/\Away V6 G6 (.slice wya nw wyc) ways.length):=⟨hS6,m6,hb6,hn6,ht6⟩
 obtain ⟨ft6,d6,hs6,hF6⟩:=hS6
 obtain ⟨c0,c1,c2,c3,c4,c5,c6,c7,c8,c9⟩:=cells10 hs6.blk
 rw [HS1.out.2] at c0
 obtain ⟨y0,y1,y2,y3,y4,y5⟩:=cellsM hb6.1
 have fz:V6.frozen? ⟨p,4,none⟩=false:=frozen_of_row V6 p 4 _ _ hs6.blk
 obtain ⟨q,hob⟩ : ∃ q,(m.origin==s.site)=q:=⟨_,rfl⟩
 have hod:decide (m.origin=s.site)=q:=by rw [<- hob]; rfl
 have HD:Hid (decide (m.origin=s.site)=q):=hod
 clear c1 c2 c3 c5 c6 c7 c8 c9 y2 y3 y4 y5 m6 hb6 hn6 ht6 HI6
 have HT6:Hid (SAt V6 p ft6 d6 s1 /\ ∀ k,G6 k ↔ ∃ a,ft6 a k):=⟨hs6,hF6⟩
 clear hs6 hF6
 go_wp2
 go_quiet (fail)
 obtain ⟨V7,fV7⟩ : ∃ X,V6.drewN nq=X:=⟨_,rfl⟩
 have hh7:V7.heap=V6.heap:=by rw [<- fV7]; rfl
 have B7:Hid (V7.heap=V6.heap/\Below V6.heap.size V6 V7):=⟨hh7,by rw [<- fV7]; exact drewN_below V6 nq⟩
 rw [fV7]
 have e4:V7.cell? ⟨p,4,none⟩=some (.int .u64 (s1.seq:Int)):=by rw [<- fV7]; exact c4
 have e1:V7.cell? ⟨W.heap.size,1,none⟩=some (.int .u64 m.seq):=by rw [<- fV7]; exact y1
 have fz7:V7.frozen? ⟨p,4,none⟩=false:=by rw [<- fV7]; exact fz
 clear c0 c4 y0 y1 fz hob hod hh7 fV7
 obtain ⟨s2,hs2⟩ : ∃ z,{ s1 with seq:=if q then m.seq.toNat else s1.seq }=z:=⟨_,rfl⟩
 have HS2:Hid ({ s1 with seq:=if q then m.seq.toNat else s1.seq }=s2):=hs2
 clear hs2
 go_upto_if 51 with fail
 go_cut [4] from 9 to 97 (fun s4 wx=>s4=.int .i64 0/\Hid (EIn w wx p W.heap.size G s2 m (.slice na nn' nc) (intoM s m) (.slice wya nw wyc) ways))
 case first =>
  cases q
  ·go_wp2
   go_meet
   have e:s1=s2:=HS2.out
   exact ⟨rfl,by rw [<- e]; exact EIn.step HQ6.out.2.1 HQ6.out.2.2.1 HQ6.out.2.2.2.1 HQ6.out.2.2.2.2 (HQ6.out.1.kept B7.out.2) (.of_below B7.out.2)⟩
  ·go_wp2
   go_meet
   have e:{ s1 with seq:=m.seq.toNat }=s2:=HS2.out
   have hk7:V7.heap[p]? = some (.cells (scells14 d6 s1) 88 (0,0)):=by rw [B7.out.1]; exact HT6.out.1.blk
   have hsq:((m.seq.toNat:Nat):Int)=m.seq:=by have:=H1.out.2.2.1.seq; omega
   have hb8:(V7.setCell ⟨p,4,none⟩ (.int .u64 m.seq)).heap[p]? = some (.cells (scells14 d6 { s1 with seq:=m.seq.toNat,boots:=s1.boots }) 88 (0,0)):=by
    rw [<- hsq]
    exact heap_setCell_same _ _ _ _ _ _ hk7
   have h7:SAt V7 p ft6 d6 s1:=HT6.out.1.same fun _ _ _=>by rw [B7.out.1]
   have h8:=h7.turnMain (w':=V7.setCell ⟨p,4,none⟩ (.int .u64 m.seq)) (fun k hk=>heap_setCell_other _ _ _ _ hk) hb8
   have hG:G6 p:=(HT6.out.2 p).2 ⟨.main,(HT6.out.1.fm p).2 rfl⟩
   have m8:Moved V7 (V7.setCell ⟨p,4,none⟩ (.int .u64 m.seq)) G6 G6:=⟨rfl,rfl,rfl,by simp,fun k hk hn=>heap_setCell_other _ _ _ _ (show k≠p from fun e=>hn (e ▸ hG)),fun k hk=>.inl hk⟩
   have h9:SS (V7.setCell ⟨p,4,none⟩ (.int .u64 m.seq)) p G6 s2:=by rw [<- e]; exact ⟨ft6,d6,h8,HT6.out.2⟩
   exact ⟨rfl,EIn.step HQ6.out.2.1 HQ6.out.2.2.1 HQ6.out.2.2.2.1 HQ6.out.2.2.2.2 h9 ((Moved.of_below B7.out.2).trans m8)⟩
 case rest =>
  obtain ⟨rfl,HI7⟩:=hcut
  have HWh:Hid (s2.Whole/\s2.qs=s.qs/\s2.lk=s.lk):=by
   have e1:=HS1.out.1
   have e2:=HS2.out
   subst e1
   subst e2
   exact ⟨⟨⟨H1.out.2.1.fit.names,H1.out.2.1.fit.short,H1.out.2.1.fit.tos,H1.out.2.1.fit.small,H1.out.2.1.fit.few⟩,H1.out.2.1.qok⟩,rfl,rfl⟩
  clear HQ6 HT6 B7 e4 e1 fz7
  have HNm:Hid (∀ n∈intoM s m,n.size<=maxLen/\n∈s2.qs.map Prod.fst):=fun n hn=>by
   obtain ⟨h1,q,h2,_⟩:=intoM_in H1.out.2.1 m n hn
   exact ⟨h1,by rw [HWh.out.2.1]; exact List.mem_map.2 ⟨_,findQ_some h2,rfl⟩⟩
  obtain ⟨ns,hns⟩ : ∃ z,intoM s m=z:=⟨_,rfl⟩
  rw [hns] at HI7 HNm HNn
  have HTk:Hid (takenM s m ways=ways.foldl (linkAdd (hopM m)) (ns.foldl (pushQ m) s2)):=by
   show takenM s m ways=_
   unfold takenM
   rw [hns]
   have e1:=HS1.out.1
   have e2:=HS2.out
   have e3:=HD.out
   subst e1
   subst e2
   congr 2
   subst e3
   by_cases ho:m.origin=s.site
   ·simp [ho]
   ·simp [ho]
  clear hns HS1 HS2 HD
  go_wp2
  go_loopg [10,60] nn' (fun g u10 u60 wr => ∃ i:Nat,u60=.int .i64 (i:Int)/\i<=nn'/\g=nn'-i/\Hid (EIn w wr p W.heap.size G ((ns.take i).foldl (pushQ m) s2) m (.slice na nn' nc) ns (.slice wya nw wyc) ways))
  case atStart=>exact ⟨0,rfl,Nat.zero_le _,rfl,HI7.out⟩
  case round =>
   obtain ⟨i,rfl,hi,rfl,HIi⟩:=hrel
   by_cases hlt:i<nn'
   ·have hlt':(i:Int)<(nn':Int):=by omega
    have hil:i<ns.length:=by rw [HNn.out]; exact hlt
    obtain ⟨x,hx⟩ : ∃ x,ns[i]=x:=⟨_,rfl⟩
    obtain ⟨hxs,hxn⟩:=HNm.out x (by rw [<- hx]; exact List.getElem_mem hil)
    obtain ⟨hwh,hnm,_⟩:=pushAll_whole HWh.out.1 m (ns.take i)
    obtain ⟨q,hq⟩:=findQ_mem (l:=((ns.take i).foldl (pushQ m) s2).qs) (n:=x) (by rw [hnm]; exact hxn)
    obtain ⟨qm,b,Fq,hS,hQ,hE⟩:=HIi.out.pushAt hwh hxs hq
    have hP:=F.push_any b Fq q (toM m) wr.drew hQ (hwh.qok _ (findQ_some hq))
    obtain ⟨bb,off,cap',hv,hc1,hc2,hcs⟩ : ∃ b off cap,Value.slice na nn' nc=.slice (some ⟨b,off,none⟩) ns.length cap/\ns.length<=cap/\cap<=maxLen /\ ∀ j (hj:j<ns.length),wr.cell? ⟨b,off+j,none⟩=some (.string ns[j]):=by
     obtain ⟨_,_,_,_,hr,_⟩:=HIi.out
     exact hr.1.atStrs (by omega)
    have hc:=hcs i hil
    rw [hx] at hc
    rw [HNn.out] at hv hc1
    injection hv with hv1 _ hv2
    subst hv1 hv2
    obtain ⟨z0,z1,z2,z3,z4,z5,z6,z7⟩:=hS wr.drew rfl rfl rfl
    have HX:Hid ((∀ V',V'.heap[p]? = wr.heap[p]? -> V'.heap[qm]? = wr.heap[qm]? -> V'.heap[W.heap.size]? = wr.heap[W.heap.size]? -> V'.cell? ⟨p,7,none⟩=some (.map (some qm))/\(Instr.lookup 83 (.map (some qm)) (.string x) false).run Tryz.prog V'=.ok (.pointer (some ⟨b,0,none⟩)) V'/\V'.cell? ⟨W.heap.size,0,none⟩=some (.int .i64 m.origin)/\V'.cell? ⟨W.heap.size,1,none⟩=some (.int .u64 m.seq)/\V'.cell? ⟨W.heap.size,2,none⟩=some (.int .i64 m.hop)/\V'.cell? ⟨W.heap.size,3,none⟩=some (.string m.ex)/\V'.cell? ⟨W.heap.size,4,none⟩=some (.string m.key)/\V'.cell? ⟨W.heap.size,5,none⟩=some (.string m.body))/\(∀ V' F',F.Q V' b F' (q.push (toM m)).2->Moved wr.drew V' Fq F'->EIn w V' p W.heap.size G (pushQ m ((ns.take i).foldl (pushQ m) s2) x) m (.slice (some ⟨bb,off,none⟩) nn' nc) ns (.slice wya nw wyc) ways/\V'.heap[p]? = wr.heap[p]? /\ V'.heap[qm]? = wr.heap[qm]? /\ V'.heap[W.heap.size]? = wr.heap[W.heap.size]?)/\i<9223372036854775807/\(ns.take (i+1)).foldl (pushQ m) s2=pushQ m ((ns.take i).foldl (pushQ m) s2) x):=⟨hS,hE,by unfold maxLen at hc2; omega,by rw [List.take_succ_eq_append_getElem hil,List.foldl_append,hx]; rfl⟩
    obtain ⟨pe,hpe⟩ : ∃ z,(q.push (toM m)).1=z:=⟨_,rfl⟩
    rw [hpe] at hP
    replace hP:Calls Tryz.prog 143 #[.pointer (some ⟨b,0,none⟩),.agg #[.int .i64 m.origin,.int .u64 m.seq,.int .i64 m.hop,.string m.ex,.string m.key,.string m.body]] wr.drew fun e w'=>e=.returned (.int .i64 pe) /\ ∃ F',F.Q w' b F' (q.push (toM m)).2/\Moved wr.drew w' Fq F':=hP
    clear hS hQ hE hwh hnm hq hxs hxn hx hcs hc1 hc2 hpe
    have y0:wr.cell? ⟨p,7,none⟩=some (.map (some qm)):=z0
    have y2:wr.cell? ⟨W.heap.size,0,none⟩=some (.int .i64 m.origin):=z2
    have y3:wr.cell? ⟨W.heap.size,1,none⟩=some (.int .u64 m.seq):=z3
    have y4:wr.cell? ⟨W.heap.size,2,none⟩=some (.int .i64 m.hop):=z4
    have y5:wr.cell? ⟨W.heap.size,3,none⟩=some (.string m.ex):=z5
    have y6:wr.cell? ⟨W.heap.size,4,none⟩=some (.string m.key):=z6
    have y7:wr.cell? ⟨W.heap.size,5,none⟩=some (.string m.body):=z7
    clear z0 z2 z3 z4 z5 z6 z7
    go_wp2
    (go_region_held3 (fun w'=>w'.cell? ⟨p,7,none⟩=some (.map (some qm))/\(Instr.lookup 83 (.map (some qm)) (.string x) false).run Tryz.prog w'=.ok (.pointer (some ⟨b,0,none⟩)) w'/\w'.cell? ⟨W.heap.size,0,none⟩=some (.int .i64 m.origin)/\w'.cell? ⟨W.heap.size,1,none⟩=some (.int .u64 m.seq)/\w'.cell? ⟨W.heap.size,2,none⟩=some (.int .i64 m.hop)/\w'.cell? ⟨W.heap.size,3,none⟩=some (.string m.ex)/\w'.cell? ⟨W.heap.size,4,none⟩=some (.string m.key)/\w'.cell? ⟨W.heap.size,5,none⟩=some (.string m.body)) (first | exact ⟨y0,z1,y2,y3,y4,y5,y6,y7⟩ | go_keep) (first
     |(go_at_call 143; refine hP.mono ?_; rintro e w2 ⟨rfl,F2,t2,mv2⟩; obtain ⟨p2,k1,k2,k3⟩:=HX.out.2.1 w2 F2 t2 mv2; have P2:Hid _:=p2; obtain ⟨f0,f1,f2,f3,f4,f5,f6,f7⟩:=HX.out.1 w2 k1 k2 k3; clear t2 mv2 hP p2 k1 k2 k3)))
    clear y0 z1 y2 y3 y4 y5 y6 y7 f0 f1 f2 f3 f4 f5 f6 f7
    go_wp2
    go_roundg (nn'-(i+1))
    case measure=>omega
    case rel=>exact ⟨i+1,congrArg (Value.int IntKind.i64) (by have:=HX.out.2.2.1; unfold wrap64; omega),by omega,rfl,by rw [HX.out.2.2.2]; exact P2.out⟩
   ·have hlt' : ¬ (i:Int)<(nn':Int):=by omega
    obtain rfl:i=nn':=by omega
    obtain ⟨s3,hs3⟩ : ∃ z,ns.foldl (pushQ m) s2=z:=⟨_,rfl⟩
    have HT3:Hid (takenM s m ways=ways.foldl (linkAdd (hopM m)) s3/\Lk 0 s3):=by
     obtain ⟨h1,h2,h3⟩:=pushAll_whole HWh.out.1 m ns
     rw [hs3] at h1 h2 h3
     refine ⟨by rw [HTk.out,hs3],h1.fit,by rw [h3,HWh.out.2.2]; exact H1.out.2.1.up,?_,?_⟩
     ·rw [h3,HWh.out.2.2]; exact H1.out.2.1.few
     ·rw [h3,HWh.out.2.2]; exact H1.out.2.1.nlk
    rw [List.take_of_length_le (by rw [HNn.out]; exact yyH _),hs3] at HIi
    clear hs3 HTk
    obtain ⟨G8,hS8,m8,hb8,hn8,ht8⟩:=HIi.out
    have c2:=(cellsM hb8.1).2.2.1
    have fz:wr.frozen? ⟨W.heap.size,2,none⟩=false:=frozen_of_row wr W.heap.size 2 _ _ hb8.1
    have hw:IntKind.i64.wrap (m.hop+1)=m.hop+1:=by have:=H1.out.2.2.1.hop; rw [IntKind.wrap_i64]; omega
    obtain ⟨V9,f9⟩ : ∃ X,wr.setCell ⟨W.heap.size,2,none⟩ (.int .i64 (m.hop+1))=X:=⟨_,rfl⟩
    have HI9:Hid (EIn w V9 p W.heap.size G s3 (hopM m) (.slice none 0 0) [] (.slice wya nw wyc) ways):=by
     have hoth : ∀ k,k≠W.heap.size->V9.heap[k]? = wr.heap[k]? := fun k hk=>by rw [<- f9]; exact heap_setCell_other _ _ _ _ hk
     have hsz:V9.heap.size=wr.heap.size:=by rw [<- f9]; simp
     have hne : ∀ k,G8 k->k≠W.heap.size:=fun k hk e=>hb8.2 (e ▸ hk)
     refine ⟨G8,hS8.same fun k hk=>hoth k (hne k hk),⟨by rw [<- f9]; exact m8.os,by rw [<- f9]; exact m8.tape,by rw [<- f9]; exact m8.output,by have:=m8.size; omega,fun k hk hn=>?_,m8.sub⟩,⟨?_,hb8.2⟩,⟨.inl ⟨rfl,rfl⟩,.inl rfl⟩,?_,?_⟩
     ·exact (hoth k (by have:=H1.out.2.2.2.2.2.2; omega)).trans (m8.block k hk hn)
     ·rw [<- f9]
      exact heap_setCell_same _ _ _ _ _ _ hb8.1
     ·rcases ht8.1 with h | ⟨ad,cap,hv,h1,h2,h3⟩
      ·exact .inl h
      ·refine .inr ⟨ad,cap,hv,h1,h2,fun k u hk=>?_⟩
       have hk':=(List.getElem?_eq_some_iff.1 hk).1
       rw [icells_length] at hk'
       rcases HG.out with e | ⟨g,cap',hv',hg⟩
       ·omega
       ·rw [hv] at hv'
        injection hv' with e
        injection e with e
        have hb:(ad.add k).block=g:=by rw [e]; exact Addr.block_add _ _
        rw [World.cell?_of_block (w:=wr) (a:=ad.add k) (by rw [hb]; exact hoth g (by omega))]
        exact h3 k u hk
     ·exact ht8.2.imp id fun ⟨g,cap,h1,h2,h3⟩=>⟨g,cap,h1,by omega,h3⟩
    clear hS8 m8 hb8 hn8 ht8 HIi
    go_wp2
    try rw [f9]
    clear c2 fz hw f9
    go_loopg [12,79] nw (fun g u12 u79 wr => ∃ j:Nat,u79=.int .i64 (j:Int)/\j<=nw/\g=nw-j/\Hid (EIn w wr p W.heap.size G ((ways.take j).foldl (linkAdd (hopM m)) s3) (hopM m) (.slice none 0 0) [] (.slice wya nw wyc) ways))
    case atStart=>exact ⟨0,rfl,Nat.zero_le _,rfl,HI9.out⟩
    case round =>
     obtain ⟨j,rfl,hj,rfl,HIj⟩:=hrel
     by_cases hjn:j<nw
     ·have hjn':(j:Int)<(nw:Int):=by omega
      have hjl:j<ways.length:=by rw [HNw.out]; exact hjn
      obtain ⟨t,ht⟩ : ∃ t,ways[j]=t:=⟨_,rfl⟩
      have hti:=(HW.out ways HR.out).1 t (by rw [<- ht]; exact List.getElem_mem hjl)
      have h64:I64 t:=by unfold I64; omega
      have hlk:=linkAll_lk HT3.out.2 (hopM m) (ways.take j) (fun x hx=>by have:=(HW.out ways HR.out).1 x (List.mem_of_mem_take hx); unfold I64; omega) (by have:=(HW.out ways HR.out).2; rw [List.length_take]; omega)
      obtain ⟨sc,hsc⟩ : ∃ z,(ways.take j).foldl (linkAdd (hopM m)) s3=z:=⟨_,rfl⟩
      rw [hsc] at HIj hlk
      have hl100:=(HW.out ways HR.out).2
      have hjt:(ways.take j).length<=100:=by rw [List.length_take]; omega
      obtain ⟨lm,vl,hL,hcp,hcb,hlook,hown,hfin⟩:=HIj.out.addAt hlk.fit hlk.up (by have:=hlk.len; omega) h64
      obtain ⟨bb,off,cap',hv,hc1,hc2,hcs⟩ : ∃ b off cap,Value.slice wya nw wyc=.slice (some ⟨b,off,none⟩) ways.length cap/\ways.length<=cap/\cap<=maxLen /\ ∀ j (hj:j<ways.length),wr.cell? ⟨b,off+j,none⟩=some (.int .i64 ways[j]):=by
       obtain ⟨_,_,_,_,_,hr,_⟩:=HIj.out
       obtain ⟨b,off,cap,h1,h2,h3,h4⟩:=hr.at (by rw [icells_length]; omega)
       rw [icells_length] at h1 h2
       exact ⟨b,off,cap,h1,h2,h3,fun k hk=>by rw [h4 k (by rw [icells_length]; exact hk)]; simp [icells]⟩
      have hc:=hcs j hjl
      rw [ht] at hc
      rw [HNw.out] at hv hc1
      injection hv with hv1 _ hv2
      subst hv1 hv2
      have HP:Hid (∀ V':World,V'.heap[p]? = wr.heap[p]? -> V'.heap[W.heap.size]? = wr.heap[W.heap.size]? -> V'.cell? ⟨p,9,none⟩=some (.map (some lm))/\V'.cell? ⟨W.heap.size,0,none⟩=some (.int .i64 m.origin)/\V'.cell? ⟨W.heap.size,1,none⟩=some (.int .u64 m.seq)/\V'.cell? ⟨W.heap.size,2,none⟩=some (.int .i64 (m.hop+1))/\V'.cell? ⟨W.heap.size,3,none⟩=some (.string m.ex)/\V'.cell? ⟨W.heap.size,4,none⟩=some (.string m.key)/\V'.cell? ⟨W.heap.size,5,none⟩=some (.string m.body)):=fun V' h1 h2=>⟨hcp V' h1,hcb V' h2⟩
      have HL:Hid (p<wr.heap.size/\lm<wr.heap.size/\W.heap.size<wr.heap.size):=hL
      have HLk:Hid (∀ V':World,V'.heap[lm]? = wr.heap[lm]? -> (Instr.lookup 86 (.map (some lm)) (.int .i64 t) false).run Tryz.prog V'=.ok vl V'):=hlook
      have HOw:Hid (OwnM wr 0 vl (linkOf sc.lk t)):=hown
      have HFin:Hid (∀ X w2 v',Below wr.heap.size wr X->X.grownBy w2 vl.ownBlock->OwnM w2 0 v' (linkOf sc.lk t++[hopM m])->K.NewOr X vl v'->Like wr w2 p lm W.heap.size /\ ∃ w3,(Instr.mapUpdate 86 (.map (some lm)) (.int .i64 t) v').run Tryz.prog w2=.ok () w3/\EIn w w3 p W.heap.size G (linkAdd (hopM m) sc t) (hopM m) (.slice none 0 0) [] (.slice (some ⟨bb,off,none⟩) nw wyc) ways/\w3.heap[p]? = wr.heap[p]? /\ w3.heap[W.heap.size]? = wr.heap[W.heap.size]?):=hfin
      have HN:Hid ((linkOf sc.lk t).length<=1000/\j<9223372036854775807/\(ways.take (j+1)).foldl (linkAdd (hopM m)) s3=linkAdd (hopM m) sc t):=⟨by have:=linkOf_le hlk.few t; omega,by unfold maxLen at hc2; omega,by rw [List.take_succ_eq_append_getElem hjl,List.foldl_append,ht,hsc]; rfl⟩
      clear hL hcp hcb hlook hown hfin hlk hl100 hjt hsc ht hti hcs hc1 hc2 h64
      go_wp2
      refine wp_region_noPanic ?_
      refine wp_region_held_drew (S:=fun w'=>w'.cell? ⟨p,9,none⟩=some (.map (some lm))/\w'.cell? ⟨W.heap.size,0,none⟩=some (.int .i64 m.origin)/\w'.cell? ⟨W.heap.size,1,none⟩=some (.int .u64 m.seq)/\w'.cell? ⟨W.heap.size,2,none⟩=some (.int .i64 (m.hop+1))/\w'.cell? ⟨W.heap.size,3,none⟩=some (.string m.ex)/\w'.cell? ⟨W.heap.size,4,none⟩=some (.string m.key)/\w'.cell? ⟨W.heap.size,5,none⟩=some (.string m.body)) (by kernel_rfl) (HP.out wr.drew rfl rfl) (fun hHeld=>?_)
      refine wpAnyH_take (i:=0) (v:=.pointer (some ⟨p,0,none⟩)) (by simp only [yyG,yyE]; rfl) (by kernel_rfl) (by kernel_rfl) (by kernel_rfl) (fun _ _ _ h=>h) (Or.inl ⟨by rfl,?_⟩) (by assumption) ?_
      ·(intro wq hSq; clear hSq; go_simp; try with_reducible rfl)
      try simp only [Act.put,yyA,yyB,yyC]
      refine wpAnyH_take (i:=1) (v:=.pointer (some ⟨p,0,none⟩)) (by simp only [yyG,yyF,yyE]; rfl) (by kernel_rfl) (by kernel_rfl) (by kernel_rfl) (fun _ _ _ h=>h) (Or.inl ⟨by rfl,?_⟩) (by assumption) ?_
      ·(intro wq hSq; clear hSq; go_simp; try with_reducible rfl)
      try simp only [Act.put,yyA,yyB,yyC]
      refine wpAnyH_take (i:=2) (v:=.pointer (some ⟨p,9,none⟩)) (by simp only [yyG,yyF,yyE]; rfl) (by kernel_rfl) (by kernel_rfl) (by kernel_rfl) (fun _ _ _ h=>h) (Or.inl ⟨by rfl,?_⟩) (by assumption) ?_
      ·(intro wq hSq; clear hSq; go_simp; try with_reducible rfl)
      try simp only [Act.put,yyA,yyB,yyC]
      refine wpAnyH_take (i:=3) (v:=.map (some lm)) (by simp only [yyG,yyF,yyE]; rfl) (by kernel_rfl) (by kernel_rfl) (by kernel_rfl) (fun _ _ _ h=>h) (Or.inl ⟨by rfl,?_⟩) (by assumption) ?_
      ·(intro wq hSq; obtain ⟨q0,q1,q2,q3,q4,q5,q6⟩:=hSq; go_simp; try with_reducible rfl)
      try simp only [Act.put,yyA,yyB,yyC]
      refine wpAnyH_take (i:=4) (v:=.int .i64 t) (by simp only [yyG,yyF,yyE]; rfl) (by kernel_rfl) (by kernel_rfl) (by kernel_rfl) (fun _ _ _ h=>h) (Or.inl ⟨by rfl,?_⟩) (by assumption) ?_
      ·(intro wq hSq; clear hSq; go_simp; try with_reducible rfl)
      try simp only [Act.put,yyA,yyB,yyC]
      refine wpAnyH_take (i:=5) (v:=.pointer (some ⟨p,0,none⟩)) (by simp only [yyG,yyF,yyE]; rfl) (by kernel_rfl) (by kernel_rfl) (by kernel_rfl) (fun _ _ _ h=>h) (Or.inl ⟨by rfl,?_⟩) (by assumption) ?_
      ·(intro wq hSq; clear hSq; go_simp; try with_reducible rfl)
      try simp only [Act.put,yyA,yyB,yyC]
      refine wpAnyH_take (i:=6) (v:=.pointer (some ⟨p,0,none⟩)) (by simp only [yyG,yyF,yyE]; rfl) (by kernel_rfl) (by kernel_rfl) (by kernel_rfl) (fun _ _ _ h=>h) (Or.inl ⟨by rfl,?_⟩) (by assumption) ?_
      ·(intro wq hSq; clear hSq; go_simp; try with_reducible rfl)
      try simp only [Act.put,yyA,yyB,yyC]
      refine wpAnyH_take (i:=7) (v:=.pointer (some ⟨p,9,none⟩)) (by simp only [yyG,yyF,yyE]; rfl) (by kernel_rfl) (by kernel_rfl) (by kernel_rfl) (fun _ _ _ h=>h) (Or.inl ⟨by rfl,?_⟩) (by assumption) ?_
      ·(intro wq hSq; clear hSq; go_simp; try with_reducible rfl)
      try simp only [Act.put,yyA,yyB,yyC]
      refine wpAnyH_take (i:=8) (v:=.map (some lm)) (by simp only [yyG,yyF,yyE]; rfl) (by kernel_rfl) (by kernel_rfl) (by kernel_rfl) (fun _ _ _ h=>h) (Or.inl ⟨by rfl,?_⟩) (by assumption) ?_
      ·(intro wq hSq; obtain ⟨q0,q1,q2,q3,q4,q5,q6⟩:=hSq; go_simp; try with_reducible rfl)
      try simp only [Act.put,yyA,yyB,yyC]
      refine wpAnyH_take (i:=9) (v:=.int .i64 t) (by simp only [yyG,yyF,yyE]; rfl) (by kernel_rfl) (by kernel_rfl) (by kernel_rfl) (fun _ _ _ h=>h) (Or.inl ⟨by rfl,?_⟩) (by assumption) ?_
      ·(intro wq hSq; clear hSq; go_simp; try with_reducible rfl)
      try simp only [Act.put,yyA,yyB,yyC]
      refine wpAnyH_take (i:=11) (v:=.agg #[.int .i64 m.origin,.int .u64 m.seq,.int .i64 (m.hop+1),.string m.ex,.string m.key,.string m.body]) (by simp only [yyG,yyF,yyE]; rfl) (by kernel_rfl) (by kernel_rfl) (by kernel_rfl) (fun _ _ _ h=>h) (Or.inl ⟨by rfl,?_⟩) (by assumption) ?_
      ·(intro wq hSq; obtain ⟨q0,q1,q2,q3,q4,q5,q6⟩:=hSq; go_simp; try with_reducible rfl)
      try simp only [Act.put,yyA,yyB,yyC]
      obtain ⟨V0,fV0⟩ : ∃ X,wr.drew=X:=⟨_,rfl⟩
      have B0:Below wr.heap.size wr V0:=by rw [<- fV0]; exact drew_below wr
      have hh0:V0.heap=wr.heap:=by rw [<- fV0]; rfl
      rw [fV0] at hHeld ⊢
      clear fV0
      refine wpAnyH_ready (rs:=[10,12]) (by kernel_rfl) (by simp) ?_
      refine AllReadyH.cons rfl (fun KK hK=>?_) ?_
      ·skip
       have hlk:=HLk.out V0 (by rw [hh0])
       go_simp
       refine hK.out _ _ (HP.out V0 (by rw [hh0]) (by rw [hh0])) (fun hHeld=>?_)
       clear hK KK
       try simp only [Act.put,yyA,yyB,yyC]
       clear hlk
       refine wpAnyH_ready (rs:=[12]) (by kernel_rfl) (by simp) ?_
       refine AllReadyH.cons rfl (fun KK hK=>?_) AllReadyH.nil
       go_simp
       obtain ⟨V1,f1⟩ : ∃ X,V0.alloc (.cells #[.int .i64 m.origin,.int .u64 m.seq,.int .i64 (m.hop+1),.string m.ex,.string m.key,.string m.body] 40)=X:=⟨_,rfl⟩
       have B1:Below V0.heap.size V0 V1:=by rw [<- f1]; exact box_below V0 _
       have bl1 : ∀ k,k<wr.heap.size->V1.heap[k]? = wr.heap[k]? := fun k hk=>(keptW B0 B1).block k hk
       have rY:K.RowOf mcells V1 (.slice (some ⟨wr.heap.size,0,none⟩) 1 1) [hopM m]:=by rw [<- f1]; exact K.rowK_one V0 (hopM m) wr.heap.size (by rw [hh0])
       try rw [f1]
       refine hK.out _ _ (HP.out V1 (bl1 p HL.out.1) (bl1 W.heap.size HL.out.2.2)) (fun hHeld=>?_)
       clear hK KK
       try simp only [Act.put,yyA,yyB,yyC]
       clear f1
       obtain ⟨va,vc,hvl⟩:=HOw.out.rng.slice
       obtain ⟨nl,hnl⟩ : ∃ z,(linkOf sc.lk t).length=z:=⟨_,rfl⟩
       rw [hnl] at hvl
       subst hvl
       have own1:OwnM V1 0 (.slice va nl vc) (linkOf sc.lk t):=HOw.out.kept (keptW B0 B1) (yyH _)
       obtain ⟨ii,hii,hzz,hss,hbb⟩:=msgInfo
       have hle:=HN.out.1
       refine wpAnyH_ready (rs:=[13]) (by kernel_rfl) (by simp) ?_
       refine AllReadyH.cons rfl (fun KK hK=>?_) AllReadyH.nil
       refine K.step_append_rows (enc:=mcells) rfl (.tmp 93) (.tmp 95) 62 rfl Tryz.underlying62 ii (mv zM) 72 hii hzz hss hbb rfl 0 (.slice va nl vc) (.slice (some ⟨wr.heap.size,0,none⟩) 1 1) (linkOf sc.lk t) [hopM m] (by first | rfl | simp [Act.eval]) (by first | rfl | simp [Act.eval]) own1 rY (by unfold maxLen; simp; omega) (by simp; omega) (Nat.zero_le _) ?_
       intro v2 w2 own2 gr2 nw2
       obtain ⟨lk2,w3,r3,e3,p3,b3⟩:=HFin.out V1 w2 v2 (keptW B0 B1) gr2 own2 nw2
       obtain ⟨va2,vc2,hv2⟩:=own2.rng.slice
       obtain ⟨n2,hn2⟩ : ∃ z,(linkOf sc.lk t++[hopM m]).length=z:=⟨_,rfl⟩
       rw [hn2] at hv2
       subst hv2
       clear hn2
       have E3:Hid (EIn w w3 p W.heap.size G (linkAdd (hopM m) sc t) (hopM m) (.slice none 0 0) [] (.slice (some ⟨bb,off,none⟩) nw wyc) ways):=e3
       clear own1 own2 gr2 nw2 hle hii hzz hss hbb e3
       refine hK.out _ _ (HP.out w2 lk2.p lk2.bm) (fun hHeld=>?_)
       clear hK KK
       try simp only [Act.put,yyA]
       refine wpAnyH_ready (rs:=[14]) (by kernel_rfl) (by simp) ?_
       refine AllReadyH.cons rfl (fun KK hK=>?_) AllReadyH.nil
       go_simp
       refine hK.out _ _ (HP.out w3 p3 b3) (fun hHeld=>?_)
       clear hK KK
       try simp only [Act.put,yyA]
       refine wpAnyH_done (by kernel_rfl) ?_ _
       refine NoPanic.normal ?_
       clear hHeld
       clear r3 p3 b3 lk2 hnl rY bl1 B1
       go_wp2
       go_roundg (nw-(j+1))
       case measure=>omega
       case rel=>exact ⟨j+1,congrArg (Value.int IntKind.i64) (by have:=HN.out.2.1; unfold wrap64; omega),by omega,rfl,by rw [HN.out.2.2]; exact E3.out⟩
      refine AllReadyH.cons rfl (fun KK hK=>?_) AllReadyH.nil
      go_simp
      obtain ⟨V1,f1⟩ : ∃ X,V0.alloc (.cells #[.int .i64 m.origin,.int .u64 m.seq,.int .i64 (m.hop+1),.string m.ex,.string m.key,.string m.body] 40)=X:=⟨_,rfl⟩
      have B1:Below V0.heap.size V0 V1:=by rw [<- f1]; exact box_below V0 _
      have bl1 : ∀ k,k<wr.heap.size->V1.heap[k]? = wr.heap[k]? := fun k hk=>(keptW B0 B1).block k hk
      have rY:K.RowOf mcells V1 (.slice (some ⟨wr.heap.size,0,none⟩) 1 1) [hopM m]:=by rw [<- f1]; exact K.rowK_one V0 (hopM m) wr.heap.size (by rw [hh0])
      try rw [f1]
      refine hK.out _ _ (HP.out V1 (bl1 p HL.out.1) (bl1 W.heap.size HL.out.2.2)) (fun hHeld=>?_)
      clear hK KK
      try simp only [Act.put,yyA,yyB,yyC]
      clear f1
      refine wpAnyH_ready (rs:=[10]) (by kernel_rfl) (by simp) ?_
      refine AllReadyH.cons rfl (fun KK hK=>?_) AllReadyH.nil
      have hlk:=HLk.out V1 (bl1 lm HL.out.2.1)
      go_simp
      refine hK.out _ _ (HP.out V1 (bl1 p HL.out.1) (bl1 W.heap.size HL.out.2.2)) (fun hHeld=>?_)
      clear hK KK
      try simp only [Act.put,yyA,yyB,yyC]
      clear hlk
      obtain ⟨va,vc,hvl⟩:=HOw.out.rng.slice
      obtain ⟨nl,hnl⟩ : ∃ z,(linkOf sc.lk t).length=z:=⟨_,rfl⟩
      rw [hnl] at hvl
      subst hvl
      have own1:OwnM V1 0 (.slice va nl vc) (linkOf sc.lk t):=HOw.out.kept (keptW B0 B1) (yyH _)
      obtain ⟨ii,hii,hzz,hss,hbb⟩:=msgInfo
      have hle:=HN.out.1
      refine wpAnyH_ready (rs:=[13]) (by kernel_rfl) (by simp) ?_
      refine AllReadyH.cons rfl (fun KK hK=>?_) AllReadyH.nil
      refine K.step_append_rows (enc:=mcells) rfl (.tmp 93) (.tmp 95) 62 rfl Tryz.underlying62 ii (mv zM) 72 hii hzz hss hbb rfl 0 (.slice va nl vc) (.slice (some ⟨wr.heap.size,0,none⟩) 1 1) (linkOf sc.lk t) [hopM m] (by first | rfl | simp [Act.eval]) (by first | rfl | simp [Act.eval]) own1 rY (by unfold maxLen; simp; omega) (by simp; omega) (Nat.zero_le _) ?_
      intro v2 w2 own2 gr2 nw2
      obtain ⟨lk2,w3,r3,e3,p3,b3⟩:=HFin.out V1 w2 v2 (keptW B0 B1) gr2 own2 nw2
      obtain ⟨va2,vc2,hv2⟩:=own2.rng.slice
      obtain ⟨n2,hn2⟩ : ∃ z,(linkOf sc.lk t++[hopM m]).length=z:=⟨_,rfl⟩
      rw [hn2] at hv2
      subst hv2
      clear hn2
      have E3:Hid (EIn w w3 p W.heap.size G (linkAdd (hopM m) sc t) (hopM m) (.slice none 0 0) [] (.slice (some ⟨bb,off,none⟩) nw wyc) ways):=e3
      clear own1 own2 gr2 nw2 hle hii hzz hss hbb e3
      refine hK.out _ _ (HP.out w2 lk2.p lk2.bm) (fun hHeld=>?_)
      clear hK KK
      try simp only [Act.put,yyA]
      refine wpAnyH_ready (rs:=[14]) (by kernel_rfl) (by simp) ?_
      refine AllReadyH.cons rfl (fun KK hK=>?_) AllReadyH.nil
      go_simp
      refine hK.out _ _ (HP.out w3 p3 b3) (fun hHeld=>?_)
      clear hK KK
      try simp only [Act.put,yyA]
      refine wpAnyH_done (by kernel_rfl) ?_ _
      refine NoPanic.normal ?_
      clear hHeld
      clear r3 p3 b3 lk2 hnl rY bl1 B1
      go_wp2
      go_roundg (nw-(j+1))
      case measure=>omega
      case rel=>exact ⟨j+1,congrArg (Value.int IntKind.i64) (by have:=HN.out.2.1; unfold wrap64; omega),by omega,rfl,by rw [HN.out.2.2]; exact E3.out⟩
     ·have hjn' : ¬ (j:Int)<(nw:Int):=by omega
      obtain rfl:j=nw:=by omega
      have HFi:Hid (EIn w wr p W.heap.size G (takenM s m ways) (hopM m) (.slice none 0 0) [] (.slice wya j wyc) ways):=by
       have:=HIj.out
       rw [List.take_of_length_le (by rw [HNw.out]; exact yyH _),<- HT3.out.1] at this
       exact this
      go_wp2
      go_ret
      obtain ⟨G',h1,h2,_⟩:=HFi.out
      exact ⟨rfl,G',h1,h2⟩
end Go.Proofs.YtnhnpnafchkhiaaGreatDoor
