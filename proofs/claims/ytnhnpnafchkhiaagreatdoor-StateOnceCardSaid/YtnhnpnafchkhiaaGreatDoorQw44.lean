import Derived.Test.YtnhnpnafchkhiaaGreatDoorQwA
import Derived.Test.YtnhnpnafchkhiaaGreatDoorQw41
import Derived.Test.YtnhnpnafchkhiaaGreatDoorQw42
import Derived.Test.YtnhnpnafchkhiaaGreatDoorQw43
import Derived.Test.YtnhnpnafchkhiaaGreatDoorQw37
import Derived.Test.YtnhnpnafchkhiaaGreatDoorQw36
import Derived.Test.YtnhnpnafchkhiaaGreatDoorQw4
namespace Go.Proofs.YtnhnpnafchkhiaaGreatDoor
open Go.RowKit
theorem newO_inv {N0 H:Int} {E:List (Int × Int)} (h:O.goodB N0 E H=true):Inv 0 (newSm 1 N0 E H):=by
 have hg:O.GoodT N0 E H:=of_decide_eq_true h
 have h1:=hg.1
 exact ⟨⟨⟨List.nodup_nil,fun x hx=>(by cases hx),List.nodup_nil,fun x hx=>(by cases hx),fun x hx=>(by cases hx)⟩,B.newT_ok,⟨S.fineF_nil,fun _ _=>Nat.zero_le _⟩,(by show 0<_; decide),fun x hx=>(by cases hx),List.Pairwise.nil,fun x hx=>(by cases hx),(by show 0<=_; decide)⟩,List.Pairwise.nil,(by show 0<=_; decide),fun _ _=>yyH _,yyH _,hg,⟨Int.le_refl _,h1.1⟩,fun x hx=>(by cases hx),fun x hx=>(by cases hx)⟩
theorem newO_below (N0 H:Int) (E:List (Int × Int)):Below14 (newSm 1 N0 E H):=by
 intro n hn
 unfold newSm S.ofF at hn
 simp [S.Mem] at hn
theorem pushQ_top (m:Ms) (s:Sm) (n:ByteArray):(pushQ m s n).S=s.S/\(pushQ m s n).E=s.E/\(pushQ m s n).H=s.H:=by
 unfold pushQ
 split <;> exact ⟨rfl,rfl,rfl⟩
theorem pushes_top (m:Ms) (l:List ByteArray) (s:Sm):(l.foldl (pushQ m) s).S=s.S/\(l.foldl (pushQ m) s).E=s.E/\(l.foldl (pushQ m) s).H=s.H:=by
 induction l generalizing s with
 |nil=>exact ⟨rfl,rfl,rfl⟩
 |cons n t ih =>
  obtain ⟨h1,h2,h3⟩:=ih (pushQ m s n)
  obtain ⟨g1,g2,g3⟩:=pushQ_top m s n
  exact ⟨h1.trans g1,h2.trans g2,h3.trans g3⟩
theorem links_top (m:Ms) (l:List Int) (s:Sm):(l.foldl (linkAdd m) s).S=s.S/\(l.foldl (linkAdd m) s).E=s.E/\(l.foldl (linkAdd m) s).H=s.H:=by
 induction l generalizing s with
 |nil=>exact ⟨rfl,rfl,rfl⟩
 |cons n t ih =>
  obtain ⟨h1,h2,h3⟩:=ih (linkAdd m s n)
  exact ⟨h1.trans rfl,h2.trans rfl,h3.trans rfl⟩
theorem enter_top (s:Sm) (m:Ms):(enterM s m).2.S=s.S/\(enterM s m).2.E=s.E/\(enterM s m).2.H=s.H/\(enterM s m).2.site=s.site:=by
 by_cases he:(enterM s m).1=0
 ·unfold enterM at he ⊢
  cases ha:admitM s m with
  |mk ways er =>
   rw [ha] at he
   simp only at he ⊢
   by_cases h0:er≠0
   ·rw [if_pos h0]; exact ⟨rfl,rfl,rfl,rfl⟩
   rw [if_neg h0]
   by_cases hq:(intoM s m).any (fullN s)=true
   ·rw [if_pos hq]; exact ⟨rfl,rfl,rfl,rfl⟩
   rw [if_neg hq]
   by_cases hf:ways.any (fullT s)=true
   ·rw [if_pos hf]; exact ⟨rfl,rfl,rfl,rfl⟩
   rw [if_neg hf]
   unfold takenM
   obtain ⟨h1,h2,h3⟩:=links_top (hopM m) ways ((intoM s m).foldl (pushQ m) { s with bk:=S.addF s.bk m.origin m.seq.toNat,seq:=if m.origin=s.site then m.seq.toNat else s.seq })
   obtain ⟨g1,g2,g3⟩:=pushes_top m (intoM s m) { s with bk:=S.addF s.bk m.origin m.seq.toNat,seq:=if m.origin=s.site then m.seq.toNat else s.seq }
   exact ⟨h1.trans g1,h2.trans g2,h3.trans g3,(taken_bk s m ways).2.2⟩
 ·rw [enter_no he]; exact ⟨rfl,rfl,rfl,rfl⟩
theorem act_top (s:Sm) (a:Ax):(actM s a).2.S=s.S/\(actM s a).2.E=s.E/\(actM s a).2.H=s.H/\(actM s a).2.site=s.site:=by
 have hon : ∀ (n:ByteArray) (f:F.St->Int × F.St),(onQ s n f).2.S=s.S/\(onQ s n f).2.E=s.E/\(onQ s n f).2.H=s.H/\(onQ s n f).2.site=s.site:=fun n f=>by
  cases h:findQ s.qs n with
  |none=>rw [onQ_none h]; exact ⟨rfl,rfl,rfl,rfl⟩
  |some q=>rw [onQ_some h]; exact ⟨rfl,rfl,rfl,rfl⟩
 refine actM_ind (P:=fun r=>r.2.S=s.S/\r.2.E=s.E/\r.2.H=s.H/\r.2.site=s.site) ⟨rfl,rfl,rfl,rfl⟩ (fun _=>?_) (fun _=>?_) (fun _=>⟨rfl,rfl,rfl,rfl⟩) (fun _=>⟨rfl,rfl,rfl,rfl⟩) (fun _=>⟨rfl,rfl,rfl,rfl⟩) (fun _=>⟨rfl,rfl,rfl,rfl⟩) (fun _=>enter_top s a.m) (fun _=>hon _ _) (fun _=>hon _ _) (fun _=>hon _ _) (fun _=>?_) ⟨rfl,rfl,rfl,rfl⟩
 ·cases hf:findQ s.qs a.name with
  |some q=>rw [queueM_some hf]; exact ⟨rfl,rfl,rfl,rfl⟩
  |none=>rw [queueM_none hf]; split <;> exact ⟨rfl,rfl,rfl,rfl⟩
 ·cases hf:findQ s.qs a.name with
  |some q=>rw [noQueueM_some hf]; exact ⟨rfl,rfl,rfl,rfl⟩
  |none=>rw [noQueueM_none hf]; exact ⟨rfl,rfl,rfl,rfl⟩
 ·unfold sentM
  by_cases h1:leadsM s a.to=false
  ·rw [if_pos h1]; exact ⟨rfl,rfl,rfl,rfl⟩
  rw [if_neg h1]
  by_cases h2:(linkOf s.lk a.to).length<a.n.toNat
  ·rw [if_pos h2]; exact ⟨rfl,rfl,rfl,rfl⟩
  rw [if_neg h2]
  split <;> exact ⟨rfl,rfl,rfl,rfl⟩
theorem identInfo : ∃ i,Tryz.prog.info? 38=some i/\i.zero=some (.agg #[.int .i64 0,.int .u64 0])/\i.size=2/\i.bytes=16:=by
 have h:(Tryz.prog.info? 38).map (fun i=>(i.zero,i.size,i.bytes))=some (some (.agg #[.int .i64 0,.int .u64 0]),2,16):=by kernel_rfl
 cases hi:Tryz.prog.info? 38 with
 |none=>rw [hi] at h; cases h
 |some i=>rw [hi] at h; injection h with h; injection h with h1 h2; injection h2 with h2 h3; exact ⟨i,rfl,h1,h2,h3⟩
def idc (x:Int × Int):List Value:=[.int .i64 x.1,.int .u64 x.2]
instance encId:K.Enc idc 2:=⟨fun _=>rfl,fun m u hu=>by simp [idc] at hu; rcases hu with rfl | rfl <;> rfl,by decide⟩
structure On (w V:World) (p:Nat) (G:Nat->Prop) (k:Nat) (s:Sm) (S:Int) (E:List (Int × Int)) (H:Int) (v:Value) (ids:List (Int × Int)):Prop where
 st:SS V p G s
 own : ∀ k,G k->w.heap.size+1<=k
 bel:Below w.heap.size w V
 lt:w.heap.size<V.heap.size
 inv:Inv k s
 low:Below14 s
 top:s.S=S/\s.E=E/\s.H=H/\s.site=1
 row:K.OwnOf idc 2 38 V (w.heap.size+1) v ids
 away : ∀ g,v.ownBlock=some g -> ¬ G g
 few:ids.length<=k
 seen : ∀ x∈ids,hasM s x.1 x.2=true
theorem On.go {w V V':World} {p:Nat} {G:Nat->Prop} {k:Nat} {s:Sm} {S H:Int} {E:List (Int × Int)} {v:Value} {ids:List (Int × Int)} (h:On w V p G k s S E H v ids) (b:Below V.heap.size V V'):On w V' p G k s S E H v ids :=
 ⟨h.st.kept b,h.own,keptW h.bel b,Nat.lt_of_lt_of_le h.lt b.size,h.inv,h.low,h.top,h.row.kept b (yyH _),h.away,h.few,h.seen⟩
theorem On.act {w V V':World} {p:Nat} {G G':Nat->Prop} {k:Nat} {s:Sm} {S H:Int} {E:List (Int × Int)} {v:Value} {ids:List (Int × Int)} (h:On w V p G k s S E H v ids) {a:Ax} (ha:a.Fits) (hk:k+1<=1000) (hs:SS V' p G' (actM s a).2) (m:Moved V V' G G'):On w V' p G' (k+1) (actM s a).2 S E H v ids:=by
 obtain ⟨t1,t2,t3,t4⟩:=act_top s a
 obtain ⟨s1,s2⟩:=act_seen h.inv h.low a
 refine ⟨hs,fun k hk=>(m.sub k hk).elim (h.own k) (fun hz=>by have:=h.lt; omega),m.below (fun k hk=>by have:=h.own k hk; omega) h.bel h.bel.size,Nat.lt_of_lt_of_le h.lt m.size,h.inv.act hk ha,s1,⟨t1.trans h.top.1,t2.trans h.top.2.1,t3.trans h.top.2.2.1,t4.trans h.top.2.2.2⟩,h.row.same fun g hg=>m.block g (h.row.lt hg).2 (h.away g hg),fun g hg hG=>(m.sub g hG).elim (h.away g hg) (fun hz=>by have:=(h.row.lt hg).2; omega),by have:=h.few; omega,fun x hx=>s2 _ _ (h.seen x hx)⟩
theorem AppPost.names {p:Nat} {G:Nat->Prop} {w:World} {ns:List ByteArray} {er:Int} {s':Sm} {e:Ending} {w':World} (h:AppPost p G w ns er s' e w') : ∃ a c,e=.returned (.tuple #[.slice a ns.length c,.int .i64 er])/\(Row w' (.slice a ns.length c) (scells ns)/\Newer w.heap.size (.slice a ns.length c) ns.length) /\ ∃ G',SS w' p G' s'/\Moved w w' G G':=by
 obtain ⟨v,h1,h2,h3⟩:=h
 obtain ⟨a,c,rfl⟩:=h2.1.sliceStrs
 exact ⟨a,c,h1,h2,h3⟩
structure Ro14 (w V:World) (p p' bx b0 b1 lo0 lo1:Nat) (G G':Nat->Prop) (k:Nat) (a:Ax) (s s':Sm) (P0 P1:Pt) (T:Value) (S:Int) (E:List (Int × Int)) (H:Int) (v:Value) (ids:List (Int × Int)) (vn:Value) (ns:List ByteArray):Prop where
 on:On w V p G k s' S E H v ids
 cp:SS V p' G' s
 box:V.heap[bx]? = some (.cells (xcells a).toArray 42 (0,0))
 k0:V.heap[b0]? = some (.cells (ptcells P0).toArray 49 (0,0))
 k1:V.heap[b1]? = some (.cells (ptcells P1).toArray 49 (0,0))
 i0:PartsIs V lo0 P0 s
 i1:PartsIs V lo1 P1 s'
 top:V.heap[w.heap.size]? = some (.cells #[.int .i64 S,T,.int .i64 H] 24 (0,0))
 nm:Row V vn (scells ns)
theorem Ro14.go {w V V':World} {p p' bx b0 b1 lo0 lo1:Nat} {G G':Nat->Prop} {k:Nat} {a:Ax} {s s':Sm} {P0 P1:Pt} {T:Value} {S H:Int} {E:List (Int × Int)} {v:Value} {ids:List (Int × Int)} {vn:Value} {ns:List ByteArray} (h:Ro14 w V p p' bx b0 b1 lo0 lo1 G G' k a s s' P0 P1 T S E H v ids vn ns) (b:Below V.heap.size V V'):Ro14 w V' p p' bx b0 b1 lo0 lo1 G G' k a s s' P0 P1 T S E H v ids vn ns :=
 ⟨h.on.go b,h.cp.kept b,(b.block _ (yyD h.box).1).trans h.box,(b.block _ (yyD h.k0).1).trans h.k0,(b.block _ (yyD h.k1).1).trans h.k1,h.i0.kept b,h.i1.kept b,(b.block _ (yyD h.top).1).trans h.top,h.nm.below b (yyH _)⟩
theorem Ro14.push {w V w6:World} {p p' bx b0 b1 lo0 lo1:Nat} {G G':Nat->Prop} {k:Nat} {a:Ax} {s s':Sm} {P0 P1:Pt} {T:Value} {S H:Int} {E:List (Int × Int)} {v v6:Value} {ids:List (Int × Int)} {vn:Value} {ns:List ByteArray} {o:Obj} {x:Int × Int} (h:Ro14 w V p p' bx b0 b1 lo0 lo1 G G' k a s s' P0 P1 T S E H v ids vn ns)
  (z:Nat) (hz : ∀ g,v.ownBlock=some g->g<z) (hbx:z<=bx) (hb0:z<=b0) (hb1:z<=b1) (hl0:z<=lo0) (hl1:z<=lo1) (hG' : ∀ g,G' g->z<=g) (hnm:Newer z vn ns.length)
  (own:K.OwnOf idc 2 38 w6 (w.heap.size+1) v6 (ids++[x])) (gr:(V.alloc o).grownBy w6 v.ownBlock) (nw:K.NewOr (V.alloc o) v v6) (hx:hasM s' x.1 x.2=true) (hf:ids.length+1<=k) :
  Ro14 w w6 p p' bx b0 b1 lo0 lo1 G G' k a s s' P0 P1 T S E H v6 (ids++[x]) vn ns:=by
 have hsz:V.heap.size<=w6.heap.size:=by have:=gr.size; simp at this; omega
 have hk : ∀ g,g<V.heap.size->v.ownBlock≠some g->w6.heap[g]? = V.heap[g]? := fun g hg hn=>(gr.block g (by simp; omega) (fun e=>hn e.symm)).trans (Below.heap_alloc _ _ g hg)
 have hkz : ∀ g,z<=g->g<V.heap.size->w6.heap[g]? = V.heap[g]? := fun g h1 h2=>hk g h2 (fun e=>by have:=hz g e; omega)
 have bel:Below w.heap.size w w6:=K.OwnOf.below (K.OwnOf.alloc h.on.row o) gr (keptW h.on.bel (box_below V o)) (by have:=h.on.lt; simp; omega) (by omega)
 have lt' : ∀ {g:Nat} {ob:Obj},V.heap[g]? = some ob->g<V.heap.size:=fun {g ob} e=>(yyD e).1
 refine ⟨⟨h.on.st.same fun g hg=>hk g (h.on.st.lts g hg) (fun e=>h.on.away g e hg),h.on.own,bel,Nat.lt_of_lt_of_le h.on.lt hsz,h.on.inv,h.on.low,h.on.top,own,fun g hg hG=>?_,by simp; omega,fun y hy=>?_⟩,h.cp.same fun g hg=>hkz g (hG' g hg) (h.cp.lts g hg),(hkz _ hbx (lt' h.box)).trans h.box,(hkz _ hb0 (lt' h.k0)).trans h.k0,(hkz _ hb1 (lt' h.k1)).trans h.k1,h.i0.same fun g h1 h2=>hkz g (by omega) h2,h.i1.same fun g h1 h2=>hkz g (by omega) h2,(hk _ (lt' h.top) (fun e=>by have:=(h.on.row.lt e).1; omega)).trans h.top,?_⟩
 ·rcases nw with e | ⟨g',e,hg'⟩
  ·exact h.on.away g (by rw [<- e]; exact hg) hG
  ·rw [e] at hg
   injection hg with hg
   have:=h.on.st.lts g hG
   simp at hg'
   omega
 ·rcases List.mem_append.1 hy with hy | hy
  ·exact h.on.seen y hy
  ·rw [List.mem_singleton.1 hy]; exact hx
 ·have hm:Moved V w6 (fun g=>v.ownBlock=some g) (fun _=>False):=⟨gr.os,gr.tape,gr.output,hsz,fun g hg hn=>hk g hg hn,fun _ hf=>hf.elim⟩
  refine Row.away h.nm ?_ hm
  rw [scells_length]
  rcases hnm with e | ⟨g,cap,e,hg⟩
  ·exact .inl e
  ·by_cases h0:ns.length=0
   ·exact .inl h0
   ·refine .inr ⟨g,cap,e,?_,fun e2=>by have:=hz g e2; omega⟩
    obtain ⟨b,off,cap',hv,_,_,hc⟩:=h.nm.at (by rw [scells_length]; omega)
    rw [e] at hv
    injection hv with hv1 _ _
    injection hv1 with hv1
    injection hv1 with hv1 hv2
    have:=World.block_lt_of_cell? _ _ (hc 0 (by rw [scells_length]; omega))
    rw [hv1]
    exact this
end Go.Proofs.YtnhnpnafchkhiaaGreatDoor
