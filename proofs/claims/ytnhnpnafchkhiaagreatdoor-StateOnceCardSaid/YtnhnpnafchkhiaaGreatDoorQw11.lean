import Derived.Test.YtnhnpnafchkhiaaGreatDoorQwA
import Derived.Test.YtnhnpnafchkhiaaGreatDoorQw8
import Derived.Test.YtnhnpnafchkhiaaGreatDoorQw10
import Derived.Test.YtnhnpnafchkhiaaGreatDoorQw2
import Derived.Deep.RegionHeld3
import Derived.Test.YtnhnpnafchkhiaaGreatDoorQw9
set_option maxHeartbeats 400000
namespace Go.Proofs.YtnhnpnafchkhiaaGreatDoor.S
open Go.RowKit
theorem neqRng (a b c d:Nat) (w:World):(binOp .neq 174 (.agg #[.int .u64 (a:Int),.int .u64 (b:Int)]) (.agg #[.int .u64 (c:Int),.int .u64 (d:Int)])).run Tryz.prog w=.ok (.bool (!(decide (a=c) && decide (b=d)))) w:=by
 have u3:=Tryz.underlying32
 have a3:=Tryz.isAgg32
 have z3:=Tryz.sizeOf32
 have hS:Tryz.prog.underlying 174=some (.struct (Tryz.prog.fieldsOf 174)):=by kernel_rfl
 have hp:Tryz.prog.stoodInHeld 174=false:=by kernel_rfl
 rw [run_neq_struct,show (10000:Nat)=9999+1 from rfl,run_equalIn_agg w 9999 174 _ _ hS hp]
 simp only [Program.fieldsOf,Tryz.underlying174]
 go_simp
 by_cases h1:a=c <;> by_cases h2:b=d <;> simp [h1,h2] <;> omega
theorem eqGuardRng:Tryz.prog.eqGuardType Tryz.prog.depth 174=false:=by kernel_rfl
theorem same_of {a b:List (Nat × Nat)} (hl:a.length=b.length) (h : ∀ i (hi:i<a.length),a[i]=b[i]'(by omega)):a=b:=List.ext_getElem hl fun i h1 _=>h i h1
theorem same_any (v u:Value) (a b:List (Nat × Nat)) (w:World) (ha:Rng w v a) (hb:Rng w u b) :
  Calls Tryz.prog 41 #[v,u] w fun e w'=>e=.returned (.bool (decide (a=b)))/\Below w.heap.size w w':=by
 by_cases hlen:a.length=b.length
 ·by_cases hp:0<a.length
  ·obtain ⟨b1,off1,cap1,rfl,h1,h2,hc1⟩:=ha.at hp
   obtain ⟨b2,off2,cap2,rfl,_,_,hc2⟩:=hb.at (by omega)
   have hk2:a.length<=9223372036854775807:=by unfold maxLen at h2; omega
   have H1:Hid (∀ j u,(rcells a)[j]? = some u->w.cell? ⟨b1,off1+j,none⟩=some u):=hc1
   have H2:Hid (∀ j u,(rcells b)[j]? = some u->w.cell? ⟨b2,off2+j,none⟩=some u):=hc2
   have HL:Hid (a.length=b.length):=hlen
   rw [<- hlen]
   clear hc1 hc2 ha hb hlen
   generalize hg:decide (a=b)=G
   have HG:Hid (decide (a=b)=G):=hg
   clear hg
   have hgd:=eqGuardRng
   go_enter Tryz.func41,Tryz.ntmps41
   go_wp2
   go_loopw [13] (fun u13 wr => ∃ k:Nat,u13=.int .i64 k/\k<=a.length/\Hid ((∀ i (hi:i<a.length) (hi':i<b.length),i<k->a[i]=b[i])/\Below w.heap.size w wr)) (fun u13 _=>a.length-(intOf u13).toNat)
   case atStart=>exact ⟨0,rfl,Nat.zero_le _,(⟨fun i _ _ h=>absurd h (Nat.not_lt_zero _),Below.refl _ _⟩:_/\_)⟩
   case round =>
    obtain ⟨k,rfl,hk,HB⟩:=hrel
    by_cases hlt:k<a.length
    ·have hlt2:k<b.length:=by rw [<- HL.out]; exact hlt
     obtain ⟨c0,c1⟩:=at_cells H1.out k hlt
     obtain ⟨d0,d1⟩:=at_cells H2.out k hlt2
     have hb1:=World.block_lt_of_cell? w _ c0
     have hb2:=World.block_lt_of_cell? w _ d0
     rw [<- HB.out.2.cell (p:=⟨b1,off1+k*2,none⟩) hb1] at c0
     rw [<- HB.out.2.cell (p:=⟨b1,off1+k*2+1,none⟩) hb1] at c1
     rw [<- HB.out.2.cell (p:=⟨b2,off2+k*2,none⟩) hb2] at d0
     rw [<- HB.out.2.cell (p:=⟨b2,off2+k*2+1,none⟩) hb2] at d1
     have hE:Hid (a[k]=b[k]↔a[k].1=b[k].1/\a[k].2=b[k].2):=Prod.ext_iff
     have hN:Hid (a[k]≠b[k]->a≠b):=fun hne he=>hne (by subst he; rfl)
     have hneq:=neqRng a[k].1 a[k].2 b[k].1 b[k].2
     generalize a[k].1=x1 at c0 hE hneq
     generalize a[k].2=x2 at c1 hE hneq
     generalize b[k].1=y1 at d0 hE hneq
     generalize b[k].2=y2 at d1 hE hneq
     have hltb:k<b.length:=hlt2
     by_cases he:x1=y1/\x2=y2
     ·obtain ⟨rfl,rfl⟩:=he
      simp only [decide_true,Bool.and_self,Bool.not_true] at hneq
      go_wp2
      go_quiet (fail)
      go_wp2
      refine ⟨⟨k+1,by go_num,by omega,(⟨fun i hi hi' h=>?_,⟨HB.out.2.os,HB.out.2.tape,HB.out.2.output,HB.out.2.size,HB.out.2.block⟩⟩:_/\_)⟩,by simp [intOf]; omega⟩
      rcases Nat.lt_or_ge i k with h' | h'
      ·exact HB.out.1 i hi hi' h'
      ·obtain rfl:i=k:=by omega
       exact hE.out.2 (by simp)
     ·have hd:(decide (x1=y1) && decide (x2=y2))=false:=by simpa using he
      simp only [hd,Bool.not_false] at hneq
      go_wp2
      go_quiet (fail)
      go_wp2
      go_ret
      refine ⟨ret_bool ?_,⟨HB.out.2.os,HB.out.2.tape,HB.out.2.output,HB.out.2.size,HB.out.2.block⟩⟩
      rw [<- HG.out]
      exact (decide_eq_false (hN.out fun h=>he (hE.out.1 h))).symm
    ·go_wp2
     obtain rfl:k=a.length:=by omega
     go_ret
     refine ⟨ret_bool ?_,HB.out.2⟩
     rw [<- HG.out]
     exact (decide_eq_true (same_of HL.out fun i hi=>HB.out.1 i hi (by rw [<- HL.out]; exact hi) hi)).symm
  ·obtain rfl:a=[]:=List.eq_nil_of_length_eq_zero (by omega)
   obtain rfl:b=[]:=List.eq_nil_of_length_eq_zero hlen.symm
   obtain ⟨a1,cap1,rfl⟩:=ha.slice
   obtain ⟨a2,cap2,rfl⟩:=hb.slice
   simp only [List.length_nil]
   go_enter Tryz.func41,Tryz.ntmps41
   go_wp2
   go_rounds 1
   go_ret
   exact ⟨rfl,Below.refl _ _⟩
 ·obtain ⟨a1,cap1,rfl⟩:=ha.slice
  obtain ⟨a2,cap2,rfl⟩:=hb.slice
  have hne:a≠b:=fun h=>hlen (by rw [h])
  rw [decide_eq_false hne]
  clear ha hb hne
  generalize a.length=n at *
  generalize b.length=m at *
  have hne' : ¬ ((n:Int)=(m:Int)):=by omega
  go_enter Tryz.func41,Tryz.ntmps41
  go_wp2
  go_ret
  exact ⟨rfl,Below.refl _ _⟩
structure PutAt (w wr:World) (X:Nat) (v:Value) (out:List (Nat × Nat)) (x:Nat × Nat):Prop where
 box:wr.heap[X]? = some (.cells #[.int .u64 (x.1:Int),.int .u64 (x.2:Int)] 174 (0,0))
 own:Own2 wr (X+1) v out
 bel:Below X w wr
set_option maxRecDepth 20000
def Fine (l:List (Nat × Nat)):Prop:=Apart 1 l/\Upto 18446744073709551616 l
theorem fine_nil:Fine []:=⟨trivial,fun r h=>by cases h⟩
theorem Fine.add {l:List (Nat × Nat)} {n:Nat} (h:Fine l) (hn:n<18446744073709551616):Fine (addS l n):=by
 by_cases hh:n=0\/Mem l n
 ·rw [addS_no hh]; exact h
 ·rw [addS_yes hh]
  exact ⟨(addL_ok h.1 (fun h0=>hh (.inl h0)) (fun hm=>hh (.inr hm))).1,addL_upto h.2 hn⟩
theorem addS_mem {l:List (Nat × Nat)} {n:Nat} (h:Apart 1 l) (m:Nat):Mem (addS l n) m↔Mem l m\/(m=n/\n≠0):=by
 by_cases hh:n=0\/Mem l n
 ·rw [addS_no hh]
  constructor
  ·exact .inl
  ·rintro (h1 | ⟨rfl,h1⟩)
   ·exact h1
   ·exact hh.elim (fun h0=>absurd h0 h1) id
 ·rw [addS_yes hh,(addL_ok h (fun h0=>hh (.inl h0)) (fun hm=>hh (.inr hm))).2.1 m]
  constructor
  ·rintro (h1 | rfl)
   ·exact .inl h1
   ·exact .inr ⟨rfl,fun h0=>hh (.inl h0)⟩
  ·rintro (h1 | ⟨h1,_⟩)
   ·exact .inl h1
   ·exact .inr h1
structure Mine (base:Nat) (w w':World) (B:Nat) (v:Value) (l:List (Nat × Nat)):Prop where
 set:SetAt w' B v l
 bel:Below base w w'
 fr:From0 base B v
 sz:base<=w'.heap.size
end Go.Proofs.YtnhnpnafchkhiaaGreatDoor.S
namespace Go.Proofs.YtnhnpnafchkhiaaGreatDoor.S
open Go.RowKit
set_option maxRecDepth 20000
def Nums (w:World) (v:Value) (l:List Nat):Prop :=
 (v=.slice none 0 0/\l=[]) \/ ∃ a cap,v=.slice (some a) l.length cap/\l.length<=cap/\cap<=maxLen /\ ∀ i (h:i<l.length),w.cell? (a.add i)=some (.int .u64 (l[i]:Int))
theorem Own2.turned {w1 w2:World} {b B:Nat} {lv v:Value} {l k:List (Nat × Nat)} (h:Own2 w1 b lv l) (hs:SetAt w1 B v k) (t:Turned w1 w2 B v) (hne : ∀ g,lv.ownBlock=some g->v.ownBlock≠some g):Own2 w2 b lv l:=by
 refine h.same fun g hg=>t.block g (World.ownsRow.lt h g hg).2 (fun he=>?_) (hne g hg)
 subst he
 rcases h.2 with ⟨rfl,_⟩ | ⟨g',cap,cur,rfl,_,hgg,_⟩
 ·simp [Value.ownBlock] at hg
 ·simp only [Value.ownBlock,Option.some.injEq] at hg
  subst hg
  have:=hs.blk
  rw [hgg] at this
  simp at this
end Go.Proofs.YtnhnpnafchkhiaaGreatDoor.S
namespace Go.Proofs.YtnhnpnafchkhiaaGreatDoor.S
open Go.RowKit
set_option maxRecDepth 20000
def addAll (l:List (Nat × Nat)) (ns:List Nat):List (Nat × Nat):=ns.foldl addS l
theorem SetAt.turned {w1 w2:World} {B B':Nat} {v v':Value} {l k:List (Nat × Nat)} (h:SetAt w1 B' v' k) (hs:SetAt w1 B v l) (t:Turned w1 w2 B v) (hB:B'≠B) (hne : ∀ g,v'.ownBlock=some g->v.ownBlock≠some g):SetAt w2 B' v' k:=by
 refine ⟨?_,h.own.turned hs t hne⟩
 rw [t.block B' h.lt hB (fun he=>?_)]
 ·exact h.blk
 ·rcases hs.own.2 with ⟨rfl,_⟩ | ⟨g',cap,cur,rfl,_,hgg,_⟩
  ·simp [Value.ownBlock] at he
  ·simp only [Value.ownBlock,Option.some.injEq] at he
   subst he
   have:=h.blk
   rw [hgg] at this
   simp at this
theorem apart_add {w1:World} {B':Nat} {v v' vb:Value} {l:List (Nat × Nat)} (h:SetAt w1 B' vb l) (hne : ∀ g,vb.ownBlock=some g->v.ownBlock≠some g) (nw:NewOr w1 v v') : ∀ g,vb.ownBlock=some g->v'.ownBlock≠some g:=by
 intro g hg he
 rcases nw with e2 | ⟨g',e2,h2⟩
 ·exact hne g hg (by rw [<- e2]; exact he)
 ·rw [e2] at he
  injection he with he
  have:=(World.ownsRow.lt h.own g hg).2
  omega
theorem apart_symm {v v':Value} (h : ∀ g,v.ownBlock=some g->v'.ownBlock≠some g) : ∀ g,v'.ownBlock=some g->v.ownBlock≠some g:=fun g hg he=>h g he hg
structure Two (base:Nat) (w w':World) (A:Nat) (va:Value) (la:List (Nat × Nat)) (B:Nat) (vb:Value) (lb:List (Nat × Nat)):Prop where
 a:Mine base w w' A va la
 b:Mine base w w' B vb lb
 ne:A≠B
 ap : ∀ g,va.ownBlock=some g->vb.ownBlock≠some g
end Go.Proofs.YtnhnpnafchkhiaaGreatDoor.S
namespace Go.Proofs.YtnhnpnafchkhiaaGreatDoor.S
open Go.RowKit
set_option maxRecDepth 20000
def putF {α:Type} (f:Nat->α) (i:Nat) (x:α):Nat->α:=fun j=>if j=i then x else f j
theorem putF_at {α:Type} (f:Nat->α) (i:Nat) (x:α):putF f i x i=x:=if_pos rfl
theorem putF_ne {α:Type} (f:Nat->α) {i j:Nat} (x:α) (h:j≠i):putF f i x j=f j:=if_neg h
def ofF (f:Nat->List (Nat × Nat)) (o:Int):List (Nat × Nat):=if 1<=o/\o<=8 then f (o-1).toNat else []
def knownB (o:Int):Bool:=decide (1<=o/\o<=8)
theorem ofF_in {f:Nat->List (Nat × Nat)} {o:Int} {i:Nat} (hi:i<8) (h:o=(i:Int)+1):ofF f o=f i:=by
 subst h
 unfold ofF
 rw [if_pos (by omega)]
 congr 1
 omega
theorem ofF_out {f:Nat->List (Nat × Nat)} {o:Int} (h : ¬ (1<=o/\o<=8)):ofF f o=[]:=if_neg h
theorem known_at {o:Int} (h:1<=o/\o<=8) : ∃ i:Nat,i<8/\o=(i:Int)+1:=⟨(o-1).toNat,by omega,by omega⟩
def FineF (f:Nat->List (Nat × Nat)):Prop := ∀ i,i<8->Fine (f i)
def LenF (n:Nat) (f:Nat->List (Nat × Nat)):Prop := ∀ i,i<8->(f i).length<=n
theorem fineF_nil:FineF (fun _=>[]):=fun _ _=>fine_nil
theorem FineF.put {f:Nat->List (Nat × Nat)} (h:FineF f) {i:Nat} {l:List (Nat × Nat)} (hl:Fine l):FineF (putF f i l):=fun j hj=>by
 unfold putF
 split
 ·exact hl
 ·exact h j hj
theorem LenF.put {n m:Nat} {f:Nat->List (Nat × Nat)} (h:LenF n f) {i:Nat} {l:List (Nat × Nat)} (hn:n<=m) (hl:l.length<=m):LenF m (putF f i l):=fun j hj=>by
 unfold putF
 split
 ·exact hl
 ·exact Nat.le_trans (h j hj) hn
def addF (f:Nat->List (Nat × Nat)) (o:Int) (n:Nat):Nat->List (Nat × Nat):=if 1<=o/\o<=8 then putF f (o-1).toNat (addS (f (o-1).toNat) n) else f
def freshF (f:Nat->List (Nat × Nat)) (o:Int) (n:Nat):Bool:=decide (1<=o/\o<=8) && newB (ofF f o) n
theorem addF_in {f:Nat->List (Nat × Nat)} {o:Int} {n i:Nat} (hi:i<8) (h:o=(i:Int)+1):addF f o n=putF f i (addS (f i) n):=by
 subst h
 unfold addF
 rw [if_pos (by omega),show ((i:Int)+1-1).toNat=i by omega]
theorem addF_out {f:Nat->List (Nat × Nat)} {o:Int} {n:Nat} (h : ¬ (1<=o/\o<=8)):addF f o n=f:=if_neg h
theorem freshF_in {f:Nat->List (Nat × Nat)} {o:Int} {n i:Nat} (hi:i<8) (h:o=(i:Int)+1):freshF f o n=newB (f i) n:=by
 unfold freshF
 rw [ofF_in hi h,decide_eq_true (by omega)]
 rfl
theorem freshF_out {f:Nat->List (Nat × Nat)} {o:Int} {n:Nat} (h : ¬ (1<=o/\o<=8)):freshF f o n=false:=by
 unfold freshF
 rw [decide_eq_false h]
 rfl
theorem FineF.add {f:Nat->List (Nat × Nat)} (h:FineF f) (o:Int) {n:Nat} (hn:n<18446744073709551616):FineF (addF f o n):=by
 unfold addF
 split
 ·exact h.put ((h _ (by omega)).add hn)
 ·exact h
def fcells (n:Nat) (s:Nat->Value):List Value:=(List.range n).map s
theorem fcells_get {n i:Nat} (s:Nat->Value) (h:i<n):(fcells n s)[i]? = some (s i):=by simp [fcells,h]
theorem fcells_set {n:Nat} (s:Nat->Value) (i:Nat) (x:Value):(fcells n s).set i x=fcells n (putF s i x):=by
 apply List.ext_getElem
 ·simp [fcells]
 ·intro j h1 h2
  simp only [fcells,List.getElem_set,List.getElem_map,List.getElem_range,putF]
  by_cases h:i=j
  ·subst h; simp
  ·rw [if_neg h,if_neg (fun e=>h e.symm)]
theorem fcells_congr {n:Nat} {s t:Nat->Value} (h : ∀ i,i<n->s i=t i):fcells n s=fcells n t:=by
 unfold fcells
 exact List.map_congr_left fun i hi=>h i (List.mem_range.1 hi)
theorem heap_fset {w:World} {p n i:Nat} {s:Nat->Value} {t:TypeId} (h:w.heap[p]? = some (.cells (fcells n s).toArray t (0,0))) (x:Value):(w.setCell ⟨p,i,none⟩ x).heap[p]? = some (.cells (fcells n (putF s i x)).toArray t (0,0)):=by
 have:=heap_setCell_same w p i _ _ x h
 rw [<- fcells_set]
 simpa using this
def ptrS (b:Nat):Value:=.pointer (some ⟨b,0,none⟩)
structure BkAt (w:World) (p:Nat) (S:Nat->Nat) (v:Nat->Value) (f:Nat->List (Nat × Nat)):Prop where
 blk:w.heap[p]? = some (.cells (fcells 8 fun i=>ptrS (S i)).toArray 131 (0,0))
 set : ∀ i,i<8->SetAt w (S i) (v i) (f i)
 inj : ∀ i j,i<8->j<8->S i=S j->i=j
 ap : ∀ i j,i<8->j<8->i≠j -> ∀ g,(v i).ownBlock=some g->(v j).ownBlock≠some g
def footB (p:Nat) (S:Nat->Nat) (v:Nat->Value) (k:Nat):Prop:=k=p \/ ∃ i,i<8/\(k=S i\/(v i).ownBlock=some k)
def Bk (w:World) (p:Nat) (F:Nat->Prop) (f:Nat->List (Nat × Nat)):Prop := ∃ S v,BkAt w p S v f /\ ∀ k,F k↔footB p S v k
theorem SetAt.row_lt {w:World} {B g:Nat} {v:Value} {l:List (Nat × Nat)} (h:SetAt w B v l) (hg:v.ownBlock=some g):g<w.heap.size:=(World.ownsRow.lt h.own g hg).2
theorem BkAt.lts {w:World} {p:Nat} {S:Nat->Nat} {v:Nat->Value} {f:Nat->List (Nat × Nat)} (h:BkAt w p S v f) : ∀ k,footB p S v k->k<w.heap.size:=by
 rintro k (rfl | ⟨i,hi,rfl | hk⟩)
 ·exact (yyD h.blk).1
 ·exact (h.set i hi).lt
 ·exact (h.set i hi).row_lt hk
theorem Bk.lts {w:World} {p:Nat} {F:Nat->Prop} {f:Nat->List (Nat × Nat)} (h:Bk w p F f) : ∀ k,F k->k<w.heap.size:=by
 obtain ⟨S,v,hb,hF⟩:=h
 exact fun k hk=>hb.lts k ((hF k).1 hk)
theorem BkAt.same {w w':World} {p:Nat} {S:Nat->Nat} {v:Nat->Value} {f:Nat->List (Nat × Nat)} (h:BkAt w p S v f) (hs : ∀ k,footB p S v k->w'.heap[k]? = w.heap[k]?):BkAt w' p S v f :=
 ⟨by rw [hs p (.inl rfl)]; exact h.blk,fun i hi=>(h.set i hi).same (hs _ (.inr ⟨i,hi,.inl rfl⟩)) fun g hg=>hs g (.inr ⟨i,hi,.inr hg⟩),h.inj,h.ap⟩
theorem Bk.same {w w':World} {p:Nat} {F:Nat->Prop} {f:Nat->List (Nat × Nat)} (h:Bk w p F f) (hs : ∀ k,F k->w'.heap[k]? = w.heap[k]?):Bk w' p F f:=by
 obtain ⟨S,v,hb,hF⟩:=h
 exact ⟨S,v,hb.same fun k hk=>hs k ((hF k).2 hk),hF⟩
theorem Bk.kept {w w':World} {p:Nat} {F:Nat->Prop} {f:Nat->List (Nat × Nat)} (h:Bk w p F f) (hb:Below w.heap.size w w'):Bk w' p F f:=h.same fun k hk=>hb.block k (h.lts k hk)
theorem Own2.block_ty {w:World} {base g:Nat} {v:Value} {l:List (Nat × Nat)} (h:Own2 w base v l) (hg:v.ownBlock=some g) : ∃ c,w.heap[g]? = some (.cells c 174 (0,0)):=by
 rcases h.2 with ⟨rfl,_⟩ | ⟨g',cap,cur,rfl,_,hgg,_⟩
 ·simp [Value.ownBlock] at hg
 ·simp only [Value.ownBlock,Option.some.injEq] at hg
  subst hg
  exact ⟨_,hgg⟩
theorem BkAt.row_ne_p {w:World} {p:Nat} {S:Nat->Nat} {v:Nat->Value} {f:Nat->List (Nat × Nat)} (h:BkAt w p S v f) {i:Nat} (hi:i<8):(v i).ownBlock≠some p:=fun e=>by
 obtain ⟨c,hc⟩:=(h.set i hi).own.block_ty e
 rw [h.blk] at hc
 simp at hc
theorem BkAt.set_ne_p {w:World} {p:Nat} {S:Nat->Nat} {v:Nat->Value} {f:Nat->List (Nat × Nat)} (h:BkAt w p S v f) {i:Nat} (hi:i<8):S i≠p:=fun e=>by
 have:=(h.set i hi).blk
 rw [e,h.blk] at this
 simp at this
theorem BkAt.add {w w':World} {p:Nat} {S:Nat->Nat} {v:Nat->Value} {f:Nat->List (Nat × Nat)} (h:BkAt w p S v f) {i:Nat} (hi:i<8) {v':Value} {l':List (Nat × Nat)} (hs:SetAt w' (S i) v' l') (t:Turned w w' (S i) (v i)) (nw:NewOr w (v i) v'):BkAt w' p S (putF v i v') (putF f i l'):=by
 refine ⟨?_,fun j hj=>?_,h.inj,fun j k hj hk hjk g hg=>?_⟩
 ·rw [t.block p (h.lts p (.inl rfl)) (fun e=>h.set_ne_p hi e.symm) (h.row_ne_p hi)]
  exact h.blk
 ·by_cases e:j=i
  ·subst e
   rw [putF_at,putF_at]
   exact hs
  ·rw [putF_ne _ _ e,putF_ne _ _ e]
   exact (h.set j hj).turned (h.set i hi) t (fun he=>e (h.inj j i hj hi he)) (h.ap j i hj hi e)
 ·by_cases e:j=i
  ·subst e
   rw [putF_at] at hg
   rw [putF_ne _ _ (fun e=>hjk e.symm)]
   exact apart_symm (apart_add (h.set k hk) (h.ap k j hk hj (fun e=>hjk e.symm)) nw) g hg
  ·rw [putF_ne _ _ e] at hg
   by_cases e2:k=i
   ·subst e2
    rw [putF_at]
    exact apart_add (h.set j hj) (h.ap j k hj hk hjk) nw g hg
   ·rw [putF_ne _ _ e2]
    exact h.ap j k hj hk hjk g hg
theorem Turned.moved {w w':World} {p:Nat} {S:Nat->Nat} {v:Nat->Value} {i:Nat} (hi:i<8) {v':Value} (t:Turned w w' (S i) (v i)) (nw:NewOr w (v i) v'):Moved w w' (footB p S v) (footB p S (putF v i v')):=by
 refine ⟨t.os,t.tape,t.output,t.size,fun k hk hn=>t.block k hk (fun e=>hn (.inr ⟨i,hi,.inl e⟩)) (fun e=>hn (.inr ⟨i,hi,.inr e⟩)),?_⟩
 rintro k (rfl | ⟨j,hj,rfl | hk⟩)
 ·exact .inl (.inl rfl)
 ·exact .inl (.inr ⟨j,hj,.inl rfl⟩)
 ·by_cases e:j=i
  ·subst e
   rw [putF_at] at hk
   rcases nw with h | ⟨g,h1,h2⟩
   ·exact .inl (.inr ⟨j,hj,.inr (h ▸ hk)⟩)
   ·rw [h1] at hk
    injection hk with hk
    exact .inr (hk ▸ h2)
  ·rw [putF_ne _ _ e] at hk
   exact .inl (.inr ⟨j,hj,.inr hk⟩)
theorem BkAt.put {w:World} {p:Nat} {S:Nat->Nat} {v:Nat->Value} {f:Nat->List (Nat × Nat)} (h:BkAt w p S v f) {i:Nat} (hi:i<8) {B base:Nat} {v':Value} {l':List (Nat × Nat)} (hs:SetAt w B v' l') (hfr:From0 base B v') (hold : ∀ k,footB p S v k->k<base):BkAt (w.setCell ⟨p,i,none⟩ (ptrS B)) p (putF S i B) (putF v i v') (putF f i l'):=by
 have hp : ∀ k,k≠p->(w.setCell ⟨p,i,none⟩ (ptrS B)).heap[k]? = w.heap[k]? := fun k hk=>Below.heap_setCell _ _ _ _ hk
 have hpb:p<base:=hold p (.inl rfl)
 have hSb : ∀ j,j<8->S j<base:=fun j hj=>hold _ (.inr ⟨j,hj,.inl rfl⟩)
 have hvb : ∀ j g,j<8->(v j).ownBlock=some g->g<base:=fun j g hj hg=>hold g (.inr ⟨j,hj,.inr hg⟩)
 refine ⟨?_,fun j hj=>?_,fun j k hj hk hjk=>?_,fun j k hj hk hjk g hg=>?_⟩
 ·rw [heap_fset h.blk,fcells_congr (t:=fun j=>ptrS (putF S i B j))]
  intro j _
  unfold putF
  split <;> rfl
 ·by_cases e:j=i
  ·subst e
   rw [putF_at,putF_at,putF_at]
   refine hs.same (hp _ fun e=>?_) fun g hg=>hp _ fun e=>?_
   ·have:=hfr.1; omega
   ·have:=hfr.2 g hg; omega
  ·rw [putF_ne _ _ e,putF_ne _ _ e,putF_ne _ _ e]
   exact (h.set j hj).same (hp _ (h.set_ne_p hj)) fun g hg=>hp _ fun e=>h.row_ne_p hj (e ▸ hg)
 ·unfold putF at hjk
  split at hjk <;> split at hjk
  ·omega
  ·have:=hSb k hk; have:=hfr.1; omega
  ·have:=hSb j hj; have:=hfr.1; omega
  ·exact h.inj j k hj hk hjk
 ·unfold putF at hg ⊢
  split at hg <;> split
  ·omega
  ·intro e; have:=hvb k g hk e; have:=hfr.2 g hg; omega
  ·intro e; have:=hvb j g hj hg; have:=hfr.2 g e; omega
  ·exact h.ap j k hj hk hjk g hg
structure Told (w:World) (b:Value) (f:Nat->List (Nat × Nat)):Prop where
 way:(b=.pointer none/\f=fun _=>[]) \/ ∃ p s,b=ptrS p/\w.heap[p]? = some (.cells (fcells 8 s).toArray 131 (0,0)) /\ ∀ i,i<8->Lies w (s i) (f i)
theorem BkAt.told {w:World} {p:Nat} {S:Nat->Nat} {v:Nat->Value} {f:Nat->List (Nat × Nat)} (h:BkAt w p S v f):Told w (ptrS p) f:=⟨.inr ⟨p,_,rfl,h.blk,fun i hi=>(h.set i hi).lies⟩⟩
theorem Bk.told {w:World} {p:Nat} {F:Nat->Prop} {f:Nat->List (Nat × Nat)} (h:Bk w p F f):Told w (ptrS p) f:=by
 obtain ⟨S,v,hb,_⟩:=h
 exact hb.told
theorem Told.below {w w':World} {b:Value} {f:Nat->List (Nat × Nat)} (h:Told w b f) (hb:Below w.heap.size w w'):Told w' b f:=by
 rcases h.way with ⟨h1,h2⟩ | ⟨p,s,h1,h2,h3⟩
 ·exact ⟨.inl ⟨h1,h2⟩⟩
 ·exact ⟨.inr ⟨p,s,h1,by rw [hb.block p (yyD h2).1]; exact h2,fun i hi=>(h3 i hi).below hb (yyH _)⟩⟩
theorem cell_on {w w':World} {b j:Nat} {v:Value} (hb:Below w.heap.size w w') (h:w.cell? ⟨b,j,none⟩=some v):w'.cell? ⟨b,j,none⟩=some v :=
 (hb.cell (p:=⟨b,j,none⟩) (World.block_lt_of_cell? _ _ h)).trans h
theorem keptW {w w1 w2:World} (h:Below w.heap.size w w1) (b:Below w1.heap.size w1 w2):Below w.heap.size w w2:=h.trans (b.mono h.size)
end Go.Proofs.YtnhnpnafchkhiaaGreatDoor.S
namespace Go.Proofs.YtnhnpnafchkhiaaGreatDoor.S
open Go.RowKit Go.Sort
set_option maxRecDepth 20000
theorem known_any (o:Int) (w:World) :
  Calls Tryz.prog 119 #[.int .i64 o] w fun e w'=>e=.returned (.bool (knownB o))/\w'=w:=by
 by_cases h1:1<=o
 ·by_cases h2:o<=8
  ·go_enter Tryz.func119,Tryz.ntmps119
   go_wp2
   go_ret
   exact ⟨ret_bool (decide_eq_true ⟨h1,h2⟩).symm,rfl⟩
  ·go_enter Tryz.func119,Tryz.ntmps119
   go_wp2
   go_ret
   exact ⟨ret_bool (decide_eq_false (by omega)).symm,rfl⟩
 ·go_enter Tryz.func119,Tryz.ntmps119
  go_wp2
  go_ret
  exact ⟨ret_bool (decide_eq_false (by omega)).symm,rfl⟩
theorem made_ptr (p:Nat) (s:Nat->Value) (S0:Nat) (w:World) (h:w.heap[p]? = some (.cells (fcells 8 s).toArray 131 (0,0))) (hs:s 0=ptrS S0) :
  Calls Tryz.prog 73 #[ptrS p] w fun e w'=>e=.returned (.bool true)/\w'=w:=by
 have hc:w.cell? ⟨p,0,none⟩=some (.pointer (some ⟨S0,0,none⟩)):=by rw [cell_of_list h,fcells_get _ (by omega),hs]; rfl
 clear h
 unfold ptrS
 go_enter Tryz.func73,Tryz.ntmps73
 go_wp2
 go_ret
 exact ⟨rfl,rfl⟩
theorem made_any (p:Nat) (F:Nat->Prop) (f:Nat->List (Nat × Nat)) (w:World) (h:Bk w p F f) :
  Calls Tryz.prog 73 #[ptrS p] w fun e w'=>e=.returned (.bool true)/\w'=w:=by
 obtain ⟨S,v,hb,_⟩:=h
 exact made_ptr p _ (S 0) w hb.blk rfl
theorem of_ptr (p i:Nat) (o:Int) (s:Nat->Value) (w:World) (hi:i<8) (ho:o=(i:Int)+1) (h:w.heap[p]? = some (.cells (fcells 8 s).toArray 131 (0,0))) :
  Calls Tryz.prog 67 #[ptrS p,.int .i64 o] w fun e w'=>e=.returned (s i)/\w'=w:=by
 have hc:w.cell? ⟨p,i,none⟩=some (s i):=by rw [cell_of_list h,fcells_get _ hi]
 have hK:=known_any o w
 rw [show knownB o=true from decide_eq_true (by omega)] at hK
 have hw:IntKind.i64.wrap (o-1)=(i:Int):=by rw [IntKind.wrap_i64]; omega
 have hi':(i:Int)<8:=by omega
 generalize s i=si at hc ⊢
 clear h ho
 unfold ptrS
 go_enter Tryz.func67,Tryz.ntmps67
 go_wp2_with (go_at_call 119; refine hK.mono ?_; rintro e w ⟨rfl,rfl⟩)
 go_ret
 exact ⟨rfl,rfl⟩
theorem of_none (o:Int) (b:Value) (w:World) (hb:b=.pointer none \/ ∃ p,b=ptrS p) (h:b=.pointer none \/ ¬ (1<=o/\o<=8)) :
  Calls Tryz.prog 67 #[b,.int .i64 o] w fun e w'=>e=.returned (.pointer none)/\w'=w:=by
 have hK:=known_any o w
 rcases hb with rfl | ⟨p,rfl⟩
 ·clear hK
  go_enter Tryz.func67,Tryz.ntmps67
  go_wp2
  go_ret
  exact ⟨rfl,rfl⟩
 ·rw [show knownB o=false from decide_eq_false (h.elim (fun h=>by cases h) id)] at hK
  unfold ptrS
  go_enter Tryz.func67,Tryz.ntmps67
  go_wp2_with (go_at_call 119; refine hK.mono ?_; rintro e w ⟨rfl,rfl⟩)
  go_ret
  exact ⟨rfl,rfl⟩
theorem of_any (b:Value) (f:Nat->List (Nat × Nat)) (o:Int) (w:World) (h:Told w b f) :
  Calls Tryz.prog 67 #[b,.int .i64 o] w fun e w' => ∃ s,e=.returned s/\Lies w s (ofF f o)/\w'=w:=by
 rcases h.way with ⟨rfl,rfl⟩ | ⟨p,s,rfl,hp,hs⟩
 ·refine (of_none o _ w (.inl rfl) (.inl rfl)).mono ?_
  rintro e w' ⟨rfl,rfl⟩
  refine ⟨_,rfl,.inl ⟨rfl,?_⟩,rfl⟩
  unfold ofF
  split <;> rfl
 ·by_cases ho:1<=o/\o<=8
  ·obtain ⟨i,hi,he⟩:=known_at ho
   refine (of_ptr p i o s w hi he hp).mono ?_
   rintro e w' ⟨rfl,rfl⟩
   exact ⟨_,rfl,by rw [ofF_in hi he]; exact hs i hi,rfl⟩
  ·refine (of_none o _ w (.inr ⟨p,rfl⟩) (.inr ho)).mono ?_
   rintro e w' ⟨rfl,rfl⟩
   exact ⟨_,rfl,.inl ⟨rfl,ofF_out ho⟩,rfl⟩
theorem Lies.ptr {w:World} {s:Value} {l:List (Nat × Nat)} (h:Lies w s l) : ∃ q,s=.pointer q:=by
 rcases h with ⟨h,_⟩ | ⟨B,m,v,h,_⟩
 ·exact ⟨_,h⟩
 ·exact ⟨_,h⟩
theorem Told.ptr {w:World} {b:Value} {f:Nat->List (Nat × Nat)} (h:Told w b f) : ∃ q,b=.pointer q:=by
 rcases h.way with ⟨h,_⟩ | ⟨p,s,h,_⟩
 ·exact ⟨_,h⟩
 ·exact ⟨_,h⟩
end Go.Proofs.YtnhnpnafchkhiaaGreatDoor.S
namespace Go.Proofs.YtnhnpnafchkhiaaGreatDoor.S
open Go.RowKit Go.Sort
set_option maxRecDepth 20000
structure Melt (w wr:World) (g c:Nat) (l out:List (Nat × Nat)) (k:Nat):Prop where
 blk : ∃ C:List Value,wr.heap[g]? = some (.cells C.toArray 174 (0,0))/\C.length=c*2/\C.take (out.length*2)=rcells out /\ ∀ q,k*2<=q->q<l.length*2->C[q]? = (rcells l)[q]?
 size:w.heap.size<=wr.heap.size
 os:wr.os=w.os
 tape:wr.tape=w.tape
 output:wr.output=w.output
 block : ∀ i,i<w.heap.size->i≠g->wr.heap[i]? = w.heap[i]?
end Go.Proofs.YtnhnpnafchkhiaaGreatDoor.S
namespace Go.Proofs.YtnhnpnafchkhiaaGreatDoor.S
open Go.RowKit Go.Sort
set_option maxRecDepth 20000
end Go.Proofs.YtnhnpnafchkhiaaGreatDoor.S
