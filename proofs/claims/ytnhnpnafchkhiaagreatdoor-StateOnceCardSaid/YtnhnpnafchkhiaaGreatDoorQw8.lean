import Derived.Test.YtnhnpnafchkhiaaGreatDoorQwA
import Derived.WalkKit
import Derived.Test.YtnhnpnafchkhiaaGreatDoorProg
import Derived.WalkLawsBesides
import Derived.Handy
import Derived.Laws.AppendOwnNone
import Derived.Laws.MakeOwn
import Derived.ArgAppend
import Derived.OwnWalk
import Derived.BigQuiet
import Derived.Shelf.SlSorted.Search
import Derived.Shelf.SlSortCmp.QuietGrown
import Derived.Test.YtnhnpnafchkhiaaGreatDoorQw3
import Derived.Laws.StructEq
set_option maxHeartbeats 2000000
namespace Go.Proofs.YtnhnpnafchkhiaaGreatDoor.S
def Mem (l:List (Nat × Nat)) (m:Nat):Prop := ∃ r∈l,r.1<=m/\m<=r.2
def memB (l:List (Nat × Nat)) (m:Nat):Bool:=l.any fun r=>decide (r.1<=m) && decide (m<=r.2)
theorem memB_iff (l:List (Nat × Nat)) (m:Nat):memB l m=true↔Mem l m:=by
 simp only [memB,Mem,List.any_eq_true,Bool.and_eq_true,decide_eq_true_eq]
theorem memB_false (l:List (Nat × Nat)) (m:Nat):memB l m=false ↔ ¬ Mem l m:=by
 rw [<- memB_iff,Bool.not_eq_true]
theorem mem_cons (r:Nat × Nat) (l:List (Nat × Nat)) (m:Nat):Mem (r::l) m↔(r.1<=m/\m<=r.2)\/Mem l m:=by
 simp [Mem]
def Apart:Nat->List (Nat × Nat)->Prop
 |_,[]=>True
 |b,r::t=>b<=r.1/\r.1<=r.2/\Apart (r.2+2) t
theorem Apart.lowR : ∀ {l:List (Nat × Nat)} {b:Nat} {r:Nat × Nat},Apart b l->r∈l->b<=r.1/\r.1<=r.2
 |s::t,b,r,h,hm=>by
  rcases List.mem_cons.1 hm with rfl | hm
  ·exact ⟨h.1,h.2.1⟩
  ·have:=h.2.2.lowR hm; have h1:=h.1; have h2:=h.2.1; exact ⟨by omega,this.2⟩
def sizeL:List (Nat × Nat)->Nat
 |[]=>0
 |r::t=>(r.2-r.1+1)+sizeL t
def growL (B:List (Nat × Nat)) (n:Nat):Nat × Nat:=B.foldl (fun g r=>(min g.1 r.1,max g.2 r.2)) (n,n)
theorem put_one : ∀ (A B C:List (Nat × Nat)) (n b:Nat),Apart b (A++(B++C))->b<=n -> ¬ Mem (A++(B++C)) n->(∀ r∈A,r.2+1<n)->(∀ r∈B,n<=r.2+1/\r.1<=n+1)->(∀ r∈C,n+1<r.1) ->
  Apart b (A++growL B n::C)/\(∀ m,Mem (A++growL B n::C) m↔Mem (A++(B++C)) m\/m=n)/\sizeL (A++growL B n::C)=sizeL (A++(B++C))+1
 |[],[],C,n,b,h,hb,hn,_,_,hC=>by
  refine ⟨⟨hb,yyH _,?_⟩,fun m=>?_,?_⟩
  ·cases C with
   |nil=>trivial
   |cons r t=>have:=hC r (by simp); exact ⟨this,h.2.1,h.2.2⟩
  ·simp only [growL,List.foldl_nil,List.nil_append,mem_cons]
   constructor
   ·rintro (⟨h1,h2⟩ | h1)
    ·exact .inr (Nat.le_antisymm h2 h1)
    ·exact .inl h1
   ·rintro (h1 | rfl)
    ·exact .inr h1
    ·exact .inl ⟨yyH _,yyH _⟩
  ·simp [growL,sizeL]; omega
 |[],[r],C,n,b,h,hb,hn,_,hB,hC=>by
  have hr:=hB r (by simp)
  have hr2:=h.2.1
  have hr0:=h.1
  have hne : ¬ (r.1<=n/\n<=r.2):=fun hh=>hn ((mem_cons r C n).2 (.inl hh))
  simp only [growL,List.foldl_cons,List.foldl_nil,List.nil_append,List.cons_append] at *
  refine ⟨⟨?_,?_,?_⟩,fun m=>?_,?_⟩
  ·simp only; omega
  ·simp only; omega
  ·cases C with
   |nil=>trivial
   |cons s t =>
    have:=hC s (by simp)
    have h3:=h.2.2
    exact ⟨by have:=h3.1; simp only; omega,h3.2.1,h3.2.2⟩
  ·rw [mem_cons,mem_cons]
   simp only
   constructor
   ·rintro (⟨h1,h2⟩ | h1)
    ·by_cases hm:m=n
     ·exact .inr hm
     ·exact .inl (.inl ⟨by omega,by omega⟩)
    ·exact .inl (.inr h1)
   ·rintro ((h1 | h1) | rfl)
    ·exact .inl ⟨by omega,by omega⟩
    ·exact .inr h1
    ·exact .inl ⟨by omega,by omega⟩
  ·simp only [sizeL]; omega
 |[],[r,s],C,n,b,h,hb,hn,_,hB,hC=>by
  have hr:=hB r (by simp)
  have hs:=hB s (by simp)
  have hr2:=h.2.1
  have hr0:=h.1
  have hs0:=h.2.2.1
  have hs2:=h.2.2.2.1
  have hne : ¬ (r.1<=n/\n<=r.2):=fun hh=>hn ((mem_cons r (s::C) n).2 (.inl hh))
  simp only [growL,List.foldl_cons,List.foldl_nil,List.nil_append,List.cons_append] at *
  refine ⟨⟨?_,?_,?_⟩,fun m=>?_,?_⟩
  ·simp only; omega
  ·simp only; omega
  ·cases C with
   |nil=>trivial
   |cons u t =>
    have:=hC u (by simp)
    have h3:=h.2.2.2.2
    exact ⟨by have:=h3.1; simp only; omega,h3.2.1,h3.2.2⟩
  ·rw [mem_cons,mem_cons,mem_cons]
   simp only
   constructor
   ·rintro (⟨h1,h2⟩ | h1)
    ·by_cases hm:m=n
     ·exact .inr hm
     ·by_cases hlt:m<n
      ·exact .inl (.inl ⟨by omega,by omega⟩)
      ·exact .inl (.inr (.inl ⟨by omega,by omega⟩))
    ·exact .inl (.inr (.inr h1))
   ·rintro ((h1 | h1 | h1) | rfl)
    ·exact .inl ⟨by omega,by omega⟩
    ·exact .inl ⟨by omega,by omega⟩
    ·exact .inr h1
    ·exact .inl ⟨by omega,by omega⟩
  ·simp only [sizeL]; omega
 |[],r::s::u::_,C,n,b,h,hb,hn,_,hB,hC=>by
  exfalso
  have h1:=hB r (by simp)
  have h2:=hB s (by simp)
  have h3:=hB u (by simp)
  have g1:=h.2.2.1
  have g2:=h.2.2.2.1
  have g3:=h.2.2.2.2.1
  have g4:=h.2.1
  omega
 |r::A,B,C,n,b,h,hb,hn,hA,hB,hC=>by
  have hr:=hA r (by simp)
  rw [List.cons_append,mem_cons] at hn
  obtain ⟨i1,i2,i3⟩:=put_one A B C n (r.2+2) h.2.2 (by omega) (fun hh=>hn (.inr hh)) (fun q hq=>hA q (by simp [hq])) hB hC
  refine ⟨⟨h.1,h.2.1,i1⟩,fun m=>?_,?_⟩
  ·rw [List.cons_append,List.cons_append,mem_cons,mem_cons,i2 m]
   constructor
   ·rintro (h1 | h1 | h1)
    ·exact .inl (.inl h1)
    ·exact .inl (.inr h1)
    ·exact .inr h1
   ·rintro ((h1 | h1) | h1)
    ·exact .inl h1
    ·exact .inr (.inl h1)
    ·exact .inr (.inr h1)
  ·rw [List.cons_append,List.cons_append,sizeL,sizeL,i3]; omega
def fromL (l:List (Nat × Nat)) (n:Nat):Nat:=l.countP fun r=>decide (r.2<n-1)
def toL (l:List (Nat × Nat)) (n:Nat):Nat:=l.countP fun r=>decide (r.1-1<=n)
def belowL (l:List (Nat × Nat)) (n:Nat):Nat:=l.countP fun r=>decide (r.2<n)
theorem countP_far {p:Nat × Nat->Bool} : ∀ {l:List (Nat × Nat)},(∀ r∈l,p r=false)->l.countP p=0
 |[],_=>rfl
 |r::t,h=>by rw [List.countP_cons,countP_far (l:=t) fun q hq=>h q (by simp [hq]),h r (by simp)]; simp
theorem split_at {p:Nat × Nat->Bool} : ∀ {l:List (Nat × Nat)},(∀ i j (hi:i<l.length) (hj:j<l.length),i<=j->p l[j]=true->p l[i]=true) ->
  (∀ r∈l.take (l.countP p),p r=true)/\(∀ r∈l.drop (l.countP p),p r=false)
 |[],_=>⟨fun r h=>by simp at h,fun r h=>by simp at h⟩
 |r::t,h=>by
  have ht:=split_at (p:=p) (l:=t) fun i j hi hj hij hp=>by
   have:=h (i+1) (j+1) (by simpa using hi) (by simpa using hj) (by omega) (by simpa using hp)
   simpa using this
  by_cases hr:p r=true
  ·rw [List.countP_cons,if_pos hr]
   refine ⟨fun q hq=>?_,fun q hq=>ht.2 q (by simpa using hq)⟩
   rw [List.take_succ_cons,List.mem_cons] at hq
   rcases hq with rfl | hq
   ·exact hr
   ·exact ht.1 q hq
  ·have hall : ∀ q∈t,p q=false:=by
    intro q hq
    obtain ⟨i,hi,rfl⟩:=List.mem_iff_getElem.1 hq
    rw [Bool.eq_false_iff]
    intro hp
    exact hr (by have:=h 0 (i+1) (by simp) (by simpa using hi) (by omega) (by simpa using hp); simpa using this)
   rw [List.countP_cons,if_neg hr,countP_far hall]
   refine ⟨fun q hq=>by simp at hq,fun q hq=>?_⟩
   rw [Nat.zero_add,List.drop_zero,List.mem_cons] at hq
   rcases hq with rfl | hq
   ·simpa using hr
   ·exact hall q hq
theorem Apart.rising : ∀ {l:List (Nat × Nat)} {b i j:Nat} (hi:i<l.length) (hj:j<l.length),Apart b l->i<j->l[i].2+2<=l[j].1
 |[],_,_,_,hi,_,_,_=>absurd hi (by simp)
 |r::t,b,0,j+1,hi,hj,h,_=>by
  simp only [List.getElem_cons_zero,List.getElem_cons_succ]
  exact (h.2.2.lowR (List.getElem_mem _)).1
 |r::t,b,i+1,j+1,hi,hj,h,hij=>by
  simp only [List.getElem_cons_succ]
  exact h.2.2.rising (by simpa using hi) (by simpa using hj) (by omega)
theorem Apart.risingLo {l:List (Nat × Nat)} {b i j:Nat} (hi:i<l.length) (hj:j<l.length) (h:Apart b l) (hij:i<=j):l[i].1<=l[j].1/\l[i].2<=l[j].2:=by
 rcases Nat.eq_or_lt_of_le hij with rfl | hlt
 ·exact ⟨yyH _,yyH _⟩
 ·have h1:=h.rising hi hj hlt
  have h2:=h.lowR (List.getElem_mem hi)
  have h3:=h.lowR (List.getElem_mem hj)
  omega
def addL (l:List (Nat × Nat)) (n:Nat):List (Nat × Nat):=l.take (fromL l n)++growL ((l.take (toL l n)).drop (fromL l n)) n::l.drop (toL l n)
theorem from_le_to {l:List (Nat × Nat)} {n b:Nat} (h:Apart b l):fromL l n<=toL l n:=by
 unfold fromL toL
 refine List.countP_mono_left fun r hr hp=>?_
 have:=h.lowR hr
 simp at hp ⊢
 omega
theorem to_le (l:List (Nat × Nat)) (n:Nat):toL l n<=l.length:=List.countP_le_length
theorem add_split {l:List (Nat × Nat)} {n b:Nat} (h:Apart b l):l.take (fromL l n)++((l.take (toL l n)).drop (fromL l n)++l.drop (toL l n))=l:=by
 rw [<- List.append_assoc]
 conv=>rhs; rw [<- List.take_append_drop (toL l n) l]
 congr 1
 conv=>rhs; rw [<- List.take_append_drop (fromL l n) (l.take (toL l n))]
 rw [List.take_take,Nat.min_eq_left (from_le_to h)]
theorem addL_ok {l:List (Nat × Nat)} {n:Nat} (h:Apart 1 l) (hn:n≠0) (hm : ¬ Mem l n) :
  Apart 1 (addL l n)/\(∀ m,Mem (addL l n) m↔Mem l m\/m=n)/\sizeL (addL l n)=sizeL l+1:=by
 have hs:=add_split (n:=n) h
 have f1:=split_at (p:=fun r=>decide (r.2<n-1)) (l:=l) fun i j hi hj hij hp=>by
  have:=h.risingLo hi hj hij; simp at hp ⊢; omega
 have f2:=split_at (p:=fun r=>decide (r.1-1<=n)) (l:=l) fun i j hi hj hij hp=>by
  have:=h.risingLo hi hj hij; simp at hp ⊢; omega
 have:=put_one (l.take (fromL l n)) ((l.take (toL l n)).drop (fromL l n)) (l.drop (toL l n)) n 1 (by rw [hs]; exact h) (by omega) (by rw [hs]; exact hm)
  (fun r hr=>by have:=f1.1 r hr; simp at this; omega)
  (fun r hr=>by
   have g2:=f2.1 r (List.mem_of_mem_drop hr)
   have g1:=f1.2 r (by
    have:(l.take (toL l n)).drop (fromL l n)=(l.drop (fromL l n)).take (toL l n-fromL l n):=List.drop_take
    rw [this] at hr
    exact List.mem_of_mem_take hr)
   have hr1:=h.lowR (List.mem_of_mem_take (List.mem_of_mem_drop hr))
   simp at g1 g2
   omega)
  (fun r hr=>by have:=f2.2 r hr; simp at this; omega)
 rw [hs] at this
 exact this
theorem growL_bound : ∀ (B:List (Nat × Nat)) (g:Nat × Nat) (N:Nat),(∀ r∈B,r.2<N)->g.2<N->(B.foldl (fun g r=>(min g.1 r.1,max g.2 r.2)) g).2<N
 |[],_,_,_,h=>h
 |r::t,g,N,hB,h=>by
  rw [List.foldl_cons]
  refine growL_bound t _ N (fun q hq=>hB q (by simp [hq])) ?_
  have:=hB r (by simp)
  show max g.2 r.2<N
  omega
def Upto (N:Nat) (l:List (Nat × Nat)):Prop := ∀ r∈l,r.2<N
theorem addL_upto {l:List (Nat × Nat)} {n N:Nat} (h:Upto N l) (hn:n<N):Upto N (addL l n):=by
 intro r hr
 unfold addL at hr
 rcases List.mem_append.1 hr with hr | hr
 ·exact h r (List.mem_of_mem_take hr)
 ·rcases List.mem_cons.1 hr with rfl | hr
  ·exact growL_bound _ _ N (fun q hq=>h q (List.mem_of_mem_take (List.mem_of_mem_drop hq))) hn
  ·exact h r (List.mem_of_mem_drop hr)
theorem has_iff {l:List (Nat × Nat)} {n b:Nat} (h:Apart b l):memB l n=if hh:belowL l n<l.length then decide (l[belowL l n].1<=n) else false:=by
 have f:=split_at (p:=fun r=>decide (r.2<n)) (l:=l) fun i j hi hj hij hp=>by
  have:=h.risingLo hi hj hij; simp at hp ⊢; omega
 rw [Bool.eq_iff_iff,memB_iff]
 have key:Mem l n ↔ ∃ hh:belowL l n<l.length,l[belowL l n].1<=n:=by
  constructor
  ·rintro ⟨r,hr,h1,h2⟩
   obtain ⟨i,hi,rfl⟩:=List.mem_iff_getElem.1 hr
   have hge:belowL l n<=i:=by
    rcases Nat.lt_or_ge i (belowL l n) with hlt | hge
    ·exfalso
     have:=f.1 l[i] (List.mem_take_iff_getElem.2 ⟨i,by rw [Nat.lt_min]; exact ⟨hlt,hi⟩,rfl⟩)
     simp at this; omega
    ·exact hge
   refine ⟨by omega,?_⟩
   have:=h.risingLo (i:=belowL l n) (by omega) hi hge
   omega
  ·rintro ⟨hh,h1⟩
   refine ⟨l[belowL l n],List.getElem_mem hh,h1,?_⟩
   have:=f.2 l[belowL l n] (List.mem_drop_iff_getElem.2 ⟨0,by have:=hh; unfold belowL at this; omega,by simp [belowL]⟩)
   simp at this; omega
 rw [key]
 by_cases hh:belowL l n<l.length
 ·simp [hh]
 ·simp [hh]
def lowL:List (Nat × Nat)->Nat
 |[]=>0
 |r::_=>if r.1=1 then r.2 else 0
def topL (l:List (Nat × Nat)):Nat:=match l.getLast? with | some r=>r.2 | none=>0
def gapsL (l:List (Nat × Nat)):Nat:=l.countP fun r=>decide (r.1≠1)
open Go.RowKit
def rcells (l:List (Nat × Nat)):List Value:=l.flatMap fun r=>[.int .u64 (r.1:Int),.int .u64 (r.2:Int)]
theorem rcells_nil:rcells []=[]:=rfl
theorem rcells_cons (r:Nat × Nat) (l:List (Nat × Nat)):rcells (r::l)=.int .u64 (r.1:Int)::.int .u64 (r.2:Int)::rcells l:=rfl
theorem rcells_append (a b:List (Nat × Nat)):rcells (a++b)=rcells a++rcells b:=by simp [rcells]
theorem rcells_length (l:List (Nat × Nat)):(rcells l).length=l.length*2:=by
 induction l with
 |nil=>rfl
 |cons r t ih=>rw [rcells_cons,List.length_cons,List.length_cons,ih,List.length_cons]; omega
theorem rcells_one (l:List (Nat × Nat)) : ∀ u∈rcells l,u.oneCell'=true:=by
 intro u hu
 simp only [rcells,List.mem_flatMap] at hu
 obtain ⟨r,_,hu⟩:=hu
 simp at hu
 rcases hu with rfl | rfl <;> rfl
theorem rcells_take (l:List (Nat × Nat)) (k:Nat):(rcells l).take (k*2)=rcells (l.take k):=by
 induction l generalizing k with
 |nil=>simp [rcells_nil]
 |cons r t ih =>
  cases k with
  |zero=>simp [rcells_nil]
  |succ k=>rw [show (k+1)*2=k*2+1+1 by omega,rcells_cons,List.take_succ_cons,List.take_succ_cons,ih,List.take_succ_cons,rcells_cons]
theorem rcells_drop (l:List (Nat × Nat)) (k:Nat):(rcells l).drop (k*2)=rcells (l.drop k):=by
 induction l generalizing k with
 |nil=>simp [rcells_nil]
 |cons r t ih =>
  cases k with
  |zero=>simp
  |succ k=>rw [show (k+1)*2=k*2+1+1 by omega,rcells_cons,List.drop_succ_cons,List.drop_succ_cons,ih,List.drop_succ_cons]
theorem rcells_get (l:List (Nat × Nat)) (i:Nat) (h:i<l.length):(rcells l)[i*2]? = some (.int .u64 (l[i].1:Int))/\(rcells l)[i*2+1]? = some (.int .u64 (l[i].2:Int)):=by
 induction l generalizing i with
 |nil=>simp at h
 |cons r t ih =>
  cases i with
  |zero=>simp [rcells_cons]
  |succ i =>
   have:=ih i (by simpa using h)
   rw [show (i+1)*2=i*2+1+1 by omega,rcells_cons]
   simpa using this
def Rng (w:World) (v:Value) (l:List (Nat × Nat)):Prop :=
 (v=.slice none 0 0/\l=[]) \/
 ∃ a cap,v=.slice (some a) l.length cap/\l.length<=cap/\cap<=maxLen /\ ∀ j u,(rcells l)[j]? = some u->w.cell? (a.add j)=some u
theorem Addr.block_add (a:Addr) (j:Nat):(a.add j).block=a.block:=by unfold Addr.add; split <;> rfl
theorem rng_nil (w:World):Rng w (.slice none 0 0) []:=.inl ⟨rfl,rfl⟩
theorem Rng.below {B:Nat} {w w':World} {v:Value} {l:List (Nat × Nat)} (h:Rng w v l) (hb:Below B w w') (hB:w.heap.size<=B):Rng w' v l:=by
 rcases h with h | ⟨a,cap,hv,h1,h2,h3⟩
 ·exact .inl h
 ·refine .inr ⟨a,cap,hv,h1,h2,fun j u hj=>?_⟩
  have hc:=h3 j u hj
  have hlt:=World.block_lt_of_cell? w _ hc
  rw [hb.cell (p:=a.add j) (by omega)]
  exact hc
theorem Rng.slice {w:World} {v:Value} {l:List (Nat × Nat)} (h:Rng w v l) : ∃ a cap,v=.slice a l.length cap:=by
 rcases h with ⟨rfl,rfl⟩ | ⟨a,cap,rfl,_⟩
 ·exact ⟨_,_,rfl⟩
 ·exact ⟨_,_,rfl⟩
theorem Rng.at {w:World} {v:Value} {l:List (Nat × Nat)} (h:Rng w v l) (hp:0<l.length) :
  ∃ b off cap,v=.slice (some ⟨b,off,none⟩) l.length cap/\l.length<=cap/\cap<=maxLen /\ ∀ j u,(rcells l)[j]? = some u->w.cell? ⟨b,off+j,none⟩=some u:=by
 rcases h with ⟨rfl,rfl⟩ | ⟨a,cap,rfl,h1,h2,h3⟩
 ·simp at hp
 ·obtain ⟨b,off,spot⟩:=a
  have h0:=h3 0 _ (rcells_get l 0 hp).1
  have hspot:spot=none:=by simpa [Addr.add] using World.cell?_spot h0
  subst hspot
  refine ⟨b,off,cap,rfl,h1,h2,fun j u hj=>?_⟩
  rw [<- Go.WideShapes.add_plain]
  exact h3 j u hj
theorem at_cells {w:World} {b off:Nat} {l:List (Nat × Nat)} (h : ∀ j u,(rcells l)[j]? = some u->w.cell? ⟨b,off+j,none⟩=some u) (i:Nat) (hi:i<l.length) :
  w.cell? ⟨b,off+i*2,none⟩=some (.int .u64 (l[i].1:Int))/\w.cell? ⟨b,off+i*2+1,none⟩=some (.int .u64 (l[i].2:Int)):=by
 have:=rcells_get l i hi
 exact ⟨h _ _ this.1,by rw [Nat.add_assoc]; exact h _ _ this.2⟩
theorem rngInfo : ∃ i,Tryz.prog.info? 174=some i/\i.zero=some (.agg #[.int .u64 0,.int .u64 0])/\i.size=2/\i.bytes=16:=by
 have hinfo:(Tryz.prog.info? 174).map (fun i=>(i.zero,i.size,i.bytes))=some (some (.agg #[.int .u64 0,.int .u64 0]),2,16):=by kernel_rfl
 exact info_parts hinfo
def Own2 (w:World) (base:Nat) (v:Value) (l:List (Nat × Nat)):Prop:=w.ownsRow base 174 2 v l.length (rcells l)
theorem own2_nil (w:World) (base:Nat):Own2 w base (.slice none 0 0) []:=World.ownsRow_nil _ _ _ _
theorem Own2.rng {w:World} {base:Nat} {v:Value} {l:List (Nat × Nat)} (h:Own2 w base v l):Rng w v l:=by
 have h':=h
 rcases h.2 with ⟨rfl,hn⟩ | ⟨g,cap,cur,rfl,_,_,hnc,hcm,_,_⟩
 ·exact .inl ⟨rfl,List.eq_nil_of_length_eq_zero hn⟩
 ·exact .inr ⟨⟨g,0,none⟩,cap,rfl,hnc,hcm,fun j u hj=>World.ownsRow.cells h' (g:=g) rfl j u hj⟩
theorem Own2.mono {w:World} {b c:Nat} {v:Value} {l:List (Nat × Nat)} (h:Own2 w b v l) (hc:c<=b):Own2 w c v l:=by
 refine ⟨h.1,?_⟩
 rcases h.2 with hn | ⟨g,cap,cur,hv,hbg,hg,rest⟩
 ·exact .inl hn
 ·exact .inr ⟨g,cap,cur,hv,by omega,hg,rest⟩
theorem Own2.kept {w w':World} {b B:Nat} {v:Value} {l:List (Nat × Nat)} (h:Own2 w b v l) (hb:Below B w w') (hB:w.heap.size<=B):Own2 w' b v l:=by
 refine ⟨h.1,?_⟩
 rcases h.2 with hn | ⟨g,cap,cur,hv,hbg,hg,rest⟩
 ·exact .inl hn
 ·refine .inr ⟨g,cap,cur,hv,hbg,?_,rest⟩
  rw [hb.block g (by have:=(yyD hg).1; omega)]
  exact hg
theorem Own2.alloc {w:World} {b:Nat} {v:Value} {l:List (Nat × Nat)} (h:Own2 w b v l) (o:Obj):Own2 (w.alloc o) b v l:=World.ownsRow.alloc h o
theorem Own2.same {w w':World} {b:Nat} {v:Value} {l:List (Nat × Nat)} (h:Own2 w b v l) (hs : ∀ g,v.ownBlock=some g->w'.heap[g]? = w.heap[g]?):Own2 w' b v l:=by
 refine ⟨h.1,?_⟩
 rcases h.2 with hn | ⟨g,cap,cur,hv,hbg,hg,rest⟩
 ·exact .inl hn
 ·exact .inr ⟨g,cap,cur,hv,hbg,by rw [hs g (by rw [hv]; rfl)]; exact hg,rest⟩
theorem le_alloc {w:World} {n:Nat} (h:n<=w.heap.size) (o:Obj):n<=(w.alloc o).heap.size:=by rw [World.size_alloc]; omega
theorem ret_bool {a b:Bool} (h:a=b):Ending.returned (.bool a)=.returned (.bool b):=by rw [h]
theorem ret_int {k:IntKind} {a b:Int} (h:a=b):Ending.returned (.int k a)=.returned (.int k b):=by rw [h]
end Go.Proofs.YtnhnpnafchkhiaaGreatDoor.S
namespace Go.Proofs.YtnhnpnafchkhiaaGreatDoor.S
open Go.RowKit Go.Sort
theorem cell_alloc_r {W:World} {a:Addr} {v:Value} (o:Obj) (h:W.cell? a=some v):(W.alloc o).cell? a=some v:=by
 have hb:=World.block_lt_of_cell? _ _ h
 have:=cell_grown hb h 0 #[o]
 rwa [show grow (W.drewN 0) #[o]=W.alloc o from (alloc_eq_grow W o).symm] at this
theorem cell_new_r (W:World) (v:Value) (t:TypeId):(W.alloc (.cells #[v] t)).cell? ⟨W.heap.size,0,none⟩=some v:=by
 rw [World.cell?_alloc_at _ _ _ _ (by simp)]; rfl
theorem below_grown_r (B:Nat) (w:World) (q:Nat) (os:Array Obj) (hB:B<=w.heap.size):Below B w (grow (w.drewN q) os) :=
 ⟨rfl,rfl,rfl,by first | (simp [grow]; done) | (simp [grow]; omega),fun i hi=>by
  show ((w.drewN q).heap++os)[i]? = _
  rw [Array.getElem?_append_left (by show i<w.heap.size; omega)]
  rfl⟩
def Grew (w w':World):Prop := ∃ q os,w'=grow (w.drewN q) os
theorem Grew.refl (w:World):Grew w w:=⟨0,#[],by rw [grow_empty]; rfl⟩
theorem Grew.trans {a b c:World} (h:Grew a b) (k:Grew b c):Grew a c:=by
 obtain ⟨q,os,rfl⟩:=h
 obtain ⟨q',os',rfl⟩:=k
 refine ⟨q+q',os++os',?_⟩
 show grow (grow ((a.drewN q).drewN q') os) os'=_
 rw [grow_grow,World.drewN_drewN]
theorem Grew.alloc (w:World) (o:Obj):Grew w (w.alloc o):=⟨0,#[o],alloc_eq_grow w o⟩
theorem Grew.drewN (w:World) (q:Nat):Grew w (w.drewN q):=⟨q,#[],by rw [grow_empty]⟩
theorem Grew.below {w w':World} {B:Nat} (h:Grew w w') (hB:B<=w.heap.size):Below B w w':=by
 obtain ⟨q,os,rfl⟩:=h
 exact below_grown_r B w q os hB
theorem search1_any (bi bl b off n cap g bn i r1 r2:Nat) (res:Bool) (W:World)
  (hi:W.cell? ⟨bi,0,none⟩=some (.func (.func g) #[] #[.pointer (some ⟨bn,0,none⟩)])) (hl:W.cell? ⟨bl,0,none⟩=some (.slice (some ⟨b,off,none⟩) n cap)) (hlt:i<n)
  (c0:W.cell? ⟨b,off+i*2,none⟩=some (.int .u64 (r1:Int))) (c1:W.cell? ⟨b,off+i*2+1,none⟩=some (.int .u64 (r2:Int)))
  (eg : ∀ args w,(callFunc g args).run Tryz.prog w=.ok (.enter g args) w)
  (hc : ∀ (m:Nat) (os:Array Obj),Calls Tryz.prog g #[.agg #[.int .u64 (r1:Int),.int .u64 (r2:Int)],.pointer (some ⟨bn,0,none⟩)] (grow (W.drewN m) os) fun e w'=>e=.returned (.bool res) /\ ∃ q os',w'=grow ((grow (W.drewN m) os).drewN q) os') :
  Calls Tryz.prog 210 #[.int .i64 i,.pointer (some ⟨bi,0,none⟩),.pointer (some ⟨bl,0,none⟩)] W fun e w'=>e=.returned (.bool res) /\ ∃ q os',w'=grow (W.drewN q) os':=by
 have hi':=fun m os=>cell_grown (World.block_lt_of_cell? _ _ hi) hi m os
 have hl':=fun m os=>cell_grown (World.block_lt_of_cell? _ _ hl) hl m os
 have c0':=fun m os=>cell_grown (World.block_lt_of_cell? _ _ c0) c0 m os
 have c1':=fun m os=>cell_grown (World.block_lt_of_cell? _ _ c1) c1 m os
 have hlt':(i:Int)<(n:Int):=by omega
 have mixed:Tryz.prog.follows .mixedOrders=true:=by kernel_rfl
 clear hi hl c0 c1
 go_enter Tryz.func210,Tryz.ntmps210
 go_wp2
 go_quiet_grown (first | (go_at_fn g; refine Calls.grown_of (hc _ _)))
 go_wp2
 go_ret
 exact ⟨rfl,nq,osq,rfl⟩
theorem search_grew (v:Value) (l:List (Nat × Nat)) (g bn:Nat) (p:Nat × Nat->Bool) (w:World) (hr:Rng w v l)
  (eg : ∀ args w,(callFunc g args).run Tryz.prog w=.ok (.enter g args) w)
  (hg : ∀ (W:World),Below w.heap.size w W -> ∀ r∈l,Calls Tryz.prog g #[.agg #[.int .u64 (r.1:Int),.int .u64 (r.2:Int)],.pointer (some ⟨bn,0,none⟩)] W fun e w'=>e=.returned (.bool (p r)) /\ ∃ q os',w'=grow (W.drewN q) os')
  (hmono : ∀ a b (ha:a<l.length) (hb:b<l.length),a<=b->p l[a]=true->p l[b]=true) (hlen:l.length<=1000000) :
  Calls Tryz.prog 157 #[v,.func (.func g) #[] #[.pointer (some ⟨bn,0,none⟩)]] w fun e w'=>e=.returned (.int .i64 (l.countP fun r => !p r:Nat))/\Grew w w':=by
 obtain ⟨a,cap,rfl⟩:=hr.slice
 have hA : ∀ i (hi:i<l.length),∃ b off,a=some ⟨b,off,none⟩/\w.cell? ⟨b,off+i*2,none⟩=some (.int .u64 (l[i].1:Int))/\w.cell? ⟨b,off+i*2+1,none⟩=some (.int .u64 (l[i].2:Int)):=by
  intro i hi
  obtain ⟨b,off,cap',hv,_,_,hc⟩:=hr.at (by omega)
  injection hv with hv1 _ _
  exact ⟨b,off,hv1,at_cells hc i hi⟩
 obtain ⟨W0,hW0⟩ : ∃ W0,W0=(w.alloc (.cells #[.slice a l.length cap] 96)).alloc (.cells #[.func (.func g) #[] #[.pointer (some ⟨bn,0,none⟩)]] 228):=⟨_,rfl⟩
 have hsize:W0.heap.size=w.heap.size+1+1:=by rw [hW0]; simp
 have hB0:Below w.heap.size w W0:=by rw [hW0]; exact ((Below.refl _ w).alloc (yyH _) _).alloc (by simp) _
 have ca:W0.cell? ⟨w.heap.size,0,none⟩=some (.slice a l.length cap):=by rw [hW0]; exact cell_alloc_r _ (cell_new_r w _ _)
 have cx:W0.cell? ⟨w.heap.size+1,0,none⟩=some (.func (.func g) #[] #[.pointer (some ⟨bn,0,none⟩)]):=by
  rw [hW0]
  have:=cell_new_r (w.alloc (.cells #[.slice a l.length cap] 96)) (.func (.func g) #[] #[.pointer (some ⟨bn,0,none⟩)]) 228
  rwa [World.size_alloc] at this
 have eg2 : ∀ args w,(callFunc 210 args).run Tryz.prog w=.ok (.enter 210 args) w:=enters_of Tryz.func210 (by kernel_rfl) rfl
 have hS:=Any.sort_Search Tryz.searchS 210 #[.pointer (some ⟨w.heap.size+1,0,none⟩),.pointer (some ⟨w.heap.size,0,none⟩)] l.length (fun i=>p (l.getD i (0,0))) W0 eg2 (by omega)
  (fun m os i hi=>by
   obtain ⟨b,off,rfl,c0,c1⟩:=hA i hi
   rw [show l.getD i (0,0)=l[i] by simp [List.getD,hi]]
   have hb:=World.block_lt_of_cell? _ _ c0
   have hbel : ∀ m' os',Below w.heap.size w (grow ((grow (W0.drewN m) os).drewN m') os'):=fun m' os' =>
    (hB0.trans (below_grown_r _ W0 m os (by omega))).trans (below_grown_r _ _ m' os' (by have:=(below_grown_r w.heap.size W0 m os (by omega)).size; omega))
   have c0':(grow (W0.drewN m) os).cell? ⟨b,off+i*2,none⟩=some (.int .u64 (l[i].1:Int)):=by
    rw [(hB0.trans (below_grown_r _ W0 m os (by omega))).cell (p:=⟨b,off+i*2,none⟩) hb]; exact c0
   have c1':(grow (W0.drewN m) os).cell? ⟨b,off+i*2+1,none⟩=some (.int .u64 (l[i].2:Int)):=by
    rw [(hB0.trans (below_grown_r _ W0 m os (by omega))).cell (p:=⟨b,off+i*2+1,none⟩) hb]; exact c1
   exact search1_any (w.heap.size+1) w.heap.size b off l.length cap g bn i l[i].1 l[i].2 (p l[i]) _ (cell_grown (by simp [hsize]) cx m os) (cell_grown (by simp [hsize]; omega) ca m os) hi c0' c1' eg
    (fun m' os'=>hg _ (hbel m' os') l[i] (List.getElem_mem hi)))
  (fun a b hab hb h=>by
   simp only [List.getD,List.getElem?_eq_getElem hb,List.getElem?_eq_getElem (Nat.lt_of_le_of_lt hab hb),Option.getD_some] at h ⊢
   exact hmono a b _ hb hab h)
 have hcount:(List.range l.length).countP (fun i => !p (l.getD i (0,0)))=l.countP fun r => !p r:=by
  have h:l=(List.range l.length).map (fun i=>l.getD i (0,0)):=by
   apply List.ext_getElem
   ·simp
   ·intro i h1 h2
    simp [List.getD,h1]
  conv=>rhs; rw [h,List.countP_map]
  rfl
 rw [hcount] at hS
 change Calls Tryz.prog 209 _ _ _ at hS
 clear hA ca cx hr hcount hg hmono
 generalize l.countP (fun r => !p r)=r at hS ⊢
 go_enter Tryz.func157,Tryz.ntmps157
 go_wp2_with (go_at_call 209; rw [<- hW0]; refine hS.mono ?_; rintro e w' ⟨rfl,q,os,rfl⟩)
 go_ret
 refine ⟨rfl,?_⟩
 have hG:Grew w W0:=by rw [hW0]; exact (Grew.alloc _ _).trans (Grew.alloc _ _)
 first
  |exact hG.trans ⟨q,os,rfl⟩
  |(rw [<- hW0]; exact hG.trans ⟨q,os,rfl⟩)
theorem search_any (v:Value) (l:List (Nat × Nat)) (g bn:Nat) (p:Nat × Nat->Bool) (w:World) (hr:Rng w v l)
  (eg : ∀ args w,(callFunc g args).run Tryz.prog w=.ok (.enter g args) w)
  (hg : ∀ (W:World),Below w.heap.size w W -> ∀ r∈l,Calls Tryz.prog g #[.agg #[.int .u64 (r.1:Int),.int .u64 (r.2:Int)],.pointer (some ⟨bn,0,none⟩)] W fun e w'=>e=.returned (.bool (p r)) /\ ∃ q os',w'=grow (W.drewN q) os')
  (hmono : ∀ a b (ha:a<l.length) (hb:b<l.length),a<=b->p l[a]=true->p l[b]=true) (hlen:l.length<=1000000) :
  Calls Tryz.prog 157 #[v,.func (.func g) #[] #[.pointer (some ⟨bn,0,none⟩)]] w fun e w'=>e=.returned (.int .i64 (l.countP fun r => !p r:Nat))/\Below w.heap.size w w' :=
 (search_grew v l g bn p w hr eg hg hmono hlen).mono fun _ _ ⟨h,g⟩=>⟨h,g.below (yyH _)⟩
end Go.Proofs.YtnhnpnafchkhiaaGreatDoor.S
namespace Go.Proofs.YtnhnpnafchkhiaaGreatDoor.S
def putL:List (Nat × Nat)->Nat × Nat->List (Nat × Nat)
 |[],x=>[x]
 |r::t,x=>if r.2+1<x.1 then r::putL t x else if x.2+1<r.1 then x::r::t else putL t (min x.1 r.1,max x.2 r.2)
def joinL (a b:List (Nat × Nat)):List (Nat × Nat):=b.foldl putL a
def meltR:Nat × Nat->List (Nat × Nat)->List (Nat × Nat)
 |cur,[]=>[cur]
 |cur,r::t=>if r.1<=cur.2+1 then meltR (cur.1,max cur.2 r.2) t else cur::meltR r t
def meltL:List (Nat × Nat)->List (Nat × Nat)
 |[]=>[]
 |r::t=>meltR r t
def Rise:Nat->List (Nat × Nat)->Prop
 |_,[]=>True
 |b,r::t=>b<=r.1/\r.1<=r.2/\Rise r.1 t
def stepB (l:List (Nat × Nat)) (k:Nat):Prop := ∃ h:k<l.length,1<=l[k].1/\l[k].1<=l[k].2/\(∀ h0:0<k,(l[k-1]'(by omega)).2+1<l[k].1)
theorem apart_of_steps : ∀ (l:List (Nat × Nat)) (b:Nat),(∀ k (h:k<l.length),b<=l[k].1/\l[k].1<=l[k].2/\(∀ h0:0<k,(l[k-1]'(by omega)).2+1<l[k].1))->Apart b l
 |[],_,_=>trivial
 |r::t,b,h=>by
  have h0:=h 0 (by simp)
  refine ⟨h0.1,h0.2.1,apart_of_steps t (r.2+2) fun k hk=>?_⟩
  have hk1:=h (k+1) (by simpa using hk)
  simp only [List.getElem_cons_succ] at hk1
  refine ⟨?_,hk1.2.1,fun h0=>?_⟩
  ·
   have hall : ∀ j (hj:j<t.length),r.2+2<=t[j].1:=by
    intro j
    induction j with
    |zero =>
     intro hj
     have i0:=(h 1 (by simpa using hj)).2.2 (by omega)
     simp only [List.getElem_cons_succ,Nat.sub_self,List.getElem_cons_zero] at i0
     omega
    |succ j ih =>
     intro hj
     have i1:=ih (by omega)
     have i2:=(h (j+1) (by simp; omega)).2.1
     have i3:=(h (j+2) (by simp; omega)).2.2 (by omega)
     simp only [List.getElem_cons_succ,show j+2-1=j+1 from rfl] at i2 i3
     omega
   exact hall k hk
  ·have:=hk1.2.2 (by omega)
   obtain ⟨j,rfl⟩ : ∃ j,k=j+1:=⟨k-1,by omega⟩
   simpa using this
theorem steps_of_apart {l:List (Nat × Nat)} {b:Nat} (h:Apart b l) (k:Nat) (hk:k<l.length):b<=l[k].1/\l[k].1<=l[k].2/\(∀ h0:0<k,(l[k-1]'(by omega)).2+1<l[k].1):=by
 have h1:=h.lowR (List.getElem_mem hk)
 refine ⟨h1.1,h1.2,fun h0=>?_⟩
 have:=h.rising (i:=k-1) (j:=k) (by omega) hk (by omega)
 omega
def goodB:Nat->List (Nat × Nat)->Bool
 |_,[]=>true
 |b,r::t=>decide (b<=r.1) && (decide (r.1<=r.2) && goodB (r.2+2) t)
theorem goodB_iff : ∀ (l:List (Nat × Nat)) (b:Nat),goodB b l=true↔Apart b l
 |[],_=>by simp [goodB,Apart]
 |r::t,b=>by simp [goodB,Apart,goodB_iff t]
theorem goodB_true {l:List (Nat × Nat)} (h : ∀ k,k<l.length->stepB l k):goodB 1 l=true:=by
 rw [goodB_iff]
 exact apart_of_steps l 1 fun k hk=>(h k hk).2
theorem goodB_false {l:List (Nat × Nat)} {k:Nat} (hk:k<l.length) (h : ¬ stepB l k):goodB 1 l=false:=by
 rw [Bool.eq_false_iff,Ne,goodB_iff]
 intro ha
 exact h ⟨hk,steps_of_apart ha k hk⟩
open Go.RowKit
theorem topL_at {l:List (Nat × Nat)} {k:Nat} (hk:l.length=k+1):topL l=(l[k]'(by omega)).2:=by
 have h:l.getLast? = some (l[k]'(by omega)):=by
  rw [List.getLast?_eq_getElem?,show l.length-1=k by omega,List.getElem?_eq_getElem (by omega)]
 unfold topL
 rw [h]
end Go.Proofs.YtnhnpnafchkhiaaGreatDoor.S
