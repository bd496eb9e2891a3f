import Derived.Test.YtnhnpnafchkhiaaGreatDoorQwA
import Derived.Test.YtnhnpnafchkhiaaGreatDoorProg
import Derived.WalkLawsBesides
import Derived.Handy
import Derived.Laws.AppendOwnNone
import Derived.Laws.MakeOwn
import Derived.ArgAppend
import Derived.OwnWalk
import Derived.BigQuiet
import Derived.Maps.AppendAt
import Derived.Laws.CopyOwn
import Derived.Deep.RegionLaw
import Derived.Lib.AppendZerosOnto
import Derived.Lib.Overlaps
import Derived.WalkKit
import Derived.ProofKit
import Derived.OpenShut
import Derived.ChangeOld
import Derived.SizedLaws
import Derived.DataReads
import Derived.DataElems
namespace Go.Proofs.YtnhnpnafchkhiaaGreatDoor.K
open Go.RowKit
class Enc {α:Type} (enc:α->List Value) (K:outParam Nat):Prop where
 len : ∀ x,(enc x).length=K
 one : ∀ x,∀ u∈enc x,u.oneCell'=true
 pos:0<K
section
variable {α:Type} {enc:α->List Value} {K:Nat} [E:Enc enc K]
def cellsOf (enc:α->List Value) (l:List α):List Value:=l.flatMap enc
omit E in
theorem cellsOf_nil:cellsOf enc []=[]:=rfl
omit E in
theorem cellsOf_cons (r:α) (l:List α):cellsOf enc (r::l)=enc r++cellsOf enc l:=rfl
omit E in
theorem cellsOf_append (a b:List α):cellsOf enc (a++b)=cellsOf enc a++cellsOf enc b:=by simp [cellsOf]
theorem cellsOf_length (l:List α):(cellsOf enc l).length=l.length*K:=by
 induction l with
 |nil=>simp [cellsOf_nil]
 |cons r t ih=>rw [cellsOf_cons,List.length_append,ih,E.len,List.length_cons,Nat.succ_mul,Nat.add_comm]
include E in
theorem cellsOf_one (l:List α) : ∀ u∈cellsOf enc l,u.oneCell'=true:=by
 intro u hu
 simp only [cellsOf,List.mem_flatMap] at hu
 obtain ⟨r,_,hu⟩:=hu
 exact E.one r u hu
theorem cellsOf_drop (l:List α) (k:Nat):(cellsOf enc l).drop (k*K)=cellsOf enc (l.drop k):=by
 induction l generalizing k with
 |nil=>simp [cellsOf_nil]
 |cons r t ih =>
  cases k with
  |zero=>simp
  |succ k=>rw [cellsOf_cons,List.drop_append,E.len,List.drop_eq_nil_of_le (by rw [E.len,Nat.succ_mul]; exact Nat.le_add_left _ _),Nat.succ_mul,Nat.add_sub_cancel,ih,List.drop_succ_cons,List.nil_append]
theorem cellsOf_get (l:List α) (i j:Nat) (h:i<l.length) (hj:j<K):(cellsOf enc l)[i*K+j]? = (enc l[i])[j]? := by
 have h1:(cellsOf enc l)[i*K+j]? = ((cellsOf enc l).drop (i*K))[j]? := by rw [List.getElem?_drop]
 rw [h1,cellsOf_drop,List.drop_eq_getElem_cons h,cellsOf_cons,List.getElem?_append_left (by rw [E.len]; exact hj)]
def RowOf (enc:α->List Value) (w:World) (v:Value) (l:List α):Prop :=
 (v=.slice none 0 0/\l=[]) \/
 ∃ a cap,v=.slice (some a) l.length cap/\l.length<=cap/\cap<=maxLen /\ ∀ j u,(cellsOf enc l)[j]? = some u->w.cell? (a.add j)=some u
theorem Addr.block_add (a:Addr) (j:Nat):(a.add j).block=a.block:=by unfold Addr.add; split <;> rfl
omit E in
theorem RowOf.below {B:Nat} {w w':World} {v:Value} {l:List α} (h:RowOf enc w v l) (hb:Below B w w') (hB:w.heap.size<=B):RowOf enc w' v l:=by
 rcases h with h | ⟨a,cap,hv,h1,h2,h3⟩
 ·exact .inl h
 ·refine .inr ⟨a,cap,hv,h1,h2,fun j u hj=>?_⟩
  have hc:=h3 j u hj
  have hlt:=World.block_lt_of_cell? w _ hc
  rw [hb.cell (p:=a.add j) (by omega)]
  exact hc
omit E in
theorem RowOf.same {w w':World} {v:Value} {l:List α} (h:RowOf enc w v l) (hs : ∀ g,v.ownBlock=some g->w'.heap[g]? = w.heap[g]?):RowOf enc w' v l:=by
 rcases h with h | ⟨a,cap,rfl,h1,h2,h3⟩
 ·exact .inl h
 ·refine .inr ⟨a,cap,rfl,h1,h2,fun j u hj=>?_⟩
  have hc:=h3 j u hj
  have:=hs a.block rfl
  simp only [World.cell?,Addr.block_add] at hc ⊢
  rw [this]; exact hc
omit E in
theorem RowOf.slice {w:World} {v:Value} {l:List α} (h:RowOf enc w v l) : ∃ a cap,v=.slice a l.length cap:=by
 rcases h with ⟨rfl,rfl⟩ | ⟨a,cap,rfl,_⟩
 ·exact ⟨_,_,rfl⟩
 ·exact ⟨_,_,rfl⟩
include E in
theorem RowOf.at {w:World} {v:Value} {l:List α} (h:RowOf enc w v l) (hp:0<l.length) :
  ∃ b off cap,v=.slice (some ⟨b,off,none⟩) l.length cap/\l.length<=cap/\cap<=maxLen /\ ∀ j u,(cellsOf enc l)[j]? = some u->w.cell? ⟨b,off+j,none⟩=some u:=by
 rcases h with ⟨rfl,rfl⟩ | ⟨a,cap,rfl,h1,h2,h3⟩
 ·simp at hp
 ·obtain ⟨b,off,spot⟩:=a
  have hl:0<(cellsOf enc l).length:=by rw [cellsOf_length (enc:=enc)]; exact Nat.mul_pos hp E.pos
  have h0:=h3 0 _ (List.getElem?_eq_getElem hl)
  have hspot:spot=none:=by simpa [Addr.add] using World.cell?_spot h0
  subst hspot
  refine ⟨b,off,cap,rfl,h1,h2,fun j u hj=>?_⟩
  rw [<- Go.WideShapes.add_plain]
  exact h3 j u hj
theorem row_cell {w:World} {b off:Nat} {l:List α} (h : ∀ j u,(cellsOf enc l)[j]? = some u->w.cell? ⟨b,off+j,none⟩=some u) (i:Nat) (hi:i<l.length) (j:Nat) (hj:j<K) (u:Value) (hu:(enc l[i])[j]? = some u) :
  w.cell? ⟨b,off+i*K+j,none⟩=some u:=by
 rw [Nat.add_assoc]
 exact h _ _ (by rw [cellsOf_get l i j hi hj]; exact hu)
def OwnOf (enc:α->List Value) (K:Nat) (T:TypeId) (w:World) (base:Nat) (v:Value) (l:List α):Prop:=w.ownsRow base T K v l.length (cellsOf enc l)
variable {T:TypeId}
omit E in
theorem ownOf_nil (w:World) (base:Nat):OwnOf enc K T w base (.slice none 0 0) []:=World.ownsRow_nil _ _ _ _
omit E in
theorem OwnOf.rng {w:World} {base:Nat} {v:Value} {l:List α} (h:OwnOf enc K T w base v l):RowOf enc w v l:=by
 have h':=h
 rcases h.2 with ⟨rfl,hn⟩ | ⟨g,cap,cur,rfl,_,_,hnc,hcm,_,_⟩
 ·exact .inl ⟨rfl,List.eq_nil_of_length_eq_zero hn⟩
 ·exact .inr ⟨⟨g,0,none⟩,cap,rfl,hnc,hcm,fun j u hj=>World.ownsRow.cells h' (g:=g) rfl j u hj⟩
omit E in
theorem OwnOf.mono {w:World} {b c:Nat} {v:Value} {l:List α} (h:OwnOf enc K T w b v l) (hc:c<=b):OwnOf enc K T w c v l:=by
 refine ⟨h.1,?_⟩
 rcases h.2 with hn | ⟨g,cap,cur,hv,hbg,hg,rest⟩
 ·exact .inl hn
 ·exact .inr ⟨g,cap,cur,hv,by omega,hg,rest⟩
omit E in
theorem OwnOf.same {w w':World} {b:Nat} {v:Value} {l:List α} (h:OwnOf enc K T w b v l) (hs : ∀ g,v.ownBlock=some g->w'.heap[g]? = w.heap[g]?):OwnOf enc K T w' b v l:=by
 refine ⟨h.1,?_⟩
 rcases h.2 with hn | ⟨g,cap,cur,hv,hbg,hg,rest⟩
 ·exact .inl hn
 ·exact .inr ⟨g,cap,cur,hv,hbg,by rw [hs g (by rw [hv]; rfl)]; exact hg,rest⟩
omit E in
theorem OwnOf.lt {w:World} {b:Nat} {v:Value} {l:List α} (h:OwnOf enc K T w b v l) {g:Nat} (hg:v.ownBlock=some g):b<=g/\g<w.heap.size:=World.ownsRow.lt h g hg
omit E in
theorem OwnOf.kept {w w':World} {b B:Nat} {v:Value} {l:List α} (h:OwnOf enc K T w b v l) (hb:Below B w w') (hB:w.heap.size<=B):OwnOf enc K T w' b v l :=
 h.same fun g hg=>hb.block g (by have:=(h.lt hg).2; omega)
omit E in
theorem OwnOf.alloc {w:World} {b:Nat} {v:Value} {l:List α} (h:OwnOf enc K T w b v l) (o:Obj):OwnOf enc K T (w.alloc o) b v l:=World.ownsRow.alloc h o
omit E in
theorem OwnOf.below {w w' w0:World} {base B:Nat} {v:Value} {l:List α} (h:OwnOf enc K T w base v l) (hg:w.grownBy w' v.ownBlock) (h0:Below B w0 w) (hb:B<=w.heap.size) (hB:B<=base):Below B w0 w' :=
 h0.grown hg hb (fun k hk=>by have:=(World.ownsRow.lt h k hk).1; omega)
theorem ownOf_one (w:World) (base:Nat) (x:α) (hb:base<=w.heap.size) :
  OwnOf enc K T (w.alloc (.cells (enc x).toArray T)) base (.slice (some ⟨w.heap.size,0,none⟩) 1 1) [x] :=
 ⟨by simp [cellsOf_cons,cellsOf_nil,E.len],.inr ⟨w.heap.size,1,_,rfl,hb,heap_alloc_new w _,yyH _,by simp [maxLen],by simp [E.len],by simp [cellsOf_cons,cellsOf_nil]; exact List.take_of_length_le (by simp [E.len])⟩⟩
include E in
theorem rowK_one (w:World) (x:α) (n:Nat) (hn:n=w.heap.size):RowOf enc (w.alloc (.cells (enc x).toArray T)) (.slice (some ⟨n,0,none⟩) 1 1) [x]:=by
 subst hn
 exact (ownOf_one (T:=T) w w.heap.size x (yyH _)).rng
def NewOr (w:World) (v v':Value):Prop:=v'.ownBlock=v.ownBlock \/ ∃ g,v'.ownBlock=some g/\w.heap.size<=g
omit E in
theorem OwnOf.split {w:World} {base:Nat} {v:Value} {l:List α} (h:OwnOf enc K T w base v l):(v=.slice none 0 0/\l=[]) \/
  ∃ g c R,v=.slice (some ⟨g,0,none⟩) l.length c/\base<=g/\w.heap[g]? = some (.cells (cellsOf enc l++R).toArray T (0,0))/\l.length<=c/\c<=maxLen/\R.length=c*K-l.length*K:=by
 rcases h.2 with ⟨rfl,h0⟩ | ⟨g,c,cur,hv,hb,hg,h1,h2,h3,h4⟩
 ·exact .inl ⟨rfl,List.eq_nil_of_length_eq_zero h0⟩
 ·refine .inr ⟨g,c,cur.toList.drop (l.length*K),hv,hb,?_,h1,h2,by simp [h3]⟩
  rw [<- h4,List.take_append_drop]
  simpa using hg
theorem ownOf_mk {w:World} {base g n c:Nat} {l:List α} {R:List Value} (hb:base<=g) (hg:w.heap[g]? = some (.cells (cellsOf enc l++R).toArray T (0,0))) (hn:n=l.length) (hc:l.length<=c) (hm:c<=maxLen) (hT:R.length=c*K-l.length*K) :
  OwnOf enc K T w base (.slice (some ⟨g,0,none⟩) n c) l:=by
 subst hn
 have hle:=Nat.mul_le_mul_right K hc
 refine ⟨cellsOf_length l,.inr ⟨g,c,_,rfl,hb,hg,hc,hm,?_,?_⟩⟩
 ·have:=cellsOf_length (enc:=enc) l
  simp [this,hT]; omega
 ·rw [<- cellsOf_length (enc:=enc) l]
  simp
theorem run_append_rows {P:Program} {w:World} (S ty:TypeId) (hS:P.underlying S=some (.slice T)) (i:TypeInfo) (z:Value) (bytes:Nat) (hi:P.info? T=some i) (hz:i.zero=some z) (hsz:i.size=K) (hby:i.bytes=bytes) (hzs:z.cells.size=K)
  (base:Nat) (v src:Value) (xs ys:List α) (hown:OwnOf enc K T w base v xs) (hy:RowOf enc w src ys) (hl:xs.length+ys.length<=maxLen) (hlen:(xs.length+ys.length)*bytes<=140737488355328) (hbase:base<=w.heap.size) :
  ∃ v' w',(Builtin.append_ #[S,S] ty #[v,src]).run P w=.ok v' w'/\OwnOf enc K T w' base v' (xs++ys)/\w.grownBy w' v.ownBlock/\NewOr w v v':=by
 rcases hy with ⟨rfl,rfl⟩ | ⟨ad,cap,rfl,h1,h2,h3⟩
 ·exact ⟨v,w,run_append_owned_none (P:=P) (w:=w) base S ty T i K hS hi v xs.length (cellsOf enc xs) hown,by simpa [OwnOf] using hown,⟨rfl,rfl,rfl,yyH _,fun _ _ _=>rfl⟩,.inl rfl⟩
 ·obtain ⟨v',w',hr,ho',hg,_,hloc⟩:=run_append_own_at (P:=P) w base S ty T i z K bytes hS hi hz hsz hby hzs E.pos v xs.length (cellsOf enc xs) hown ad ys.length cap (cellsOf enc ys) (cellsOf_length ys) h3 (cellsOf_one ys) hl hlen hbase
  refine ⟨v',w',hr,?_,hg,hloc.imp id fun h=>⟨_,h,yyH _⟩⟩
  unfold OwnOf
  rw [cellsOf_append,List.length_append]
  exact ho'
theorem wpList_append_rows {P:Program} {w:World} {ops:Array Oper} {rest:List Oper} {o:Oper} {a:Act} {Q:Exit->Act->World->Prop} (hgd:o.guard=none) (s x:Operand) (S:TypeId)
  (ho:o.op=.call { callee:=.builtin .append,args := #[s,x],argTypes := #[S,S] }) (hS:P.underlying S=some (.slice T)) (i:TypeInfo) (z:Value) (bytes:Nat) (hi:P.info? T=some i) (hz:i.zero=some z) (hsz:i.size=K) (hby:i.bytes=bytes) (hzs:z.cells.size=K)
  (base:Nat) (v src:Value) (xs ys:List α) (hs:a.eval s=v) (hx:a.eval x=src)
  (hown:OwnOf enc K T w base v xs) (hy:RowOf enc w src ys) (hl:xs.length+ys.length<=maxLen) (hlen:(xs.length+ys.length)*bytes<=140737488355328) (hbase:base<=w.heap.size)
  (h : ∀ v' w',OwnOf enc K T w' base v' (xs++ys)->w.grownBy w' v.ownBlock->NewOr w v v'->wpList P ops Q rest (a.put o.dst v') w'):wpList P ops Q (o::rest) a w:=by
 refine wpList_plain hgd fun _ hK=>?_
 obtain ⟨v',w',hr,h2,h3,h4⟩:=run_append_rows (P:=P) (w:=w) S o.type hS i z bytes hi hz hsz hby hzs base v src xs ys hown hy hl hlen hbase
 unfold Oper.wp execOp
 simp only [ho,resolve,invoke,builtin,Sem.run_bind,Sem.run_pure,Result.andThen_ok,List.map_toArray,List.map_cons,List.map_nil,hs,hx,hr]
 exact hK _ _ (h v' w' h2 h3 h4)
theorem step_append_rows {P:Program} {w:World} {ops:Array Oper} {o:Oper} {a:Act} {J:Act->World->Prop} {Q:Exit->Act->World->Prop} {F:Prop} (hgd:o.guard=none) (s x:Operand) (S:TypeId)
  (ho:o.op=.call { callee:=.builtin .append,args := #[s,x],argTypes := #[S,S] }) (hS:P.underlying S=some (.slice T)) (i:TypeInfo) (z:Value) (bytes:Nat) (hi:P.info? T=some i) (hz:i.zero=some z) (hsz:i.size=K) (hby:i.bytes=bytes) (hzs:z.cells.size=K)
  (base:Nat) (v src:Value) (xs ys:List α) (hs:a.eval s=v) (hx:a.eval x=src)
  (hown:OwnOf enc K T w base v xs) (hy:RowOf enc w src ys) (hl:xs.length+ys.length<=maxLen) (hlen:(xs.length+ys.length)*bytes<=140737488355328) (hbase:base<=w.heap.size)
  (h : ∀ v' w',OwnOf enc K T w' base v' (xs++ys)->w.grownBy w' v.ownBlock->NewOr w v v'->J (a.put o.dst v') w'):if Region.wanted o (yielded ops a.tmps)=true then Oper.wp P o a w J Q else F:=by
 have hw:Region.wanted o (yielded ops a.tmps)=true:=by simp [Region.wanted,hgd]
 rw [if_pos hw]
 obtain ⟨v',w',hr,h2,h3,h4⟩:=run_append_rows (P:=P) (w:=w) S o.type hS i z bytes hi hz hsz hby hzs base v src xs ys hown hy hl hlen hbase
 unfold Oper.wp execOp
 simp only [ho,resolve,invoke,builtin,Sem.run_bind,Sem.run_pure,Result.andThen_ok,List.map_toArray,List.map_cons,List.map_nil,hs,hx,hr]
 exact h v' w' h2 h3 h4
end
theorem le_alloc {w:World} {n:Nat} (h:n<=w.heap.size) (o:Obj):n<=(w.alloc o).heap.size:=by rw [World.size_alloc]; omega
theorem retK_bool {a b:Bool} (h:a=b):Ending.returned (.bool a)=.returned (.bool b):=by rw [h]
theorem drop_more {α:Type} {A M:List α} {n k:Nat} (hA:A.length=n):(A++M).drop (n+k)=M.drop k:=by
 rw [List.drop_append,List.drop_eq_nil_of_le (by omega),hA]; simp
structure Only (g:Nat) (w w':World):Prop where
 os:w'.os=w.os
 tape:w'.tape=w.tape
 output:w'.output=w.output
 size:w'.heap.size=w.heap.size
 block : ∀ k,k≠g->w'.heap[k]? = w.heap[k]?
theorem Only.refl (g:Nat) (w:World):Only g w w:=⟨rfl,rfl,rfl,rfl,fun _ _=>rfl⟩
theorem Only.trans {g:Nat} {a b c:World} (h:Only g a b) (k:Only g b c):Only g a c :=
 ⟨k.os.trans h.os,k.tape.trans h.tape,k.output.trans h.output,k.size.trans h.size,fun i hi=>(k.block i hi).trans (h.block i hi)⟩
theorem only_setRow (w:World) (g:Nat) (cs:Array Value):Only g w (w.setRow g cs):=⟨rfl,rfl,rfl,by simp [World.setRow],fun k hk=>setRow_other w g k cs hk⟩
theorem Only.grown {g:Nat} {w w':World} (h:Only g w w'):w.grownBy w' (some g) :=
 ⟨h.os,h.tape,h.output,Nat.le_of_eq h.size.symm,fun k _ hne=>h.block k (fun he=>hne (by rw [he]))⟩
theorem cell_of_list {w:World} {g:Nat} {C:List Value} {t:TypeId} (h:w.heap[g]? = some (.cells C.toArray t (0,0))) (k:Nat):w.cell? ⟨g,k,none⟩=C[k]? := by
 simp [World.cell?,h]
theorem frozen_of_list {w:World} {g:Nat} {C:Array Value} {t:TypeId} (h:w.heap[g]? = some (.cells C t (0,0))) (k:Nat):w.frozen? ⟨g,k,none⟩=false:=by
 simp [World.frozen?,h]
theorem splice_at {α:Type} (A M D:List α) (k:Nat):splice (A++M) (A.length+k) D=A++(M.take k++(D++M.drop (k+D.length))):=by
 unfold splice
 rw [List.take_append,List.drop_append,List.take_of_length_le (by omega),List.drop_eq_nil_of_le (by omega)]
 simp [Nat.add_assoc]
theorem splice_in {α:Type} (L A M D:List α) (k o:Nat) (hL:L=A++M) (ho:o=A.length+k):splice L o D=A++(M.take k++(D++M.drop (k+D.length))):=by
 subst hL ho
 exact splice_at A M D k
section
variable {P:Program} {K:Nat}
theorem run_copyK_row (w:World) (dT sT ty elem:TypeId) (g o dLen dCap:Nat) (a:Addr) (sLen sCap:Nat) (cur:List Value) (t:TypeId) (cs:List Value)
  (hu:P.underlying dT=some (.slice elem)) (hs:(P.info? elem).map (·.size)=some K) (hg:w.heap[g]? = some (.cells cur.toArray t (0,0))) (hn:cs.length=Nat.min sLen dLen*K)
  (hsrc : ∀ j v,cs[j]? = some v->w.cell? (a.add j)=some v) (hfit:o+cs.length<=cur.length) (h1 : ∀ v∈cs,v.oneCell'=true) :
  (Builtin.copy_ #[dT,sT] ty #[.slice (some ⟨g,o,none⟩) dLen dCap,.slice (some a) sLen sCap]).run P w=.ok (goInt (Nat.min sLen dLen)) (w.setRow g (splice cur o cs).toArray):=by
 have hl:=run_firstCells_some (P:=P) w K (Nat.min sLen dLen) a sLen sCap cs hn hsrc
 have hst:=run_storeCells_at P g o t cs 0 cur.toArray w hg (by simpa using hfit) h1
 simp only [Nat.add_zero] at hst
 rw [List.append_assoc] at hst
 cases hq:P.info? elem with
 |none=>simp [hq] at hs
 |some i =>
  have hi:i.size=K:=by simpa [hq] using hs
  simp only [Builtin.copy_]
  simp [run_underlying hu,Builtin.lenOf,sizeOf,typeInfo,hq,hi,hl,hst,splice]
theorem run_copyK_none (w:World) (dT sT ty elem:TypeId) (d a:Option Addr) (dLen dCap sLen sCap:Nat) (hu:P.underlying dT=some (.slice elem)) (hs:(P.info? elem).map (·.size)=some K) (hn:Nat.min sLen dLen=0) :
  (Builtin.copy_ #[dT,sT] ty #[.slice d dLen dCap,.slice a sLen sCap]).run P w=.ok (goInt 0) w:=by
 cases hq:P.info? elem with
 |none=>simp [hq] at hs
 |some i =>
  have hl : ∀ (x:Addr),(loadCells x 0).run P w=.ok #[] w:=fun x=>by simpa using run_loadCells_list (P:=P) w x [] (by simp)
  cases d <;> cases a <;> simp [Builtin.copy_,run_underlying hu,Builtin.lenOf,Builtin.firstCells,sizeOf,typeInfo,hq,hn,storeCells,hl]
theorem wpList_copyK {w:World} {ops:Array Oper} {rest:List Oper} {o:Oper} {a:Act} {Q:Exit->Act->World->Prop} (hgd:o.guard=none) (d s:Operand) (dT sT:TypeId)
  (ho:o.op=.call { callee:=.builtin .copy,args := #[d,s],argTypes := #[dT,sT] }) (elem:TypeId) (hu:P.underlying dT=some (.slice elem)) (hsz:(P.info? elem).map (·.size)=some K) (hK0:0<K)
  (dp sp:Option Addr) (dLen dCap sLen sCap:Nat) (hd:a.eval d=.slice dp dLen dCap) (hs:a.eval s=.slice sp sLen sCap)
  (g off:Nat) (cur:List Value) (t:TypeId) (hg:w.heap[g]? = some (.cells cur.toArray t (0,0))) (cs:List Value) (hn:cs.length=Nat.min sLen dLen*K)
  (hpos:0<cs.length->dp=some ⟨g,off,none⟩ /\ ∃ ad,sp=some ad /\ ∀ j v,cs[j]? = some v->w.cell? (ad.add j)=some v)
  (hfit:off+cs.length<=cur.length) (h1 : ∀ v∈cs,v.oneCell'=true)
  (h : ∀ w' m,Hid (w'.heap[g]? = some (.cells (splice cur off cs).toArray t (0,0)))->Only g w w'->wpList P ops Q rest (a.put o.dst (goInt m)) w') :
  wpList P ops Q (o::rest) a w:=by
 refine wpList_plain hgd fun _ hK=>?_
 by_cases h0:cs.length=0
 ·obtain rfl:cs=[]:=List.eq_nil_of_length_eq_zero h0
  have hrun:=run_copyK_none (P:=P) w dT sT o.type elem dp sp dLen dCap sLen sCap hu hsz ((Nat.mul_eq_zero.1 hn.symm).resolve_right (by omega))
  unfold Oper.wp
  simp [execOp,ho,resolve,invoke,builtin,hd,hs,hrun,Result.andThen]
  exact hK _ _ (h w 0 (show _=_ by simpa [splice] using hg) (Only.refl _ _))
 ·obtain ⟨rfl,ad,rfl,hsrc⟩:=hpos (by omega)
  have hrun:=run_copyK_row (P:=P) w dT sT o.type elem g off dLen dCap ad sLen sCap cur t cs hu hsz hg hn hsrc hfit h1
  unfold Oper.wp
  simp [execOp,ho,resolve,invoke,builtin,hd,hs,hrun,Result.andThen]
  exact hK _ _ (h _ _ (setRow_heap w g _ _ t _ hg) (only_setRow _ _ _))
theorem step_copyK {w:World} {ops:Array Oper} {o:Oper} {a:Act} {J:Act->World->Prop} {Q:Exit->Act->World->Prop} {E:Prop} (hgd:o.guard=none) (d s:Operand) (dT sT:TypeId)
  (ho:o.op=.call { callee:=.builtin .copy,args := #[d,s],argTypes := #[dT,sT] }) (elem:TypeId) (hu:P.underlying dT=some (.slice elem)) (hsz:(P.info? elem).map (·.size)=some K) (hK0:0<K)
  (dp sp:Option Addr) (dLen dCap sLen sCap:Nat) (hd:a.eval d=.slice dp dLen dCap) (hs:a.eval s=.slice sp sLen sCap)
  (g off:Nat) (cur:List Value) (t:TypeId) (hg:w.heap[g]? = some (.cells cur.toArray t (0,0))) (cs:List Value) (hn:cs.length=Nat.min sLen dLen*K)
  (hpos:0<cs.length->dp=some ⟨g,off,none⟩ /\ ∃ ad,sp=some ad /\ ∀ j v,cs[j]? = some v->w.cell? (ad.add j)=some v)
  (hfit:off+cs.length<=cur.length) (h1 : ∀ v∈cs,v.oneCell'=true)
  (h : ∀ w' m,Hid (w'.heap[g]? = some (.cells (splice cur off cs).toArray t (0,0)))->Only g w w'->J (a.put o.dst (goInt m)) w') :
  if Region.wanted o (yielded ops a.tmps)=true then Oper.wp P o a w J Q else E:=by
 have hw:Region.wanted o (yielded ops a.tmps)=true:=by simp [Region.wanted,hgd]
 rw [if_pos hw]
 by_cases h0:cs.length=0
 ·obtain rfl:cs=[]:=List.eq_nil_of_length_eq_zero h0
  have hrun:=run_copyK_none (P:=P) w dT sT o.type elem dp sp dLen dCap sLen sCap hu hsz ((Nat.mul_eq_zero.1 hn.symm).resolve_right (by omega))
  unfold Oper.wp
  simp [execOp,ho,resolve,invoke,builtin,hd,hs,hrun,Result.andThen]
  exact h w 0 (show _=_ by simpa [splice] using hg) (Only.refl _ _)
 ·obtain ⟨rfl,ad,rfl,hsrc⟩:=hpos (by omega)
  have hrun:=run_copyK_row (P:=P) w dT sT o.type elem g off dLen dCap ad sLen sCap cur t cs hu hsz hg hn hsrc hfit h1
  unfold Oper.wp
  simp [execOp,ho,resolve,invoke,builtin,hd,hs,hrun,Result.andThen]
  exact h _ _ (setRow_heap w g _ _ t _ hg) (only_setRow _ _ _)
theorem wpList_clearK {w:World} {ops:Array Oper} {rest:List Oper} {o:Oper} {a:Act} {Q:Exit->Act->World->Prop} (hgd:o.guard=none) (d:Operand) (dT:TypeId)
  (ho:o.op=.call { callee:=.builtin .clear,args := #[d],argTypes := #[dT] }) (elem:TypeId) (hu:P.underlying dT=some (.slice elem)) (z:Value) (hz : ∀ w,(zeroValue elem).run P w=.ok z w) (hz2:z.cells.size=K) (hz1 : ∀ k:Nat,(z.cells[k % z.cells.size]!).oneCell'=true)
  (dp:Option Addr) (n c:Nat) (hd:a.eval d=.slice dp n c)
  (g off:Nat) (cur:List Value) (t:TypeId) (hg:w.heap[g]? = some (.cells cur.toArray t (0,0))) (hpos:0<n->dp=some ⟨g,off,none⟩) (hfit:off+n*K<=cur.length)
  (h : ∀ w' zs,zs.length=n*K->Hid (w'.heap[g]? = some (.cells (splice cur off zs).toArray t (0,0)))->Only g w w'->wpList P ops Q rest (a.put o.dst (.tuple #[])) w') :
  wpList P ops Q (o::rest) a w:=by
 refine wpList_plain hgd fun _ hK=>?_
 by_cases h0:n=0
 ·subst h0
  have hrun:(Builtin.clear_ #[dT] o.type #[.slice dp 0 c]).run P w=.ok (.tuple #[]) w:=by
   cases dp <;> simp [Builtin.clear_,run_underlying hu]
  unfold Oper.wp
  simp [execOp,ho,resolve,invoke,builtin,hd,hrun,Result.andThen]
  exact hK _ _ (h w [] (by simp) (show _=_ by simpa [splice] using hg) (Only.refl _ _))
 ·obtain rfl:=hpos (by omega)
  have hzl:(Builtin.zeroCells z.cells n).toList.length=n*K:=by simp [Builtin.zeroCells,hz2]
  have hst:=run_storeCells_at P g off t (Builtin.zeroCells z.cells n).toList 0 cur.toArray w hg (by rw [hzl]; simpa using hfit) (fun v hv=>by
   simp [Builtin.zeroCells] at hv
   obtain ⟨k,_,rfl⟩:=hv
   exact hz1 k)
  simp only [Nat.add_zero] at hst
  rw [List.append_assoc] at hst
  have hrun:(Builtin.clear_ #[dT] o.type #[.slice (some ⟨g,off,none⟩) n c]).run P w=.ok (.tuple #[]) (w.setRow g (splice cur off (Builtin.zeroCells z.cells n).toList).toArray):=by
   obtain ⟨m,rfl⟩ : ∃ m,n=m+1:=⟨n-1,by omega⟩
   simp only [Builtin.clear_]
   simp [run_underlying hu,hz,hst,splice]
  unfold Oper.wp
  simp [execOp,ho,resolve,invoke,builtin,hd,hrun,Result.andThen]
  exact hK _ _ (h _ _ hzl (setRow_heap w g _ _ t _ hg) (only_setRow _ _ _))
theorem wpList_appendK_room {w:World} {ops:Array Oper} {rest:List Oper} {o:Oper} {a:Act} {Q:Exit->Act->World->Prop} (hgd:o.guard=none) (s x:Operand) (t:TypeId)
  (ho:o.op=.call { callee:=.builtin .append,args := #[s,x],argTypes := #[t,t] }) (e:TypeId) (i:TypeInfo) (ht:P.underlying t=some (.slice e)) (hi:P.info? e=some i) (hsz:i.size=K)
  (g n c:Nat) (hs:a.eval s=.slice (some ⟨g,0,none⟩) n c) (cur:List Value) (hg:w.heap[g]? = some (.cells cur.toArray e (0,0)))
  (ad:Addr) (m sc:Nat) (hx:a.eval x=.slice (some ad) m sc) (cs:List Value) (hl:cs.length=m*K) (hsrc : ∀ j u,cs[j]? = some u->w.cell? (ad.add j)=some u) (h1 : ∀ u∈cs,u.oneCell'=true) (hroom:n+m<=c) (hfit:n*K+cs.length<=cur.length)
  (h : ∀ w',Hid (w'.heap[g]? = some (.cells (splice cur (n*K) cs).toArray e (0,0)))->Only g w w'->wpList P ops Q rest (a.put o.dst (.slice (some ⟨g,0,none⟩) (n+m) c)) w') :
  wpList P ops Q (o::rest) a w:=by
 refine wpList_plain hgd fun _ hK=>?_
 have hrun:=run_append_room (P:=P) w t o.type e i ht hi g n c cur.toArray hg ad m sc cs (by rw [hsz]; exact hl) hsrc h1 hroom (by rw [hsz]; simpa using hfit)
 rw [hsz] at hrun
 simp only [List.append_assoc] at hrun
 unfold Oper.wp
 simp [execOp,ho,resolve,invoke,builtin,hs,hx,hrun,Result.andThen]
 exact hK _ _ (h _ (setRow_heap w g _ _ e _ hg) (only_setRow _ _ _))
theorem step_appendK_room {w:World} {ops:Array Oper} {o:Oper} {a:Act} {J:Act->World->Prop} {Q:Exit->Act->World->Prop} {F:Prop} (hgd:o.guard=none) (s x:Operand) (t:TypeId)
  (ho:o.op=.call { callee:=.builtin .append,args := #[s,x],argTypes := #[t,t] }) (e:TypeId) (i:TypeInfo) (ht:P.underlying t=some (.slice e)) (hi:P.info? e=some i) (hsz:i.size=K)
  (g n c:Nat) (hs:a.eval s=.slice (some ⟨g,0,none⟩) n c) (cur:List Value) (hg:w.heap[g]? = some (.cells cur.toArray e (0,0)))
  (ad:Addr) (m sc:Nat) (hx:a.eval x=.slice (some ad) m sc) (cs:List Value) (hl:cs.length=m*K) (hsrc : ∀ j u,cs[j]? = some u->w.cell? (ad.add j)=some u) (h1 : ∀ u∈cs,u.oneCell'=true) (hroom:n+m<=c) (hfit:n*K+cs.length<=cur.length)
  (h : ∀ w',Hid (w'.heap[g]? = some (.cells (splice cur (n*K) cs).toArray e (0,0)))->Only g w w'->J (a.put o.dst (.slice (some ⟨g,0,none⟩) (n+m) c)) w') :
  if Region.wanted o (yielded ops a.tmps)=true then Oper.wp P o a w J Q else F:=by
 have hw:Region.wanted o (yielded ops a.tmps)=true:=by simp [Region.wanted,hgd]
 rw [if_pos hw]
 have hrun:=run_append_room (P:=P) w t o.type e i ht hi g n c cur.toArray hg ad m sc cs (by rw [hsz]; exact hl) hsrc h1 hroom (by rw [hsz]; simpa using hfit)
 rw [hsz] at hrun
 simp only [List.append_assoc] at hrun
 unfold Oper.wp
 simp [execOp,ho,resolve,invoke,builtin,hs,hx,hrun,Result.andThen]
 exact h _ (setRow_heap w g _ _ e _ hg) (only_setRow _ _ _)
end
end Go.Proofs.YtnhnpnafchkhiaaGreatDoor.K
namespace Go.Proofs.YtnhnpnafchkhiaaGreatDoor.K
open Go.ChangeShapes Go.WideShapes Go.ChangeAt Go.RowKit
theorem weightsAll_mem {H:Type} {P:Program} {e:TypeId} : ∀ {ds:List (DataW H)} {d:DataW H},d∈ds -> ∀ n∈d.weights P e,n∈DataW.weightsAll P e ds
 |d0::ds,d,hd,n,hn=>by
  simp only [DataW.weightsAll,List.mem_append]
  rcases List.mem_cons.1 hd with rfl | h
  ·exact Or.inl hn
  ·exact Or.inr (weightsAll_mem h n hn)
theorem open_structs {α:Type} {enc:α->List Value} {K:Nat} [E:Enc enc K] {H:Type} {en:TypeId × Value->H} {P:Program} {W:World} {S e:TypeId} (hS:P.underlying S=some (.slice e)) (hK:P.cellsOf e=K) (Fit:α->Prop)
  (hel : ∀ n cs (x:DataW H × List MemPlace),DataW.trod en P W 0 (fun _=>true) true n e cs=some x->(∀ m∈x.1.weights P e,m<=reachBytes) -> ∃ a:α,cs=enc a/\Fit a)
  {base:Nat} {v:Value} {d:DataW H} {p:List MemPlace} (hval:Value.okWide P W .any base S v)
  (h:DataW.Trod en P W 0 (fun _=>true) true S v d p) (hw : ∀ n∈d.weights P S,n<=reachBytes) : ∃ l,RowOf enc W v l /\ ∀ a∈l,Fit a:=by
 obtain ⟨a,len,cap,rfl⟩:=okWide_slice hS hval
 obtain ⟨fuel,hf⟩:=h
 rcases DataW.trod_slice hS hf with ⟨hcs,_⟩ | ⟨x,l,c,elems,rest,n,_,hcs,hd,_,hl,hm,hlen,hone,_,_⟩
 ·simp [Value.cells] at hcs
  obtain ⟨rfl,rfl,rfl⟩:=hcs
  exact ⟨[],.inl ⟨rfl,rfl⟩,fun a h=>by cases h⟩
 ·simp [Value.cells] at hcs
  obtain ⟨rfl,rfl,rfl⟩:=hcs
  have hdv:d=.slice (elems.map (·.1)) (rest.map (·.1)):=congrArg Prod.fst hd
  have hin : ∀ m∈DataW.weightsAll P e (elems.map (·.1)),m<=reachBytes:=fun m hm'=>hw m (by
   rw [hdv]
   simp only [DataW.weights,hS]
   exact List.mem_cons_of_mem _ (List.mem_append_left _ hm'))
  have each : ∀ i:Fin len,∃ b:α,(∀ j,j<K->W.cell? (x.add (i.1*K+j))=(enc b)[j]?)/\Fit b:=fun i=>by
   have h1:=hone i.1 i.2
   have hi':i.1<elems.length:=by omega
   rw [hK,List.getElem?_eq_getElem hi'] at h1
   cases hc:W.cells? 0 (x.add (i.1*K)) K with
   |none=>rw [hc] at h1; cases h1
   |some cs =>
    rw [hc] at h1
    have h2:DataW.trod en P W 0 (fun _=>true) true n e cs=some elems[i.1]:=h1
    obtain ⟨b,rfl,hb⟩:=hel _ _ _ h2 (fun m hm'=>hin m (weightsAll_mem (List.mem_map.2 ⟨elems[i.1],List.getElem_mem hi',rfl⟩) m hm'))
    refine ⟨b,fun j hj=>?_,hb⟩
    rw [<- Addr.add_add]
    exact (World.cells?_some hc).2.2 j hj
  obtain ⟨f,hff⟩:=Classical.axiomOfChoice each
  have hlf:(List.ofFn f).length=len:=by simp
  refine ⟨List.ofFn f,.inr ⟨x,cap,by rw [hlf],by rw [hlf]; omega,hm,fun j u hj=>?_⟩,fun b hb=>?_⟩
  ·have hjl:j<(List.ofFn f).length*K:=by rw [<- cellsOf_length (enc:=enc)]; exact (List.getElem?_eq_some_iff.1 hj).1
   have hp:=E.pos
   have h1:j / K<(List.ofFn f).length:=Nat.div_lt_of_lt_mul (by rw [Nat.mul_comm]; exact hjl)
   have h2:j % K<K:=Nat.mod_lt _ hp
   have h3:j / K*K+j % K=j:=by rw [Nat.mul_comm]; exact Nat.div_add_mod j K
   have hg:=cellsOf_get (enc:=enc) (List.ofFn f) (j / K) (j % K) h1 h2
   rw [h3,hj] at hg
   rw [hlf] at h1
   have:=(hff ⟨j / K,h1⟩).1 (j % K) h2
   simp only at this
   rw [h3] at this
   rw [this,hg]
   simp
  ·obtain ⟨i,rfl⟩:=List.mem_ofFn.1 hb
   exact (hff i).2
end Go.Proofs.YtnhnpnafchkhiaaGreatDoor.K
