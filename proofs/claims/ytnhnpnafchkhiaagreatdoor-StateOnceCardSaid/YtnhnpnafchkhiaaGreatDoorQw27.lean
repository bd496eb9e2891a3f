import Derived.Test.YtnhnpnafchkhiaaGreatDoorQwA
import Derived.Test.YtnhnpnafchkhiaaGreatDoorQw0
import Derived.Test.YtnhnpnafchkhiaaGreatDoorQw2
import Derived.Test.YtnhnpnafchkhiaaGreatDoorQw15
import Derived.DeepKeys4
import Derived.Test.YtnhnpnafchkhiaaGreatDoorQw23
import Derived.Test.YtnhnpnafchkhiaaGreatDoorQw16
import Derived.Test.YtnhnpnafchkhiaaGreatDoorQw11
import Derived.Test.YtnhnpnafchkhiaaGreatDoorQw20
import Derived.Test.YtnhnpnafchkhiaaGreatDoorQw3
import Derived.Test.YtnhnpnafchkhiaaGreatDoorQw12
set_option maxRecDepth 20000
namespace Go.Proofs.YtnhnpnafchkhiaaGreatDoor
open Go.RowKit Go.Maps
abbrev Pe:=ByteArray × Nat
def ptrO:Option Nat->Value
 |none=>.pointer none
 |some b=>.pointer (some ⟨b,0,none⟩)
def rdP (v:Value):Option (DataW (Option Nat) × List MemPlace):=match v with
 | .pointer none=>some (.held none,[])
 | .pointer (some a)=>if a.off=0/\a.spot=none then some (.held (some a.block),[]) else none
 |_=>none
theorem rdP_ptr (o:Option Nat):rdP (ptrO o)=some (.held o,[]):=by cases o <;> simp [rdP,ptrO]
theorem rdP_inv {v:Value} {z:DataW (Option Nat) × List MemPlace} (h:rdP v=some z) : ∃ o,v=ptrO o/\z=(.held o,[]):=by
 unfold rdP at h
 split at h
 ·injection h with h
  exact ⟨none,rfl,h.symm⟩
 ·rename_i a
  split at h
  ·rename_i ha
   injection h with h
   refine ⟨some a.block,?_,h.symm⟩
   obtain ⟨b,o,s⟩:=a
   obtain ⟨h1,h2⟩:=ha
   simp only at h1 h2
   subst h1 h2
   rfl
  ·cases h
 ·cases h
def pkl (x:Pe):Lit:=.string x.1.data.toList
def pd (x:Pe):DataW (Option Nat):=.held (some x.2)
theorem sKeyed:Keyed Tryz.prog 9:=string_keyed Tryz.underlying9
theorem keyOf_str {s:ByteArray} (h:s.size<=maxLen):keyOf Tryz.prog 9 (.string s)=some (.string s.data.toList):=by
 have hu:=Tryz.underlying9
 simp [keyOf,hu,mapKey,h]
theorem skey_inv {key:Value} {z:Lit} (h:keyOf Tryz.prog 9 key=some z) : ∃ s:ByteArray,key=.string s/\z=.string s.data.toList:=by
 have hu:=Tryz.underlying9
 simp only [keyOf,hu,mapKey] at h
 cases key <;> simp at h
 rename_i s
 exact ⟨s,rfl,h.2.symm⟩
theorem str_inj {a b:ByteArray} (h:Lit.string a.data.toList=.string b.data.toList):a=b:=by
 injection h with h
 exact B.arr_inj h
structure DL (l:List Pe):Prop where
 diff:Diff pkl l
 fit : ∀ x∈l,x.1.size<=maxLen
theorem DL.keys {l:List Pe} (h:DL l) : ∀ x∈l,KeysOf Tryz.prog 9 (pkl x):=fun x hx=>⟨_,keyOf_str (h.fit x hx)⟩
theorem DL.perm {l l':List Pe} (h:DL l) (hp:l'.Perm l):DL l':=⟨h.diff.perm hp,fun x hx=>h.fit x (hp.mem_iff.1 hx)⟩
def DAt (w:World) (b:Nat) (l:List Pe):Prop:=w.ownsMap Tryz.prog 9 rdP b l.length (DofG pkl pd l)
theorem DAt.same {w w':World} {b:Nat} {l:List Pe} (h:DAt w b l) (hs:w'.heap[b]? = w.heap[b]?):DAt w' b l:=by
 obtain ⟨es,clock,hb,r⟩:=h
 exact ⟨es,clock,by rw [hs]; exact hb,r⟩
theorem DAt.lt {w:World} {b:Nat} {l:List Pe} (h:DAt w b l):b<w.heap.size:=World.ownsMap.lt h
theorem dAt_new (w:World):DAt (w.alloc (.map #[] 0)) w.heap.size []:=World.ownsMap_made w _ _ _
theorem DAt.perm {w:World} {b n:Nat} {l l':List Pe} (h:w.ownsMap Tryz.prog 9 rdP b n (DofG pkl pd l')) (hl:DL l) (hp:l'.Perm l):DAt w b l:=by
 rw [DofG_perm sKeyed.one hl.keys hl.diff hp] at h
 exact ownsMapG_fit h
theorem DAt.permTo {w:World} {b:Nat} {l l':List Pe} (h:DAt w b l') (hl:DL l) (hp:l'.Perm l):DAt w b l:=DAt.perm h hl hp
def findP (l:List Pe) (s:ByteArray):Option Pe:=l.find? fun x=>decide (x.1=s)
theorem findP_some {l:List Pe} {s:ByteArray} {x:Pe} (h:findP l s=some x):x∈l/\x.1=s:=⟨List.mem_of_find?_eq_some h,by simpa using List.find?_some h⟩
theorem findP_none {l:List Pe} {s:ByteArray} (h:findP l s=none) : ∀ x∈l,x.1≠s:=fun x hx=>by simpa using List.find?_eq_none.1 h x hx
theorem DAt.len {w:World} {b:Nat} {l:List Pe} (h:DAt w b l) (ty:TypeId):(Builtin.len_ #[83] ty #[.map (some b)]).run Tryz.prog w=.ok (.int .i64 (l.length:Nat)) w:=by
 have:=World.ownsMap.len h Tryz.underlying83 ty
 rw [size_DofG] at this
 exact this
theorem DAt.look {w:World} {b:Nat} {l:List Pe} (h:DAt w b l) (hl:DL l) {s:ByteArray} (hs:s.size<=maxLen) :
  (Instr.lookup 83 (.map (some b)) (.string s) false).run Tryz.prog w=.ok (ptrO ((findP l s).map Prod.snd)) w:=by
 obtain ⟨v,ps,h1,h2⟩:=World.ownsMap.lookup h sKeyed Tryz.underlying83 (Tryz.zeroValue102 w) (zd:=.held none) (zp:=[]) (rdP_ptr none) (keyOf_str hs)
 obtain ⟨o,rfl,hx⟩:=rdP_inv h2
 rw [h1]
 cases hf:findP l s with
 |none =>
  have hne : ∀ y∈l,pkl y≠.string s.data.toList:=fun y hy e=>findP_none hf y hy (str_inj e)
  rw [atKey_none hne] at hx
  simp at hx
  rw [<- hx.1]
  rfl
 |some y =>
  obtain ⟨hy,rfl⟩:=findP_some hf
  rw [show Lit.string y.1.data.toList=pkl y from rfl,atKey_mem sKeyed.one hl.keys hl.diff hy] at hx
  simp [pd] at hx
  rw [<- hx.1]
  rfl
theorem DAt.look2 {w:World} {b:Nat} {l:List Pe} (h:DAt w b l) (hl:DL l) {s:ByteArray} (hs:s.size<=maxLen) :
  (Instr.lookup 83 (.map (some b)) (.string s) true).run Tryz.prog w=.ok (.tuple #[ptrO ((findP l s).map Prod.snd),.bool (findP l s).isSome]) w:=by
 obtain ⟨v,ps,h1,h2⟩:=World.ownsMap.look_ok h sKeyed Tryz.underlying83 (Tryz.zeroValue102 w) (zd:=.held none) (zp:=[]) (rdP_ptr none) (keyOf_str hs)
 obtain ⟨o,rfl,hx⟩:=rdP_inv h2
 rw [h1]
 cases hf:findP l s with
 |none =>
  have hne : ∀ y∈l,pkl y≠.string s.data.toList:=fun y hy e=>findP_none hf y hy (str_inj e)
  rw [atKey_none hne] at hx
  rw [has_DofG_false sKeyed.one ⟨_,keyOf_str hs⟩ hne]
  simp at hx
  rw [<- hx.1]
  rfl
 |some y =>
  obtain ⟨hy,rfl⟩:=findP_some hf
  rw [show Lit.string y.1.data.toList=pkl y from rfl,atKey_mem sKeyed.one hl.keys hl.diff hy] at hx
  rw [show Lit.string y.1.data.toList=pkl y from rfl,(has_DofG sKeyed.one (hl.keys y hy)).2 ⟨y,hy,rfl⟩]
  simp [pd] at hx
  rw [<- hx.1]
  rfl
theorem DAt.put {w:World} {b:Nat} {l:List Pe} (h:DAt w b l) (hl:DL l) {s:ByteArray} (hs:s.size<=maxLen) (q:Nat) (hn : ∀ y∈l,y.1≠s) (hlen:l.length<=1000000000) :
  ∃ w',(Instr.mapUpdate 83 (.map (some b)) (.string s) (.pointer (some ⟨q,0,none⟩))).run Tryz.prog w=.ok () w'/\DAt w' b ((s,q)::l)/\w.grownBy w' (some b):=by
 obtain ⟨w',h1,h2,h3⟩:=World.ownsMap.update h sKeyed Tryz.underlying83 (by unfold maxLen; omega) (keyOf_str hs) (rdP_ptr (some q))
 refine ⟨w',h1,?_,h3⟩
 have e:(DofG pkl pd l).put (.string s.data.toList) (.held (some q))=DofG pkl pd ((s,q)::l):=put_new sKeyed.one hl.keys hl.diff (x:=(s,q)) ⟨_,keyOf_str hs⟩ (fun y hy e=>hn y hy (str_inj e))
 rw [e] at h2
 exact ownsMapG_fit h2
theorem DAt.del {w:World} {b:Nat} {l:List Pe} (h:DAt w b l) (hl:DL l) {s:ByteArray} (hs:s.size<=maxLen) :
  ∃ f:TypeId->World,∀ ty,(Builtin.delete_ #[83,9] ty #[.map (some b),.string s]).run Tryz.prog w=.ok (.tuple #[]) (f ty)/\DAt (f ty) b (l.filter fun y => !decide (y.1=s))/\w.grownBy (f ty) (some b):=by
 have each : ∀ ty:TypeId,∃ w',(Builtin.delete_ #[83,9] ty #[.map (some b),.string s]).run Tryz.prog w=.ok (.tuple #[]) w'/\DAt w' b (l.filter fun y => !decide (y.1=s))/\w.grownBy w' (some b):=fun ty=>by
  obtain ⟨w',h1,h2,h3⟩:=World.ownsMap.drop h sKeyed Tryz.underlying83 (keyOf_str hs) ty
  refine ⟨w',h1,?_,h3.grown⟩
  rw [del_DofG sKeyed.one hl.keys hl.diff] at h2
  have e:(l.filter fun y => !(pkl y).sameKey (.string s.data.toList))=l.filter fun y => !decide (y.1=s):=List.filter_congr fun y hy=>by
   congr 1
   rw [Bool.eq_iff_iff,sameKey_iff sKeyed.one ⟨_,keyOf_str hs⟩,decide_eq_true_iff]
   exact ⟨fun e=>str_inj e,fun e=>by rw [<- e]; rfl⟩
  rw [e] at h2
  exact ownsMapG_fit h2
 obtain ⟨f,hf⟩:=Classical.axiomOfChoice each
 exact ⟨f,hf⟩
theorem p_entry {l:List Pe} (h:DL l) {z:Lit} {v:Value} {yd:DataW (Option Nat)} {yp:List MemPlace} (hv:rdP v=some (yd,yp)) (hat : ∀ zd,(DofG pkl pd l).atKey z zd=yd) : ∃ c∈l,pkl c=z/\v=.pointer (some ⟨c.2,0,none⟩):=by
 obtain ⟨o,rfl,hz⟩:=rdP_inv hv
 simp at hz
 obtain ⟨rfl,rfl⟩:=hz
 by_cases hn : ∃ y∈l,pkl y=z
 ·obtain ⟨y,hy,rfl⟩:=hn
  have h1:=hat .nil
  rw [atKey_mem sKeyed.one h.keys h.diff hy] at h1
  injection h1 with h1
  exact ⟨y,hy,rfl,by rw [<- h1]; rfl⟩
 ·have h1:=hat .nil
  rw [atKey_none (fun y hy e=>hn ⟨y,hy,e⟩)] at h1
  cases h1
end Go.Proofs.YtnhnpnafchkhiaaGreatDoor
namespace Go.Proofs.YtnhnpnafchkhiaaGreatDoor
open Go.RowKit
structure Sm where
 site:Int
 S:Int
 E:List (Int × Int)
 H:Int
 seq:Nat
 boots:Nat
 tb:B.Tb
 qs:List (ByteArray × F.St)
 bk:Nat->List (Nat × Nat)
 lk:List (Int × List Ms)
instance encM14:K.Enc mcells 6:=⟨fun _=>rfl,fun m u hu=>by simp [mcells] at hu; rcases hu with rfl | rfl | rfl | rfl | rfl | rfl <;> rfl,by decide⟩
abbrev OwnM (w:World) (base:Nat) (v:Value) (l:List Ms):Prop:=K.OwnOf mcells 6 40 w base v l
abbrev OwnE (w:World) (base:Nat) (v:Value) (l:List (Int × Int)):Prop:=K.OwnOf O.ecells 2 80 w base v l
inductive Ix where
 |main | edges | table | qmap | book | lmap
 |queue (n:ByteArray)
 |link (t:Int)
 deriving DecidableEq
structure Ad where
 ev:Value
 tp:Nat
 qm:Nat
 bp:Nat
 lm:Nat
 ps:List Pe
 es:List Le
abbrev scells14 (d:Ad) (s:Sm):Array Value := #[.int .i64 s.site,.int .i64 s.S,d.ev,.int .i64 s.H,.int .u64 (s.seq:Int),.int .u64 (s.boots:Int),.pointer (some ⟨d.tp,0,none⟩),.map (some d.qm),.pointer (some ⟨d.bp,0,none⟩),.map (some d.lm)]
structure SAt (w:World) (p:Nat) (ft:Ix->Nat->Prop) (d:Ad) (s:Sm):Prop where
 blk:w.heap[p]? = some (.cells (scells14 d s) 88 (0,0))
 fm : ∀ k,ft .main k↔k=p
 edges:OwnE w 0 d.ev s.E
 fe : ∀ k,ft .edges k↔d.ev.ownBlock=some k
 table:B.T w d.tp (ft .table) s.tb
 qmap:DAt w d.qm d.ps
 fq : ∀ k,ft .qmap k↔k=d.qm
 book:S.Bk w d.bp (ft .book) s.bk
 lmap:LAt w d.lm d.es
 fl : ∀ k,ft .lmap k↔k=d.lm
 names:d.ps.map Prod.fst=s.qs.map Prod.fst
 queue : ∀ n q,(n,q)∈s.qs -> ∃ b,(n,b)∈d.ps/\F.Q w b (ft (.queue n)) q
 noq : ∀ n,n∉s.qs.map Prod.fst -> ∀ k,¬ ft (.queue n) k
 tos:d.es.map Prod.fst=s.lk.map Prod.fst
 link : ∀ t l,(t,l)∈s.lk -> ∃ v,(t,v)∈d.es/\OwnM w 0 v l /\ ∀ k,ft (.link t) k↔v.ownBlock=some k
 nol : ∀ t,t∉s.lk.map Prod.fst -> ∀ k,¬ ft (.link t) k
 one : ∀ a b k,ft a k->ft b k->a=b
theorem SAt.lts {w:World} {p:Nat} {ft:Ix->Nat->Prop} {d:Ad} {s:Sm} (h:SAt w p ft d s) : ∀ a k,ft a k->k<w.heap.size:=by
 intro a k hk
 cases a with
 |main=>rw [(h.fm k).1 hk]; exact (yyD h.blk).1
 |edges=>exact (h.edges.lt ((h.fe k).1 hk)).2
 |table=>exact h.table.lts k hk
 |qmap=>rw [(h.fq k).1 hk]; exact h.qmap.lt
 |book=>exact h.book.lts k hk
 |lmap=>rw [(h.fl k).1 hk]; exact h.lmap.lt
 |queue n =>
  by_cases hn:n∈s.qs.map Prod.fst
  ·obtain ⟨⟨n',q⟩,hm,rfl⟩:=List.mem_map.1 hn
   obtain ⟨b,_,hq⟩:=h.queue n' q hm
   exact hq.lts k hk
  ·exact absurd hk (h.noq n hn k)
 |link t =>
  by_cases hn:t∈s.lk.map Prod.fst
  ·obtain ⟨⟨t',l⟩,hm,rfl⟩:=List.mem_map.1 hn
   obtain ⟨v,_,ho,hf⟩:=h.link t' l hm
   exact (ho.lt ((hf k).1 hk)).2
  ·exact absurd hk (h.nol t hn k)
theorem SAt.same {w w':World} {p:Nat} {ft:Ix->Nat->Prop} {d:Ad} {s:Sm} (h:SAt w p ft d s) (hs : ∀ a k,ft a k->w'.heap[k]? = w.heap[k]?):SAt w' p ft d s where
 blk:=by rw [hs .main p ((h.fm p).2 rfl)]; exact h.blk
 fm:=h.fm
 edges:=h.edges.same fun g hg=>hs .edges g ((h.fe g).2 hg)
 fe:=h.fe
 table:=h.table.same fun k hk=>hs .table k hk
 qmap:=h.qmap.same (hs .qmap _ ((h.fq _).2 rfl))
 fq:=h.fq
 book:=h.book.same fun k hk=>hs .book k hk
 lmap:=h.lmap.same (hs .lmap _ ((h.fl _).2 rfl))
 fl:=h.fl
 names:=h.names
 queue:=fun n q hq=>by
  obtain ⟨b,h1,h2⟩:=h.queue n q hq
  exact ⟨b,h1,h2.same fun k hk=>hs _ k hk⟩
 noq:=h.noq
 tos:=h.tos
 link:=fun t l hl=>by
  obtain ⟨v,h1,h2,h3⟩:=h.link t l hl
  exact ⟨v,h1,h2.same fun g hg=>hs (.link t) g ((h3 g).2 hg),h3⟩
 nol:=h.nol
 one:=h.one
def SS (w:World) (p:Nat) (F:Nat->Prop) (s:Sm):Prop := ∃ ft d,SAt w p ft d s /\ ∀ k,F k ↔ ∃ a,ft a k
theorem SS.lts {w:World} {p:Nat} {F:Nat->Prop} {s:Sm} (h:SS w p F s) : ∀ k,F k->k<w.heap.size:=by
 obtain ⟨ft,d,hs,hF⟩:=h
 intro k hk
 obtain ⟨a,ha⟩:=(hF k).1 hk
 exact hs.lts a k ha
theorem SS.same {w w':World} {p:Nat} {F:Nat->Prop} {s:Sm} (h:SS w p F s) (hs : ∀ k,F k->w'.heap[k]? = w.heap[k]?):SS w' p F s:=by
 obtain ⟨ft,d,h1,hF⟩:=h
 exact ⟨ft,d,h1.same fun a k hk=>hs k ((hF k).2 ⟨a,hk⟩),hF⟩
theorem SS.kept {w w':World} {p:Nat} {F:Nat->Prop} {s:Sm} (h:SS w p F s) (hb:Below w.heap.size w w'):SS w' p F s:=h.same fun k hk=>hb.block k (h.lts k hk)
theorem SS.beside {w w':World} {p:Nat} {F G G':Nat->Prop} {s:Sm} (h:SS w p F s) (m:Moved w w' G G') (ha : ∀ k,G k -> ¬ F k):SS w' p F s:=h.same fun k hk=>m.block k (h.lts k hk) (fun hg=>ha k hg hk)
def upd (ft:Ix->Nat->Prop) (c:Ix) (F:Nat->Prop):Ix->Nat->Prop:=fun a=>if a=c then F else ft a
theorem upd_same (ft:Ix->Nat->Prop) (c:Ix) (F:Nat->Prop):upd ft c F c=F:=if_pos rfl
theorem upd_other (ft:Ix->Nat->Prop) {a c:Ix} (F:Nat->Prop) (h:a≠c):upd ft c F a=ft a:=if_neg h
theorem SAt.others {w w':World} {p:Nat} {ft:Ix->Nat->Prop} {d:Ad} {s:Sm} {c:Ix} {F':Nat->Prop} (h:SAt w p ft d s) (m:Moved w w' (ft c) F') : ∀ a,a≠c -> ∀ k,ft a k->w'.heap[k]? = w.heap[k]? :=
 fun a ha k hk=>m.block k (h.lts a k hk) fun hc=>ha (h.one a c k hk hc)
theorem SAt.oneUpd {w w':World} {p:Nat} {ft:Ix->Nat->Prop} {d:Ad} {s:Sm} {c:Ix} {F':Nat->Prop} (h:SAt w p ft d s) (m:Moved w w' (ft c) F') : ∀ a b k,upd ft c F' a k->upd ft c F' b k->a=b:=by
 intro a b k ha hb
 have key : ∀ e,e≠c->ft e k->F' k->False:=fun e he h1 h2=>(m.sub k h2).elim (fun h3=>he (h.one e c k h1 h3)) (fun h3=>by have:=h.lts e k h1; omega)
 by_cases ea:a=c
 ·by_cases eb:b=c
  ·rw [ea,eb]
  ·rw [ea,upd_same] at ha
   rw [upd_other ft F' eb] at hb
   exact (key b eb hb ha).elim
 ·rw [upd_other ft F' ea] at ha
  by_cases eb:b=c
  ·rw [eb,upd_same] at hb
   exact (key a ea ha hb).elim
  ·rw [upd_other ft F' eb] at hb
   exact h.one a b k ha hb
theorem moved_upd {w w':World} {ft:Ix->Nat->Prop} {c:Ix} {F':Nat->Prop} (m:Moved w w' (ft c) F'):Moved w w' (fun k => ∃ a,ft a k) (fun k => ∃ a,upd ft c F' a k) :=
 ⟨m.os,m.tape,m.output,m.size,fun k hk hn=>m.block k hk (fun hc=>hn ⟨c,hc⟩),fun k ⟨a,ha⟩=>by
  by_cases e:a=c
  ·rw [e,upd_same] at ha
   exact (m.sub k ha).imp (fun h=>⟨c,h⟩) id
  ·rw [upd_other ft F' e] at ha
   exact .inl ⟨a,ha⟩⟩
theorem cells10 {w:World} {g:Nat} {a b c d e f x y z u:Value} {t:TypeId} {fz:Nat × Nat} (h:w.heap[g]? = some (.cells #[a,b,c,d,e,f,x,y,z,u] t fz)) :
  w.cell? ⟨g,0,none⟩=some a/\w.cell? ⟨g,1,none⟩=some b/\w.cell? ⟨g,2,none⟩=some c/\w.cell? ⟨g,3,none⟩=some d/\w.cell? ⟨g,4,none⟩=some e/\w.cell? ⟨g,5,none⟩=some f/\w.cell? ⟨g,6,none⟩=some x/\w.cell? ⟨g,7,none⟩=some y/\w.cell? ⟨g,8,none⟩=some z/\w.cell? ⟨g,9,none⟩=some u:=by
 refine ⟨?_,?_,?_,?_,?_,?_,?_,?_,?_,?_⟩ <;> (simp only [World.cell?]; rw [h]; rfl)
theorem made14_any (p:Nat) (F:Nat->Prop) (s:Sm) (w:World) (h:SS w p F s):Calls Tryz.prog 25 #[.pointer (some ⟨p,0,none⟩)] w fun e w'=>e=.returned (.bool true)/\w'=w:=by
 obtain ⟨ft,d,hs,_⟩:=h
 obtain ⟨c0,c1,c2,c3,c4,c5,c6,c7,c8,c9⟩:=cells10 hs.blk
 clear hs
 go_enter Tryz.func25,Tryz.ntmps25
 go_wp2
 go_ret
 exact ⟨rfl,rfl⟩
def Un14 (w:World) (q:Value):Prop:=q=.pointer none \/ ∃ p,q=.pointer (some ⟨p,0,none⟩)/\w.heap[p]? = some (.cells #[.int .i64 0,.int .i64 0,.slice none 0 0,.int .i64 0,.int .u64 0,.int .u64 0,.pointer none,.map none,.pointer none,.map none] 88 (0,0))
theorem msgInfo : ∃ i,Tryz.prog.info? 40=some i/\i.zero=some (mv zM)/\i.size=6/\i.bytes=72:=by
 have hinfo:(Tryz.prog.info? 40).map (fun i=>(i.zero,i.size,i.bytes))=some (some (mv zM),6,72):=by kernel_rfl
 cases h:Tryz.prog.info? 40 with
 |none=>rw [h] at hinfo; simp at hinfo
 |some i =>
  rw [h] at hinfo
  simp only [Option.map_some,Option.some.injEq,Prod.mk.injEq] at hinfo
  exact ⟨i,rfl,hinfo.1,hinfo.2.1,hinfo.2.2⟩
theorem edgeInfo : ∃ i,Tryz.prog.info? 80=some i/\i.zero=some (.agg #[.int .i64 0,.int .i64 0])/\i.size=2/\i.bytes=16:=by
 have hinfo:(Tryz.prog.info? 80).map (fun i=>(i.zero,i.size,i.bytes))=some (some (.agg #[.int .i64 0,.int .i64 0]),2,16):=by kernel_rfl
 cases h:Tryz.prog.info? 80 with
 |none=>rw [h] at hinfo; simp at hinfo
 |some i =>
  rw [h] at hinfo
  simp only [Option.map_some,Option.some.injEq,Prod.mk.injEq] at hinfo
  exact ⟨i,rfl,hinfo.1,hinfo.2.1,hinfo.2.2⟩
theorem anotherM_any (v:Value) (l:List Ms) (w:World) (hr:K.RowOf mcells w v l) (hlen:l.length<=1000000) :
  Calls Tryz.prog 35 #[v] w fun e w' => ∃ v',e=.returned v'/\OwnM w' w.heap.size v' l/\Below w.heap.size w w':=by
 obtain ⟨a,cap,rfl⟩:=hr.slice
 obtain ⟨i,hi,hz,hsz,hby⟩:=msgInfo
 go_enter Tryz.func35,Tryz.ntmps35
 go_wp2_with (at_builtin; refine K.wpList_append_rows (enc:=mcells) rfl (.const (.slice none 0 0)) (.tmp 3) 62 rfl Tryz.underlying62 i _ 72 hi hz hsz hby rfl w.heap.size (.slice none 0 0) _ [] l rfl rfl (K.ownOf_nil _ _) hr (by unfold maxLen; simp; omega) (by simp; omega) (yyH _) ?_; intro v' w' own' grown' _; obtain ⟨va,vc,hva⟩:=own'.rng.slice; subst hva)
 all_goals go_ret
 all_goals exact ⟨_,rfl,own',⟨grown'.os,grown'.tape,grown'.output,grown'.size,fun k hk=>grown'.block k hk (by simp [Value.ownBlock])⟩⟩
theorem anotherE_any (v:Value) (l:List (Int × Int)) (w:World) (hr:K.RowOf O.ecells w v l) (hlen:l.length<=1000000) :
  Calls Tryz.prog 21 #[v] w fun e w' => ∃ v',e=.returned v'/\OwnE w' w.heap.size v' l/\Below w.heap.size w w':=by
 obtain ⟨a,cap,rfl⟩:=hr.slice
 obtain ⟨i,hi,hz,hsz,hby⟩:=edgeInfo
 go_enter Tryz.func21,Tryz.ntmps21
 go_wp2_with (at_builtin; refine K.wpList_append_rows (enc:=O.ecells) rfl (.const (.slice none 0 0)) (.tmp 3) 22 rfl Tryz.underlying22 i _ 16 hi hz hsz hby rfl w.heap.size (.slice none 0 0) _ [] l rfl rfl (K.ownOf_nil _ _) hr (by unfold maxLen; simp; omega) (by simp; omega) (yyH _) ?_; intro v' w' own' grown' _; obtain ⟨va,vc,hva⟩:=own'.rng.slice; subst hva)
 all_goals go_ret
 all_goals exact ⟨_,rfl,own',⟨grown'.os,grown'.tape,grown'.output,grown'.size,fun k hk=>grown'.block k hk (by simp [Value.ownBlock])⟩⟩
def linkOf (lk:List (Int × List Ms)) (t:Int):List Ms:=((lk.find? fun x=>decide (x.1=t)).map Prod.snd).getD []
structure Sm.Fit (s:Sm):Prop where
 names:(s.qs.map Prod.fst).Nodup
 short : ∀ x∈s.qs,x.1.size<=20
 tos:(s.lk.map Prod.fst).Nodup
 small : ∀ x∈s.lk,I64 x.1
 few : ∀ x∈s.lk,x.2.length<=1000
theorem SAt.ll {w:World} {p:Nat} {ft:Ix->Nat->Prop} {d:Ad} {s:Sm} (h:SAt w p ft d s) (ok:s.Fit):LL d.es:=by
 have hn:(d.es.map Prod.fst).Nodup:=by rw [h.tos]; exact ok.tos
 refine ⟨?_,fun x hx=>?_⟩
 ·have:=List.pairwise_map.1 hn
  exact this.imp fun hne e=>hne (int_inj e)
 ·have:x.1∈s.lk.map Prod.fst:=by rw [<- h.tos]; exact List.mem_map.2 ⟨x,hx,rfl⟩
  obtain ⟨y,hy,e⟩:=List.mem_map.1 this
  rw [<- e]
  exact ok.small y hy
theorem SAt.dl {w:World} {p:Nat} {ft:Ix->Nat->Prop} {d:Ad} {s:Sm} (h:SAt w p ft d s) (ok:s.Fit):DL d.ps:=by
 have hn:(d.ps.map Prod.fst).Nodup:=by rw [h.names]; exact ok.names
 refine ⟨?_,fun x hx=>?_⟩
 ·have:=List.pairwise_map.1 hn
  exact this.imp fun hne e=>hne (str_inj e)
 ·have:x.1∈s.qs.map Prod.fst:=by rw [<- h.names]; exact List.mem_map.2 ⟨x,hx,rfl⟩
  obtain ⟨y,hy,e⟩:=List.mem_map.1 this
  rw [<- e]
  have:=ok.short y hy
  unfold maxLen
  omega
theorem nodup_pair {α β:Type} {l:List (α × β)} (h:(l.map Prod.fst).Nodup) {a:α} {x y:β} (hx:(a,x)∈l) (hy:(a,y)∈l):x=y:=by
 induction l with
 |nil=>cases hx
 |cons z r ih =>
  rw [List.map_cons,List.nodup_cons] at h
  rcases List.mem_cons.1 hx with e1 | m1
  ·rcases List.mem_cons.1 hy with e2 | m2
   ·rw [<- e1] at e2; injection e2 with _ e2; exact e2.symm
   ·exact absurd (List.mem_map.2 ⟨_,m2,rfl⟩) (by rw [<- e1] at h; exact h.1)
  ·rcases List.mem_cons.1 hy with e2 | m2
   ·exact absurd (List.mem_map.2 ⟨_,m1,rfl⟩) (by rw [<- e2] at h; exact h.1)
   ·exact ih h.2 m1 m2
theorem SAt.linkAt {w:World} {p:Nat} {ft:Ix->Nat->Prop} {d:Ad} {s:Sm} (h:SAt w p ft d s) (ok:s.Fit) (t:Int):OwnM w 0 (((findL d.es t).map Prod.snd).getD (.slice none 0 0)) (linkOf s.lk t):=by
 unfold linkOf
 cases hf:s.lk.find? fun x=>decide (x.1=t) with
 |none =>
  have hn:findL d.es t=none:=by
   unfold findL
   rw [List.find?_eq_none]
   intro x hx he
   have:x.1∈s.lk.map Prod.fst:=by rw [<- h.tos]; exact List.mem_map.2 ⟨x,hx,rfl⟩
   obtain ⟨y,hy,e⟩:=List.mem_map.1 this
   have:=List.find?_eq_none.1 hf y hy
   rw [e] at this
   exact this he
  rw [hn]
  exact K.ownOf_nil _ _
 |some y =>
  obtain ⟨t',l⟩:=y
  have hm:=List.mem_of_find?_eq_some hf
  obtain rfl:t'=t:=by simpa using List.find?_some hf
  obtain ⟨v,h1,h2,_⟩:=h.link t' l hm
  cases hg:findL d.es t' with
  |none=>exact absurd rfl (findL_none hg (t',v) h1)
  |some z =>
   obtain ⟨hz,e⟩:=findL_some hg
   obtain ⟨t'',v'⟩:=z
   obtain rfl:t''=t':=e
   obtain rfl:=nodup_pair (by rw [h.tos]; exact ok.tos) h1 hz
   exact h2
theorem linkOf_few {s:Sm} (ok:s.Fit) (t:Int):(linkOf s.lk t).length<=1000:=by
 unfold linkOf
 cases hf:s.lk.find? fun x=>decide (x.1=t) with
 |none=>exact Nat.zero_le _
 |some y=>exact ok.few y (List.mem_of_find?_eq_some hf)
theorem link_any (p:Nat) (F:Nat->Prop) (s:Sm) (t:Int) (w:World) (h:SS w p F s) (ok:s.Fit) (ht:I64 t) :
  Calls Tryz.prog 14 #[.pointer (some ⟨p,0,none⟩),.int .i64 t] w fun e w' => ∃ v',e=.returned v'/\OwnM w' w.heap.size v' (linkOf s.lk t)/\Below w.heap.size w w':=by
 have hM:=made14_any p F s w h
 obtain ⟨ft,d,hs,_⟩:=h
 obtain ⟨c0,c1,c2,c3,c4,c5,c6,c7,c8,c9⟩:=cells10 hs.blk
 have hl:=hs.lmap.look (hs.ll ok) ht
 have ho:=hs.linkAt ok t
 generalize (((findL d.es t).map Prod.snd).getD (.slice none 0 0))=v at hl ho
 have hA:=anotherM_any v _ w ho.rng (Nat.le_trans (linkOf_few ok t) (by decide))
 obtain ⟨va,vc,rfl⟩:=ho.rng.slice
 clear ho hs
 generalize linkOf s.lk t=l at hl hA ⊢
 go_enter Tryz.func14,Tryz.ntmps14
 go_wp2_with fail
 refine hM.mono ?_
 rintro e w ⟨rfl,rfl⟩
 clear hM
 go_wp2_with fail
 refine hA.mono ?_
 rintro e w' ⟨v',rfl,ho,hb⟩
 obtain ⟨va',vc',rfl⟩:=ho.rng.slice
 have HE:Hid (OwnM w' w.heap.size (.slice va' l.length vc') l/\Below w.heap.size w w'):=⟨ho,hb⟩
 clear hA ho hb
 go_wp2
 go_ret
 exact ⟨_,rfl,HE.out⟩
section
variable {w w':World} {p:Nat} {ft:Ix->Nat->Prop} {d:Ad} {s:Sm} {F':Nat->Prop}
theorem SAt.turnTable (h:SAt w p ft d s) (m:Moved w w' (ft .table) F') {tb':B.Tb} (ht:B.T w' d.tp F' tb'):SAt w' p (upd ft .table F') d { s with tb:=tb' }:=by
 have ho:=h.others m
 refine ⟨?_,?_,?_,?_,?_,?_,?_,?_,?_,?_,h.names,?_,?_,h.tos,?_,?_,h.oneUpd m⟩
 ·rw [ho .main (by simp) p ((h.fm p).2 rfl)]; exact h.blk
 ·rw [upd_other ft F' (by simp)]; exact h.fm
 ·exact h.edges.same fun g hg=>ho .edges (by simp) g ((h.fe g).2 hg)
 ·rw [upd_other ft F' (by simp)]; exact h.fe
 ·rw [upd_same]; exact ht
 ·exact h.qmap.same (ho .qmap (by simp) _ ((h.fq _).2 rfl))
 ·rw [upd_other ft F' (by simp)]; exact h.fq
 ·rw [upd_other ft F' (by simp)]; exact h.book.same fun k hk=>ho .book (by simp) k hk
 ·exact h.lmap.same (ho .lmap (by simp) _ ((h.fl _).2 rfl))
 ·rw [upd_other ft F' (by simp)]; exact h.fl
 ·intro n q hq
  rw [upd_other ft F' (by simp)]
  obtain ⟨b,h1,h2⟩:=h.queue n q hq
  exact ⟨b,h1,h2.same fun k hk=>ho _ (by simp) k hk⟩
 ·intro n hn
  rw [upd_other ft F' (by simp)]
  exact h.noq n hn
 ·intro t l hl
  rw [upd_other ft F' (by simp)]
  obtain ⟨v,h1,h2,h3⟩:=h.link t l hl
  exact ⟨v,h1,h2.same fun g hg=>ho (.link t) (by simp) g ((h3 g).2 hg),h3⟩
 ·intro t ht
  rw [upd_other ft F' (by simp)]
  exact h.nol t ht
theorem SAt.turnBook (h:SAt w p ft d s) (m:Moved w w' (ft .book) F') {bk':Nat->List (Nat × Nat)} (ht:S.Bk w' d.bp F' bk'):SAt w' p (upd ft .book F') d { s with bk:=bk' }:=by
 have ho:=h.others m
 refine ⟨?_,?_,?_,?_,?_,?_,?_,?_,?_,?_,h.names,?_,?_,h.tos,?_,?_,h.oneUpd m⟩
 ·rw [ho .main (by simp) p ((h.fm p).2 rfl)]; exact h.blk
 ·rw [upd_other ft F' (by simp)]; exact h.fm
 ·exact h.edges.same fun g hg=>ho .edges (by simp) g ((h.fe g).2 hg)
 ·rw [upd_other ft F' (by simp)]; exact h.fe
 ·rw [upd_other ft F' (by simp)]; exact h.table.same fun k hk=>ho .table (by simp) k hk
 ·exact h.qmap.same (ho .qmap (by simp) _ ((h.fq _).2 rfl))
 ·rw [upd_other ft F' (by simp)]; exact h.fq
 ·rw [upd_same]; exact ht
 ·exact h.lmap.same (ho .lmap (by simp) _ ((h.fl _).2 rfl))
 ·rw [upd_other ft F' (by simp)]; exact h.fl
 ·intro n q hq
  rw [upd_other ft F' (by simp)]
  obtain ⟨b,h1,h2⟩:=h.queue n q hq
  exact ⟨b,h1,h2.same fun k hk=>ho _ (by simp) k hk⟩
 ·intro n hn
  rw [upd_other ft F' (by simp)]
  exact h.noq n hn
 ·intro t l hl
  rw [upd_other ft F' (by simp)]
  obtain ⟨v,h1,h2,h3⟩:=h.link t l hl
  exact ⟨v,h1,h2.same fun g hg=>ho (.link t) (by simp) g ((h3 g).2 hg),h3⟩
 ·intro t ht
  rw [upd_other ft F' (by simp)]
  exact h.nol t ht
theorem SAt.turnMain (h:SAt w p ft d s) (hw : ∀ k,k≠p->w'.heap[k]? = w.heap[k]?) {seq boots:Nat} (hb:w'.heap[p]? = some (.cells (scells14 d { s with seq:=seq,boots:=boots }) 88 (0,0))):SAt w' p ft d { s with seq:=seq,boots:=boots }:=by
 have ho : ∀ a,a≠.main -> ∀ k,ft a k->w'.heap[k]? = w.heap[k]? := fun a ha k hk=>hw k fun e=>ha (h.one a .main k hk ((h.fm k).2 e))
 refine ⟨hb,h.fm,?_,h.fe,?_,?_,h.fq,?_,?_,h.fl,h.names,?_,h.noq,h.tos,?_,h.nol,h.one⟩
 ·exact h.edges.same fun g hg=>ho .edges (by simp) g ((h.fe g).2 hg)
 ·exact h.table.same fun k hk=>ho .table (by simp) k hk
 ·exact h.qmap.same (ho .qmap (by simp) _ ((h.fq _).2 rfl))
 ·exact h.book.same fun k hk=>ho .book (by simp) k hk
 ·exact h.lmap.same (ho .lmap (by simp) _ ((h.fl _).2 rfl))
 ·intro n q hq
  obtain ⟨b,h1,h2⟩:=h.queue n q hq
  exact ⟨b,h1,h2.same fun k hk=>ho _ (by simp) k hk⟩
 ·intro t l hl
  obtain ⟨v,h1,h2,h3⟩:=h.link t l hl
  exact ⟨v,h1,h2.same fun g hg=>ho (.link t) (by simp) g ((h3 g).2 hg),h3⟩
end
def setQ (l:List (ByteArray × F.St)) (n:ByteArray) (q:F.St):List (ByteArray × F.St):=l.map fun x=>if x.1=n then (x.1,q) else x
theorem setQ_names (l:List (ByteArray × F.St)) (n:ByteArray) (q:F.St):(setQ l n q).map Prod.fst=l.map Prod.fst:=by
 unfold setQ
 rw [List.map_map]
 refine List.map_congr_left fun x _=>?_
 show (if x.1=n then (x.1,q) else x).1=x.1
 split <;> rfl
theorem mem_setQ {l:List (ByteArray × F.St)} {n m:ByteArray} {q r:F.St} (h:(m,r)∈setQ l n q):(m=n/\r=q)\/(m≠n/\(m,r)∈l):=by
 unfold setQ at h
 obtain ⟨x,hx,e⟩:=List.mem_map.1 h
 by_cases hn:x.1=n
 ·rw [if_pos hn] at e
  injection e with e1 e2
  exact .inl ⟨by rw [<- e1]; exact hn,e2.symm⟩
 ·rw [if_neg hn] at e
  subst e
  exact .inr ⟨hn,hx⟩
section
variable {w w':World} {p:Nat} {ft:Ix->Nat->Prop} {d:Ad} {s:Sm} {F':Nat->Prop}
theorem SAt.turnQueue (h:SAt w p ft d s) {n:ByteArray} {b:Nat} {q':F.St} (hb:(n,b)∈d.ps) (m:Moved w w' (ft (.queue n)) F') (ht:F.Q w' b F' q'):SAt w' p (upd ft (.queue n) F') d { s with qs:=setQ s.qs n q' }:=by
 have ho:=h.others m
 refine ⟨?_,?_,?_,?_,?_,?_,?_,?_,?_,?_,?_,?_,?_,h.tos,?_,?_,h.oneUpd m⟩
 ·rw [ho .main (by simp) p ((h.fm p).2 rfl)]; exact h.blk
 ·rw [upd_other ft F' (by simp)]; exact h.fm
 ·exact h.edges.same fun g hg=>ho .edges (by simp) g ((h.fe g).2 hg)
 ·rw [upd_other ft F' (by simp)]; exact h.fe
 ·rw [upd_other ft F' (by simp)]; exact h.table.same fun k hk=>ho .table (by simp) k hk
 ·exact h.qmap.same (ho .qmap (by simp) _ ((h.fq _).2 rfl))
 ·rw [upd_other ft F' (by simp)]; exact h.fq
 ·rw [upd_other ft F' (by simp)]; exact h.book.same fun k hk=>ho .book (by simp) k hk
 ·exact h.lmap.same (ho .lmap (by simp) _ ((h.fl _).2 rfl))
 ·rw [upd_other ft F' (by simp)]; exact h.fl
 ·show d.ps.map Prod.fst=(setQ s.qs n q').map Prod.fst
  rw [setQ_names]
  exact h.names
 ·intro n' q hq
  rcases mem_setQ hq with ⟨rfl,rfl⟩ | ⟨hne,hm⟩
  ·rw [upd_same]
   exact ⟨b,hb,ht⟩
  ·rw [upd_other ft F' (by simpa using hne)]
   obtain ⟨b',h1,h2⟩:=h.queue n' q hm
   exact ⟨b',h1,h2.same fun k hk=>ho _ (by simpa using hne) k hk⟩
 ·intro n' hn
  have hn':n'∉s.qs.map Prod.fst:=by
   have:n'∉(setQ s.qs n q').map Prod.fst:=hn
   rwa [setQ_names] at this
  have hne:n'≠n:=fun e=>hn' (by rw [e,<- h.names]; exact List.mem_map.2 ⟨(n,b),hb,rfl⟩)
  rw [upd_other ft F' (by simpa using hne)]
  exact h.noq n' hn'
 ·intro t l hl
  rw [upd_other ft F' (by simp)]
  obtain ⟨v,h1,h2,h3⟩:=h.link t l hl
  exact ⟨v,h1,h2.same fun g hg=>ho (.link t) (by simp) g ((h3 g).2 hg),h3⟩
 ·intro t ht
  rw [upd_other ft F' (by simp)]
  exact h.nol t ht
end
end Go.Proofs.YtnhnpnafchkhiaaGreatDoor
