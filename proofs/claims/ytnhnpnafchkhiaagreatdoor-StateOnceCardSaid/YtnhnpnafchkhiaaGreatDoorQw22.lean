import Derived.Test.YtnhnpnafchkhiaaGreatDoorQwA
import Derived.Test.YtnhnpnafchkhiaaGreatDoorQw14
import Derived.Laws.StructEq
import Derived.Shelf.SlSorted.Search
import Derived.Shelf.SlSortCmp.QuietGrown
import Derived.Test.YtnhnpnafchkhiaaGreatDoorQw2
import Derived.Maps.OwnSet
import Derived.Maps.OwnIn
set_option maxHeartbeats 1000000
namespace Go.Proofs.YtnhnpnafchkhiaaGreatDoor.K
end Go.Proofs.YtnhnpnafchkhiaaGreatDoor.K
namespace Go.Proofs.YtnhnpnafchkhiaaGreatDoor.F
open Go.Proofs.YtnhnpnafchkhiaaGreatDoor.K
open Go.RowKit
structure Msg where
 o:Int
 s:Int
 hop:Int
 ex:ByteArray
 key:ByteArray
 body:ByteArray
structure It where
 tag:Nat
 m:Msg
 again:Bool
def mcells (m:Msg):List Value:=[.int .i64 m.o,.int .u64 m.s,.int .i64 m.hop,.string m.ex,.string m.key,.string m.body]
def icells (x:It):List Value:=[.int .u64 (x.tag:Int),.int .i64 x.m.o,.int .u64 x.m.s,.int .i64 x.m.hop,.string x.m.ex,.string x.m.key,.string x.m.body,.bool x.again]
abbrev mv (m:Msg):Value:=.agg #[.int .i64 m.o,.int .u64 m.s,.int .i64 m.hop,.string m.ex,.string m.key,.string m.body]
abbrev iv (x:It):Value:=.agg #[.int .u64 (x.tag:Int),.int .i64 x.m.o,.int .u64 x.m.s,.int .i64 x.m.hop,.string x.m.ex,.string x.m.key,.string x.m.body,.bool x.again]
instance:Enc mcells 6:=⟨fun _=>rfl,fun m u hu=>by simp [mcells] at hu; rcases hu with rfl | rfl | rfl | rfl | rfl | rfl <;> rfl,by decide⟩
instance:Enc icells 8:=⟨fun _=>rfl,fun m u hu=>by simp [icells] at hu; rcases hu with rfl | rfl | rfl | rfl | rfl | rfl | rfl | rfl <;> rfl,by decide⟩
theorem itemInfo : ∃ i,Tryz.prog.info? 74=some i/\i.zero=some (.agg #[.int .u64 0,.int .i64 0,.int .u64 0,.int .i64 0,.string ⟨#[]⟩,.string ⟨#[]⟩,.string ⟨#[]⟩,.bool false])/\i.size=8/\i.bytes=88:=by
 have hinfo:(Tryz.prog.info? 74).map (fun i=>(i.zero,i.size,i.bytes))=some (some (.agg #[.int .u64 0,.int .i64 0,.int .u64 0,.int .i64 0,.string ⟨#[]⟩,.string ⟨#[]⟩,.string ⟨#[]⟩,.bool false]),8,88):=by kernel_rfl
 exact info_parts hinfo
theorem msgInfo : ∃ i,Tryz.prog.info? 40=some i/\i.zero=some (.agg #[.int .i64 0,.int .u64 0,.int .i64 0,.string ⟨#[]⟩,.string ⟨#[]⟩,.string ⟨#[]⟩])/\i.size=6/\i.bytes=72:=by
 have hinfo:(Tryz.prog.info? 40).map (fun i=>(i.zero,i.size,i.bytes))=some (some (.agg #[.int .i64 0,.int .u64 0,.int .i64 0,.string ⟨#[]⟩,.string ⟨#[]⟩,.string ⟨#[]⟩]),6,72):=by kernel_rfl
 exact info_parts hinfo
theorem info8:(Tryz.prog.info? 74).map (·.size)=some 8:=by
 obtain ⟨i,hi,_,hs,_⟩:=itemInfo
 rw [hi]; simp [hs]
abbrev Rows (w:World) (v:Value) (l:List It):Prop:=RowOf icells w v l
abbrev Own8 (w:World) (base:Nat) (v:Value) (l:List It):Prop:=OwnOf icells 8 74 w base v l
structure ItAt (w:World) (b off:Nat) (x:It):Prop where
 c0:w.cell? ⟨b,off,none⟩=some (.int .u64 (x.tag:Int))
 c1:w.cell? ⟨b,off+1,none⟩=some (.int .i64 x.m.o)
 c2:w.cell? ⟨b,off+2,none⟩=some (.int .u64 x.m.s)
 c3:w.cell? ⟨b,off+3,none⟩=some (.int .i64 x.m.hop)
 c4:w.cell? ⟨b,off+4,none⟩=some (.string x.m.ex)
 c5:w.cell? ⟨b,off+5,none⟩=some (.string x.m.key)
 c6:w.cell? ⟨b,off+6,none⟩=some (.string x.m.body)
 c7:w.cell? ⟨b,off+7,none⟩=some (.bool x.again)
theorem row_item {w:World} {b off:Nat} {l:List It} (h : ∀ j u,(cellsOf icells l)[j]? = some u->w.cell? ⟨b,off+j,none⟩=some u) (i:Nat) (hi:i<l.length):ItAt w b (off+i*8) l[i] :=
 ⟨by simpa using row_cell h i hi 0 (by decide) _ rfl,row_cell h i hi 1 (by decide) _ rfl,row_cell h i hi 2 (by decide) _ rfl,row_cell h i hi 3 (by decide) _ rfl,row_cell h i hi 4 (by decide) _ rfl,row_cell h i hi 5 (by decide) _ rfl,row_cell h i hi 6 (by decide) _ rfl,row_cell h i hi 7 (by decide) _ rfl⟩
theorem ItAt.below {w w':World} {B b off:Nat} {x:It} (h:ItAt w b off x) (hb:Below B w w') (hB:w.heap.size<=B):ItAt w' b off x:=by
 have hl:=World.block_lt_of_cell? _ _ h.c0
 have hl':b<B:=Nat.lt_of_lt_of_le hl hB
 exact ⟨(hb.cell (p:=⟨b,off,none⟩) hl').trans h.c0,(hb.cell (p:=⟨b,off+1,none⟩) hl').trans h.c1,(hb.cell (p:=⟨b,off+2,none⟩) hl').trans h.c2,(hb.cell (p:=⟨b,off+3,none⟩) hl').trans h.c3,(hb.cell (p:=⟨b,off+4,none⟩) hl').trans h.c4,(hb.cell (p:=⟨b,off+5,none⟩) hl').trans h.c5,(hb.cell (p:=⟨b,off+6,none⟩) hl').trans h.c6,(hb.cell (p:=⟨b,off+7,none⟩) hl').trans h.c7⟩
theorem _root_.Go.Proofs.YtnhnpnafchkhiaaGreatDoor.K.RowOf.items {w:World} {a:Option Addr} {n cap:Nat} {l:List It} (h:Rows w (.slice a n cap) l):n=l.length/\cap<=maxLen /\ ∀ i (hi:i<l.length),∃ b off,a=some ⟨b,off,none⟩/\ItAt w b (off+i*8) l[i]:=by
 have hn:n=l.length:=by
  obtain ⟨a',cap',hv⟩:=h.slice
  injection hv
 have hcm:cap<=maxLen:=by
  rcases h with ⟨hv,_⟩ | ⟨_,_,hv,_,h2,_⟩
  ·injection hv with _ _ h3; subst h3; exact Nat.zero_le _
  ·injection hv with _ _ h3; subst h3; exact h2
 refine ⟨hn,hcm,fun i hi=>?_⟩
 obtain ⟨b,off,cap',hv,_,_,hc⟩:=h.at (by omega)
 injection hv with hv1 _ _
 exact ⟨b,off,hv1,row_item hc i hi⟩
end Go.Proofs.YtnhnpnafchkhiaaGreatDoor.F
namespace Go.Proofs.YtnhnpnafchkhiaaGreatDoor.F
open Go.Proofs.YtnhnpnafchkhiaaGreatDoor.K
open Go.RowKit Go.Sort
theorem cell_alloc_r {W:World} {a:Addr} {v:Value} (o:Obj) (h:W.cell? a=some v):(W.alloc o).cell? a=some v:=by
 have hb:=World.block_lt_of_cell? _ _ h
 have:=cell_grown hb h 0 #[o]
 rwa [show grow (W.drewN 0) #[o]=W.alloc o from (alloc_eq_grow W o).symm] at this
theorem cell_new_r (W:World) (v:Value) (t:TypeId):(W.alloc (.cells #[v] t)).cell? ⟨W.heap.size,0,none⟩=some v:=by
 rw [World.cell?_alloc_at _ _ _ _ (by simp)]; rfl
theorem below_grown_r (B:Nat) (w:World) (q:Nat) (os:Array Obj) (hB:B<=w.heap.size):Below B w (grow (w.drewN q) os) :=
 ⟨rfl,rfl,rfl,by first | (simp [grow]; done) | (simp [grow]; omega),fun i hi=>by
  show ((w.drewN q).heap++os)[i]? = _
  rw [Array.getElem?_append_left (by show i<w.heap.size; omega)]
  rfl⟩
theorem placec_any (bl bt b off n cap i t r:Nat) (W:World) (hl:W.cell? ⟨bl,0,none⟩=some (.slice (some ⟨b,off,none⟩) n cap)) (ht:W.cell? ⟨bt,0,none⟩=some (.int .u64 (t:Int))) (hlt:i<n)
  (c0:W.cell? ⟨b,off+i*8,none⟩=some (.int .u64 (r:Int))) :
  Calls Tryz.prog 250 #[.int .i64 i,.pointer (some ⟨bl,0,none⟩),.pointer (some ⟨bt,0,none⟩)] W fun e w'=>e=.returned (.bool (decide (t<=r))) /\ ∃ q os',w'=grow (W.drewN q) os':=by
 have hlt':(i:Int)<(n:Int):=by omega
 have hd:decide (t<=r)=decide ((t:Int)<=(r:Int)):=by simp
 rw [hd]
 go_enter Tryz.func250,Tryz.ntmps250
 go_wp2
 go_quiet (fail)
 go_wp2
 go_ret
 exact ⟨rfl,_,#[],by rw [grow_empty]⟩
theorem place_any (v:Value) (l:List It) (t:Nat) (w:World) (hr:Rows w v l) (hmono : ∀ a b (ha:a<l.length) (hb:b<l.length),a<=b->l[a].tag<=l[b].tag) (hlen:l.length<=1000000) :
  Calls Tryz.prog 190 #[v,.int .u64 (t:Int)] w fun e w'=>e=.returned (.int .i64 (l.countP fun x=>decide (x.tag<t):Nat))/\Below w.heap.size w w':=by
 obtain ⟨a,cap,rfl⟩:=hr.slice
 obtain ⟨_,_,hA⟩:=hr.items
 obtain ⟨W0,hW0⟩ : ∃ W0,W0=(w.alloc (.cells #[.slice a l.length cap] 57)).alloc (.cells #[.int .u64 (t:Int)] 32):=⟨_,rfl⟩
 have hsize:W0.heap.size=w.heap.size+1+1:=by rw [hW0]; simp
 have hB0:Below w.heap.size w W0:=by rw [hW0]; exact ((Below.refl _ w).alloc (yyH _) _).alloc (by simp) _
 have ca:W0.cell? ⟨w.heap.size,0,none⟩=some (.slice a l.length cap):=by rw [hW0]; exact cell_alloc_r _ (cell_new_r w _ _)
 have cx:W0.cell? ⟨w.heap.size+1,0,none⟩=some (.int .u64 (t:Int)):=by
  rw [hW0]
  have:=cell_new_r (w.alloc (.cells #[.slice a l.length cap] 57)) (.int .u64 (t:Int)) 32
  rwa [World.size_alloc] at this
 have eg2 : ∀ args w,(callFunc 250 args).run Tryz.prog w=.ok (.enter 250 args) w:=enters_of Tryz.func250 (by kernel_rfl) rfl
 have hS:=Any.sort_Search Tryz.search 250 #[.pointer (some ⟨w.heap.size,0,none⟩),.pointer (some ⟨w.heap.size+1,0,none⟩)] l.length (fun i=>decide (t<=(l.map (·.tag)).getD i 0)) W0 eg2 (by omega)
  (fun m os i hi=>by
   obtain ⟨b,off,rfl,c⟩:=hA i hi
   rw [show (l.map (·.tag)).getD i 0=l[i].tag by simp [List.getD,hi]]
   have hb:=World.block_lt_of_cell? _ _ c.c0
   have c0':(grow (W0.drewN m) os).cell? ⟨b,off+i*8,none⟩=some (.int .u64 (l[i].tag:Int)):=by
    rw [(hB0.trans (below_grown_r _ W0 m os (by omega))).cell (p:=⟨b,off+i*8,none⟩) hb]; exact c.c0
   exact placec_any w.heap.size (w.heap.size+1) b off l.length cap i t l[i].tag _ (cell_grown (by simp [hsize]; omega) ca m os) (cell_grown (by simp [hsize]) cx m os) hi c0')
  (fun a b hab hb h=>by
   have ha:a<l.length:=Nat.lt_of_le_of_lt hab hb
   have hm:=hmono a b ha hb hab
   simp only [List.getD,List.getElem?_map,List.getElem?_eq_getElem hb,List.getElem?_eq_getElem ha,Option.map_some,Option.getD_some,decide_eq_true_eq] at h ⊢
   omega)
 have hcount:(List.range l.length).countP (fun i => !decide (t<=(l.map (·.tag)).getD i 0))=l.countP fun x=>decide (x.tag<t):=by
  have h:l.map (·.tag)=(List.range l.length).map (fun i=>(l.map (·.tag)).getD i 0):=by
   apply List.ext_getElem
   ·simp
   ·intro i h1 h2
    simp only [List.length_map] at h1
    simp [List.getD,h1]
  have h2:(l.countP fun x=>decide (x.tag<t))=(l.map (·.tag)).countP fun n=>decide (n<t):=by rw [List.countP_map]; rfl
  rw [h2]
  conv=>rhs; rw [h,List.countP_map]
  refine List.countP_congr fun i _=>?_
  simp
 rw [hcount] at hS
 change Calls Tryz.prog 209 _ _ _ at hS
 clear hA ca cx hr hcount hmono
 generalize l.countP (fun x=>decide (x.tag<t))=r at hS ⊢
 go_enter Tryz.func190,Tryz.ntmps190
 go_wp2_with (go_at_call 209; rw [<- hW0]; refine hS.mono ?_; rintro e w' ⟨rfl,q,os,rfl⟩)
 go_ret
 refine ⟨rfl,?_⟩
 rw [<- hW0]
 exact hB0.trans (below_grown_r w.heap.size W0 q os (by omega))
def Rise (l:List It):Prop:=l.Pairwise fun a b=>a.tag<b.tag
theorem Rise.le {l:List It} (h:Rise l) : ∀ a b (ha:a<l.length) (hb:b<l.length),a<=b->l[a].tag<=l[b].tag:=by
 intro a b ha hb hab
 rcases Nat.eq_or_lt_of_le hab with rfl | hlt
 ·exact yyH _
 ·exact Nat.le_of_lt (List.pairwise_iff_getElem.1 h a b ha hb hlt)
def hasT (l:List It) (t:Nat):Bool:=l.any fun x=>x.tag==t
def lessT (l:List It) (t:Nat):Nat:=l.countP fun x=>decide (x.tag<t)
theorem lessT_le (l:List It) (t:Nat):lessT l t<=l.length:=List.countP_le_length
def riseB (l:List It) (lo n:Nat):Bool:=match l with
 |[]=>true
 |x::r=>decide (lo<x.tag) && decide (x.tag<n) && riseB r x.tag n
theorem another_any (v:Value) (l:List It) (w:World) (hr:Rows w v l) (hlen:l.length<=1000000) :
  Calls Tryz.prog 76 #[v] w fun e w' => ∃ v',e=.returned v'/\Own8 w' w.heap.size v' l/\Below w.heap.size w w':=by
 obtain ⟨a,cap,rfl⟩:=hr.slice
 obtain ⟨i,hi,hz,hsz,hby⟩:=itemInfo
 go_enter Tryz.func76,Tryz.ntmps76
 go_wp2_with (at_builtin; refine wpList_append_rows (enc:=icells) rfl (.const (.slice none 0 0)) (.tmp 3) 57 rfl Tryz.underlying57 i _ 88 hi hz hsz hby rfl w.heap.size (.slice none 0 0) _ [] l rfl rfl (ownOf_nil _ _) hr (by unfold maxLen; simp; omega) (by simp; omega) (yyH _) ?_; intro v' w' own' grown' _; obtain ⟨va,vc,hva⟩:=own'.rng.slice; subst hva)
 all_goals go_ret
 all_goals exact ⟨_,rfl,own',⟨grown'.os,grown'.tape,grown'.output,grown'.size,fun k hk=>grown'.block k hk (by simp [Value.ownBlock])⟩⟩
end Go.Proofs.YtnhnpnafchkhiaaGreatDoor.F
namespace Go.Proofs.YtnhnpnafchkhiaaGreatDoor.F
open Go.Proofs.YtnhnpnafchkhiaaGreatDoor.K
def ins (x:It) (l:List It):List It:=l.take (lessT l x.tag)++x::l.drop (lessT l x.tag)
def dropT (l:List It) (t:Nat):List It:=l.filter fun x=>x.tag != t
def findT (l:List It) (t:Nat):Option It:=l.find? fun x=>x.tag==t
theorem lessT_cons_lt {x:It} {l:List It} {t:Nat} (h:x.tag<t):lessT (x::l) t=lessT l t+1:=by unfold lessT; rw [List.countP_cons]; simp [h]
theorem lessT_cons_ge {x:It} {l:List It} {t:Nat} (hl:Rise (x::l)) (h:t<=x.tag):lessT (x::l) t=0:=by
 unfold lessT
 rw [List.countP_eq_zero]
 intro y hy
 rcases List.mem_cons.1 hy with rfl | hy
 ·simp; omega
 ·have:=(List.pairwise_cons.1 hl).1 y hy
  simp; omega
theorem ins_cons_lt {x y:It} {l:List It} (h:y.tag<x.tag):ins x (y::l)=y::ins x l:=by
 unfold ins; rw [lessT_cons_lt h]; simp
theorem ins_cons_ge {x y:It} {l:List It} (hl:Rise (y::l)) (h:x.tag<=y.tag):ins x (y::l)=x::y::l:=by
 unfold ins; rw [lessT_cons_ge hl h]; simp
theorem mem_ins {x y:It} {l:List It}:y∈ins x l↔y=x\/y∈l:=by
 unfold ins
 rw [List.mem_append,List.mem_cons]
 have:y∈l↔y∈l.take (lessT l x.tag)\/y∈l.drop (lessT l x.tag):=by rw [<- List.mem_append,List.take_append_drop]
 rw [this]
 constructor
 ·rintro (h | h | h)
  ·exact .inr (.inl h)
  ·exact .inl h
  ·exact .inr (.inr h)
 ·rintro (h | h | h)
  ·exact .inr (.inl h)
  ·exact .inl h
  ·exact .inr (.inr h)
theorem length_ins (x:It) (l:List It):(ins x l).length=l.length+1:=by
 unfold ins
 have:=lessT_le l x.tag
 simp; omega
theorem Rise.ins {x:It} {l:List It} (h:Rise l) (hn : ∀ y∈l,y.tag≠x.tag):Rise (ins x l):=by
 induction l with
 |nil=>exact List.pairwise_singleton _ _
 |cons y r ih =>
  obtain ⟨h1,h2⟩:=List.pairwise_cons.1 h
  have hne:=hn y (by simp)
  by_cases hlt:y.tag<x.tag
  ·rw [ins_cons_lt hlt]
   refine List.pairwise_cons.2 ⟨fun z hz=>?_,ih h2 (fun z hz=>hn z (by simp [hz]))⟩
   rcases mem_ins.1 hz with rfl | hz
   ·exact hlt
   ·exact h1 z hz
  ·rw [ins_cons_ge h (by omega)]
   refine List.pairwise_cons.2 ⟨fun z hz=>?_,h⟩
   rcases List.mem_cons.1 hz with rfl | hz
   ·omega
   ·have:=h1 z hz; omega
theorem Rise.drop {l:List It} (h:Rise l) (t:Nat):Rise (dropT l t):=h.filter _
theorem Rise.tail {x:It} {l:List It} (h:Rise (x::l)):Rise l:=(List.pairwise_cons.1 h).2
theorem mem_dropT {l:List It} {t:Nat} {x:It}:x∈dropT l t↔x∈l/\x.tag≠t:=by
 unfold dropT; rw [List.mem_filter]; simp
theorem hasT_of_mem {l:List It} {x:It} (h:x∈l):hasT l x.tag=true:=List.any_eq_true.2 ⟨x,h,by simp⟩
theorem hasT_false {l:List It} {t:Nat}:hasT l t=false ↔ ∀ x∈l,x.tag≠t:=by
 unfold hasT; rw [List.any_eq_false]
 constructor <;> intro h x hx <;> simpa using h x hx
theorem dropT_none {l:List It} {t:Nat} (h:hasT l t=false):dropT l t=l:=by
 unfold dropT
 rw [List.filter_eq_self]
 intro x hx
 simpa using hasT_false.1 h x hx
theorem findT_some {l:List It} {t:Nat} {x:It} (h:findT l t=some x):x∈l/\x.tag=t:=⟨List.mem_of_find?_eq_some h,by simpa using List.find?_some h⟩
theorem findT_none {l:List It} {t:Nat} (h:findT l t=none):hasT l t=false:=by
 rw [hasT_false]
 intro x hx
 simpa using List.find?_eq_none.1 h x hx
theorem hasT_findT {l:List It} {t:Nat} {x:It} (h:findT l t=some x):hasT l t=true:=by
 obtain ⟨h1,rfl⟩:=findT_some h
 exact hasT_of_mem h1
theorem dropT_length {l:List It} {t:Nat} {x:It} (hl:Rise l) (h:findT l t=some x):(dropT l t).length+1=l.length:=by
 induction l with
 |nil=>cases h
 |cons y r ih =>
  obtain ⟨h1,h2⟩:=List.pairwise_cons.1 hl
  by_cases hy:y.tag=t
  ·have hr:dropT r t=r:=dropT_none (hasT_false.2 fun z hz=>by have:=h1 z hz; omega)
   have e:dropT (y::r) t=dropT r t:=by unfold dropT; rw [List.filter_cons]; simp [hy]
   rw [e,hr]; simp
  ·have e:dropT (y::r) t=y::dropT r t:=by unfold dropT; rw [List.filter_cons]; simp [hy]
   have f:findT (y::r) t=findT r t:=by unfold findT; exact List.find?_cons_of_neg (by simpa using hy)
   rw [f] at h
   rw [e,List.length_cons,ih h2 h,List.length_cons]
theorem dropT_head {x:It} {l:List It} (h:Rise (x::l)):dropT (x::l) x.tag=l:=by
 have hr:dropT l x.tag=l:=dropT_none (hasT_false.2 fun z hz=>by have:=(List.pairwise_cons.1 h).1 z hz; omega)
 have e:dropT (x::l) x.tag=dropT l x.tag:=by unfold dropT; rw [List.filter_cons,if_neg (by simp)]
 rw [e,hr]
theorem findT_head {x:It} {l:List It}:findT (x::l) x.tag=some x:=by unfold findT; rw [List.find?_cons]; simp
structure St where
 most:Nat
 next:Nat
 rdy:List It
 out:List It
structure St.Ok (s:St):Prop where
 r:Rise s.rdy
 o:Rise s.out
 ap : ∀ x∈s.rdy,∀ y∈s.out,x.tag≠y.tag
 ur : ∀ x∈s.rdy,x.tag<s.next
 uo : ∀ x∈s.out,x.tag<s.next
 room:s.rdy.length+s.out.length<=s.most
 m:s.most<=1000
 m1:1<=s.most
 n:s.next<18446744073709551616
def zeroMsg:Msg:=⟨0,0,0,⟨#[]⟩,⟨#[]⟩,⟨#[]⟩⟩
def zeroIt:It:=⟨0,zeroMsg,false⟩
def newS (most:Nat):St:=⟨most,1,[],[]⟩
theorem newS_ok {most:Nat} (h1:1<=most) (h2:most<=1000):(newS most).Ok :=
 ⟨List.Pairwise.nil,List.Pairwise.nil,by simp [newS],by simp [newS],by simp [newS],by simp [newS],h2,h1,by simp [newS]⟩
def St.push (s:St) (m:Msg):Int × St :=
 if s.most<=s.rdy.length+s.out.length then (6,s) else if s.next=18446744073709551615 then (11,s) else (0,{ s with next:=s.next+1,rdy:=s.rdy++[⟨s.next,m,false⟩] })
def St.give (s:St):It × Bool × St:=match s.rdy with
 |[]=>(zeroIt,false,s)
 |x::t=>(x,true,{ s with rdy:=t,out:=ins x s.out })
def St.done (s:St) (t:Nat):Int × St:=match findT s.out t with
 |none=>(10,s)
 |some _=>(0,{ s with out:=dropT s.out t })
def mark (x:It):It:={ x with again:=true }
def St.back (s:St) (t:Nat):Int × St:=match findT s.out t with
 |none=>(10,s)
 |some x=>(0,{ s with out:=dropT s.out t,rdy:=ins (mark x) s.rdy })
theorem St.Ok.push {s:St} (h:s.Ok) (m:Msg):(s.push m).2.Ok:=by
 unfold St.push
 split
 ·exact h
 ·split
  ·exact h
  ·refine ⟨?_,h.o,?_,?_,?_,?_,h.m,h.m1,?_⟩
   ·refine List.pairwise_append.2 ⟨h.r,List.pairwise_singleton _ _,fun a ha b hb=>?_⟩
    rw [List.mem_singleton.1 hb]; exact h.ur a ha
   ·intro x hx y hy
    rcases List.mem_append.1 hx with hx | hx
    ·exact h.ap x hx y hy
    ·rw [List.mem_singleton.1 hx]; have:=h.uo y hy; show s.next≠_; omega
   ·intro x hx
    show x.tag<s.next+1
    rcases List.mem_append.1 hx with hx | hx
    ·have:=h.ur x hx; omega
    ·rw [List.mem_singleton.1 hx]; exact Nat.lt_succ_self _
   ·intro x hx; have:=h.uo x hx; show x.tag<s.next+1; omega
   ·show (s.rdy++[_]).length+_<=_
    simp; omega
   ·show s.next+1<_
    have:=h.n; omega
theorem St.Ok.give {s:St} (h:s.Ok):s.give.2.2.Ok:=by
 unfold St.give
 split
 ·exact h
 ·rename_i x t he
  have hx:x∈s.rdy:=by rw [he]; simp
  have ht : ∀ y∈t,y∈s.rdy:=fun y hy=>by rw [he]; simp [hy]
  have hr:=h.r
  rw [he] at hr
  refine ⟨hr.tail,h.o.ins (fun y hy=>(h.ap x hx y hy).symm),?_,fun y hy=>h.ur y (ht y hy),?_,?_,h.m,h.m1,h.n⟩
  ·intro y hy z hz
   rcases mem_ins.1 hz with rfl | hz
   ·have:=(List.pairwise_cons.1 hr).1 y hy; omega
   ·exact h.ap y (ht y hy) z hz
  ·intro y hy
   rcases mem_ins.1 hy with rfl | hy
   ·exact h.ur _ hx
   ·exact h.uo y hy
  ·have:=h.room
   rw [he] at this
   show t.length+(ins x s.out).length<=s.most
   rw [length_ins]
   simp at this; omega
theorem St.Ok.done {s:St} (h:s.Ok) (t:Nat):(s.done t).2.Ok:=by
 unfold St.done
 split
 ·exact h
 ·rename_i x he
  have hd:=dropT_length h.o he
  refine ⟨h.r,h.o.drop t,fun y hy z hz=>h.ap y hy z (mem_dropT.1 hz).1,h.ur,fun y hy=>h.uo y (mem_dropT.1 hy).1,?_,h.m,h.m1,h.n⟩
  have:=h.room
  show s.rdy.length+(dropT s.out t).length<=s.most
  omega
theorem St.Ok.back {s:St} (h:s.Ok) (t:Nat):(s.back t).2.Ok:=by
 unfold St.back
 split
 ·exact h
 ·rename_i x he
  have hd:=dropT_length h.o he
  obtain ⟨hx,rfl⟩:=findT_some he
  refine ⟨h.r.ins (fun y hy=>h.ap y hy x hx),h.o.drop _,?_,?_,fun y hy=>h.uo y (mem_dropT.1 hy).1,?_,h.m,h.m1,h.n⟩
  ·intro y hy z hz
   obtain ⟨hz1,hz2⟩:=mem_dropT.1 hz
   rcases mem_ins.1 hy with rfl | hy
   ·exact fun e=>hz2 e.symm
   ·exact h.ap y hy z hz1
  ·intro y hy
   rcases mem_ins.1 hy with rfl | hy
   ·exact h.uo x hx
   ·exact h.ur y hy
  ·have:=h.room
   show (ins (mark x) s.rdy).length+(dropT s.out x.tag).length<=s.most
   rw [length_ins]
   omega
def backs:Nat->St->St
 |0,s=>s
 |n+1,s=>match s.out with
  |[]=>s
  |x::_=>backs n (s.back x.tag).2
def St.reset (s:St):Int × St:=(s.out.length,backs s.out.length s)
theorem St.Ok.backs {n:Nat} : ∀ {s:St},s.Ok->(Go.Proofs.YtnhnpnafchkhiaaGreatDoor.F.backs n s).Ok:=by
 induction n with
 |zero=>intro s h; exact h
 |succ n ih =>
  intro s h
  unfold Go.Proofs.YtnhnpnafchkhiaaGreatDoor.F.backs
  split
  ·exact h
  ·exact ih (h.back _)
theorem St.Ok.reset {s:St} (h:s.Ok):s.reset.2.Ok:=h.backs
theorem back_head {s:St} (h:s.Ok) {x:It} {t:List It} (he:s.out=x::t):s.back x.tag=(0,{ s with out:=t,rdy:=ins (mark x) s.rdy }):=by
 have ho:=h.o
 rw [he] at ho
 unfold St.back
 rw [he,findT_head]
 simp only
 rw [dropT_head ho]
theorem backs_out {n:Nat} : ∀ {s:St},s.Ok->(backs n s).out=s.out.drop n/\(backs n s).most=s.most/\(backs n s).next=s.next:=by
 induction n with
 |zero=>intro s h; exact ⟨rfl,rfl,rfl⟩
 |succ n ih =>
  intro s h
  unfold backs
  split
  ·rename_i he; rw [he]; exact ⟨rfl,rfl,rfl⟩
  ·rename_i x t he
   have hb:=back_head h he
   have hk:=h.back x.tag
   rw [hb] at hk ⊢
   obtain ⟨h1,h2,h3⟩:=ih hk
   rw [he]
   exact ⟨h1,h2,h3⟩
theorem backs_succ {n:Nat} : ∀ {s:St},backs (n+1) s=match (backs n s).out with
  |[]=>backs n s
  |x::_=>((backs n s).back x.tag).2:=by
 induction n with
 |zero=>intro s; rfl
 |succ n ih =>
  intro s
  rw [show backs (n+1+1) s=match s.out with | []=>s | x::_=>backs (n+1) (s.back x.tag).2 from rfl]
  cases he:s.out with
  |nil =>
   have:backs (n+1) s=s:=by unfold backs; rw [he]
   simp only [this,he]
  |cons x t =>
   have:backs (n+1) s=backs n (s.back x.tag).2:=by rw [backs]; rw [he]
   simp only [this]
   exact ih
theorem backs_step {s:St} (h:s.Ok) (n:Nat) {x:It} (hx:s.out[n]? = some x):backs (n+1) s=((backs n s).back x.tag).2:=by
 rw [backs_succ,(backs_out h).1]
 have hn:=(List.getElem?_eq_some_iff.1 hx).1
 rw [List.drop_eq_getElem_cons hn,(List.getElem?_eq_some_iff.1 hx).2]
open Go.RowKit Go.Maps
def rdIt (v:Value):Option (DataW It × List MemPlace):=match v with
 | .agg cs=>match cs.toList with
  |[.int .u64 t,.int .i64 o,.int .u64 s,.int .i64 h,.string e,.string k,.string b,.bool a]=>if 0<=t then some (.held ⟨t.toNat,⟨o,s,h,e,k,b⟩,a⟩,[]) else none
  |_=>none
 |_=>none
theorem rdIt_iv (x:It):rdIt (iv x)=some (.held x,[]):=by
 simp [rdIt]
theorem rdIt_inv {v:Value} {z:DataW It × List MemPlace} (h:rdIt v=some z) : ∃ x,v=iv x/\z=(.held x,[]):=by
 unfold rdIt at h
 split at h
 ·rename_i cs
  split at h
  ·rename_i t o s hp e k b a hcs
   split at h
   ·rename_i ht
    injection h with h
    refine ⟨⟨t.toNat,⟨o,s,hp,e,k,b⟩,a⟩,?_,h.symm⟩
    have:cs = #[.int .u64 t,.int .i64 o,.int .u64 s,.int .i64 hp,.string e,.string k,.string b,.bool a]:=by apply Array.ext'; simpa using hcs
    rw [this]
    simp only [iv]
    congr 3
    simp; omega
   ·cases h
  ·cases h
 ·cases h
def ents (l:List It):List (Lit × DataW It):=l.map fun x=>(.int .u64 (x.tag:Int),.held x)
def Dof (l:List It):DataW It:=.map (ents l)
def OutAt (w:World) (b:Nat) (l:List It):Prop:=w.ownsMap Tryz.prog 32 rdIt b l.length (Dof l)
theorem sameKey_u64 (a b:Nat):(Lit.int .u64 (a:Int)).sameKey (.int .u64 (b:Int))=(a==b):=by
 simp only [Lit.sameKey]
 rw [Bool.eq_iff_iff]; simp; omega
theorem has_Dof (l:List It) (t:Nat):Maps.has (Dof l) (.int .u64 (t:Int))=hasT l t:=by
 show (ents l).any (fun p=>p.1.sameKey (.int .u64 (t:Int)))=_
 unfold ents hasT
 rw [List.any_map]
 congr 1
 funext x
 exact sameKey_u64 _ _
theorem size_Dof (l:List It):Maps.size (Dof l)=l.length:=by simp [Dof,ents,Maps.size]
theorem atKey_Dof (l:List It) (t:Nat) (z:DataW It):(Dof l).atKey (.int .u64 (t:Int)) z=match findT l t with | some x=>.held x | none=>z:=by
 unfold Dof ents DataW.atKey findT
 simp only [List.find?_map]
 have:((fun p:Lit × DataW It=>p.1.sameKey (.int .u64 (t:Int))) ∘ fun x:It=>((Lit.int .u64 (x.tag:Int)),DataW.held x))=fun x=>x.tag==t:=by
  funext x; exact sameKey_u64 _ _
 rw [this]
 cases l.find? fun x=>x.tag==t <;> rfl
theorem del_Dof (l:List It) (t:Nat):(Dof l).del (.int .u64 (t:Int))=Dof (dropT l t):=by
 unfold Dof ents DataW.del dropT
 simp only [List.filter_map]
 congr 2
 refine List.filter_congr fun x _=>?_
 show (!(Lit.int .u64 (x.tag:Int)).sameKey (.int .u64 (t:Int)))=_
 rw [sameKey_u64]; rfl
theorem insert_ents {l:List It} (hl:Rise l) (x:It) (hn:hasT l x.tag=false):DataW.insert (Lit.int .u64 (x.tag:Int),.held x) (ents l)=ents (ins x l):=by
 induction l with
 |nil=>rfl
 |cons y r ih =>
  have hne:=hasT_false.1 hn y (by simp)
  have e:ents (y::r)=(Lit.int .u64 (y.tag:Int),.held y)::ents r:=rfl
  rw [e]
  unfold DataW.insert
  by_cases hlt:y.tag<x.tag
  ·rw [if_neg (by simp [Lit.before]; omega),ins_cons_lt hlt,ih hl.tail (hasT_false.2 fun z hz=>hasT_false.1 hn z (by simp [hz]))]
   rfl
  ·rw [if_pos (by simp [Lit.before]; omega),ins_cons_ge hl (by omega)]
   rfl
theorem put_Dof {l:List It} (hl:Rise l) (x:It) (hn:hasT l x.tag=false):(Dof l).put (.int .u64 (x.tag:Int)) (.held x)=Dof (ins x l):=by
 have h1:(Dof l).put (.int .u64 (x.tag:Int)) (.held x)=.map (DataW.insert (Lit.int .u64 (x.tag:Int),.held x) ((ents l).filter fun p => !p.1.sameKey (.int .u64 (x.tag:Int)))):=rfl
 have h2:(ents l).filter (fun p => !p.1.sameKey (.int .u64 (x.tag:Int)))=ents l:=by
  have:=del_Dof l x.tag
  rw [dropT_none hn] at this
  injection this
 rw [h1,h2,insert_ents hl x hn]
 rfl
theorem wf_u64 {t:Nat} (h:t<18446744073709551616):(Lit.int .u64 (t:Int)).wf=true:=by
 have h1:IntKind.u64.min=0:=rfl
 have h2:IntKind.u64.max=18446744073709551615:=rfl
 simp [Lit.wf,h1,h2]; omega
theorem keyed:Keyed Tryz.prog 32:=int_keyed Tryz.underlying32
theorem keyOf_tag {t:Nat} (h:t<18446744073709551616):keyOf Tryz.prog 32 (.int .u64 (t:Int))=some (.int .u64 (t:Int)):=keyOf_int_mk Tryz.underlying32 (wf_u64 h)
theorem OutAt.lt {w:World} {b:Nat} {l:List It} (h:OutAt w b l):b<w.heap.size:=World.ownsMap.lt h
theorem OutAt.same {w w':World} {b:Nat} {l:List It} (h:OutAt w b l) (hs:w'.heap[b]? = w.heap[b]?):OutAt w' b l:=by
 obtain ⟨es,clock,hb,r⟩:=h
 exact ⟨es,clock,by rw [hs]; exact hb,r⟩
theorem ownsMap_fit {w:World} {b n:Nat} {l:List It} (h:w.ownsMap Tryz.prog 32 rdIt b n (Dof l)):OutAt w b l:=by
 obtain ⟨es,clock,hb,F,hs,hD⟩:=h
 refine ⟨es,clock,hb,F,?_,hD⟩
 have:=size_Dof l
 rw [hD] at this
 simp only [Maps.size,length_sorted,List.length_map] at this
 simpa using Nat.le_of_eq this
theorem outAt_new (w:World):OutAt (w.alloc (.map #[] 0)) w.heap.size []:=World.ownsMap_made w _ _ _
theorem OutAt.isMap {w:World} {b:Nat} {l:List It} (h:OutAt w b l) : ∃ es c,w.heap[b]? = some (.map es c):=by
 obtain ⟨es,clock,hb,_⟩:=h
 exact ⟨es,clock,hb⟩
theorem OutAt.store {w:World} {b:Nat} {l:List It} (h:OutAt w b l) (hl:Rise l) (x:It) (hn:hasT l x.tag=false) (ht:x.tag<18446744073709551616) (hlen:l.length<=1000000) :
  ∃ w',(Instr.mapUpdate 160 (.map (some b)) (.int .u64 (x.tag:Int)) (iv x)).run Tryz.prog w=.ok () w'/\OutAt w' b (ins x l)/\w.grownBy w' (some b):=by
 obtain ⟨w',h1,h2,h3⟩:=World.ownsMap.update h keyed Tryz.underlying160 (by unfold maxLen; omega) (keyOf_tag ht) (rdIt_iv x)
 refine ⟨w',h1,?_,h3⟩
 rw [put_Dof hl x hn] at h2
 exact ownsMap_fit h2
end Go.Proofs.YtnhnpnafchkhiaaGreatDoor.F
