import Derived.Test.YtnhnpnafchkhiaaGreatDoorQwA
import Derived.Test.YtnhnpnafchkhiaaGreatDoorQw20
import Derived.Test.YtnhnpnafchkhiaaGreatDoorQw5
import Derived.Test.YtnhnpnafchkhiaaGreatDoorRows
import Derived.WalkKit
import Derived.ProofKit
import Derived.OpenShut
import Derived.ChangeOld
import Derived.SizedLaws
import Derived.DataReads
import Derived.DataElems
import Derived.Deep.DeepHandedRow
set_option maxHeartbeats 2000000
set_option maxRecDepth 20000
namespace Go.Proofs.YtnhnpnafchkhiaaGreatDoor.K
end Go.Proofs.YtnhnpnafchkhiaaGreatDoor.K
namespace Go.Proofs.YtnhnpnafchkhiaaGreatDoor.O
open Go.Proofs.YtnhnpnafchkhiaaGreatDoor.K
open Go.RowKit Go.Sort Go.Shelf
def RowI (w:World) (base:Nat) (v:Value) (l:List Int):Prop :=
 (v=.slice none 0 0/\l=[]) \/ ∃ g cap,v=.slice (some ⟨g,0,none⟩) l.length cap/\base<=g/\g<w.heap.size/\l.length<=cap/\cap<=maxLen/\Go.Sort.Holds (Value.int .i64) w g 0 l.toArray
theorem rowI_of_own {w:World} {base:Nat} {v:Value} {l:List Int} (h:Own1 w base 3 v (icells l)):RowI w base v l:=by
 have h':=h
 rcases h.2 with ⟨rfl,hn⟩ | ⟨g,cap,cur,rfl,hb,hg,hnc,hcm,_,_⟩
 ·exact .inl ⟨rfl,List.eq_nil_of_length_eq_zero (by simpa [icells] using hn)⟩
 ·refine .inr ⟨g,cap,by rw [icells_length],hb,(yyD hg).1,by simpa [icells] using hnc,hcm,fun j hj=>?_⟩
  have hj':j<l.length:=by simpa using hj
  refine ⟨?_,by simp [World.frozen?,hg]⟩
  have:=World.ownsRow.cells h' (g:=g) rfl j (.int .i64 l[j]) (by simp [icells,hj'])
  rw [Go.WideShapes.add_plain] at this
  rw [this,getElem!_pos l.toArray j hj]
  simp
theorem RowI.row {w:World} {base:Nat} {v:Value} {l:List Int} (h:RowI w base v l):Row w v (icells l):=by
 rcases h with ⟨rfl,rfl⟩ | ⟨g,cap,rfl,_,_,h1,h2,h3⟩
 ·exact .inl ⟨rfl,rfl⟩
 ·refine .inr ⟨⟨g,0,none⟩,cap,by rw [icells_length],by rw [icells_length]; exact h1,h2,fun j u hj=>?_⟩
  rw [Go.WideShapes.add_plain]
  simp only [icells,List.getElem?_map,Option.map_eq_some_iff] at hj
  obtain ⟨x,hx,rfl⟩:=hj
  have hj':j<l.length:=by
   rcases Nat.lt_or_ge j l.length with h | h
   ·exact h
   ·rw [List.getElem?_eq_none h] at hx; cases hx
  have:=(h3 j (by simpa using hj')).1
  rw [this,getElem!_pos l.toArray j (by simpa using hj')]
  simp [List.getElem?_eq_getElem hj'] at hx
  simp [hx]
theorem RowI.below {w w':World} {base B:Nat} {v:Value} {l:List Int} (h:RowI w base v l) (hb:Below B w w') (hB:w.heap.size<=B):RowI w' base v l:=by
 rcases h with h | ⟨g,cap,hv,h1,h2,h3,h4,h5⟩
 ·exact .inl h
 ·refine .inr ⟨g,cap,hv,h1,Nat.lt_of_lt_of_le h2 hb.size,h3,h4,fun j hj=>?_⟩
  rw [hb.cell (p:=⟨g,0+j,none⟩) (Nat.lt_of_lt_of_le h2 hB),hb.frozen (p:=⟨g,0+j,none⟩) (Nat.lt_of_lt_of_le h2 hB)]
  exact h5 j hj
theorem RowI.mono {w:World} {base c:Nat} {v:Value} {l:List Int} (h:RowI w base v l) (hc:c<=base):RowI w c v l:=by
 rcases h with h | ⟨g,cap,hv,h1,rest⟩
 ·exact .inl h
 ·exact .inr ⟨g,cap,hv,Nat.le_trans hc h1,rest⟩
theorem RowI.slice {w:World} {base:Nat} {v:Value} {l:List Int} (h:RowI w base v l) : ∃ a cap,v=.slice a l.length cap:=by
 rcases h with ⟨rfl,rfl⟩ | ⟨g,cap,rfl,_⟩
 ·exact ⟨_,_,rfl⟩
 ·exact ⟨_,_,rfl⟩
theorem RowI.short {w:World} {base:Nat} {v:Value} {l:List Int} (h:RowI w base v l):l.length<=maxLen:=by
 rcases h with ⟨rfl,rfl⟩ | ⟨g,cap,rfl,_,_,h1,h2,_⟩
 ·exact Nat.zero_le _
 ·omega
theorem below_putRow (w:World) (n g off B:Nat) (d:Array Int) (os:Array Obj) (hB:B<=g) (hs:B<=w.heap.size):Below B w (grow (putRow (Value.int .i64) (Sort.ahead w n) g off d) os):=by
 refine ⟨rfl,rfl,rfl,?_,fun k hk=>?_⟩
 ·show w.heap.size<=((putRow (Value.int .i64) (Sort.ahead w n) g off d).heap++os).size
  rw [Array.size_append,size_putRow]; exact Nat.le_add_right _ _
 ·rw [heap_grow_old _ _ (by rw [size_putRow]; show k<w.heap.size; omega)]
  simp only [putRow,mapBlock,Array.getElem?_modify]
  rw [if_neg (by omega)]
  rfl
theorem holds_grow {w:World} {g off:Nat} {d:Array Int} (os:Array Obj) (hg:g<w.heap.size) (h:Go.Sort.Holds (Value.int .i64) w g off d):Go.Sort.Holds (Value.int .i64) (grow w os) g off d:=fun j hj=>by
 rw [cell?_grow _ _ _ hg,frozen?_grow _ _ _ hg]; exact h j hj
theorem sort_any (w:World) (base:Nat) (v:Value) (l:List Int) (hr:RowI w base v l) (hl:l.length<=100000) (hbs:base<=w.heap.size) :
  Calls Tryz.prog 98 #[v] w fun e w'=>e=.returned (.tuple #[])/\RowI w' base v (l.mergeSort fun x y=>decide (x<=y))/\Below base w w':=by
 rcases hr with ⟨rfl,rfl⟩ | ⟨g,cap,rfl,h1,h2,h3,h4,h5⟩
 ·refine (AnyM.slices_Sort_int_none Tryz.sortI none 0 w).mono ?_
  rintro e w' ⟨rfl,rfl⟩
  exact ⟨rfl,.inl ⟨rfl,by simp⟩,Below.refl _ _⟩
 ·refine (AnyM.slices_Sort_int Tryz.sortI g 0 cap l w h5 h2 (by omega)).mono ?_
  rintro e w' ⟨rfl,n,os,rfl⟩
  refine ⟨rfl,.inr ⟨g,cap,by rw [List.length_mergeSort],h1,?_,by rw [List.length_mergeSort]; exact h3,h4,?_⟩,below_putRow _ _ _ _ _ _ _ h1 hbs⟩
  ·show g<((putRow (Value.int .i64) (Sort.ahead w n) g 0 _).heap++os).size
   rw [Array.size_append,size_putRow]; exact Nat.lt_of_lt_of_le h2 (Nat.le_add_right _ _)
  ·exact holds_grow os (by rw [size_putRow]; exact h2) (holds_putRow _ _ _ _ l.toArray _ (holds_ahead _ w n g 0 _ h5) (by simp))
theorem onward1 (o x:Int) (B:Nat) (W:World) (hc:W.cell? ⟨B,0,none⟩=some (.int .i64 o)) :
  FnGives Tryz.prog 46 #[.pointer (some ⟨B,0,none⟩)] #[.int .i64 x] (.bool (x==o)) W:=by
 show Calls Tryz.prog 46 #[.int .i64 x,.pointer (some ⟨B,0,none⟩)] W _
 go_enter Tryz.func46,Tryz.ntmps46
 go_wp2
 all_goals (go_ret; exact ⟨by simp_all,0,rfl⟩)
theorem del_any (w:World) (base:Nat) (v:Value) (l:List Int) (o:Int) (B:Nat) (hr:RowI w base v l) (hbs:base<=w.heap.size) (hB:B<base) (hc:w.cell? ⟨B,0,none⟩=some (.int .i64 o)) :
  Calls Tryz.prog 44 #[v,.func (.func 46) #[] #[.pointer (some ⟨B,0,none⟩)]] w fun e w' => ∃ v',e=.returned v'/\RowI w' base v' (l.filter fun x => !(x==o))/\Below base w w':=by
 have hs:=hr.short
 have eg : ∀ args w,(callFunc 46 args).run Tryz.prog w=.ok (.enter 46 args) w:=enters_of Tryz.func46 (by kernel_rfl) rfl
 rcases hr with ⟨rfl,rfl⟩ | ⟨g,cap,rfl,h1,h2,h3,h4,h5⟩
 ·have hI:=AnyE.slices_IndexFunc_empty (P:=Tryz.prog) { Tryz.delF with } none 0 (.func (.func 46) #[] #[.pointer (some ⟨B,0,none⟩)]) w
  change Calls Tryz.prog 97 _ _ _ at hI
  go_enter Tryz.func44,Tryz.ntmps44
  go_wp2_with (go_at_call 97; refine hI.mono ?_; rintro e w' ⟨rfl,rfl⟩)
  go_ret
  exact ⟨_,rfl,.inl ⟨rfl,rfl⟩,Below.refl _ _⟩
 ·have hcon:=AnyE.slices_DeleteFunc Tryz.delF (Value.int .i64) (fun _=>rfl) (fun x=>x==o) 46 #[.pointer (some ⟨B,0,none⟩)] eg 0 Tryz.zeroValue3 g 0 cap l.toArray w
   (fun W x hb=>onward1 o x B W ((hb.cell (p:=⟨B,0,none⟩) (Nat.lt_of_lt_of_le hB hbs)).trans hc))
   (fun n os dk x _=>onward1 o x B _ (by
    unfold sortWorld
    rw [cell?_grow _ _ _ (by show B<(putRow _ _ _ _ _).heap.size; rw [size_putRow]; exact Nat.lt_of_lt_of_le hB hbs),cell?_putRow_other _ _ g 0 _ _ (Or.inl (by show B≠g; omega))]
    exact hc)) h5 (by unfold maxLen at hs; simp; omega) (by simpa using h3)
  refine hcon.mono ?_
  rintro e w' ⟨rfl,q,rfl⟩
  refine ⟨_,rfl,.inr ⟨g,cap,rfl,h1,by rw [size_putRow]; exact h2,Nat.le_trans (List.length_filter_le _ _) h3,h4,?_⟩,?_⟩
  ·have hh:=holds_putRow (Value.int .i64) (Sort.ahead w q) g 0 l.toArray ((l.filter fun x => !(x==o))++List.replicate (l.toArray.size-(l.filter fun x => !(x==o)).length) 0).toArray (holds_ahead _ w q g 0 _ h5) (by simp; have:=List.length_filter_le (fun x => !(x==o)) l; omega)
   intro j hj
   have hj':j<(l.filter fun x => !(x==o)).length:=by simpa using hj
   have h:=hh j (by rw [List.size_toArray,List.length_append]; omega)
   refine ⟨?_,h.2⟩
   rw [h.1,getElem!_pos _ j (by rw [List.size_toArray,List.length_append]; omega),getElem!_pos _ j (by simpa using hj)]
   simp [List.getElem_append_left hj']
  ·have:=below_putRow w q g 0 base ((l.filter fun x => !(x==o))++List.replicate (l.toArray.size-(l.filter fun x => !(x==o)).length) 0).toArray #[] h1 hbs
   rwa [grow_empty] at this
theorem isI:Elem Tryz.prog 60 3 (.int .i64 0) 8:=by
 have hinfo:(Tryz.prog.info? 3).map (fun i=>(i.zero,i.size,i.bytes))=some (some (.int .i64 0),1,8):=by kernel_rfl
 obtain ⟨i0,hi,hz0,hz1,hz2⟩:=info_parts hinfo
 exact ⟨Tryz.underlying60,⟨i0,hi,hz0,hz1,hz2⟩,rfl⟩
structure Boxed (w wr:World) (S:Int) (v:Value) (H:Int):Prop where
 bel:Below w.heap.size w wr
 box:wr.heap[w.heap.size]? = some (.cells #[.int .i64 S,v,.int .i64 H] 24 (0,0))
theorem boxed_new (w:World) (S:Int) (v:Value) (H:Int):Boxed w (w.alloc (.cells #[.int .i64 S,v,.int .i64 H] 24)) S v H :=
 ⟨(Below.refl _ _).alloc (yyH _) _,heap_alloc_new w _⟩
theorem Boxed.lt {w wr:World} {S H:Int} {v:Value} (h:Boxed w wr S v H):w.heap.size<wr.heap.size:=(yyD h.box).1
theorem Boxed.next {w wr wq:World} {S H:Int} {v:Value} {B:Nat} (h:Boxed w wr S v H) (hb:Below B wr wq) (hB:w.heap.size<B):Boxed w wq S v H :=
 ⟨h.bel.trans (hb.mono (Nat.le_of_lt hB)),by rw [hb.block _ hB]; exact h.box⟩
theorem Boxed.c0 {w wr:World} {S H:Int} {v:Value} (h:Boxed w wr S v H):wr.cell? ⟨w.heap.size,0,none⟩=some (.int .i64 S):=by
 rw [cell_of_row wr w.heap.size 0 _ _ (0,0) h.box]; rfl
theorem Boxed.c1 {w wr:World} {S H:Int} {v:Value} (h:Boxed w wr S v H):wr.cell? ⟨w.heap.size,1,none⟩=some v:=by
 rw [cell_of_row wr w.heap.size 1 _ _ (0,0) h.box]; rfl
theorem Boxed.c2 {w wr:World} {S H:Int} {v:Value} (h:Boxed w wr S v H):wr.cell? ⟨w.heap.size,2,none⟩=some (.int .i64 H):=by
 rw [cell_of_row wr w.heap.size 2 _ _ (0,0) h.box]; rfl
theorem Boxed.row {w wr:World} {S H:Int} {v:Value} {l:List (Int × Int)} (h:Boxed w wr S v H) (hr:RowOf ecells w v l):RowOf ecells wr v l:=hr.below h.bel (yyH _)
theorem row_one' (w:World) (e:TypeId) (u:Value) (n:Nat) (hn:n=w.heap.size):Row (w.alloc (.cells #[u] e)) (.slice (some ⟨n,0,none⟩) 1 1) [u]:=by
 subst hn; exact row_one w e u
def tosOf (a:Int) (l:List (Int × Int)):List Int:=(l.filter fun e=>e.1==a).map (·.2)
theorem next_any (S H a:Int) (v:Value) (l:List (Int × Int)) (w:World) (hr:RowOf ecells w v l) :
  Calls Tryz.prog 45 #[tv S v H,.int .i64 a] w fun e w' => ∃ v',e=.returned v'/\RowI w' w.heap.size v' (nextT S l H a)/\Below w.heap.size w w':=by
 obtain ⟨ad,cap,rfl⟩:=hr.slice
 have hG0:=fun W hW=>good_any S H (.slice ad l.length cap) l W hW
 have hB0:Hid (Boxed w (w.alloc (.cells #[.int .i64 S,.slice ad l.length cap,.int .i64 H] 24)) S (.slice ad l.length cap) H):=boxed_new _ _ _ _
 by_cases hg:GoodT S l H
 ·rw [goodB_true hg] at hG0
  have hfew:=hg.few
  have HG:Hid (GoodT S l H):=hg
  clear hg
  obtain ⟨_,_,hA⟩:=hr.eds
  have hA':Hid (∀ i (hi:i<l.length),∃ b off,ad=some ⟨b,off,none⟩/\EdAt w b (off+i*2) l[i]):=hA
  clear hA
  go_enter Tryz.func45,Tryz.ntmps45
  go_wp2_with (go_at_call 8; refine (hG0 _ (hB0.out.row hr)).mono ?_; rintro e w2 ⟨rfl,b2⟩; have hB1:Hid (Boxed w w2 S (.slice ad l.length cap) H):=hB0.out.next b2 hB0.out.lt; have c1:=hB1.out.c1)
  clear hG0 b2 hr c1
  go_loopw [5,7,14] (fun u5 u7 u14 wr => ∃ k:Nat,u14=.int .i64 k/\k<=l.length/\Hid (Own1 wr (w.heap.size+1) 3 u5 (icells (tosOf a (l.take k))))/\(tosOf a (l.take k)).length<=k/\Hid (Boxed w wr S (.slice ad l.length cap) H)) (fun u5 u7 u14 wr=>l.length-(intOf u14).toNat)
  case atStart=>exact ⟨0,rfl,Nat.zero_le _,own1_nil _ _ _,by simp [tosOf],hB1⟩
  case round =>
   obtain ⟨k,rfl,hk,hO,hlen,hB⟩:=hrel
   clear hB0 hB1
   by_cases hlt2:k<l.length
   ·have hlt:(k:Int)<(l.length:Int):=by omega
    obtain ⟨b,off,rfl,hi⟩:=hA'.out k hlt2
    obtain ⟨e0,e1⟩:=hi.below hB.out.bel (yyH _)
    have hx:Hid (tosOf a (l.take (k+1))=tosOf a (l.take k)++tosOf a [l[k]]):=by
     show tosOf a (l.take (k+1))=_
     rw [List.take_succ_eq_append_getElem hlt2]; unfold tosOf; rw [List.filter_append,List.map_append]
    clear hA' hi
    generalize l[k]=x at *
    obtain ⟨x1,x2⟩:=x
    generalize hout:tosOf a (l.take k)=out at *
    have hsz:=hB.out.lt
    have HS:Hid (w.heap.size<wr.heap.size):=hsz
    obtain ⟨oa,oc,rfl⟩ : ∃ oa oc,u5=.slice oa out.length oc:=by
     obtain ⟨oa,oc,h⟩:=hO.out.row.sliceInts; exact ⟨oa,oc,h⟩
    by_cases hxa:x1=a
    ·subst hxa
     rw [show tosOf x1 [(x1,x2)]=[x2] by simp [tosOf]] at hx
     go_wp2_with (at_builtin; refine wpList_append_row rfl _ _ 60 3 (.int .i64 0) 8 isI rfl (w.heap.size+1) _ _ (icells out) [.int .i64 x2] rfl rfl (World.ownsRow.alloc (World.ownsRow.alloc hO.out _) _) (row_one' _ _ _ _ (by simp)) (by simp [Value.oneCell']) (by rw [icells_length]; simp; omega) (by rw [icells_length]; simp; omega) (by have:=HS.out; simp; omega) ?_; intro v' w4 hown' hb4 hs4)
     go_roundw
     case rel =>
      refine ⟨k+1,by go_num,by omega,?_,by rw [hx.out]; simp; omega,hB.out.next ((((Below.refl (w.heap.size+1) wr).alloc HS.out _).alloc (by have:=HS.out; simp; omega) _).trans hb4) (Nat.lt_succ_self _)⟩
      rw [hx.out,icells_append]
      exact hown'
     case measure=>simp [intOf]; omega
    ·rw [show tosOf a [(x1,x2)]=[] by simp [tosOf,hxa],List.append_nil] at hx
     go_wp2
     refine ⟨⟨k+1,by go_num,by omega,?_,by rw [hx.out]; omega,hB.out.next ((Below.refl _ _).alloc (yyH _) _) HS.out⟩,by simp [intOf]; omega⟩
     rw [hx.out]
     exact World.ownsRow.alloc hO.out _
   ·obtain rfl:k=l.length:=by omega
    have hR:=rowI_of_own hO.out
    rw [List.take_length] at hR hlen
    go_wp2_with (go_at_call 98; refine (sort_any _ _ _ _ hR (by omega) (by have:=hB.out.lt; omega)).mono ?_; rintro e w3 ⟨rfl,hR3,b3⟩)
    go_ret
    refine ⟨_,rfl,?_,(hB.out.bel.trans (b3.mono (Nat.le_succ _)))⟩
    have he:(tosOf a l).mergeSort (fun x y=>decide (x<=y))=nextT S l H a:=by
     rw [nextT,if_pos HG.out]
     refine sorted_unique ((List.mergeSort_perm _ _).trans (next_perm HG.out a)) ?_ ((nextL_lt S l a).imp fun h=>Int.le_of_lt h)
     have:=List.pairwise_mergeSort (le:=fun x y:Int=>decide (x<=y)) (fun x y z h1 h2=>by simp at *; omega) (fun x y=>by simp; omega) (tosOf a l)
     exact this.imp fun h=>by simpa using h
    rw [he] at hR3
    exact hR3.mono (Nat.le_succ _)
 ·rw [goodB_false hg] at hG0
  go_enter Tryz.func45,Tryz.ntmps45
  go_wp2_with (go_at_call 8; refine (hG0 _ (hB0.out.row hr)).mono ?_; rintro e w2 ⟨rfl,b2⟩; have hB1:Hid (Boxed w w2 S (.slice ad l.length cap) H):=hB0.out.next b2 hB0.out.lt)
  go_ret
  exact ⟨_,rfl,.inl ⟨rfl,by rw [nextT,if_neg hg]⟩,hB1.out.bel⟩
theorem known_yes (S H n:Int) (a:Option Addr) (l c:Nat) (h:1<=n/\n<=S) (w:World):Calls Tryz.prog 24 #[tv S (.slice a l c) H,.int .i64 n] w fun e w'=>e=.returned (.bool true)/\Grew w w':=by
 have:=known_any S H n a l c w
 rw [decide_eq_true h] at this; exact this
theorem known_no (S H n:Int) (a:Option Addr) (l c:Nat) (h : ¬ (1<=n/\n<=S)) (w:World):Calls Tryz.prog 24 #[tv S (.slice a l c) H,.int .i64 n] w fun e w'=>e=.returned (.bool false)/\Grew w w':=by
 have:=known_any S H n a l c w
 rw [decide_eq_false h] at this; exact this
theorem far_any (S H a x:Int) (v:Value) (l:List (Int × Int)) (w:World) (hr:RowOf ecells w v l) :
  Calls Tryz.prog 43 #[tv S v H,.int .i64 a,.int .i64 x] w fun e w'=>e=.returned (.int .i64 (farT S l H a x))/\Below w.heap.size w w':=by
 obtain ⟨ad,cap,rfl⟩:=hr.slice
 have hG0:=fun W hW=>good_any S H (.slice ad l.length cap) l W hW
 have hB0:Hid (Boxed w (w.alloc (.cells #[.int .i64 S,.slice ad l.length cap,.int .i64 H] 24)) S (.slice ad l.length cap) H):=boxed_new _ _ _ _
 have HR:Hid (RowOf ecells w (.slice ad l.length cap) l):=hr
 clear hr
 by_cases hg:GoodT S l H
 ·rw [goodB_true hg] at hG0
  have HG:Hid (GoodT S l H):=hg
  have hs8:S<=8:=hg.1.2.1
  clear hg
  by_cases ha:1<=a/\a<=S
  ·by_cases hx:1<=x/\x<=S
   ·have HW:Hid _:=fun W hW=>ways_any S H a (.slice ad l.length cap) l W hW HG.out ha
    have hf:Hid (farT S l H a x=far l a x):=by show farT S l H a x=_; rw [farT,if_pos ⟨HG.out,ha,hx⟩]
    obtain ⟨n,rfl⟩ : ∃ n:Nat,x=n:=⟨x.toNat,by omega⟩
    have hix:=index9 (far l a) n (by omega)
    go_enter Tryz.func43,Tryz.ntmps43
    go_wp2_with (first
     |(go_at_call 8; refine (hG0 _ (hB0.out.row HR.out)).mono ?_; rintro e w2 ⟨rfl,b2⟩; have hB1:Hid (Boxed w w2 S (.slice ad l.length cap) H):=hB0.out.next b2 hB0.out.lt; have p0:=hB1.out.c0; have p1:=hB1.out.c1; have p2:=hB1.out.c2; clear b2)
     |(go_at_call 24; refine (known_yes _ _ _ _ _ _ (by assumption) _).mono ?_; rintro e w3 ⟨rfl,g3⟩; have hB2:Hid (Boxed w w3 S (.slice ad l.length cap) H):=hB1.out.next (Grew.below g3 (yyH _)) hB1.out.lt; clear p0 p1 p2 g3; have p0:=hB2.out.c0; have p1:=hB2.out.c1; have p2:=hB2.out.c2)
     |(go_at_call 24; refine (known_yes _ _ _ _ _ _ (by assumption) _).mono ?_; rintro e w4 ⟨rfl,g4⟩; have hB3:Hid (Boxed w w4 S (.slice ad l.length cap) H):=hB2.out.next (Grew.below g4 (yyH _)) hB2.out.lt; clear p0 p1 p2 g4; have p0:=hB3.out.c0; have p1:=hB3.out.c1; have p2:=hB3.out.c2)
     |(go_at_call 96; refine (HW.out _ (hB3.out.row HR.out)).mono ?_; rintro e w5 ⟨rfl,b5⟩))
    go_ret
    exact ⟨ret_int hf.out.symm,hB3.out.bel.trans (b5.mono (Nat.le_of_lt hB3.out.lt))⟩
   ·have hf:Hid (farT S l H a x = -1):=by show farT S l H a x=_; rw [farT,if_neg (fun h=>hx h.2.2)]
    go_enter Tryz.func43,Tryz.ntmps43
    go_wp2_with (first
     |(go_at_call 8; refine (hG0 _ (hB0.out.row HR.out)).mono ?_; rintro e w2 ⟨rfl,b2⟩; have hB1:Hid (Boxed w w2 S (.slice ad l.length cap) H):=hB0.out.next b2 hB0.out.lt; have p0:=hB1.out.c0; have p1:=hB1.out.c1; have p2:=hB1.out.c2; clear b2)
     |(go_at_call 24; refine (known_yes _ _ _ _ _ _ (by assumption) _).mono ?_; rintro e w3 ⟨rfl,g3⟩; have hB2:Hid (Boxed w w3 S (.slice ad l.length cap) H):=hB1.out.next (Grew.below g3 (yyH _)) hB1.out.lt; clear p0 p1 p2 g3; have p0:=hB2.out.c0; have p1:=hB2.out.c1; have p2:=hB2.out.c2)
     |(go_at_call 24; refine (known_no _ _ _ _ _ _ (by assumption) _).mono ?_; rintro e w4 ⟨rfl,g4⟩; have hB3:Hid (Boxed w w4 S (.slice ad l.length cap) H):=hB2.out.next (Grew.below g4 (yyH _)) hB2.out.lt; clear p0 p1 p2 g4))
    go_ret
    exact ⟨ret_int hf.out.symm,hB3.out.bel⟩
  ·have hf:Hid (farT S l H a x = -1):=by show farT S l H a x=_; rw [farT,if_neg (fun h=>ha h.2.1)]
   go_enter Tryz.func43,Tryz.ntmps43
   go_wp2_with (first
    |(go_at_call 8; refine (hG0 _ (hB0.out.row HR.out)).mono ?_; rintro e w2 ⟨rfl,b2⟩; have hB1:Hid (Boxed w w2 S (.slice ad l.length cap) H):=hB0.out.next b2 hB0.out.lt; have p0:=hB1.out.c0; have p1:=hB1.out.c1; have p2:=hB1.out.c2; clear b2)
    |(go_at_call 24; refine (known_no _ _ _ _ _ _ (by assumption) _).mono ?_; rintro e w3 ⟨rfl,g3⟩; have hB2:Hid (Boxed w w3 S (.slice ad l.length cap) H):=hB1.out.next (Grew.below g3 (yyH _)) hB1.out.lt; clear p0 p1 p2 g3))
   go_ret
   exact ⟨ret_int hf.out.symm,hB2.out.bel⟩
 ·rw [goodB_false hg] at hG0
  have hf:Hid (farT S l H a x = -1):=by show farT S l H a x=_; rw [farT,if_neg (fun h=>hg h.1)]
  go_enter Tryz.func43,Tryz.ntmps43
  go_wp2_with (go_at_call 8; refine (hG0 _ (hB0.out.row HR.out)).mono ?_; rintro e w2 ⟨rfl,b2⟩; have hB1:Hid (Boxed w w2 S (.slice ad l.length cap) H):=hB0.out.next b2 hB0.out.lt; clear b2)
  go_ret
  exact ⟨ret_int hf.out.symm,hB1.out.bel⟩
def inUpto (l:List (Int × Int)) (H a:Int) (k:Nat):List Int:=((List.range k).map fun i:Nat=>(i:Int)).filter fun n=>decide (far l a n ≠ -1/\far l a n<=H)
theorem onward_any (S H a x:Int) (v:Value) (l:List (Int × Int)) (w:World) (hr:RowOf ecells w v l) :
  Calls Tryz.prog 13 #[tv S v H,.int .i64 a,.int .i64 x] w fun e w' => ∃ v',e=.returned v'/\RowI w' w.heap.size v' (onwardT S l H a x)/\Below w.heap.size w w':=by
 obtain ⟨ad,cap,rfl⟩:=hr.slice
 have hF:=fun W hW=>far_any S H a x (.slice ad l.length cap) l W hW
 have hN:Hid _:=fun W hW=>next_any S H x (.slice ad l.length cap) l W hW
 have hB0:Hid (Boxed w ((w.alloc (.cells #[.int .i64 S,.slice ad l.length cap,.int .i64 H] 24)).alloc (.cells #[.int .i64 a] 3)) S (.slice ad l.length cap) H):=(boxed_new _ _ _ _).next ((Below.refl _ _).alloc (yyH _) _) (by simp)
 have hO0:Hid (((w.alloc (.cells #[.int .i64 S,.slice ad l.length cap,.int .i64 H] 24)).alloc (.cells #[.int .i64 a] 3)).cell? ⟨w.heap.size+1,0,none⟩=some (.int .i64 a)):=by
  show World.cell? _ _=_
  rw [World.cell?_alloc_at _ _ _ _ (by simp)]; rfl
 have HR:Hid (RowOf ecells w (.slice ad l.length cap) l):=hr
 clear hr
 have hrg:=farT_range S l H a x
 have hq:Hid (∀ y,farT S l H a x=y->(¬ (0<=y/\y<H)->onwardT S l H a x=[])/\(0<=y/\y<H->onwardT S l H a x=(nextT S l H x).filter fun n => !(n==a))):=fun y hy=>⟨fun h=>by rw [onwardT,hy,if_neg h],fun h=>by rw [onwardT,hy,if_pos h]⟩
 generalize hd:farT S l H a x=d at *
 have hQ:=hq.out d rfl
 have HQ:Hid ((¬ (0<=d/\d<H)->onwardT S l H a x=[])/\(0<=d/\d<H->onwardT S l H a x=(nextT S l H x).filter fun n => !(n==a))):=hQ
 clear hq hQ hd
 by_cases hin:0<=d/\d<H
 ·have hn1 : ¬ d = -1:=by omega
  have hn2:decide (H<=d)=false:=decide_eq_false (by omega)
  go_enter Tryz.func13,Tryz.ntmps13
  go_wp2_with (first
   |(go_at_call 43; refine (hF _ (hB0.out.row HR.out)).mono ?_; rintro e w2 ⟨rfl,b2⟩; have hB1:Hid (Boxed w w2 S (.slice ad l.length cap) H):=hB0.out.next b2 hB0.out.lt; have hO1:Hid (w2.cell? ⟨w.heap.size+1,0,none⟩=some (.int .i64 a)):=(b2.cell (p:=⟨w.heap.size+1,0,none⟩) (World.block_lt_of_cell? _ _ hO0.out)).trans hO0.out; have p0:=hB1.out.c0; have p1:=hB1.out.c1; have p2:=hB1.out.c2; clear b2)
   |(go_at_call 45; refine (hN.out _ (hB1.out.row HR.out)).mono ?_; rintro e w3 ⟨v3,rfl,r3,b3⟩; have hB2:Hid (Boxed w w3 S (.slice ad l.length cap) H):=hB1.out.next b3 hB1.out.lt; have hO2:Hid (w3.cell? ⟨w.heap.size+1,0,none⟩=some (.int .i64 a)):=(b3.cell (p:=⟨w.heap.size+1,0,none⟩) (World.block_lt_of_cell? _ _ hO1.out)).trans hO1.out; have hlt:Hid (w.heap.size+1<w2.heap.size):=World.block_lt_of_cell? _ _ hO1.out; have hle:Hid (w2.heap.size<=w3.heap.size):=b3.size; clear p0 p1 p2 b3)
   |(go_at_call 44; refine (del_any _ _ _ _ a (w.heap.size+1) r3 hle.out hlt.out hO2.out).mono ?_; rintro e w4 ⟨v4,rfl,r4,b4⟩))
  go_ret
  refine ⟨_,rfl,?_,hB2.out.bel.trans (b4.mono (by have:=hlt.out; omega))⟩
  rw [HQ.out.2 hin]
  exact r4.mono (by have:=hlt.out; omega)
 ·have hE:=HQ.out.1 hin
  by_cases hn1:d = -1
  ·subst hn1
   go_enter Tryz.func13,Tryz.ntmps13
   go_wp2_with (go_at_call 43; refine (hF _ (hB0.out.row HR.out)).mono ?_; rintro e w2 ⟨rfl,b2⟩; have hB1:Hid (Boxed w w2 S (.slice ad l.length cap) H):=hB0.out.next b2 hB0.out.lt; clear b2)
   go_ret
   exact ⟨_,rfl,.inl ⟨rfl,hE⟩,hB1.out.bel⟩
  ·have hn2:H<=d:=by omega
   go_enter Tryz.func13,Tryz.ntmps13
   go_wp2_with (go_at_call 43; refine (hF _ (hB0.out.row HR.out)).mono ?_; rintro e w2 ⟨rfl,b2⟩; have hB1:Hid (Boxed w w2 S (.slice ad l.length cap) H):=hB0.out.next b2 hB0.out.lt; have p2:=hB1.out.c2; clear b2)
   go_ret
   exact ⟨_,rfl,.inl ⟨rfl,hE⟩,hB1.out.bel⟩
def mostUpto (S:Int) (l:List (Int × Int)) (H:Int) (i:Nat):Int:=((sites S).take i).foldl (fun m a=>mostOf S l H m a (withinT S l H a)) 0
end Go.Proofs.YtnhnpnafchkhiaaGreatDoor.O
namespace Go.Proofs.YtnhnpnafchkhiaaGreatDoor.O
open Go.Proofs.YtnhnpnafchkhiaaGreatDoor.K
open Go.ChangeShapes Go.WideShapes Go.ChangeAt Go.RowKit
set_option maxRecDepth 20000
theorem own:ownKnob Tryz.prog.godebug=none:=by kernel_rfl
theorem laidOut:laidOutB Tryz.prog=true:=by kernel_rfl
theorem cellsI:Tryz.prog.cellsOf 3=1:=by kernel_rfl
theorem cellsEd:Tryz.prog.cellsOf 80=2:=by kernel_rfl
theorem cellsEds:Tryz.prog.cellsOf 22=1:=by kernel_rfl
theorem cellsTopo:Tryz.prog.cellsOf 24=3:=by kernel_rfl
theorem list2 {α:Type} {cs:List α} (h:cs.length=2) : ∃ a b,cs=[a,b]:=by
 match cs,h with
 |[a,b],_=>exact ⟨a,b,rfl⟩
theorem list3 {α:Type} {cs:List α} (h:cs.length=3) : ∃ a b c,cs=[a,b,c]:=by
 match cs,h with
 |[a,b,c],_=>exact ⟨a,b,c,rfl⟩
theorem structs_trod {α:Type} {enc:α->List Value} {K:Nat} [E:Enc enc K] {H:Type} {en:TypeId × Value->H} {P:Program} {W:World} {S e:TypeId} (hS:P.underlying S=some (.slice e)) (hK:P.cellsOf e=K)
  (hel : ∀ n cs (x:DataW H × List MemPlace),DataW.trod en P W 0 (fun _=>true) true n e cs=some x -> ∃ a:α,cs=enc a)
  {fuel:Nat} {cs:List Value} {xd:DataW H × List MemPlace} (hf:DataW.trod en P W 0 (fun _=>true) true fuel S cs=some xd) : ∃ a len cap l,cs=[.slice a len cap]/\RowOf enc W (.slice a len cap) l:=by
 rcases DataW.trod_slice hS hf with ⟨hcs,_⟩ | ⟨x,len,cap,elems,rest,n,_,hcs,hd,_,hl,hm,hlen,hone,_,_⟩
 ·exact ⟨none,0,0,[],hcs,.inl ⟨rfl,rfl⟩⟩
 ·subst hcs
  have each : ∀ i:Fin len,∃ b:α,(∀ j,j<K->W.cell? (x.add (i.1*K+j))=(enc b)[j]?):=fun i=>by
   have h1:=hone i.1 i.2
   have hi':i.1<elems.length:=by omega
   rw [hK,List.getElem?_eq_getElem hi'] at h1
   cases hc:W.cells? 0 (x.add (i.1*K)) K with
   |none=>rw [hc] at h1; cases h1
   |some cs =>
    rw [hc] at h1
    have h2:DataW.trod en P W 0 (fun _=>true) true n e cs=some elems[i.1]:=h1
    obtain ⟨b,rfl⟩:=hel _ _ _ h2
    refine ⟨b,fun j hj=>?_⟩
    rw [<- Addr.add_add]
    exact (World.cells?_some hc).2.2 j hj
  obtain ⟨f,hff⟩:=Classical.axiomOfChoice each
  have hlf:(List.ofFn f).length=len:=by simp
  refine ⟨some x,len,cap,List.ofFn f,rfl,.inr ⟨x,cap,by rw [hlf],by rw [hlf]; omega,hm,fun j u hj=>?_⟩⟩
  have hjl:j<(List.ofFn f).length*K:=by rw [<- cellsOf_length (enc:=enc)]; exact (List.getElem?_eq_some_iff.1 hj).1
  have hp:=E.pos
  have h1:j / K<(List.ofFn f).length:=Nat.div_lt_of_lt_mul (by rw [Nat.mul_comm]; exact hjl)
  have h2:j % K<K:=Nat.mod_lt _ hp
  have h3:j / K*K+j % K=j:=by rw [Nat.mul_comm]; exact Nat.div_add_mod j K
  have hg:=cellsOf_get (enc:=enc) (List.ofFn f) (j / K) (j % K) h1 h2
  rw [h3,hj] at hg
  rw [hlf] at h1
  have:=(hff ⟨j / K,h1⟩) (j % K) h2
  simp only at this
  rw [h3] at this
  rw [this,hg]
  simp
section
variable {H:Type} {enc:TypeId × Value->H} {W:World}
theorem edge_cells {fuel:Nat} {cs:List Value} {x:DataW H × List MemPlace} (h:DataW.trod enc Tryz.prog W 0 (fun _=>true) true fuel 80 cs=some x) : ∃ a:Int × Int,cs=ecells a:=by
 obtain ⟨xs,n,_,hxd,hl,hx,hf⟩:=DataW.trod_struct Tryz.underlying80 h
 have hl':cs.length=2:=hl.trans cellsEd
 have f0:=hf 0 _ rfl
 have f1:=hf 1 _ rfl
 change DataW.trod enc Tryz.prog W 0 (fun _=>true) true n 3 (List.take (Tryz.prog.cellsOf 3) (List.drop 0 cs))=xs[0]? at f0
 change DataW.trod enc Tryz.prog W 0 (fun _=>true) true n 3 (List.take (Tryz.prog.cellsOf 3) (List.drop 1 cs))=xs[1]? at f1
 rw [cellsI] at f0 f1
 have hx':xs.length=2:=hx
 obtain ⟨x0,x1,rfl⟩:=list2 hx'
 obtain ⟨c0,c1,rfl⟩:=list2 hl'
 obtain ⟨k,h0,_,_⟩:=DataW.trod_int Tryz.underlying3 f0
 obtain ⟨m,h1,_,_⟩:=DataW.trod_int Tryz.underlying3 f1
 have e0:[c0]=[.int .i64 k]:=h0
 have e1:[c1]=[.int .i64 m]:=h1
 simp at e0 e1
 exact ⟨(k,m),by rw [e0,e1]; rfl⟩
theorem topo_cells {fuel:Nat} {cs:List Value} {x:DataW H × List MemPlace} (h:DataW.trod enc Tryz.prog W 0 (fun _=>true) true fuel 24 cs=some x) : ∃ (S H:Int) (a:Option Addr) (len cap:Nat) (l:List (Int × Int)),cs=[.int .i64 S,.slice a len cap,.int .i64 H]/\RowOf ecells W (.slice a len cap) l:=by
 obtain ⟨xs,n,_,hxd,hl,hx,hf⟩:=DataW.trod_struct Tryz.underlying24 h
 have hl':cs.length=3:=hl.trans cellsTopo
 have f0:=hf 0 _ rfl
 have f1:=hf 1 _ rfl
 have f2:=hf 2 _ rfl
 change DataW.trod enc Tryz.prog W 0 (fun _=>true) true n 3 (List.take (Tryz.prog.cellsOf 3) (List.drop 0 cs))=xs[0]? at f0
 change DataW.trod enc Tryz.prog W 0 (fun _=>true) true n 22 (List.take (Tryz.prog.cellsOf 22) (List.drop 1 cs))=xs[1]? at f1
 change DataW.trod enc Tryz.prog W 0 (fun _=>true) true n 3 (List.take (Tryz.prog.cellsOf 3) (List.drop 2 cs))=xs[2]? at f2
 rw [cellsI] at f0 f2
 rw [cellsEds] at f1
 have hx':xs.length=3:=hx
 obtain ⟨x0,x1,x2,rfl⟩:=list3 hx'
 obtain ⟨c0,c1,c2,rfl⟩:=list3 hl'
 obtain ⟨k,h0,_,_⟩:=DataW.trod_int Tryz.underlying3 f0
 obtain ⟨a,len,cap,l,h1,hr⟩:=structs_trod (enc:=ecells) Tryz.underlying22 cellsEd (fun n cs x hx=>edge_cells hx) f1
 obtain ⟨m,h2,_,_⟩:=DataW.trod_int Tryz.underlying3 f2
 have e0:[c0]=[.int .i64 k]:=h0
 have e1:[c1]=[.slice a len cap]:=h1
 have e2:[c2]=[.int .i64 m]:=h2
 simp at e0 e1 e2
 exact ⟨k,m,a,len,cap,l,by rw [e0,e1,e2],hr⟩
end
structure Tp where
 S:Int
 v:Value
 H:Int
abbrev tpv (t:Tp):Value:=tv t.S t.v t.H
theorem open_topo {H:Type} {enc:TypeId × Value->H} {W:World} {base:Nat} {v:Value} {d:DataW H} {p:List MemPlace} (hval:Value.okWide Tryz.prog W .any base 24 v)
  (h:DataW.Trod enc Tryz.prog W 0 (fun _=>true) true 24 v d p) : ∃ a:Tp,v=tpv a /\ ∃ l,RowOf ecells W a.v l:=by
 obtain ⟨cs,hcs,_⟩:=okWide_struct Tryz.underlying24 hval
 obtain ⟨fuel,hf⟩:=h
 obtain ⟨S,Hh,a,len,cap,l,hm,hr⟩:=topo_cells hf
 refine ⟨⟨S,.slice a len cap,Hh⟩,?_,l,hr⟩
 rw [hcs] at hm ⊢
 have h1:cs.toList=[.int .i64 S,.slice a len cap,.int .i64 Hh]:=hm
 have h2:cs = #[.int .i64 S,.slice a len cap,.int .i64 Hh]:=by apply Array.ext'; exact h1
 rw [h2]
end Go.Proofs.YtnhnpnafchkhiaaGreatDoor.O
