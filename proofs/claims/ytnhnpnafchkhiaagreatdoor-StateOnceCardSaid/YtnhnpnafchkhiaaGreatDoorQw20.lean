import Derived.Test.YtnhnpnafchkhiaaGreatDoorQwA
import Derived.Test.YtnhnpnafchkhiaaGreatDoorQw14
import Derived.Test.YtnhnpnafchkhiaaGreatDoorQw7
import Derived.WalkMore
import Derived.Laws.ResultCell
import Derived.Laws.Rows
import Derived.Deep.LoopGhost
set_option maxHeartbeats 2000000
set_option maxRecDepth 20000
namespace Go.Proofs.YtnhnpnafchkhiaaGreatDoor.K
end Go.Proofs.YtnhnpnafchkhiaaGreatDoor.K
namespace Go.Proofs.YtnhnpnafchkhiaaGreatDoor.O
open Go.Proofs.YtnhnpnafchkhiaaGreatDoor.K
open Go.RowKit Go.Sort
def ecells (e:Int × Int):List Value:=[.int .i64 e.1,.int .i64 e.2]
abbrev ev (e:Int × Int):Value:=.agg #[.int .i64 e.1,.int .i64 e.2]
instance:Enc ecells 2:=⟨fun _=>rfl,fun m u hu=>by simp [ecells] at hu; rcases hu with rfl | rfl <;> rfl,by decide⟩
structure EdAt (w:World) (b off:Nat) (x:Int × Int):Prop where
 c0:w.cell? ⟨b,off,none⟩=some (.int .i64 x.1)
 c1:w.cell? ⟨b,off+1,none⟩=some (.int .i64 x.2)
theorem row_ed {w:World} {b off:Nat} {l:List (Int × Int)} (h : ∀ j u,(cellsOf ecells l)[j]? = some u->w.cell? ⟨b,off+j,none⟩=some u) (i:Nat) (hi:i<l.length):EdAt w b (off+i*2) l[i] :=
 ⟨by simpa using row_cell h i hi 0 (by decide) _ rfl,row_cell h i hi 1 (by decide) _ rfl⟩
theorem EdAt.below {w w':World} {B b off:Nat} {x:Int × Int} (h:EdAt w b off x) (hb:Below B w w') (hB:w.heap.size<=B):EdAt w' b off x:=by
 have hl:=World.block_lt_of_cell? _ _ h.c0
 have hl':b<B:=Nat.lt_of_lt_of_le hl hB
 exact ⟨(hb.cell (p:=⟨b,off,none⟩) hl').trans h.c0,(hb.cell (p:=⟨b,off+1,none⟩) hl').trans h.c1⟩
theorem _root_.Go.Proofs.YtnhnpnafchkhiaaGreatDoor.K.RowOf.eds {w:World} {a:Option Addr} {n cap:Nat} {l:List (Int × Int)} (h:RowOf ecells w (.slice a n cap) l):n=l.length/\l.length<=maxLen /\ ∀ i (hi:i<l.length),∃ b off,a=some ⟨b,off,none⟩/\EdAt w b (off+i*2) l[i]:=by
 have hn:n=l.length:=by
  obtain ⟨a',cap',hv⟩:=h.slice
  injection hv
 have hcm:l.length<=maxLen:=by
  rcases h with ⟨hv,rfl⟩ | ⟨_,_,hv,h1,h2,_⟩
  ·exact Nat.zero_le _
  ·omega
 refine ⟨hn,hcm,fun i hi=>?_⟩
 obtain ⟨b,off,cap',hv,_,_,hc⟩:=h.at (by omega)
 injection hv with hv1 _ _
 exact ⟨b,off,hv1,row_ed hc i hi⟩
abbrev tv (S:Int) (v:Value) (H:Int):Value:=.agg #[.int .i64 S,v,.int .i64 H]
theorem known_any (S H n:Int) (a:Option Addr) (l c:Nat) (w:World) :
  Calls Tryz.prog 24 #[tv S (.slice a l c) H,.int .i64 n] w fun e w'=>e=.returned (.bool (decide (1<=n/\n<=S))) /\ ∃ q os,w'=grow (w.drewN q) os:=by
 go_enter Tryz.func24,Tryz.ntmps24
 go_wp2
 all_goals go_ret
 all_goals refine ⟨ret_bool ?_,Grew.alloc _ _⟩
 all_goals first | (simp_all; done) | (simp; omega)
def blank (n:Nat) (u:Value):Array Value:=((List.range n).map fun _=>u).toArray
theorem zeroB81 (w:World):(zeroValue 90).run Tryz.prog w=.ok (.agg (blank 81 (.bool false))) w:=by kernel_rfl
theorem arr_blank (w:World) (n:Nat) (u:Value) (t:TypeId):Arr (w.alloc (.cells (blank n u) t)) w.heap.size t n (fun _=>u):=heap_alloc_new w _
def thereF (L:List (Int × Int)) (c:Nat):Value:=.bool (decide ((((c / 9:Nat):Int),((c % 9:Nat):Int))∈L))
structure GoodIn (w wr:World) (S H:Int) (v:Value) (L:List (Int × Int)):Prop where
 bel:Below w.heap.size w wr
 box:wr.heap[w.heap.size]? = some (.cells #[.int .i64 S,v,.int .i64 H] 24 (0,0))
 arr:Arr wr (w.heap.size+1) 90 81 (thereF L)
 ok : ∀ e∈L,EdgeOk S e
 nd:L.Nodup
theorem GoodIn.next {w wr wq:World} {S H:Int} {v:Value} {L:List (Int × Int)} (h:GoodIn w wr S H v L) (hb:Below wr.heap.size wr wq):GoodIn w wq S H v L:=by
 have h1:=h.arr.lt
 exact ⟨h.bel.trans (hb.mono h.bel.size),by rw [hb.block _ (by omega)]; exact h.box,h.arr.below hb h1,h.ok,h.nd⟩
theorem GoodIn.c0 {w wr:World} {S H:Int} {v:Value} {L:List (Int × Int)} (h:GoodIn w wr S H v L):wr.cell? ⟨w.heap.size,0,none⟩=some (.int .i64 S):=by
 rw [cell_of_row wr w.heap.size 0 _ _ (0,0) h.box]; rfl
theorem GoodIn.c1 {w wr:World} {S H:Int} {v:Value} {L:List (Int × Int)} (h:GoodIn w wr S H v L):wr.cell? ⟨w.heap.size,1,none⟩=some v:=by
 rw [cell_of_row wr w.heap.size 1 _ _ (0,0) h.box]; rfl
theorem GoodIn.c2 {w wr:World} {S H:Int} {v:Value} {L:List (Int × Int)} (h:GoodIn w wr S H v L):wr.cell? ⟨w.heap.size,2,none⟩=some (.int .i64 H):=by
 rw [cell_of_row wr w.heap.size 2 _ _ (0,0) h.box]; rfl
theorem GoodIn.at {w wr:World} {S H:Int} {v:Value} {L:List (Int × Int)} (h:GoodIn w wr S H v L) (m n:Nat) (hm:m<9) (hn:n<9):wr.cell? ⟨w.heap.size+1,m*9+n,none⟩=some (.bool (decide (((m:Int),(n:Int))∈L))):=by
 rw [h.arr.cell (by omega),thereF,show (m*9+n) / 9=m by omega,show (m*9+n) % 9=n by omega]
theorem GoodIn.put {w wr:World} {S H:Int} {v:Value} {L:List (Int × Int)} (h:GoodIn w wr S H v L) (m n:Nat) (hn:n<9) (hok:EdgeOk S ((m:Int),(n:Int))) (hno:((m:Int),(n:Int))∉L) :
  GoodIn w (wr.setCell ⟨w.heap.size+1,m*9+n,none⟩ (.bool true)) S H v (L++[((m:Int),(n:Int))]):=by
 refine ⟨h.bel.setCell (Nat.le_succ _) _,?_,?_,?_,?_⟩
 ·rw [heap_setCell_other _ _ _ _ (by show w.heap.size≠w.heap.size+1; omega)]; exact h.box
 ·refine (h.arr.set (m*9+n) (.bool true)).congr fun i hi=>?_
  by_cases hc:i=m*9+n
  ·rw [if_pos hc,hc,thereF,show (m*9+n) / 9=m by omega,show (m*9+n) % 9=n by omega,decide_eq_true (by simp)]
  ·rw [if_neg hc,thereF,thereF]
   congr 1
   rw [decide_eq_decide,List.mem_append,List.mem_singleton,Prod.mk.injEq]
   constructor
   ·rintro (h | ⟨h1,h2⟩)
    ·exact h
    ·omega
   ·exact .inl
 ·intro e he
  rcases List.mem_append.1 he with he | he
  ·exact h.ok e he
  ·rw [List.mem_singleton.1 he]; exact hok
 ·rw [List.nodup_append]
  refine ⟨h.nd,by simp,fun a ha b hb=>?_⟩
  rw [List.mem_singleton.1 hb]
  rintro rfl
  exact hno ha
theorem good_any (S H:Int) (v:Value) (l:List (Int × Int)) (w:World) (hr:RowOf ecells w v l) :
  Calls Tryz.prog 8 #[tv S v H] w fun e w'=>e=.returned (.bool (goodB S l H))/\Below w.heap.size w w':=by
 obtain ⟨a,cap,rfl⟩:=hr.slice
 obtain ⟨_,hl,hA⟩:=hr.eds
 have l63:l.length<=9223372036854775807:=by unfold maxLen at hl; omega
 clear hr hl
 by_cases hS:(1<=S/\S<=8/\0<=H/\H<=8)
 ·obtain ⟨s1,s2,s3,s4⟩:=hS
  have z81:=zeroB81
  have mixed:Tryz.prog.follows .mixedOrders=true:=by kernel_rfl
  have hG0:Hid (GoodIn w ((w.alloc (.cells #[.int .i64 S,.slice a l.length cap,.int .i64 H] 24)).alloc (.cells (blank 81 (.bool false)) 90)) S H (.slice a l.length cap) []):=by
   refine ⟨((Below.refl _ _).alloc (yyH _) _).alloc (by simp) _,?_,?_,(fun e he=>by cases he),List.nodup_nil⟩
   ·rw [Below.heap_alloc _ _ _ (by simp)]; exact heap_alloc_new w _
   ·have:=arr_blank (w.alloc (.cells #[.int .i64 S,.slice a l.length cap,.int .i64 H] 24)) 81 (.bool false) 90
    rw [World.size_alloc] at this
    exact this.congr fun i _=>by simp [thereF]
  go_enter Tryz.func8,Tryz.ntmps8
  go_wp2
  clear z81
  go_loopw [5,27] (fun u5 u27 wr => ∃ k:Nat,u27=.int .i64 k/\k<=l.length/\Hid (GoodIn w wr S H (.slice a l.length cap) (l.take k))) (fun u5 u27 wr=>l.length-(intOf u27).toNat)
  case atStart=>exact ⟨0,rfl,Nat.zero_le _,by simpa using hG0⟩
  case round =>
   obtain ⟨k,rfl,hk,hG⟩:=hrel
   clear hG0
   by_cases hlt2:k<l.length
   ·have hlt:(k:Int)<(l.length:Int):=by omega
    obtain ⟨b,off,rfl,hi⟩:=hA k hlt2
    obtain ⟨e0,e1⟩:=hi.below hG.out.bel (yyH _)
    have hx:Hid (l.take (k+1)=l.take k++[l[k]]):=List.take_succ_eq_append_getElem hlt2
    have hmem:Hid (l[k]∈l):=List.getElem_mem hlt2
    have hbad:Hid (l[k]∈l.take k -> ¬ GoodT S l H):=fun hm hg=>by
     have:=hg.2.2
     rw [<- List.take_append_drop k l,List.drop_eq_getElem_cons hlt2,List.nodup_append] at this
     exact this.2.2 _ hm l[k] List.mem_cons_self rfl
    clear hA hi
    generalize l[k]=x at *
    obtain ⟨x1,x2⟩:=x
    generalize hwq:wr.alloc (.cells #[.int .i64 x1,.int .i64 x2] 80)=wq
    have hG2:Hid (GoodIn w wq S H (.slice (some ⟨b,off,none⟩) l.length cap) (l.take k)):=hG.out.next (by rw [<- hwq]; exact (Below.refl _ _).alloc (yyH _) _)
    have p0:wq.cell? ⟨wr.heap.size,0,none⟩=some (.int .i64 x1):=by rw [<- hwq,World.cell?_alloc_at _ _ _ _ rfl]; rfl
    have p1:wq.cell? ⟨wr.heap.size,1,none⟩=some (.int .i64 x2):=by rw [<- hwq,World.cell?_alloc_at _ _ _ _ rfl]; rfl
    have q0:=fun m os=>cell_grown (World.block_lt_of_cell? _ _ p0) p0 m os
    have q1:=fun m os=>cell_grown (World.block_lt_of_cell? _ _ p1) p1 m os
    have b0:=fun m os=>cell_grown (World.block_lt_of_cell? _ _ hG2.out.c0) hG2.out.c0 m os
    have b1:=fun m os=>cell_grown (World.block_lt_of_cell? _ _ hG2.out.c1) hG2.out.c1 m os
    have b2:=fun m os=>cell_grown (World.block_lt_of_cell? _ _ hG2.out.c2) hG2.out.c2 m os
    have hfl:Hid (¬ GoodT S l H -> ∀ m os,(.returned (.bool false):Ending)=.returned (.bool (goodB S l H))/\Below w.heap.size w (grow (wq.drewN m) os)):=fun hn m os=>⟨ret_bool (goodB_false hn).symm,hG2.out.bel.trans (below_grown_r _ _ _ _ hG2.out.bel.size)⟩
    have HK1:=fun W=>known_any S H x1 (some ⟨b,off,none⟩) l.length cap W
    have HK2:=fun W=>known_any S H x2 (some ⟨b,off,none⟩) l.length cap W
    clear p0 p1
    by_cases a1:1<=x1/\x1<=S
    ·by_cases a2:1<=x2/\x2<=S
     ·rw [decide_eq_true a1] at HK1
      rw [decide_eq_true a2] at HK2
      by_cases a3:x1=x2
      ·subst a3
       go_wp2
       clear hwq
       refine wp_region_quiet_grown mixed (by kernel_rfl) ?_
       repeat (first | go_big_quiet_step ((go_at_call 24; first | with_reducible exact Calls.grown_of (HK1 _) | with_reducible exact Calls.grown_of (HK2 _))))
       refine wpQuiet_nil ?_
       intro _ hw'
       obtain ⟨⟨nq,osq⟩,hw''⟩:=hw'
       subst hw''
       go_wp2
       go_ret
       exact hfl.out (fun hg=>(hg.2.1 _ hmem.out).2.2 rfl) _ _
      ·obtain ⟨m,rfl⟩ : ∃ m:Nat,x1=m:=⟨x1.toNat,by omega⟩
       obtain ⟨n,rfl⟩ : ∃ n:Nat,x2=n:=⟨x2.toNat,by omega⟩
       have hm9:m<9:=by omega
       have hn9:n<9:=by omega
       have hth:=hG2.out.at m n hm9 hn9
       have qt:=fun m' os=>cell_grown (World.block_lt_of_cell? _ _ hth) hth m' os
       have i1:(m:Int)<9:=by omega
       have i2:(n:Int)<9:=by omega
       have a4:(((m:Int)==(n:Int))=false):=by simpa using a3
       clear hth
       by_cases hin:((m:Int),(n:Int))∈l.take k
       ·rw [decide_eq_true hin] at qt
        go_wp2
        clear hwq
        refine wp_region_quiet_grown mixed (by kernel_rfl) ?_
        repeat (first | go_big_quiet_step ((go_at_call 24; first | with_reducible exact Calls.grown_of (HK1 _) | with_reducible exact Calls.grown_of (HK2 _))))
        refine wpQuiet_nil ?_
        intro _ hw'
        obtain ⟨⟨nq,osq⟩,hw''⟩:=hw'
        subst hw''
        go_wp2
        go_ret
        exact hfl.out (hbad.out hin) _ _
       ·rw [decide_eq_false hin] at qt
        go_wp2
        clear hwq
        refine wp_region_quiet_grown mixed (by kernel_rfl) ?_
        repeat (first | go_big_quiet_step ((go_at_call 24; first | with_reducible exact Calls.grown_of (HK1 _) | with_reducible exact Calls.grown_of (HK2 _))))
        refine wpQuiet_nil ?_
        intro _ hw'
        obtain ⟨⟨nq,osq⟩,hw''⟩:=hw'
        subst hw''
        go_wp2
        generalize hwz:grow (wq.drewN nq) osq=wz
        have hG3:Hid (GoodIn w wz S H (.slice (some ⟨b,off,none⟩) l.length cap) (l.take k)):=hG2.out.next (by rw [<- hwz]; exact below_grown_r _ _ _ _ (yyH _))
        have r0:=q0 nq osq
        have r1:=q1 nq osq
        have rt:=qt nq osq
        rw [hwz] at r0 r1 rt
        have rf:=hG3.out.arr.free (m*9+n)
        clear hwz q0 q1 qt b0 b1 b2 HK1 HK2 hfl hbad hmem e0 e1
        go_region
        go_wp2
        refine ⟨⟨k+1,by go_num,by omega,?_⟩,by simp [intOf]; omega⟩
        rw [hx.out]
        exact (hG3.out.put m n hn9 ⟨a1,a2,a3⟩ hin).next (Below.refl _ _).drew
     ·rw [decide_eq_true a1] at HK1
      rw [decide_eq_false a2] at HK2
      go_wp2
      clear hwq
      refine wp_region_quiet_grown mixed (by kernel_rfl) ?_
      repeat (first | go_big_quiet_step ((go_at_call 24; first | with_reducible exact Calls.grown_of (HK1 _) | with_reducible exact Calls.grown_of (HK2 _))))
      refine wpQuiet_nil ?_
      intro _ hw'
      obtain ⟨⟨nq,osq⟩,hw''⟩:=hw'
      subst hw''
      go_wp2
      go_ret
      exact hfl.out (fun hg=>a2 (hg.2.1 _ hmem.out).2.1) _ _
    ·rw [decide_eq_false a1] at HK1
     go_wp2
     clear hwq
     refine wp_region_quiet_grown mixed (by kernel_rfl) ?_
     repeat (first | go_big_quiet_step ((go_at_call 24; first | with_reducible exact Calls.grown_of (HK1 _) | with_reducible exact Calls.grown_of (HK2 _))))
     refine wpQuiet_nil ?_
     intro _ hw'
     obtain ⟨⟨nq,osq⟩,hw''⟩:=hw'
     subst hw''
     go_wp2
     go_ret
     exact hfl.out (fun hg=>a1 (hg.2.1 _ hmem.out).1) _ _
   ·obtain rfl:k=l.length:=by omega
    go_wp2
    go_ret
    exact ⟨ret_bool (goodB_true ⟨⟨s1,s2,s3,s4⟩,by have:=hG.out.ok; rwa [List.take_length] at this,by have:=hG.out.nd; rwa [List.take_length] at this⟩).symm,hG.out.bel⟩
 ·go_enter Tryz.func8,Tryz.ntmps8
  go_wp2
  all_goals first | (exfalso; omega) | skip
  all_goals go_ret
  all_goals exact ⟨ret_bool (goodB_false fun hg=>hS hg.1).symm,(Below.refl _ _).alloc (yyH _) _⟩
structure WaysIn (w wr:World) (S H:Int) (v:Value) (f:Int->Int):Prop where
 bel:Below w.heap.size w wr
 box:wr.heap[w.heap.size]? = some (.cells #[.int .i64 S,v,.int .i64 H] 24 (0,0))
 res:Arr wr (w.heap.size+1) 175 9 (fun _=>.int .i64 0)
 arr:Arr wr (w.heap.size+2) 175 9 (fun i=>.int .i64 (f i))
theorem WaysIn.next {w wr wq:World} {S H:Int} {v:Value} {f:Int->Int} (h:WaysIn w wr S H v f) (hb:Below wr.heap.size wr wq):WaysIn w wq S H v f:=by
 have h1:=h.arr.lt
 exact ⟨h.bel.trans (hb.mono h.bel.size),by rw [hb.block _ (by omega)]; exact h.box,h.res.below hb (by omega),h.arr.below hb h1⟩
theorem WaysIn.c1 {w wr:World} {S H:Int} {v:Value} {f:Int->Int} (h:WaysIn w wr S H v f):wr.cell? ⟨w.heap.size,1,none⟩=some v:=by
 rw [cell_of_row wr w.heap.size 1 _ _ (0,0) h.box]; rfl
theorem WaysIn.at {w wr:World} {S H:Int} {v:Value} {f:Int->Int} (h:WaysIn w wr S H v f) (m:Nat) (hm:m<9):wr.cell? ⟨w.heap.size+2,m,none⟩=some (.int .i64 (f m)):=h.arr.cell hm
theorem WaysIn.put {w wr:World} {S H:Int} {v:Value} {f:Int->Int} (h:WaysIn w wr S H v f) (m:Nat) (x:Int) (g:Int->Int) (hg : ∀ i:Nat,i<9->g i=if (i:Int)=m then x else f i) :
  WaysIn w (wr.setCell ⟨w.heap.size+2,m,none⟩ (.int .i64 x)) S H v g:=by
 refine ⟨h.bel.setCell (by show w.heap.size<=w.heap.size+2; omega) _,?_,?_,?_⟩
 ·rw [heap_setCell_other _ _ _ _ (by show w.heap.size≠w.heap.size+2; omega)]; exact h.box
 ·exact h.res.same (heap_setCell_other _ _ _ _ (by show w.heap.size+1≠w.heap.size+2; omega))
 ·refine (h.arr.set m (.int .i64 x)).congr fun i hi=>?_
  rw [hg i hi]
  by_cases hc:i=m
  ·rw [if_pos hc,if_pos (by omega)]
  ·rw [if_neg hc,if_neg (by omega)]
theorem WaysIn.congr {w wr:World} {S H:Int} {v:Value} {f g:Int->Int} (h:WaysIn w wr S H v f) (hg : ∀ i:Nat,i<9->g i=f i):WaysIn w wr S H v g :=
 ⟨h.bel,h.box,h.res,h.arr.congr fun i hi=>by rw [hg i hi]⟩
theorem zeroI9 (w:World):(zeroValue 175).run Tryz.prog w=.ok (.agg (blank 9 (.int .i64 0))) w:=by kernel_rfl
abbrev farV (l:List (Int × Int)) (a:Int):Value:=.agg #[.int .i64 (far l a 0),.int .i64 (far l a 1),.int .i64 (far l a 2),.int .i64 (far l a 3),.int .i64 (far l a 4),.int .i64 (far l a 5),.int .i64 (far l a 6),.int .i64 (far l a 7),.int .i64 (far l a 8)]
theorem index9 (f:Int->Int) (j:Nat) (hj:j<9) (w:World):(Instr.index 175 (.agg #[.int .i64 (f 0),.int .i64 (f 1),.int .i64 (f 2),.int .i64 (f 3),.int .i64 (f 4),.int .i64 (f 5),.int .i64 (f 6),.int .i64 (f 7),.int .i64 (f 8)]) (.int .i64 (j:Int))).run Tryz.prog w=.ok (.int .i64 (f j)) w:=by
 have hc:j=0\/j=1\/j=2\/j=3\/j=4\/j=5\/j=6\/j=7\/j=8:=by omega
 rcases hc with rfl | rfl | rfl | rfl | rfl | rfl | rfl | rfl | rfl <;> (show _=_; kernel_rfl)
theorem info9:(Tryz.prog.info? 175).map (·.size)=some 9:=by kernel_rfl
theorem results_row {fn:Func} {p:Tmp} (h:fn.results = #[.cell p 175]) (tmps:Array Value) (w:World) (g:Nat) (c:Array Value) (hc:c.size=9) (hp:tmps.getD p undef=.pointer (some ⟨g,0,none⟩)) (hg:w.heap[g]? = some (.cells c 175 (0,0))) :
  (results fn tmps).run Tryz.prog w=.ok (.agg c) w:=by
 have hl:=run_loadVar_row (P:=Tryz.prog) w g _ 175 c (0,0) _ hg Tryz.underlying175 rfl (by rw [hc]; exact info9)
 have e:(results fn tmps).run Tryz.prog w=((asAddr (tmps.getD p undef)).run Tryz.prog w).andThen fun a w₁=>(loadVar 175 a).run Tryz.prog w₁:=by
  simp only [results,h]
  simp [Sem.run_bind,Result.andThen]
 rw [e,hp]
 simp [asAddr,hl,Result.andThen]
theorem ret_row {fn:Func} {R:Ending->World->Prop} {a:Act} {w:World} {p:Tmp} (h:fn.results = #[.cell p 175]) (g:Nat) (c:Array Value) (hc:c.size=9) (hp:a.tmps.getD p undef=.pointer (some ⟨g,0,none⟩)) (hd:a.defers=[])
  (hg:w.heap[g]? = some (.cells c 175 (0,0))) (hR:R (.returned (.agg c)) w):bodyPost Tryz.prog fn R .ret a w :=
 bodyPost_ret (results_row h a.tmps w g c hc hp hg) hd hR
theorem ways_any (S H a:Int) (v:Value) (l:List (Int × Int)) (w:World) (hr:RowOf ecells w v l) (hg:GoodT S l H) (ha:1<=a/\a<=S) :
  Calls Tryz.prog 96 #[tv S v H,.int .i64 a] w fun e w'=>e=.returned (farV l a)/\Below w.heap.size w w':=by
 obtain ⟨ad,cap,rfl⟩:=hr.slice
 obtain ⟨_,hl,hA⟩:=hr.eds
 have l63:l.length<=9223372036854775807:=by unfold maxLen at hl; omega
 clear hr hl
 obtain ⟨⟨s1,s2,s3,s4⟩,hE,hN⟩:=hg
 have HE:Hid (∀ e∈l,EdgeOk S e):=hE
 clear hE hN
 have z9:=zeroI9
 have hG0:Hid (WaysIn w (((w.alloc (.cells #[.int .i64 S,.slice ad l.length cap,.int .i64 H] 24)).alloc (.cells (blank 9 (.int .i64 0)) 175)).alloc (.cells (blank 9 (.int .i64 0)) 175)) S H (.slice ad l.length cap) (fun _=>0)):=by
  refine ⟨(((Below.refl _ _).alloc (yyH _) _).alloc (by simp) _).alloc (by simp; omega) _,?_,?_,?_⟩
  ·rw [Below.heap_alloc _ _ _ (by simp; omega),Below.heap_alloc _ _ _ (by simp)]; exact heap_alloc_new w _
  ·have:=arr_blank (w.alloc (.cells #[.int .i64 S,.slice ad l.length cap,.int .i64 H] 24)) 9 (.int .i64 0) 175
   rw [World.size_alloc] at this
   exact this.same (Below.heap_alloc _ _ _ (by simp))
  ·have:=arr_blank ((w.alloc (.cells #[.int .i64 S,.slice ad l.length cap,.int .i64 H] 24)).alloc (.cells (blank 9 (.int .i64 0)) 175)) 9 (.int .i64 0) 175
   rw [World.size_alloc,World.size_alloc] at this
   exact this
 obtain ⟨n,rfl⟩ : ∃ n:Nat,a=n:=⟨a.toNat,by omega⟩
 have hn9:n<9:=by omega
 have hn9':(n:Int)<9:=by omega
 go_enter Tryz.func96,Tryz.ntmps96
 go_wp2
 go_step3
 go_wp2
 clear z9
 go_loopg [6,12] 9 (fun g u6 u12 wr => ∃ k:Nat,u12=.int .i64 k/\k<=9/\g=9-k/\Hid (WaysIn w wr S H (.slice ad l.length cap) (fun i=>if i<k then -1 else 0)))
 case atStart=>exact ⟨0,rfl,Nat.zero_le _,rfl,hG0.out.congr fun i _=>by rw [if_neg (by omega)]⟩
 case round =>
  obtain ⟨k,rfl,hk,rfl,hG⟩:=hrel
  clear hG0
  by_cases hlt2:k<9
  ·have hlt:(k:Int)<9:=by omega
   have c0:=hG.out.at k hlt2
   have f0:=hG.out.arr.free k
   go_wp2
   go_roundg (9-(k+1))
   case measure=>omega
   case rel =>
    refine ⟨k+1,by go_num,by omega,rfl,hG.out.put k (-1) _ fun i _=>?_⟩
    by_cases h1:(i:Int)=k
    ·rw [if_pos h1,if_pos (by omega)]
    ·rw [if_neg h1]
     by_cases h2:(i:Int)<k
     ·rw [if_pos h2,if_pos (by omega)]
     ·rw [if_neg h2,if_neg (by omega)]
  ·obtain rfl:k=9:=by omega
   have c0:=hG.out.at n hn9
   have f0:=hG.out.arr.free n
   rw [if_pos (by omega)] at c0
   have hG1:Hid (WaysIn w (wr.setCell ⟨w.heap.size+2,n,none⟩ (.int .i64 0)) S H (.slice ad l.length cap) (upto l n 0)):=hG.out.put n 0 _ fun i hi=>by
    by_cases h1:(i:Int)=n
    ·rw [if_pos h1,h1]
     exact upto_eq (by omega) (by omega) fun m hm=>by
      obtain rfl:m=0:=by omega
      simp [R]
    ·rw [if_neg h1,if_pos (by omega)]
     exact upto_eq (by omega) (by omega) fun m hm=>by
      obtain rfl:m=0:=by omega
      simp [R,h1]
   generalize hw1:wr.setCell ⟨w.heap.size+2,n,none⟩ (.int .i64 0)=w1 at hG1
   go_wp2
   go_step3
   go_wp2
   clear hw1 c0 f0 hG hlt2 hk
   go_loopg [7] 9 (fun g u7 wr => ∃ L:Nat,u7=.int .i64 ((L:Int)+1)/\L<=8/\g=9-L/\Hid (WaysIn w wr S H (.slice ad l.length cap) (upto l n L)))
   case atStart=>exact ⟨0,rfl,Nat.zero_le _,rfl,hG1⟩
   case round =>
    obtain ⟨L,rfl,hL,rfl,hG⟩:=hrel
    clear hG1
    have c1:=hG.out.c1
    go_wp2
    go_loopg [25] l.length (fun g u25 wr => ∃ k:Nat,u25=.int .i64 k/\k<=l.length/\g=l.length-k/\Hid (WaysIn w wr S H (.slice ad l.length cap) (mid l n L k)))
    case atStart=>exact ⟨0,rfl,Nat.zero_le _,rfl,hG.out.congr fun i _=>mid_start _ _ _ _⟩
    case round =>
     obtain ⟨k,rfl,hk,rfl,hM⟩:=hrel
     clear hG c1
     by_cases hlt2:k<l.length
     ·have hlt:(k:Int)<(l.length:Int):=by omega
      obtain ⟨b,off,rfl,hi⟩:=hA k hlt2
      obtain ⟨e0,e1⟩:=hi.below hM.out.bel (yyH _)
      have hok:=HE.out _ (List.getElem_mem hlt2)
      have hit:Hid (mid l n L k l[k].1=L->mid l n L k l[k].2 = -1 -> ∀ x,mid l n L (k+1) x=if x=l[k].2 then (L:Int)+1 else mid l n L k x):=mid_hit hlt2
      have miss:Hid (¬ (mid l n L k l[k].1=L/\mid l n L k l[k].2 = -1) -> ∀ x,mid l n L (k+1) x=mid l n L k x):=mid_miss hlt2
      clear hA hi
      generalize l[k]=x at *
      obtain ⟨x1,x2⟩:=x
      obtain ⟨⟨o1,o2⟩,⟨o3,o4⟩,o5⟩:=hok
      obtain ⟨m1,rfl⟩ : ∃ m:Nat,x1=m:=⟨x1.toNat,by omega⟩
      obtain ⟨m2,rfl⟩ : ∃ m:Nat,x2=m:=⟨x2.toNat,by omega⟩
      clear o1 o3 o5
      have g1:m1<9:=by omega
      have g2:m2<9:=by omega
      have i1:(m1:Int)<9:=by omega
      have i2:(m2:Int)<9:=by omega
      generalize hwq:wr.alloc (.cells #[.int .i64 (m1:Int),.int .i64 (m2:Int)] 80)=wq
      have hM2:Hid (WaysIn w wq S H (.slice (some ⟨b,off,none⟩) l.length cap) (mid l n L k)):=hM.out.next (by rw [<- hwq]; exact (Below.refl _ _).alloc (yyH _) _)
      have p0:wq.cell? ⟨wr.heap.size,0,none⟩=some (.int .i64 m1):=by rw [<- hwq,World.cell?_alloc_at _ _ _ _ rfl]; rfl
      have p1:wq.cell? ⟨wr.heap.size,1,none⟩=some (.int .i64 m2):=by rw [<- hwq,World.cell?_alloc_at _ _ _ _ rfl]; rfl
      have d1:=hM2.out.at m1 g1
      have d2:=hM2.out.at m2 g2
      have f2:=hM2.out.arr.free m2
      have hsub:IntKind.i64.wrap ((L:Int)+1-1)=(L:Int):=by rw [IntKind.wrap_i64]; omega
      by_cases h1:mid l n L k m1=L
      ·rw [h1] at d1
       by_cases h2:mid l n L k m2 = -1
       ·rw [h2] at d2
        have hq:Hid (WaysIn w (wq.setCell ⟨w.heap.size+2,m2,none⟩ (.int .i64 ((L:Int)+1))) S H (.slice (some ⟨b,off,none⟩) l.length cap) (mid l n L (k+1))):=hM2.out.put m2 _ _ fun i _=>hit.out h1 h2 i
        clear h1 h2
        go_wp2
        go_roundg (l.length-(k+1))
        case measure=>omega
        case rel=>exact ⟨k+1,by go_num,by omega,rfl,hq⟩
       ·generalize hd2:mid l n L k m2=y2 at d2
        have hq:Hid (WaysIn w wq S H (.slice (some ⟨b,off,none⟩) l.length cap) (mid l n L (k+1))):=hM2.out.congr fun i _=>miss.out (fun h=>h2 h.2) i
        rw [hd2] at h2
        clear h1 hd2
        go_wp2
        go_roundg (l.length-(k+1))
        case measure=>omega
        case rel=>exact ⟨k+1,by go_num,by omega,rfl,hq⟩
      ·generalize hd1:mid l n L k m1=y1 at d1
       have hq:Hid (WaysIn w wq S H (.slice (some ⟨b,off,none⟩) l.length cap) (mid l n L (k+1))):=hM2.out.congr fun i _=>miss.out (fun h=>h1 h.1) i
       rw [hd1] at h1
       clear hd1 d2
       go_wp2
       go_roundg (l.length-(k+1))
       case measure=>omega
       case rel=>exact ⟨k+1,by go_num,by omega,rfl,hq⟩
     ·obtain rfl:k=l.length:=by omega
      have hU:Hid (WaysIn w wr S H (.slice ad l.length cap) (upto l n (L+1))):=hM.out.congr fun i _=>(mid_end l n L i).symm
      have k0:wr.cell? ⟨w.heap.size+2,0,none⟩=some (.int .i64 (upto l n (L+1) 0)):=hU.out.at 0 (by omega)
      have k1:wr.cell? ⟨w.heap.size+2,1,none⟩=some (.int .i64 (upto l n (L+1) 1)):=hU.out.at 1 (by omega)
      have k2:wr.cell? ⟨w.heap.size+2,2,none⟩=some (.int .i64 (upto l n (L+1) 2)):=hU.out.at 2 (by omega)
      have k3:wr.cell? ⟨w.heap.size+2,3,none⟩=some (.int .i64 (upto l n (L+1) 3)):=hU.out.at 3 (by omega)
      have k4:wr.cell? ⟨w.heap.size+2,4,none⟩=some (.int .i64 (upto l n (L+1) 4)):=hU.out.at 4 (by omega)
      have k5:wr.cell? ⟨w.heap.size+2,5,none⟩=some (.int .i64 (upto l n (L+1) 5)):=hU.out.at 5 (by omega)
      have k6:wr.cell? ⟨w.heap.size+2,6,none⟩=some (.int .i64 (upto l n (L+1) 6)):=hU.out.at 6 (by omega)
      have k7:wr.cell? ⟨w.heap.size+2,7,none⟩=some (.int .i64 (upto l n (L+1) 7)):=hU.out.at 7 (by omega)
      have k8:wr.cell? ⟨w.heap.size+2,8,none⟩=some (.int .i64 (upto l n (L+1) 8)):=hU.out.at 8 (by omega)
      clear hM hk hlt2 hA
      go_wp2
      go_loopg [49] 9 (fun g u49 wr' => ∃ j:Nat,u49=.int .i64 j/\j<=9/\g=9-j/\wr'=wr/\Hid (∀ i:Nat,i<j->upto l n (L+1) i≠(L:Int)+1))
      case atStart=>exact ⟨0,rfl,Nat.zero_le _,rfl,rfl,fun i hi=>absurd hi (Nat.not_lt_zero _)⟩
      case round =>
       obtain ⟨j,rfl,hj9,rfl,rfl,hno⟩:=hrel
       by_cases hlt2:j<9
       ·have hlt:(j:Int)<9:=by omega
        have hin:Hid (upto l n (L+1) j=(L:Int)+1->L+1<=8):=fun h=>by have:=level_lt HE.out ha h; omega
        have hnx:Hid (upto l n (L+1) j≠(L:Int)+1 -> ∀ i:Nat,i<j+1->upto l n (L+1) i≠(L:Int)+1):=fun h i hi=>by
         rcases Nat.lt_or_ge i j with h' | h'
         ·exact hno.out i h'
         ·obtain rfl:i=j:=by omega
          exact h
        have hix:=index9 (upto l n (L+1)) j hlt2
        clear hno hj9
        by_cases hj:upto l n (L+1) j=(L:Int)+1
        ·have h8:=hin.out hj
         go_wp2
         go_roundg (9-(L+1))
         case measure=>omega
         case rel=>exact ⟨L+1,by go_num,h8,rfl,hU⟩
        ·have hN:Hid (∀ i:Nat,i<j+1->upto l n (L+1) i≠(L:Int)+1):=hnx.out hj
         go_wp2
         go_roundg (9-(j+1))
         case measure=>omega
         case rel=>exact ⟨j+1,by go_num,by omega,rfl,rfl,hN⟩
       ·obtain rfl:j=9:=by omega
        have hf : ∀ x,upto l n (L+1) x=far l n x:=fun x=>level_last s2 HE.out ha (fun x h1 h2=>by
         obtain ⟨i,rfl⟩ : ∃ i:Nat,x=i:=⟨x.toNat,by omega⟩
         exact hno.out i (by omega)) x
        rw [hf] at k0 k1 k2 k3 k4 k5 k6 k7 k8
        clear hf
        have r0:wr.cell? ⟨w.heap.size+1,0,none⟩=some (.int .i64 0):=hU.out.res.cell (by omega)
        have t0:wr.frozen? ⟨w.heap.size+1,0,none⟩=false:=hU.out.res.free 0
        have r1:wr.cell? ⟨w.heap.size+1,1,none⟩=some (.int .i64 0):=hU.out.res.cell (by omega)
        have t1:wr.frozen? ⟨w.heap.size+1,1,none⟩=false:=hU.out.res.free 1
        have r2:wr.cell? ⟨w.heap.size+1,2,none⟩=some (.int .i64 0):=hU.out.res.cell (by omega)
        have t2:wr.frozen? ⟨w.heap.size+1,2,none⟩=false:=hU.out.res.free 2
        have r3:wr.cell? ⟨w.heap.size+1,3,none⟩=some (.int .i64 0):=hU.out.res.cell (by omega)
        have t3:wr.frozen? ⟨w.heap.size+1,3,none⟩=false:=hU.out.res.free 3
        have r4:wr.cell? ⟨w.heap.size+1,4,none⟩=some (.int .i64 0):=hU.out.res.cell (by omega)
        have t4:wr.frozen? ⟨w.heap.size+1,4,none⟩=false:=hU.out.res.free 4
        have r5:wr.cell? ⟨w.heap.size+1,5,none⟩=some (.int .i64 0):=hU.out.res.cell (by omega)
        have t5:wr.frozen? ⟨w.heap.size+1,5,none⟩=false:=hU.out.res.free 5
        have r6:wr.cell? ⟨w.heap.size+1,6,none⟩=some (.int .i64 0):=hU.out.res.cell (by omega)
        have t6:wr.frozen? ⟨w.heap.size+1,6,none⟩=false:=hU.out.res.free 6
        have r7:wr.cell? ⟨w.heap.size+1,7,none⟩=some (.int .i64 0):=hU.out.res.cell (by omega)
        have t7:wr.frozen? ⟨w.heap.size+1,7,none⟩=false:=hU.out.res.free 7
        have r8:wr.cell? ⟨w.heap.size+1,8,none⟩=some (.int .i64 0):=hU.out.res.cell (by omega)
        have t8:wr.frozen? ⟨w.heap.size+1,8,none⟩=false:=hU.out.res.free 8
        have hR:Hid (Arr (((((((((wr.setCell ⟨w.heap.size+1,0,none⟩ (.int .i64 (far l n 0))).setCell ⟨w.heap.size+1,1,none⟩ (.int .i64 (far l n 1))).setCell ⟨w.heap.size+1,2,none⟩ (.int .i64 (far l n 2))).setCell ⟨w.heap.size+1,3,none⟩ (.int .i64 (far l n 3))).setCell ⟨w.heap.size+1,4,none⟩ (.int .i64 (far l n 4))).setCell ⟨w.heap.size+1,5,none⟩ (.int .i64 (far l n 5))).setCell ⟨w.heap.size+1,6,none⟩ (.int .i64 (far l n 6))).setCell ⟨w.heap.size+1,7,none⟩ (.int .i64 (far l n 7))).setCell ⟨w.heap.size+1,8,none⟩ (.int .i64 (far l n 8))) (w.heap.size+1) 175 9 _):=(((((((((hU.out.res.set 0 (.int .i64 (far l n 0))).set 1 (.int .i64 (far l n 1))).set 2 (.int .i64 (far l n 2))).set 3 (.int .i64 (far l n 3))).set 4 (.int .i64 (far l n 4))).set 5 (.int .i64 (far l n 5))).set 6 (.int .i64 (far l n 6))).set 7 (.int .i64 (far l n 7))).set 8 (.int .i64 (far l n 8)))
        have hB:Hid (Below w.heap.size w (((((((((wr.setCell ⟨w.heap.size+1,0,none⟩ (.int .i64 (far l n 0))).setCell ⟨w.heap.size+1,1,none⟩ (.int .i64 (far l n 1))).setCell ⟨w.heap.size+1,2,none⟩ (.int .i64 (far l n 2))).setCell ⟨w.heap.size+1,3,none⟩ (.int .i64 (far l n 3))).setCell ⟨w.heap.size+1,4,none⟩ (.int .i64 (far l n 4))).setCell ⟨w.heap.size+1,5,none⟩ (.int .i64 (far l n 5))).setCell ⟨w.heap.size+1,6,none⟩ (.int .i64 (far l n 6))).setCell ⟨w.heap.size+1,7,none⟩ (.int .i64 (far l n 7))).setCell ⟨w.heap.size+1,8,none⟩ (.int .i64 (far l n 8)))):=(((((((((hU.out.bel.setCell (p:=⟨w.heap.size+1,0,none⟩) (Nat.le_succ _) _).setCell (p:=⟨w.heap.size+1,1,none⟩) (Nat.le_succ _) _).setCell (p:=⟨w.heap.size+1,2,none⟩) (Nat.le_succ _) _).setCell (p:=⟨w.heap.size+1,3,none⟩) (Nat.le_succ _) _).setCell (p:=⟨w.heap.size+1,4,none⟩) (Nat.le_succ _) _).setCell (p:=⟨w.heap.size+1,5,none⟩) (Nat.le_succ _) _).setCell (p:=⟨w.heap.size+1,6,none⟩) (Nat.le_succ _) _).setCell (p:=⟨w.heap.size+1,7,none⟩) (Nat.le_succ _) _).setCell (p:=⟨w.heap.size+1,8,none⟩) (Nat.le_succ _) _)
        generalize hwf:(((((((((wr.setCell ⟨w.heap.size+1,0,none⟩ (.int .i64 (far l n 0))).setCell ⟨w.heap.size+1,1,none⟩ (.int .i64 (far l n 1))).setCell ⟨w.heap.size+1,2,none⟩ (.int .i64 (far l n 2))).setCell ⟨w.heap.size+1,3,none⟩ (.int .i64 (far l n 3))).setCell ⟨w.heap.size+1,4,none⟩ (.int .i64 (far l n 4))).setCell ⟨w.heap.size+1,5,none⟩ (.int .i64 (far l n 5))).setCell ⟨w.heap.size+1,6,none⟩ (.int .i64 (far l n 6))).setCell ⟨w.heap.size+1,7,none⟩ (.int .i64 (far l n 7))).setCell ⟨w.heap.size+1,8,none⟩ (.int .i64 (far l n 8)))=wf at hR hB
        go_wp2
        clear r0 t0 k0 r1 t1 k1 r2 t2 k2 r3 t3 k3 r4 t4 k4 r5 t5 k5 r6 t6 k6 r7 t7 k7 r8 t8 k8 hwf
        rw [Exit.noGoto_ret]
        exact ret_row rfl (w.heap.size+1) _ rfl rfl rfl hR.out ⟨rfl,hB.out⟩
end Go.Proofs.YtnhnpnafchkhiaaGreatDoor.O
