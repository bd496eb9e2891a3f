import Derived.Test.YtnhnpnafchkhiaaGreatDoorQwA
import Derived.Test.YtnhnpnafchkhiaaGreatDoorQw23
import Derived.Test.YtnhnpnafchkhiaaGreatDoorQw22
import Derived.Laws.ResultCell
import Derived.Laws.Rows
set_option maxHeartbeats 2000000
set_option maxRecDepth 20000
namespace Go.Proofs.YtnhnpnafchkhiaaGreatDoor.K
end Go.Proofs.YtnhnpnafchkhiaaGreatDoor.K
namespace Go.Proofs.YtnhnpnafchkhiaaGreatDoor.F
open Go.Proofs.YtnhnpnafchkhiaaGreatDoor.K
open Go.RowKit Go.Sort
theorem set4_1 {w:World} {b:Nat} {v0 v1 v2 v3:Value} {t:TypeId} (u:Value) (h:w.heap[b]? = some (.cells #[v0,v1,v2,v3] t (0,0))):(w.setCell ⟨b,1,none⟩ u).heap[b]? = some (.cells #[v0,u,v2,v3] t (0,0)):=by
 have h1:=heap_setCell_same w b 1 _ _ u h
 simpa using h1
theorem set4_2 {w:World} {b:Nat} {v0 v1 v2 v3:Value} {t:TypeId} (u:Value) (h:w.heap[b]? = some (.cells #[v0,v1,v2,v3] t (0,0))):(w.setCell ⟨b,2,none⟩ u).heap[b]? = some (.cells #[v0,v1,u,v3] t (0,0)):=by
 have h1:=heap_setCell_same w b 2 _ _ u h
 simpa using h1
theorem QAt.after {w w':World} {p:Nat} {v:Value} {b:Nat} {s:St} (h:QAt w p v b s) (hb:Below w.heap.size w w'):QAt w' p v b s:=h.same fun k hk=>hb.block k (h.lts k hk)
theorem row_not {w:World} {v:Value} {l:List It} (h:Own8 w 0 v l) {p:Nat} {cs:Array Value} (hp:w.heap[p]? = some (.cells cs 162 (0,0))):v.ownBlock≠some p:=by
 rcases h.2 with ⟨rfl,_⟩ | ⟨g,cap,cur,rfl,_,hg,_⟩
 ·simp [Value.ownBlock]
 ·intro he
  simp only [Value.ownBlock,Option.some.injEq] at he
  subst he
  rw [hp] at hg
  simp at hg
theorem row_set {w W w4:World} {p:Nat} {v v':Value} {b:Nat} {s:St} {l:List It} (hq:QAt w p v b s) (hW:Below w.heap.size w W) (own:Own8 w4 0 v' l) (gr:W.grownBy w4 v.ownBlock) (nw:NewOr W v v') :
  QAt (w4.setCell ⟨p,2,none⟩ v') p v' b { s with rdy:=l }/\Moved w (w4.setCell ⟨p,2,none⟩ v') (foot p v b) (foot p v' b):=by
 have hqW:=hq.after hW
 have hlt:=hqW.lt
 have hb:=hqW.out.lt
 have e1:w4.heap[p]? = W.heap[p]? := gr.block p hlt (fun h=>hqW.ne_row h.symm)
 have e2:w4.heap[b]? = W.heap[b]? := gr.block b hb (fun h=>hqW.row_map h.symm)
 have hp4:w4.heap[p]? = some (.cells #[.int .i64 (s.most:Int),.int .u64 (s.next:Int),v,.map (some b)] 162 (0,0)):=by rw [e1]; exact hqW.blk
 have hne:=row_not own hp4
 refine ⟨⟨set4_2 v' hp4,own.same fun g hg=>heap_setCell_other _ _ _ _ (fun he=>hne (by rw [hg,he])),(hqW.out.same e2).same (heap_setCell_other _ _ _ _ hqW.ne_map)⟩,?_⟩
 refine ⟨gr.os.trans hW.os,gr.tape.trans hW.tape,gr.output.trans hW.output,by rw [World.size_setCell]; exact Nat.le_trans hW.size gr.size,fun k hk hn=>?_,?_⟩
 ·have h1:k≠p:=fun h=>hn (.inl h)
  have h2 : ¬ some k=v.ownBlock:=fun h=>hn (.inr (.inl h.symm))
  rw [heap_setCell_other _ _ _ _ h1,gr.block k (Nat.lt_of_lt_of_le hk hW.size) h2,hW.block k hk]
 ·rintro k (rfl | hk | rfl)
  ·exact .inl (.inl rfl)
  ·rcases nw with h | ⟨g,h,hg⟩
   ·exact .inl (.inr (.inl (h ▸ hk)))
   ·rw [h] at hk; injection hk with hk; subst hk; exact .inr (Nat.le_trans hW.size hg)
  ·exact .inl (.inr (.inr rfl))
theorem next_set {w:World} {p:Nat} {v:Value} {b:Nat} {s:St} (hq:QAt w p v b s) (n:Nat) :
  QAt (w.setCell ⟨p,1,none⟩ (.int .u64 (n:Int))) p v b { s with next:=n }/\Moved w (w.setCell ⟨p,1,none⟩ (.int .u64 (n:Int))) (foot p v b) (foot p v b):=by
 refine ⟨⟨set4_1 _ hq.blk,hq.rows.same fun g hg=>heap_setCell_other _ _ _ _ (fun he=>hq.ne_row (by rw [hg,he])),hq.out.same (heap_setCell_other _ _ _ _ hq.ne_map)⟩,rfl,rfl,rfl,by rw [World.size_setCell]; exact yyH _,fun k hk hn=>heap_setCell_other _ _ _ _ (fun h=>hn (.inl h)),fun k hk=>.inl hk⟩
theorem _root_.Go.Proofs.YtnhnpnafchkhiaaGreatDoor.Moved.to {w w':World} {p:Nat} {v:Value} {b:Nat} {F F':Nat->Prop} (h:Moved w w' (foot p v b) F') (hF : ∀ k,F k↔foot p v b k):Moved w w' F F':=h.weak fun k hk=>(hF k).2 hk
theorem push_ok {s:St} (m:Msg) (h1 : ¬ s.most<=s.rdy.length+s.out.length) (h2 : ¬ s.next=18446744073709551615):s.push m=(0,{ s with next:=s.next+1,rdy:=s.rdy++[⟨s.next,m,false⟩] }):=by
 unfold St.push; rw [if_neg h1,if_neg h2]
theorem push_any (p:Nat) (F:Nat->Prop) (s:St) (m:Msg) (w:World) (h:Q w p F s) (ok:s.Ok) :
    Calls Tryz.prog 143 #[.pointer (some ⟨p,0,none⟩),mv m] w fun e w'=>e=.returned (.int .i64 (s.push m).1) /\ ∃ F',Q w' p F' (s.push m).2/\Moved w w' F F':=by
  have bel0:Below w.heap.size w (w.alloc (.cells #[.int .i64 m.o,.int .u64 m.s,.int .i64 m.hop,.string m.ex,.string m.key,.string m.body] 40)):=(Below.refl _ _).alloc (yyH _) _
  have h0:=h.kept bel0
  have hroom:=ok.room
  have hm:=ok.m
  by_cases h1:s.most<=s.rdy.length+s.out.length
  · have e:s.push m=(6,s):=by unfold St.push; rw [if_pos h1]
    rw [e]
    have hz:(s.most:Int)-s.rdy.length-s.out.length=0:=by omega
    have hR:=room_any p F s _ h0 ok
    rw [hz] at hR
    go_enter Tryz.func143,Tryz.ntmps143
    go_wp2_with fail
    refine (made_any p F s _ h0 ok.m1).mono ?_
    rintro e w1 ⟨rfl,rfl⟩
    go_wp2_with fail
    refine hR.mono ?_
    rintro e w2 ⟨rfl,q,rfl⟩
    go_wp2
    go_ret
    have bel:Below w.heap.size w (World.drewN (w.alloc (.cells #[.int .i64 m.o,.int .u64 m.s,.int .i64 m.hop,.string m.ex,.string m.key,.string m.body] 40)) q):=bel0.trans ⟨rfl,rfl,rfl,yyH _,fun _ _=>rfl⟩
    exact ⟨rfl,F,h.kept bel,.of_below bel⟩
  · have hz : ¬ ((s.most:Int)-s.rdy.length-s.out.length=0):=by omega
    have hR:=room_any p F s _ h0 ok
    obtain ⟨v,b,hq,hF⟩:=h
    have hn:=ok.n
    by_cases h2:s.next=18446744073709551615
    · have e:s.push m=(11,s):=by unfold St.push; rw [if_neg h1,if_pos h2]
      rw [e]
      obtain ⟨⟨c0,c1,c2,c3⟩,f0,f1,f2,f3⟩:=cells4 (hq.after bel0).blk
      rw [h2] at c1
      generalize (s.most:Int)-s.rdy.length-s.out.length=rm at hz hR
      clear hn h1
      go_enter Tryz.func143,Tryz.ntmps143
      go_wp2_with fail
      refine (made_any p F s _ h0 ok.m1).mono ?_
      rintro e w1 ⟨rfl,rfl⟩
      go_wp2_with fail
      refine hR.mono ?_
      rintro e w2 ⟨rfl,q,rfl⟩
      go_wp2
      go_ret
      have bel:Below w.heap.size w (World.drewN (w.alloc (.cells #[.int .i64 m.o,.int .u64 m.s,.int .i64 m.hop,.string m.ex,.string m.key,.string m.body] 40)) q):=bel0.trans ⟨rfl,rfl,rfl,yyH _,fun _ _=>rfl⟩
      exact ⟨rfl,F,Q.kept ⟨v,b,hq,hF⟩ bel,.of_below bel⟩
    · rw [push_ok m h1 h2]
      have h2' : ¬ ((s.next:Int)=18446744073709551615):=by omega
      have hw:IntKind.u64.wrap ((s.next:Int)+1)=((s.next+1:Nat):Int):=by rw [IntKind.wrap_u64]; omega
      generalize (s.most:Int)-s.rdy.length-s.out.length=rm at hz hR
      obtain ⟨i0,hi0,hz0,hzs,hzb⟩:=itemInfo
      obtain ⟨W,hW⟩ : ∃ W,W=w.alloc (.cells #[.int .i64 m.o,.int .u64 m.s,.int .i64 m.hop,.string m.ex,.string m.key,.string m.body] 40):=⟨_,rfl⟩
      rw [<- hW] at bel0 h0 hR
      have hmsg:W.cell? ⟨w.heap.size,0,none⟩=some (.int .i64 m.o)/\W.cell? ⟨w.heap.size,1,none⟩=some (.int .u64 m.s)/\W.cell? ⟨w.heap.size,2,none⟩=some (.int .i64 m.hop)/\W.cell? ⟨w.heap.size,3,none⟩=some (.string m.ex)/\W.cell? ⟨w.heap.size,4,none⟩=some (.string m.key)/\W.cell? ⟨w.heap.size,5,none⟩=some (.string m.body):=by
        rw [hW]; simp [World.cell?_alloc_at]
      obtain ⟨m0,m1,m2,m3,m4,m5⟩:=hmsg
      obtain ⟨⟨c0,c1,c2,c3⟩,f0,f1,f2,f3⟩:=cells4 (hq.after bel0).blk
      obtain ⟨va,vc,hv⟩:=hq.rows.rng.slice
      subst hv
      have HQ:Hid (QAt w p (.slice va s.rdy.length vc) b s):=hq
      have HW:Hid (W=w.alloc (.cells #[.int .i64 m.o,.int .u64 m.s,.int .i64 m.hop,.string m.ex,.string m.key,.string m.body] 40)):=hW
      have hM:=made_any p F s _ h0 ok.m1
      clear hq h1 h2 hn
      go_enter Tryz.func143,Tryz.ntmps143
      go_wp2_with fail
      rw [<- HW.out]
      clear hW
      refine hM.mono ?_
      rintro e W ⟨rfl,rfl⟩
      go_wp2_with fail
      refine hR.mono ?_
      rintro e w2 ⟨rfl,q,rfl⟩
      go_wp2
      have HO:Hid (∀ X:World,X.heap=W.heap -> ∀ o,Own8 (X.alloc o) 0 (.slice va s.rdy.length vc) s.rdy):=fun X hX o=>((HQ.out.after bel0).rows.same (w':=X) fun g _=>by rw [hX]).alloc o
      have HN:Hid (∀ X:World,X.heap=W.heap->W.heap.size=X.heap.size):=fun X hX=>by rw [hX]
      have HP:Hid (∀ X:World,X.heap=W.heap -> ∀ o w',(X.alloc o).grownBy w' (Value.slice va s.rdy.length vc).ownBlock->w'.cell? ⟨p,1,none⟩=some (.int .u64 (s.next:Int))/\w'.cell? ⟨p,2,none⟩=some (.slice va s.rdy.length vc)/\w'.frozen? ⟨p,1,none⟩=false/\w'.frozen? ⟨p,2,none⟩=false):=fun X hX o w' gr=>by
        have hqW:=HQ.out.after bel0
        have hlt:=hqW.lt
        have hb:w'.heap[p]? = W.heap[p]? := by
          rw [gr.block p (by rw [World.size_alloc,hX]; omega) (fun h=>hqW.ne_row h.symm),Below.heap_alloc _ _ _ (by rw [hX]; exact hlt),hX]
        obtain ⟨⟨_,k1,k2,_⟩,_,k3,k4,_⟩:=cells4 (hb.trans hqW.blk)
        exact ⟨k1,k2,k3,k4⟩
      have HE:Hid (∀ X:World,X.heap=W.heap/\X.os=W.os/\X.tape=W.tape/\X.output=W.output -> ∀ o w' v',Own8 w' 0 v' (s.rdy++[⟨s.next,m,false⟩])->(X.alloc o).grownBy w' (Value.slice va s.rdy.length vc).ownBlock->NewOr (X.alloc o) (.slice va s.rdy.length vc) v' ->
          ∃ F',Q ((w'.setCell ⟨p,2,none⟩ v').setCell ⟨p,1,none⟩ (.int .u64 ((s.next:Int)+1))) p F' { s with next:=s.next+1,rdy:=s.rdy++[⟨s.next,m,false⟩] }/\Moved w ((w'.setCell ⟨p,2,none⟩ v').setCell ⟨p,1,none⟩ (.int .u64 ((s.next:Int)+1))) F F'):=fun X hX o w' v' own gr nw=>by
        have bX:Below w.heap.size w (X.alloc o):=(bel0.trans (show Below w.heap.size W X from ⟨hX.2.1,hX.2.2.1,hX.2.2.2,by rw [hX.1]; exact yyH _,fun k _=>by rw [hX.1]⟩)).alloc (by rw [hX.1]; exact bel0.size) o
        obtain ⟨q1,m1⟩:=row_set HQ.out bX own gr nw
        obtain ⟨q2,m2⟩:=next_set q1 (s.next+1)
        exact ⟨_,⟨_,_,q2,fun _=>Iff.rfl⟩,(m1.trans m2).to hF⟩
      have c2' : ∀ o,((W.drewN (q+1)).alloc o).cell? ⟨p,2,none⟩=some (.slice va s.rdy.length vc):=fun o=>cell_alloc_r (W:=W.drewN (q+1)) o c2
      go_region_law (refine step_append_rows (enc:=icells) rfl (.tmp 23) (.tmp 30) 57 rfl Tryz.underlying57 i0 _ 88 hi0 hz0 hzs hzb rfl 0 (.slice va s.rdy.length vc) (.slice (some ⟨W.heap.size,0,none⟩) 1 1) s.rdy [⟨s.next,m,false⟩] (by simp [Act.eval]) (by simp [Act.eval]) (HO.out _ rfl _) (rowK_one _ _ _ (HN.out _ rfl)) (by unfold maxLen; simp; omega) (by simp; omega) (Nat.zero_le _) ?_; intro v' w' own' gr' nw'; obtain ⟨d1,d2,d3,d4⟩:=HP.out (W.drewN (q+1)) rfl _ _ gr'; have HE':Hid _:=HE.out (W.drewN (q+1)) ⟨rfl,rfl,rfl,rfl⟩ _ _ _ own' gr' nw'; obtain ⟨va',vc',hv'⟩:=own'.rng.slice; rw [List.length_append] at hv'; subst hv'; clear own' gr' nw')
      all_goals (try clear m0 m1 m2 m3 m4 m5 c0 c1 c2 c3)
      all_goals go_wp2
      all_goals go_ret
      all_goals exact ⟨rfl,HE'.out⟩
theorem itAt_new (w:World) (x:It) (n:Nat) (hn:n=w.heap.size):ItAt (w.alloc (.cells #[.int .u64 (x.tag:Int),.int .i64 x.m.o,.int .u64 x.m.s,.int .i64 x.m.hop,.string x.m.ex,.string x.m.key,.string x.m.body,.bool x.again] 74)) n 0 x:=by
 subst hn
 constructor <;> simp [World.cell?_alloc_at]
theorem ItAt.same {w w':World} {b off:Nat} {x:It} (h:ItAt w b off x) (hs:w'.heap[b]? = w.heap[b]?):ItAt w' b off x:=by
 have e : ∀ o,w'.cell? ⟨b,o,none⟩=w.cell? ⟨b,o,none⟩:=fun o=>by simp [World.cell?,hs]
 exact ⟨(e _).trans h.c0,(e _).trans h.c1,(e _).trans h.c2,(e _).trans h.c3,(e _).trans h.c4,(e _).trans h.c5,(e _).trans h.c6,(e _).trans h.c7⟩
def Soft (w:World) (b:Nat):Prop := ∃ cs,w.heap[b]? = some (.cells cs 74 (0,0))/\cs.size=8
theorem Soft.same {w w':World} {b:Nat} (h:Soft w b) (hs:w'.heap[b]? = w.heap[b]?):Soft w' b:=by
 obtain ⟨cs,h1,h2⟩:=h
 exact ⟨cs,by rw [hs]; exact h1,h2⟩
theorem Soft.frozen {w:World} {b:Nat} (h:Soft w b) (o:Nat):w.frozen? ⟨b,o,none⟩=false:=by
 obtain ⟨cs,h1,_⟩:=h
 simp [World.frozen?,h1]
theorem Soft.cell {w:World} {b:Nat} (h:Soft w b) (o:Nat) (ho:o<8) : ∃ u,w.cell? ⟨b,o,none⟩=some u:=by
 obtain ⟨cs,h1,h2⟩:=h
 exact ⟨cs[o]'(by omega),by simp [World.cell?,h1,h2,ho]⟩
abbrev put8 (w:World) (g:Nat) (v0 v1 v2 v3 v4 v5 v6 v7:Value):World:=(((((((w.setCell ⟨g,0,none⟩ v0).setCell ⟨g,1,none⟩ v1).setCell ⟨g,2,none⟩ v2).setCell ⟨g,3,none⟩ v3).setCell ⟨g,4,none⟩ v4).setCell ⟨g,5,none⟩ v5).setCell ⟨g,6,none⟩ v6).setCell ⟨g,7,none⟩ v7
theorem put8_at {w:World} {g:Nat} (h:Soft w g) (v0 v1 v2 v3 v4 v5 v6 v7:Value):(put8 w g v0 v1 v2 v3 v4 v5 v6 v7).heap[g]? = some (.cells #[v0,v1,v2,v3,v4,v5,v6,v7] 74 (0,0)):=by
 obtain ⟨⟨l⟩,h1,h2⟩:=h
 match l,h2 with
 |[a0,a1,a2,a3,a4,a5,a6,a7],_ =>
  have e0:=heap_setCell_same w g 0 _ _ v0 h1
  have e1:=heap_setCell_same _ g 1 _ _ v1 e0
  have e2:=heap_setCell_same _ g 2 _ _ v2 e1
  have e3:=heap_setCell_same _ g 3 _ _ v3 e2
  have e4:=heap_setCell_same _ g 4 _ _ v4 e3
  have e5:=heap_setCell_same _ g 5 _ _ v5 e4
  have e6:=heap_setCell_same _ g 6 _ _ v6 e5
  have e7:=heap_setCell_same _ g 7 _ _ v7 e6
  rw [e7]
  simp
theorem put8_other {w:World} {g k:Nat} (v0 v1 v2 v3 v4 v5 v6 v7:Value) (h:k≠g):(put8 w g v0 v1 v2 v3 v4 v5 v6 v7).heap[k]? = w.heap[k]? := by
 unfold put8
 rw [heap_setCell_other _ _ _ _ h,heap_setCell_other _ _ _ _ h,heap_setCell_other _ _ _ _ h,heap_setCell_other _ _ _ _ h,heap_setCell_other _ _ _ _ h,heap_setCell_other _ _ _ _ h,heap_setCell_other _ _ _ _ h,heap_setCell_other _ _ _ _ h]
theorem put8_size (w:World) (g:Nat) (v0 v1 v2 v3 v4 v5 v6 v7:Value):(put8 w g v0 v1 v2 v3 v4 v5 v6 v7).heap.size=w.heap.size:=by simp [put8]
theorem results_item_tmp {fn:Func} {p u:Tmp} (h:fn.results = #[.cell p 74,.tmp u]) (tmps:Array Value) (w:World) (g:Nat) (v0 v1 v2 v3 v4 v5 v6 v7:Value) (hp:tmps.getD p undef=.pointer (some ⟨g,0,none⟩)) (hg:w.heap[g]? = some (.cells #[v0,v1,v2,v3,v4,v5,v6,v7] 74 (0,0))) :
  (results fn tmps).run Tryz.prog w=.ok (.tuple #[.agg #[v0,v1,v2,v3,v4,v5,v6,v7],tmps.getD u undef]) w:=by
 rw [results_cell_tmp h,hp]
 simp [asAddr,run_loadVar_row w g _ _ _ _ _ hg Tryz.underlying74 rfl info8,Result.andThen]
theorem ret_item {fn:Func} {R:Ending->World->Prop} {a:Act} {w:World} {p u:Tmp} (h:fn.results = #[.cell p 74,.tmp u]) (g:Nat) {v0 v1 v2 v3 v4 v5 v6 v7 r:Value} (hp:a.tmps.getD p undef=.pointer (some ⟨g,0,none⟩)) (hu:a.tmps.getD u undef=r) (hd:a.defers=[])
  (hg:w.heap[g]? = some (.cells #[v0,v1,v2,v3,v4,v5,v6,v7] 74 (0,0))) (hR:R (.returned (.tuple #[.agg #[v0,v1,v2,v3,v4,v5,v6,v7],r])) w):bodyPost Tryz.prog fn R .ret a w :=
 bodyPost_ret (results_item_tmp h a.tmps w g v0 v1 v2 v3 v4 v5 v6 v7 hp hg) hd (by rw [hu]; exact hR)
theorem _root_.Go.Proofs.YtnhnpnafchkhiaaGreatDoor.Moved.on {w w6 w7:World} {F F':Nat->Prop} (h:Moved w w6 F F') (nz:Nat) (hz:w.heap.size<=nz) (os:w7.os=w6.os) (tape:w7.tape=w6.tape) (output:w7.output=w6.output) (size:w7.heap.size=w6.heap.size) (hs : ∀ k,k≠nz->w7.heap[k]? = w6.heap[k]?):Moved w w7 F F' :=
 ⟨os.trans h.os,tape.trans h.tape,output.trans h.output,by rw [size]; exact h.size,fun k hk hn=>(hs k (by omega)).trans (h.block k hk hn),h.sub⟩
theorem os_setCell_r (w:World) (a:Addr) (v:Value):(w.setCell a v).os=w.os:=rfl
theorem tape_setCell_r (w:World) (a:Addr) (v:Value):(w.setCell a v).tape=w.tape:=rfl
theorem output_setCell_r (w:World) (a:Addr) (v:Value):(w.setCell a v).output=w.output:=rfl
theorem put8_world (W:World) (nz:Nat) (v0 v1 v2 v3 v4 v5 v6 v7:Value):(put8 W nz v0 v1 v2 v3 v4 v5 v6 v7).os=W.os/\(put8 W nz v0 v1 v2 v3 v4 v5 v6 v7).tape=W.tape/\(put8 W nz v0 v1 v2 v3 v4 v5 v6 v7).output=W.output:=by
 simp only [put8,os_setCell_r,tape_setCell_r,output_setCell_r,and_self]
theorem put8_end {w W:World} {F F':Nat->Prop} {p:Nat} {s:St} (hq:Q W p F' s) (mvd:Moved w W F F') (nz:Nat) (hz:w.heap.size<=nz) (hn : ¬ F' nz) (v0 v1 v2 v3 v4 v5 v6 v7:Value) : ∃ F',Q (put8 W nz v0 v1 v2 v3 v4 v5 v6 v7) p F' s/\Moved w (put8 W nz v0 v1 v2 v3 v4 v5 v6 v7) F F':=by
 obtain ⟨h1,h2,h3⟩:=put8_world W nz v0 v1 v2 v3 v4 v5 v6 v7
 have h4:=put8_size W nz v0 v1 v2 v3 v4 v5 v6 v7
 have h5 : ∀ k,k≠nz->(put8 W nz v0 v1 v2 v3 v4 v5 v6 v7).heap[k]? = W.heap[k]? := fun k hk=>put8_other v0 v1 v2 v3 v4 v5 v6 v7 hk
 generalize put8 W nz v0 v1 v2 v3 v4 v5 v6 v7=X at *
 exact ⟨F',hq.same fun k hk=>h5 k (fun e=>hn (e ▸ hk)),mvd.on nz hz h1 h2 h3 h4 h5⟩
theorem map_set {w w':World} {p:Nat} {v:Value} {b:Nat} {s:St} {l:List It} (hq:QAt w p v b s) (out:OutAt w' b l) (gr:w.grownBy w' (some b)) :
  QAt w' p v b { s with out:=l }/\Moved w w' (foot p v b) (foot p v b):=by
 have h1:w'.heap[p]? = w.heap[p]? := gr.block p hq.lt (fun h=>hq.ne_map (by injection h with h; exact h.symm))
 refine ⟨⟨by rw [h1]; exact hq.blk,hq.rows.same fun g hg=>gr.block g (hq.rows.lt hg).2 (fun h=>hq.row_map (by rw [hg]; exact h)),out⟩,gr.os,gr.tape,gr.output,gr.size,fun k hk hn=>gr.block k hk (fun h=>hn (.inr (.inr (by injection h)))),fun k hk=>.inl hk⟩
theorem give_some {s:St} {x:It} {t:List It} (h:s.rdy=x::t):s.give=(x,true,{ s with rdy:=t,out:=ins x s.out }):=by unfold St.give; rw [h]
theorem give_none {s:St} (h:s.rdy=[]):s.give=(zeroIt,false,s):=by unfold St.give; rw [h]
theorem give_any (p:Nat) (F:Nat->Prop) (s:St) (w:World) (h:Q w p F s) (ok:s.Ok) :
  Calls Tryz.prog 144 #[.pointer (some ⟨p,0,none⟩)] w fun e w'=>e=.returned (.tuple #[iv s.give.1,.bool s.give.2.1]) /\ ∃ F',Q w' p F' s.give.2.2/\Moved w w' F F':=by
 obtain ⟨W,hW⟩ : ∃ W,W=w.alloc (.cells #[.int .u64 0,.int .i64 0,.int .u64 0,.int .i64 0,.string ⟨#[]⟩,.string ⟨#[]⟩,.string ⟨#[]⟩,.bool false] 74):=⟨_,rfl⟩
 have bel0:Below w.heap.size w W:=by rw [hW]; exact (Below.refl _ _).alloc (yyH _) _
 have z0:ItAt W w.heap.size 0 zeroIt:=by rw [hW]; exact itAt_new w zeroIt _ rfl
 have soft0:Soft W w.heap.size:=⟨_,by rw [hW]; exact heap_alloc_new w _,rfl⟩
 have h0:=h.kept bel0
 have hM:=made_any p F s _ h0 ok.m1
 obtain ⟨v,b,hq,hF⟩:=h
 obtain ⟨⟨c0,c1,c2,c3⟩,f0,f1,f2,f3⟩:=cells4 (hq.after bel0).blk
 have HW:Hid (W=w.alloc (.cells #[.int .u64 0,.int .i64 0,.int .u64 0,.int .i64 0,.string ⟨#[]⟩,.string ⟨#[]⟩,.string ⟨#[]⟩,.bool false] 74)):=hW
 cases hr:s.rdy with
 |nil =>
  rw [give_none hr]
  have hrow:=hq.rows
  rw [hr] at hrow
  obtain ⟨va,vc,hv⟩:=hrow.rng.slice
  subst hv
  obtain ⟨y0,y1,y2,y3,y4,y5,y6,y7⟩:=z0
  have s0:=soft0.frozen
  simp only [List.length_nil] at c2
  go_enter Tryz.func144,Tryz.ntmps144
  go_wp2_with fail
  rw [<- HW.out]
  clear hW
  refine hM.mono ?_
  rintro e W ⟨rfl,rfl⟩
  go_wp2
  have hz:=put8_at soft0 (.int .u64 0) (.int .i64 0) (.int .u64 0) (.int .i64 0) (.string ⟨#[]⟩) (.string ⟨#[]⟩) (.string ⟨#[]⟩) (.bool false)
  refine ret_item (p:=2) (u:=3) (r:=.bool false) rfl w.heap.size rfl rfl rfl hz ?_
  exact ⟨rfl,put8_end h0 (.of_below bel0) w.heap.size (yyH _) (fun hk=>Nat.lt_irrefl _ (hq.lts _ ((hF _).1 hk))) _ _ _ _ _ _ _ _⟩
 |cons x t =>
  rw [give_some hr]
  obtain ⟨W2,hW2⟩ : ∃ W2,W2=W.alloc (.cells #[.int .u64 (x.tag:Int),.int .i64 x.m.o,.int .u64 x.m.s,.int .i64 x.m.hop,.string x.m.ex,.string x.m.key,.string x.m.body,.bool x.again] 74):=⟨_,rfl⟩
  have bel1:Below W.heap.size W W2:=by rw [hW2]; exact (Below.refl _ _).alloc (yyH _) _
  have bel2:Below w.heap.size w W2:=bel0.trans (bel1.mono bel0.size)
  have hsz:W.heap.size=w.heap.size+1:=by rw [hW]; simp
  have i2:ItAt W2 (w.heap.size+1) 0 x:=by rw [hW2]; exact itAt_new W x _ hsz.symm
  have soft2:Soft W2 w.heap.size:=soft0.same (bel1.block _ (by rw [hW]; simp))
  have hrow:=(hq.after bel2).rows
  rw [hr] at hrow
  have hD:=delete_any 0 v x t W2 hrow
  have hrow0:=(hq.after bel0).rows
  rw [hr] at hrow0
  obtain ⟨va,vc,hv⟩:=hrow0.rng.slice
  subst hv
  obtain ⟨_,_,hA⟩:=hrow0.rng.items
  obtain ⟨g,off,rfl,hi⟩:=hA 0 (by simp)
  rw [Nat.zero_mul,Nat.add_zero] at hi
  obtain ⟨y0,y1,y2,y3,y4,y5,y6,y7⟩:=hi
  simp only [List.getElem_cons_zero] at y0 y1 y2 y3 y4 y5 y6 y7
  simp only [List.length_cons] at c2 hD
  obtain ⟨⟨d0,d1,d2,d3⟩,e0,e1,e2,e3⟩:=cells4 (hq.after bel2).blk
  have HQ:Hid (QAt w p (.slice (some ⟨g,off,none⟩) (t.length+1) vc) b s):=hq
  have HI:Hid (ItAt W2 (w.heap.size+1) 0 x/\Soft W2 w.heap.size/\W2.heap.size=w.heap.size+2):=⟨i2,soft2,by rw [hW2]; simp [hsz]⟩
  have HW2:Hid (W2=W.alloc (.cells #[.int .u64 (x.tag:Int),.int .i64 x.m.o,.int .u64 x.m.s,.int .i64 x.m.hop,.string x.m.ex,.string x.m.key,.string x.m.body,.bool x.again] 74)):=hW2
  have hx:x∈s.rdy:=by rw [hr]; simp
  have HX:Hid (hasT s.out x.tag=false/\x.tag<18446744073709551616):=⟨hasT_false.2 fun y hy=>(ok.ap x hx y hy).symm,by have:=ok.ur x hx; have:=ok.n; omega⟩
  have hln:t.length<=1000000:=by have:=ok.room; have:=ok.m; rw [hr] at *; simp at *; omega
  have HO:Hid (s.out.length<=1000000):=by have h1:=ok.room; have h2:=ok.m; exact (by omega:s.out.length<=1000000)
  have c2' : ∀ o,(W.alloc o).cell? ⟨p,2,none⟩=some (.slice (some ⟨g,off,none⟩) (t.length+1) vc):=fun o=>cell_alloc_r o c2
  clear hq i2 soft2 hrow hrow0 hA hx z0 hr
  go_enter Tryz.func144,Tryz.ntmps144
  go_wp2_with fail
  rw [<- HW.out]
  clear hW
  refine hM.mono ?_
  rintro e W ⟨rfl,rfl⟩
  go_wp2_with fail
  rw [<- HW2.out]
  clear hW2
  refine hD.mono ?_
  rintro e w3 ⟨v',rfl,own3,gr3,ob3⟩
  have hp3:w3.heap[p]? = W2.heap[p]? := gr3.block p (Nat.lt_of_lt_of_le HQ.out.lt bel2.size) (fun h=>HQ.out.ne_row h.symm)
  obtain ⟨⟨k0,k1,k2,k3⟩,l0,l1,l2,l3⟩:=cells4 (hp3.trans (HQ.out.after bel2).blk)
  obtain ⟨q4,m4⟩:=row_set HQ.out bel2 own3 gr3 (.inl ob3)
  obtain ⟨va',vc',hv'⟩:=own3.rng.slice
  subst hv'
  have hgw:g<w.heap.size:=(HQ.out.rows.lt (g:=g) rfl).2
  have blk3 : ∀ k,w.heap.size<=k->k<w.heap.size+2->(w3.setCell ⟨p,2,none⟩ (.slice va' t.length vc')).heap[k]? = W2.heap[k]? := fun k h1 h2=>by
   rw [heap_setCell_other _ _ _ _ (by have:=HQ.out.lt; show k≠p; omega)]
   exact gr3.block k (by rw [HI.out.2.2]; exact h2) (fun h=>by have h':k=g:=Option.some.inj h; omega)
  have i4:=HI.out.1.same (blk3 (w.heap.size+1) (by omega) (by omega))
  have soft4:=HI.out.2.1.same (blk3 w.heap.size (yyH _) (by omega))
  generalize hw4:w3.setCell ⟨p,2,none⟩ (.slice va' t.length vc')=w4 at q4 m4 i4 soft4
  have HW4:Hid (w3.setCell ⟨p,2,none⟩ (.slice va' t.length vc')=w4):=hw4
  have out4:OutAt w4.drew b s.out:=q4.out
  obtain ⟨w5,hst,out5,gr5⟩:=out4.store ok.o x HX.out.1 HX.out.2 HO.out
  obtain ⟨q5,m5⟩:=map_set (w:=w4) q4 out5 ⟨gr5.os,gr5.tape,gr5.output,gr5.size,gr5.block⟩
  obtain ⟨⟨n0,n1,n2,n3⟩,o0,o1,o2,o3⟩:=cells4 q4.blk
  have hb4:b<w4.heap.size:=q4.out.lt
  have hbw:b<w.heap.size:=HQ.out.out.lt
  have i5:ItAt w5 (w.heap.size+1) 0 x:=i4.same (gr5.block (w.heap.size+1) (World.block_lt_of_cell? _ _ i4.c0) (fun h=>by injection h with h; omega))
  have soft5:Soft w5 w.heap.size:=soft4.same (gr5.block w.heap.size (by obtain ⟨cs,h1,_⟩:=soft4; exact (yyD h1).1) (fun h=>by injection h with h; omega))
  have HE:Hid (∃ F',Q (put8 w5 w.heap.size (.int .u64 (x.tag:Int)) (.int .i64 x.m.o) (.int .u64 x.m.s) (.int .i64 x.m.hop) (.string x.m.ex) (.string x.m.key) (.string x.m.body) (.bool x.again)) p F' { s with rdy:=t,out:=ins x s.out }/\Moved w (put8 w5 w.heap.size (.int .u64 (x.tag:Int)) (.int .i64 x.m.o) (.int .u64 x.m.s) (.int .i64 x.m.hop) (.string x.m.ex) (.string x.m.key) (.string x.m.body) (.bool x.again)) F F'):=by
   refine put8_end (F':=foot p (.slice va' t.length vc') b) ⟨_,_,q5,fun _=>Iff.rfl⟩ ((m4.trans m5).to hF) w.heap.size (yyH _) ?_ _ _ _ _ _ _ _ _
   rintro (h | h | h)
   ·have:=HQ.out.lt; omega
   ·rw [ob3] at h; injection h with h; simp at h; omega
   ·omega
  have hz:=put8_at soft5 (.int .u64 (x.tag:Int)) (.int .i64 x.m.o) (.int .u64 x.m.s) (.int .i64 x.m.hop) (.string x.m.ex) (.string x.m.key) (.string x.m.body) (.bool x.again)
  have HZ:Hid _:=hz
  have s5:=soft5.frozen
  obtain ⟨a0,a1,a2,a3,a4,a5,a6,a7⟩:=i4
  obtain ⟨b0,b1,b2,b3,b4,b5,b6,b7⟩:=i5
  simp only [Nat.zero_add] at a0 a1 a2 a3 a4 a5 a6 a7 b0 b1 b2 b3 b4 b5 b6 b7
  obtain ⟨t0,u0⟩:=soft5.cell 0 (by decide)
  obtain ⟨t1,u1⟩:=soft5.cell 1 (by decide)
  obtain ⟨t2,u2⟩:=soft5.cell 2 (by decide)
  obtain ⟨t3,u3⟩:=soft5.cell 3 (by decide)
  obtain ⟨t4,u4⟩:=soft5.cell 4 (by decide)
  obtain ⟨t5,u5⟩:=soft5.cell 5 (by decide)
  obtain ⟨t6,u6⟩:=soft5.cell 6 (by decide)
  obtain ⟨t7,u7⟩:=soft5.cell 7 (by decide)
  clear hz soft5 soft4 hD hM q4 q5 m4 m5 out4 out5 gr5 own3 gr3 hw4 blk3
  go_wp2
  rw [HW4.out]
  go_region
  all_goals go_wp2
  all_goals (refine ret_item (p:=2) (u:=3) (r:=.bool true) rfl w.heap.size rfl rfl rfl HZ.out ?_)
  all_goals exact ⟨rfl,HE.out⟩
theorem OutAt.look {w:World} {b:Nat} {l:List It} (h:OutAt w b l) {t:Nat} (ht:t<18446744073709551616) :
  (Instr.lookup 160 (.map (some b)) (.int .u64 (t:Int)) true).run Tryz.prog w=.ok (.tuple #[iv ((findT l t).getD zeroIt),.bool (findT l t).isSome]) w:=by
 obtain ⟨v,ps,h1,h2⟩:=World.ownsMap.look_ok h keyed Tryz.underlying160 (Tryz.zeroValue74 w) (zd:=.held zeroIt) (zp:=[]) (rdIt_iv zeroIt) (keyOf_tag ht)
 rw [atKey_Dof] at h2
 obtain ⟨x,rfl,hx⟩:=rdIt_inv h2
 rw [h1,has_Dof]
 have hh:hasT l t=(findT l t).isSome:=by
  cases hf:findT l t with
  |none=>exact findT_none hf
  |some y=>exact hasT_findT hf
 have hv:x=(findT l t).getD zeroIt:=by
  cases hf:findT l t with
  |none=>rw [hf] at hx; simp at hx; exact hx.1.symm
  |some y=>rw [hf] at hx; simp at hx; exact hx.1.symm
 rw [hh,hv]
theorem wpList_lookup_run {P:Program} (w:World) {ops:Array Oper} {rest:List Oper} {o:Oper} {a:Act} {Q:Exit->Act->World->Prop} (hg:o.guard=none) (m x:Operand) (t:TypeId) (hop:o.op=Op.lookup t m x true)
  (M key v:Value) (hm:a.eval m=M) (hx:a.eval x=key) (hrun:(Instr.lookup t M key true).run P w=.ok v w) (hK:wpList P ops Q rest (a.put o.dst v) w):wpList P ops Q (o::rest) a w:=by
 refine wpList_plain hg fun K' hK'=>?_
 unfold Oper.wp
 simp [execOp,hop,hm,hx,hrun,Result.andThen]
 exact hK' _ _ hK
theorem done_none {s:St} {t:Nat} (h:findT s.out t=none):s.done t=(10,s):=by unfold St.done; rw [h]
theorem done_some {s:St} {t:Nat} {x:It} (h:findT s.out t=some x):s.done t=(0,{ s with out:=dropT s.out t }):=by unfold St.done; rw [h]
theorem take_any (p:Nat) (F:Nat->Prop) (s:St) (t:Nat) (w:World) (h:Q w p F s) (ok:s.Ok) (ht:t<18446744073709551616) :
  Calls Tryz.prog 188 #[.pointer (some ⟨p,0,none⟩),.int .u64 (t:Int)] w fun e w'=>e=.returned (.tuple #[iv ((findT s.out t).getD zeroIt),.int .i64 (s.done t).1]) /\ ∃ F',Q w' p F' (s.done t).2/\Moved w w' F F':=by
 obtain ⟨W,hW⟩ : ∃ W,W=w.alloc (.cells #[.int .u64 0,.int .i64 0,.int .u64 0,.int .i64 0,.string ⟨#[]⟩,.string ⟨#[]⟩,.string ⟨#[]⟩,.bool false] 74):=⟨_,rfl⟩
 have bel0:Below w.heap.size w W:=by rw [hW]; exact (Below.refl _ _).alloc (yyH _) _
 have soft0:Soft W w.heap.size:=⟨_,by rw [hW]; exact heap_alloc_new w _,rfl⟩
 have hsz:W.heap.size=w.heap.size+1:=by rw [hW]; simp
 have h0:=h.kept bel0
 have hM:=made_any p F s _ h0 ok.m1
 obtain ⟨v,b,hq,hF⟩:=h
 obtain ⟨⟨c0,c1,c2,c3⟩,f0,f1,f2,f3⟩:=cells4 (hq.after bel0).blk
 have HW:Hid (W=w.alloc (.cells #[.int .u64 0,.int .i64 0,.int .u64 0,.int .i64 0,.string ⟨#[]⟩,.string ⟨#[]⟩,.string ⟨#[]⟩,.bool false] 74)):=hW
 have hlk:=(hq.after bel0).out.look ht
 obtain ⟨x,hx⟩ : ∃ x,x=(findT s.out t).getD zeroIt:=⟨_,rfl⟩
 rw [<- hx] at hlk ⊢
 obtain ⟨W2,hW2⟩ : ∃ W2,W2=W.alloc (.cells #[.int .u64 (x.tag:Int),.int .i64 x.m.o,.int .u64 x.m.s,.int .i64 x.m.hop,.string x.m.ex,.string x.m.key,.string x.m.body,.bool x.again] 74):=⟨_,rfl⟩
 have bel1:Below W.heap.size W W2:=by rw [hW2]; exact (Below.refl _ _).alloc (yyH _) _
 have bel2:Below w.heap.size w W2:=bel0.trans (bel1.mono bel0.size)
 have i2:ItAt W2 (w.heap.size+1) 0 x:=by rw [hW2]; exact itAt_new W x _ hsz.symm
 have soft2:Soft W2 w.heap.size:=soft0.same (bel1.block _ (by omega))
 have HW2:Hid (W2=W.alloc (.cells #[.int .u64 (x.tag:Int),.int .i64 x.m.o,.int .u64 x.m.s,.int .i64 x.m.hop,.string x.m.ex,.string x.m.key,.string x.m.body,.bool x.again] 74)):=hW2
 obtain ⟨⟨d0,d1,d2,d3⟩,e0,e1,e2,e3⟩:=cells4 (hq.after bel2).blk
 have fold2:=hW2.symm
 have s2:=soft2.frozen
 obtain ⟨t0,u0⟩:=soft2.cell 0 (by decide)
 obtain ⟨t1,u1⟩:=soft2.cell 1 (by decide)
 obtain ⟨t2,u2⟩:=soft2.cell 2 (by decide)
 obtain ⟨t3,u3⟩:=soft2.cell 3 (by decide)
 obtain ⟨t4,u4⟩:=soft2.cell 4 (by decide)
 obtain ⟨t5,u5⟩:=soft2.cell 5 (by decide)
 obtain ⟨t6,u6⟩:=soft2.cell 6 (by decide)
 obtain ⟨t7,u7⟩:=soft2.cell 7 (by decide)
 clear hW2
 cases hf:findT s.out t with
 |none =>
  rw [done_none hf]
  rw [hf] at hlk hx
  have hxz:x=zeroIt:=hx
  simp only [Option.isSome_none] at hlk
  have HZ:Hid _:=put8_at soft2 (.int .u64 0) (.int .i64 0) (.int .u64 0) (.int .i64 0) (.string ⟨#[]⟩) (.string ⟨#[]⟩) (.string ⟨#[]⟩) (.bool false)
  have HE:Hid _:=put8_end (Q.kept ⟨v,b,hq,hF⟩ bel2) (Moved.of_below (F:=F) bel2) w.heap.size (yyH _) (fun hk=>Nat.lt_irrefl _ (hq.lts _ ((hF _).1 hk))) (.int .u64 0) (.int .i64 0) (.int .u64 0) (.int .i64 0) (.string ⟨#[]⟩) (.string ⟨#[]⟩) (.string ⟨#[]⟩) (.bool false)
  have HR:Hid (x=zeroIt):=hxz
  clear hx hxz hf hq soft2 soft0 i2
  go_enter Tryz.func188,Tryz.ntmps188
  go_wp2_with fail
  rw [<- HW.out]
  clear hW
  refine hM.mono ?_
  rintro e W ⟨rfl,rfl⟩
  have HL:Hid _:=hlk
  clear hlk
  go_wp2_with (at_lookup; refine wpList_lookup_run _ rfl _ _ _ rfl _ _ _ rfl rfl HL.out ?_)
  refine ret_item (p:=4) (u:=5) (r:=.int .i64 10) rfl w.heap.size rfl rfl rfl HZ.out ?_
  exact ⟨by rw [HR.out]; rfl,HE.out⟩
 |some y =>
  rw [done_some hf]
  rw [hf] at hlk hx
  have hxz:x=y:=hx
  simp only [Option.isSome_some] at hlk
  have HQ:Hid (QAt w p v b s):=hq
  have HK:Hid (∀ w5,w5.ownsMap Tryz.prog 32 rdIt b s.out.length ((Dof s.out).del (.int .u64 (t:Int)))->W2.mapTurned w5 b->ItAt w5 (w.heap.size+1) 0 x/\Soft w5 w.heap.size /\ ∀ v0 v1 v2 v3 v4 v5 v6 v7,∃ F',Q (put8 w5 w.heap.size v0 v1 v2 v3 v4 v5 v6 v7) p F' { s with out:=dropT s.out t }/\Moved w (put8 w5 w.heap.size v0 v1 v2 v3 v4 v5 v6 v7) F F'):=fun w5 own turn=>by
   have hbw:b<w.heap.size:=HQ.out.out.lt
   have gr:=turn.grown
   rw [del_Dof] at own
   obtain ⟨q5,m5⟩:=map_set (HQ.out.after bel2) (ownsMap_fit own) gr
   refine ⟨i2.same (gr.block _ (World.block_lt_of_cell? _ _ i2.c0) (fun h=>by injection h with h; omega)),soft2.same (gr.block _ (by obtain ⟨cs,h1,_⟩:=soft2; exact (yyD h1).1) (fun h=>by injection h with h; omega)),fun v0 v1 v2 v3 v4 v5 v6 v7=>?_⟩
   refine put8_end (F':=foot p v b) ⟨_,_,q5,fun _=>Iff.rfl⟩ (((Moved.of_below bel2).trans m5).to hF) w.heap.size (yyH _) (fun hk=>Nat.lt_irrefl _ (HQ.out.lts _ hk)) v0 v1 v2 v3 v4 v5 v6 v7
  have hown2:W2.ownsMap Tryz.prog 32 rdIt b s.out.length (Dof s.out):=(hq.after bel2).out
  have HO:Hid _:=hown2
  clear hx hxz hf hq soft2 soft0 i2 u0 u1 u2 u3 u4 u5 u6 u7 s2 hown2
  go_enter Tryz.func188,Tryz.ntmps188
  go_wp2_with fail
  rw [<- HW.out]
  clear hW
  refine hM.mono ?_
  rintro e W ⟨rfl,rfl⟩
  have HL:Hid _:=hlk
  clear hlk
  go_wp2_with (first
   |(at_lookup; refine wpList_lookup_run _ rfl _ _ _ rfl _ _ _ rfl rfl HL.out ?_)
   |(at_delete; refine wpList_delete_own _ rfl _ _ 160 32 rfl 74 keyed Tryz.underlying160 rdIt b s.out.length (Dof s.out) rfl HO.out _ _ rfl (keyOf_tag ht) ?_; intro w5 own5 turn5; obtain ⟨i5,soft5,end5⟩:=HK.out w5 own5 turn5; have HE:Hid _:=end5 (.int .u64 (x.tag:Int)) (.int .i64 x.m.o) (.int .u64 x.m.s) (.int .i64 x.m.hop) (.string x.m.ex) (.string x.m.key) (.string x.m.body) (.bool x.again); have HZ:Hid _:=put8_at soft5 (.int .u64 (x.tag:Int)) (.int .i64 x.m.o) (.int .u64 x.m.s) (.int .i64 x.m.hop) (.string x.m.ex) (.string x.m.key) (.string x.m.body) (.bool x.again)
     obtain ⟨b0,b1,b2,b3,b4,b5,b6,b7⟩:=i5
     simp only [Nat.zero_add] at b0 b1 b2 b3 b4 b5 b6 b7
     have s5:=soft5.frozen
     obtain ⟨t0,u0⟩:=soft5.cell 0 (by decide)
     obtain ⟨t1,u1⟩:=soft5.cell 1 (by decide)
     obtain ⟨t2,u2⟩:=soft5.cell 2 (by decide)
     obtain ⟨t3,u3⟩:=soft5.cell 3 (by decide)
     obtain ⟨t4,u4⟩:=soft5.cell 4 (by decide)
     obtain ⟨t5,u5⟩:=soft5.cell 5 (by decide)
     obtain ⟨t6,u6⟩:=soft5.cell 6 (by decide)
     obtain ⟨t7,u7⟩:=soft5.cell 7 (by decide)
     clear own5 turn5 end5 soft5))
  refine ret_item (p:=4) (u:=5) (r:=.int .i64 0) rfl w.heap.size rfl rfl rfl HZ.out ?_
  exact ⟨rfl,HE.out⟩
theorem moved_below {w w1 w2:World} {p:Nat} {F:Nat->Prop} {s:St} (h : ∃ F',Q w1 p F' s/\Moved w w1 F F') (hb:Below w1.heap.size w1 w2) : ∃ F',Q w2 p F' s/\Moved w w2 F F':=by
 obtain ⟨F',hq,hm⟩:=h
 exact ⟨F',hq.kept hb,hm.trans (.of_below hb)⟩
theorem below_alloc (w:World) (o:Obj):Below w.heap.size w (w.alloc o):=(Below.refl _ _).alloc (yyH _) o
theorem done_any (p:Nat) (F:Nat->Prop) (s:St) (t:Nat) (w:World) (h:Q w p F s) (ok:s.Ok) (ht:t<18446744073709551616) :
  Calls Tryz.prog 145 #[.pointer (some ⟨p,0,none⟩),.int .u64 (t:Int)] w fun e w'=>e=.returned (.int .i64 (s.done t).1) /\ ∃ F',Q w' p F' (s.done t).2/\Moved w w' F F':=by
 have hT:=take_any p F s t w h ok ht
 generalize (findT s.out t).getD zeroIt=x at hT
 generalize s.done t=r at hT ⊢
 go_enter Tryz.func145,Tryz.ntmps145
 go_wp2_with fail
 refine hT.mono ?_
 rintro e w1 ⟨rfl,hq⟩
 go_wp2
 go_ret
 exact ⟨rfl,moved_below hq (below_alloc _ _)⟩
end Go.Proofs.YtnhnpnafchkhiaaGreatDoor.F
