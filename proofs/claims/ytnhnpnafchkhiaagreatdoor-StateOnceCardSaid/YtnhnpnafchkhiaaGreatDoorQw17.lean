import Derived.Test.YtnhnpnafchkhiaaGreatDoorQwA
import Derived.Test.YtnhnpnafchkhiaaGreatDoorQw16
import Derived.Deep.CutRange
import Derived.Maps.RangeWalk
import Derived.Laws.IdiomRangeMap
set_option maxHeartbeats 4000000
set_option maxRecDepth 100000
namespace Go.Proofs.YtnhnpnafchkhiaaGreatDoor.K
end Go.Proofs.YtnhnpnafchkhiaaGreatDoor.K
namespace Go.Proofs.YtnhnpnafchkhiaaGreatDoor.B
open Go.Proofs.YtnhnpnafchkhiaaGreatDoor.K
open Go.RowKit Go.Sort Go.Maps
theorem cell_allocK {w:World} {a:Addr} {v:Value} (o:Obj) (h:w.cell? a=some v):(w.alloc o).cell? a=some v:=by
 rw [World.cell?_alloc_old _ _ _ (Nat.ne_of_lt (World.block_lt_of_cell? _ _ h))]; exact h
theorem XAt.storeNew {w:World} {b:Nat} {l:List Ex} (h:XAt w b l) (hl:XL l) (x:Ex) (hx:x.name.size<=maxLen) (hn : ∀ y∈l,y.name≠x.name) (hl':XL (insC cmpX x l)) (hlen:l.length<=1000000) :
  ∃ w',(Instr.mapUpdate 124 (.map (some b)) (.string x.name) (xv x)).run Tryz.prog w=.ok () w'/\XAt w' b (insC cmpX x l)/\w.grownBy w' (some b):=by
 obtain ⟨w',h1,h2,h3⟩:=World.ownsMap.update h xKeyed Tryz.underlying124 (by unfold maxLen; omega) (keyOf_str hx) (rdEx_xv x)
 refine ⟨w',h1,?_,h3⟩
 have e:(DofG xkl xd l).put (.string x.name.data.toList) (.held x)=DofG xkl xd (x::l):=put_new xKeyed.one hl.keys hl.diff (x:=x) ⟨_,keyOf_str hx⟩ (fun y hy e=>hn y hy (str_inj e))
 rw [e] at h2
 exact XAt.perm h2 hl' (insC_perm x l).symm
theorem XAt.storeOld {w:World} {b:Nat} {l:List Ex} (h:XAt w b l) (hl:XL l) (x:Ex) (hx:x∈l) (hlen:l.length<=1000000) :
  ∃ w',(Instr.mapUpdate 124 (.map (some b)) (.string x.name) (xv x)).run Tryz.prog w=.ok () w'/\XAt w' b l/\w.grownBy w' (some b):=by
 obtain ⟨w',h1,h2,h3⟩:=World.ownsMap.update h xKeyed Tryz.underlying124 (by unfold maxLen; omega) (keyOf_str (hl.fit x hx)) (rdEx_xv x)
 refine ⟨w',h1,?_,h3⟩
 have e:(DofG xkl xd l).put (.string x.name.data.toList) (.held x)=DofG xkl xd l:=put_old xKeyed.one hl.keys hl.diff hx
 rw [e] at h2
 exact XAt.perm h2 hl (List.Perm.refl _)
theorem TAt.setX {w w':World} {p bx bb:Nat} {s:Tb} {l:List Ex} (h:TAt w p bx bb s) (hx:XAt w' bx l) (gr:w.grownBy w' (some bx)):TAt w' p bx bb { s with xs:=l } :=
 ⟨(gr.block p ((yyD h.blk).1) (fun e=>h.ne_x (by injection e with e; exact e.symm))).trans h.blk,hx,h.b.same (gr.block bb h.b.lt (fun e=>h.ne (by injection e with e; exact e.symm))),h.ne⟩
theorem moved_setX {w w':World} (p:Nat) {bx:Nat} (bb:Nat) (gr:w.grownBy w' (some bx)):Moved w w' (footT p bx bb) (footT p bx bb) :=
 ⟨gr.os,gr.tape,gr.output,gr.size,fun k hk hn=>gr.block k hk (fun e=>hn (by injection e with e; exact .inr (.inl e))),fun _ h=>.inl h⟩
def Tb.declare (s:Tb) (x:Ex):Int × Tb :=
 if goodX x=false then (2,s) else match findX s.xs x.name with
 |some y=>if y=x then (0,s) else (12,s)
 |none=>if 8<=s.xs.length then (5,s) else (0,{ s with xs:=insC cmpX x s.xs })
theorem mem_insC {α:Type} {c:α->α->Int} {x y:α} {l:List α}:y∈insC c x l↔y=x\/y∈l:=by rw [(insC_perm x l).mem_iff,List.mem_cons]
theorem insX_ord {s:Tb} (ok:s.Ok) {x:Ex} (hn : ∀ y∈s.xs,y.name≠x.name):Ord cmpX (insC cmpX x s.xs):=insC_ord cmpX3 ok.ox (fun y hy e=>hn y hy (cmpS_eq e))
theorem Tb.Ok.declare {s:Tb} (ok:s.Ok) (x:Ex):(s.declare x).2.Ok:=by
 unfold Tb.declare
 split
 ·exact ok
 ·rename_i hg
  split
  ·split <;> exact ok
  ·rename_i hf
   split
   ·exact ok
   ·rename_i hlen
    refine ⟨insX_ord ok (findX_none hf),ok.ob,fun y hy=>?_,ok.fit,fun b hb=>?_,?_,ok.nb⟩
    ·rcases mem_insC.1 hy with rfl | hy
     ·simpa using hg
     ·exact ok.good y hy
    ·obtain ⟨y,hy,e⟩:=ok.leads b hb
     exact ⟨y,mem_insC.2 (.inr hy),e⟩
    ·show (insC cmpX x s.xs).length<=8
     rw [(insC_perm x s.xs).length_eq]
     simp; omega
theorem declare_any (p:Nat) (F:Nat->Prop) (s:Tb) (x:Ex) (w:World) (h:T w p F s) (ok:s.Ok) (hs:x.name.size<=maxLen) :
  Calls Tryz.prog 133 #[.pointer (some ⟨p,0,none⟩),xv x] w fun e w'=>e=.returned (.int .i64 (s.declare x).1) /\ ∃ F',T w' p F' (s.declare x).2/\Moved w w' F F':=by
 obtain ⟨W,fold⟩ : ∃ W,w.alloc (.cells #[.string x.name,.int .i64 x.kind,.bool x.fed] 34)=W:=⟨_,rfl⟩
 have bW:Below w.heap.size w W:=by rw [<- fold]; exact (Below.refl _ _).alloc (yyH _) _
 have sW:W.heap.size=w.heap.size+1:=by rw [<- fold]; simp
 have x0:W.cell? ⟨w.heap.size,0,none⟩=some (.string x.name):=by rw [<- fold]; exact cell_of_list (C:=xcells x) (heap_alloc_new w _) 0
 have x1:W.cell? ⟨w.heap.size,1,none⟩=some (.int .i64 x.kind):=by rw [<- fold]; exact cell_of_list (C:=xcells x) (heap_alloc_new w _) 1
 have x2:W.cell? ⟨w.heap.size,2,none⟩=some (.bool x.fed):=by rw [<- fold]; exact cell_of_list (C:=xcells x) (heap_alloc_new w _) 2
 have hM:=made_any p F s W (h.kept bW)
 have hG:=good_any x W hs
 have hend:Hid (∀ w',Below w.heap.size w w' -> ∃ F',T w' p F' s/\Moved w w' F F'):=fun w' hb=>⟨F,h.kept hb,.of_below hb⟩
 cases hg:goodX x with
 |false =>
  have hd:s.declare x=(2,s):=by unfold Tb.declare; rw [if_pos hg]
  rw [hd]
  rw [hg] at hG
  go_enter Tryz.func133,Tryz.ntmps133
  go_wp2_with fail
  refine hM.mono ?_
  rintro e W ⟨rfl,rfl⟩
  go_wp2_with fail
  refine hG.mono ?_
  rintro e w2 ⟨rfl,b2⟩
  go_wp2
  go_ret
  exact ⟨rfl,hend.out _ (bW.trans (b2.mono (by omega)))⟩
 |true =>
  rw [hg] at hG
  go_enter Tryz.func133,Tryz.ntmps133
  go_wp2_with fail
  refine hM.mono ?_
  rintro e W ⟨rfl,rfl⟩
  go_wp2_with fail
  refine hG.mono ?_
  rintro e w2 ⟨rfl,b2⟩
  have b02:Below w.heap.size w w2:=bW.trans (b2.mono (by omega))
  obtain ⟨bx,bb,hq,hF⟩:=h.kept b02
  obtain ⟨c0,c1⟩:=cells2 hq.blk
  have hw:w.heap.size<W.heap.size:=by omega
  have y0:=(b2.cell (p:=⟨w.heap.size,0,none⟩) hw).trans x0
  have y1:=(b2.cell (p:=⟨w.heap.size,1,none⟩) hw).trans x1
  have y2:=(b2.cell (p:=⟨w.heap.size,2,none⟩) hw).trans x2
  have HQ:Hid (TAt w2 p bx bb s):=hq
  have k1:=hq.x.look ok.xl hs
  have kl : ∀ W',W'.heap[bx]? = w2.heap[bx]? -> (Instr.lookup 124 (.map (some bx)) (.string x.name) true).run Tryz.prog W'=.ok (.tuple #[xv ((findX s.xs x.name).getD zeroEx),.bool (findX s.xs x.name).isSome]) W':=fun W' e=>(hq.x.same e).look ok.xl hs
  have la:=kl w2.drew rfl
  have lb : ∀ o,(Instr.lookup 124 (.map (some bx)) (.string x.name) true).run Tryz.prog ((w2.alloc o).drew)=_:=fun o=>kl ((w2.alloc o).drew) (Below.heap_alloc w2 _ _ hq.x.lt)
  have hlen:s.xs.length<=1000000:=by have:=ok.nx; omega
  have HB02:Hid (Below w.heap.size w w2):=b02
  have HF:Hid (∀ k,F k↔footT p bx bb k):=hF
  have HG:Hid (goodX x=true):=hg
  obtain ⟨yy,hyy⟩ : ∃ yy,(findX s.xs x.name).getD zeroEx=yy:=⟨_,rfl⟩
  obtain ⟨rr,hrr⟩ : ∃ rr,(findX s.xs x.name).isSome=rr:=⟨_,rfl⟩
  rw [hyy,hrr] at la
  simp only [hyy,hrr] at lb
  have HYY:Hid ((findX s.xs x.name).getD zeroEx=yy/\(findX s.xs x.name).isSome=rr):=⟨hyy,hrr⟩
  have HX0:Hid (w2.cell? ⟨w.heap.size,0,none⟩=some (.string x.name)/\w2.cell? ⟨w.heap.size,1,none⟩=some (.int .i64 x.kind)/\w2.cell? ⟨w.heap.size,2,none⟩=some (.bool x.fed)/\w.heap.size<w2.heap.size):=⟨y0,y1,y2,by have:=b2.size; omega⟩
  clear x0 x1 x2 hM hG kl k1 fold hg hq hF b02 hyy hrr
  have ya:=fun o=>cell_allocK o y0
  have ca:=fun o=>cell_allocK o c0
  go_wp2
  go_cut [5,6] from 7 to 47 (fun s5 s6 wx=>s5=.pointer (some ⟨w2.heap.size,0,none⟩)/\s6=.bool rr/\Below w2.heap.size w2 wx/\wx.heap[w2.heap.size]? = some (.cells (xcells yy).toArray 34 (0,0)))
  case first =>
   go_region
   all_goals go_wp2
   all_goals go_meet
   all_goals exact ⟨rfl,rfl,((Below.refl _ _).alloc (yyH _) _).drew,heap_alloc_new w2 _⟩
  case rest =>
   obtain ⟨rfl,rfl,b3,hz⟩:=hcut
   have z0:wc.cell? ⟨w2.heap.size,0,none⟩=some (.string yy.name):=cell_of_list hz 0
   have z1:wc.cell? ⟨w2.heap.size,1,none⟩=some (.int .i64 yy.kind):=cell_of_list hz 1
   have z2:wc.cell? ⟨w2.heap.size,2,none⟩=some (.bool yy.fed):=cell_of_list hz 2
   obtain ⟨v0,v1,v2,hw2⟩:=HX0.out
   have u0:=(b3.cell (p:=⟨w.heap.size,0,none⟩) hw2).trans v0
   have u1:=(b3.cell (p:=⟨w.heap.size,1,none⟩) hw2).trans v1
   have u2:=(b3.cell (p:=⟨w.heap.size,2,none⟩) hw2).trans v2
   have d0:=(b3.cell (p:=⟨p,0,none⟩) (yyD HQ.out.blk).1).trans c0
   have hq3:=HQ.out.same (w':=wc) fun k hk=>b3.block k (HQ.out.lts k hk)
   have HB3:Hid (Below w.heap.size w wc):=HB02.out.trans (b3.mono (by omega))
   have HQ3:Hid (TAt wc p bx bb s):=hq3
   have hl3:=hq3.x.len
   have HM4:Hid (∀ w4,wc.drew.grownBy w4 (some bx) -> ∀ l,XAt w4 bx l -> ∃ F',T w4 p F' { s with xs:=l }/\Moved w w4 F F'):=fun w4 gr4 l hx4=>by
    have b30:Moved w wc.drew F F:=.of_below HB3.out.drew
    have m4:Moved wc.drew w4 F (footT p bx bb):=(moved_setX p bb gr4).weak fun k hk=>(HF.out k).2 hk
    exact ⟨footT p bx bb,⟨bx,bb,(show TAt wc.drew p bx bb s from ⟨HQ3.out.blk,HQ3.out.x,HQ3.out.b,HQ3.out.ne⟩).setX hx4 gr4,fun _=>Iff.rfl⟩,b30.trans m4⟩
   clear la lb ya ca y0 y1 y2 v0 v1 v2 hz hq3 HX0 c0 c1 b3
   cases hf:findX s.xs x.name with
   |some y =>
    obtain ⟨rfl,rfl⟩:y=yy/\true=rr:=by have:=HYY.out; rw [hf] at this; exact this
    obtain ⟨hy,hyn⟩:=findX_some hf
    by_cases hyx:y=x
    ·subst hyx
     have hd:Hid (s.declare y=(0,s)):=by show s.declare y=(0,s); unfold Tb.declare; rw [if_neg (by rw [HG.out]; decide),hf]; simp
     obtain ⟨w4,hst,hx4,gr4⟩:=XAt.storeOld (w:=wc.drew) HQ3.out.x ok.xl y hy hlen
     have HE:Hid (∃ F',T w4 p F' s/\Moved w w4 F F'):=HM4.out w4 gr4 s.xs hx4
     clear hf hy hx4 gr4 hl3
     go_wp2
     go_region
     all_goals go_wp2
     all_goals go_ret
     all_goals (rw [hd.out]; exact ⟨rfl,HE.out⟩)
    ·have hd:Hid (s.declare x=(12,s)):=by show s.declare x=(12,s); unfold Tb.declare; rw [if_neg (by rw [HG.out]; decide),hf]; simp [hyx]
     have hdiff:y.kind=x.kind -> ¬ y.fed=x.fed:=fun h1 h2=>hyx (by cases y; cases x; simp only at h1 h2 hyn; rw [h1,h2,hyn])
     rw [hyn] at z0
     clear hf hy hyx hl3
     by_cases hkk:y.kind=x.kind
     ·have hff:=hdiff hkk
      rw [hkk] at z1
      clear hdiff hkk
      generalize y.fed=yf at z2 hff
      generalize x.fed=xf at u2 hff
      cases yf <;> cases xf <;> first | exact absurd rfl hff | skip
      all_goals clear hff
      all_goals go_wp2
      all_goals go_ret
      all_goals (rw [hd.out]; exact ⟨rfl,hend.out _ HB3.out⟩)
     ·clear hdiff
      go_wp2
      all_goals go_ret
      all_goals (rw [hd.out]; exact ⟨rfl,hend.out _ HB3.out⟩)
   |none =>
    obtain rfl:false=rr:=by have:=HYY.out.2; rw [hf] at this; exact this
    by_cases h8:8<=s.xs.length
    ·have hd:Hid (s.declare x=(5,s)):=by show s.declare x=(5,s); unfold Tb.declare; rw [if_neg (by rw [HG.out]; decide),hf]; simp [h8]
     have h8':(8:Int)<=(s.xs.length:Int):=by omega
     clear hf
     go_wp2
     go_ret
     rw [hd.out]; exact ⟨rfl,hend.out _ HB3.out⟩
    ·have hd:Hid (s.declare x=(0,{ s with xs:=insC cmpX x s.xs })):=by show s.declare x=_; unfold Tb.declare; rw [if_neg (by rw [HG.out]; decide),hf]; simp [h8]
     have okD:=ok.declare x
     rw [hd.out] at okD
     obtain ⟨w4,hst,hx4,gr4⟩:=XAt.storeNew (w:=wc.drew) HQ3.out.x ok.xl x hs (findX_none hf) okD.xl hlen
     have HE:Hid _:=HM4.out w4 gr4 _ hx4
     have h8' : ¬ (8:Int)<=(s.xs.length:Int):=by omega
     clear hf hx4 gr4 okD
     go_wp2
     go_region
     all_goals go_wp2
     all_goals go_ret
     all_goals (rw [hd.out]; exact ⟨rfl,HE.out⟩)
theorem BAt.storeNew {w:World} {b:Nat} {l:List Bd} (h:BAt w b l) (hl:BL l) (x:Bd) (hx:x.Fit) (hn:x∉l) (hl':BL (insC cmpB x l)) (hlen:l.length<=1000000) :
  ∃ w',(Instr.mapUpdate 125 (.map (some b)) (bv x) (.agg #[])).run Tryz.prog w=.ok () w'/\BAt w' b (insC cmpB x l)/\w.grownBy w' (some b):=by
 obtain ⟨w',h1,h2,h3⟩:=World.ownsMap.update h bKeyed Tryz.underlying125 (by unfold maxLen; omega) (keyOf_bd hx) unitElem_mk
 refine ⟨w',h1,?_,h3⟩
 have e:(DofG bkl bd l).put (bkl x) (.agg [])=DofG bkl bd (x::l):=put_new bKeyed.one hl.keys hl.diff (x:=x) ⟨_,keyOf_bd hx⟩ (fun y hy e=>hn (by rw [<- bkl_inj (hl.fit y hy) hx e]; exact hy))
 rw [e] at h2
 exact BAt.perm h2 hl' (insC_perm x l).symm
theorem BAt.storeOld {w:World} {b:Nat} {l:List Bd} (h:BAt w b l) (hl:BL l) (x:Bd) (hx:x∈l) (hlen:l.length<=1000000) :
  ∃ w',(Instr.mapUpdate 125 (.map (some b)) (bv x) (.agg #[])).run Tryz.prog w=.ok () w'/\BAt w' b l/\w.grownBy w' (some b):=by
 obtain ⟨w',h1,h2,h3⟩:=World.ownsMap.update h bKeyed Tryz.underlying125 (by unfold maxLen; omega) (keyOf_bd (hl.fit x hx)) unitElem_mk
 refine ⟨w',h1,?_,h3⟩
 have e:(DofG bkl bd l).put (bkl x) (.agg [])=DofG bkl bd l:=put_old bKeyed.one hl.keys hl.diff hx
 rw [e] at h2
 exact BAt.perm h2 hl (List.Perm.refl _)
theorem TAt.setB {w w':World} {p bx bb:Nat} {s:Tb} {l:List Bd} (h:TAt w p bx bb s) (hb:BAt w' bb l) (gr:w.grownBy w' (some bb)):TAt w' p bx bb { s with bs:=l } :=
 ⟨(gr.block p ((yyD h.blk).1) (fun e=>h.ne_b (by injection e with e; exact e.symm))).trans h.blk,h.x.same (gr.block bx h.x.lt (fun e=>h.ne (by injection e))),hb,h.ne⟩
theorem moved_setB {w w':World} (p:Nat) (bx:Nat) {bb:Nat} (gr:w.grownBy w' (some bb)):Moved w w' (footT p bx bb) (footT p bx bb) :=
 ⟨gr.os,gr.tape,gr.output,gr.size,fun k hk hn=>gr.block k hk (fun e=>hn (by injection e with e; exact .inr (.inr e))),fun _ h=>.inl h⟩
theorem has_any (p:Nat) (F:Nat->Prop) (s:Tb) (x:Bd) (w:World) (h:T w p F s) (ok:s.Ok) (hx:x.Fit) :
  Calls Tryz.prog 182 #[.pointer (some ⟨p,0,none⟩),bv x] w fun e w'=>e=.returned (.bool (decide (x∈s.bs)))/\Below w.heap.size w w':=by
 obtain ⟨bx,bb,hq,_⟩:=h
 obtain ⟨_,c1⟩:=cells2 hq.blk
 obtain ⟨W,fold⟩ : ∃ W,w.alloc (.cells #[.string x.ex,.string x.que,.string x.pat] 36)=W:=⟨_,rfl⟩
 have bW:Below w.heap.size w W:=by rw [<- fold]; exact (Below.refl _ _).alloc (yyH _) _
 have x0:W.cell? ⟨w.heap.size,0,none⟩=some (.string x.ex):=by rw [<- fold]; exact cell_of_list (C:=bcells x) (heap_alloc_new w _) 0
 have x1:W.cell? ⟨w.heap.size,1,none⟩=some (.string x.que):=by rw [<- fold]; exact cell_of_list (C:=bcells x) (heap_alloc_new w _) 1
 have x2:W.cell? ⟨w.heap.size,2,none⟩=some (.string x.pat):=by rw [<- fold]; exact cell_of_list (C:=bcells x) (heap_alloc_new w _) 2
 have c1':W.cell? ⟨p,1,none⟩=some (.map (some bb)):=(bW.cell (p:=⟨p,1,none⟩) (yyD hq.blk).1).trans c1
 have kl : ∀ W',W'.heap[bb]? = w.heap[bb]? -> (Instr.lookup 125 (.map (some bb)) (bv x) true).run Tryz.prog W'=.ok (.tuple #[.agg #[],.bool (decide (x∈s.bs))]) W':=fun W' e=>(hq.b.same e).look ok.bl hx
 have hbb:bb<w.heap.size:=hq.b.lt
 have la:=kl W.drew (bW.block bb hbb)
 have lb : ∀ o,(Instr.lookup 125 (.map (some bb)) (bv x) true).run Tryz.prog ((W.alloc o).drew)=_:=fun o=>kl ((W.alloc o).drew) ((Below.heap_alloc W _ _ (Nat.lt_of_lt_of_le hbb bW.size)).trans (bW.block bb hbb))
 have w0:=fun o=>cell_allocK o x0
 have w1:=fun o=>cell_allocK o x1
 have w2:=fun o=>cell_allocK o x2
 have w3:=fun o=>cell_allocK o c1'
 generalize decide (x∈s.bs)=r at *
 clear kl c1 hq
 go_enter Tryz.func182,Tryz.ntmps182
 go_wp2
 go_region
 all_goals go_wp2
 all_goals go_ret
 all_goals exact ⟨rfl,bW.trans ((((Below.refl _ _).alloc (yyH _) _).drew).mono bW.size)⟩
def Tb.bind (s:Tb) (b:Bd):Int × Tb :=
 if nameB (txt b.que)=false then (2,s) else match findX s.xs b.ex with
 |none=>(3,s)
 |some x=>if mayP x.kind b.pat=false then (2,s) else if b∈s.bs then (0,s) else if 32<=s.bs.length then (5,s) else (0,{ s with bs:=insC cmpB b s.bs })
theorem insB_ord {s:Tb} (ok:s.Ok) {b:Bd} (hn:b∉s.bs):Ord cmpB (insC cmpB b s.bs):=insC_ord cmpB3 ok.ob (fun y hy e=>hn (by rw [<- cmpB_eq e]; exact hy))
theorem Tb.Ok.bind {s:Tb} (ok:s.Ok) {b:Bd} (hb:b.Fit):(s.bind b).2.Ok:=by
 unfold Tb.bind
 split
 ·exact ok
 ·split
  ·exact ok
  ·rename_i x hf
   split
   ·exact ok
   ·split
    ·exact ok
    ·rename_i hn
     split
     ·exact ok
     ·obtain ⟨hx,hxn⟩:=findX_some hf
      refine ⟨ok.ox,insB_ord ok hn,ok.good,fun y hy=>?_,fun y hy=>?_,ok.nx,?_⟩
      ·rcases mem_insC.1 hy with rfl | hy
       ·exact hb
       ·exact ok.fit y hy
      ·rcases mem_insC.1 hy with rfl | hy
       ·exact ⟨x,hx,hxn⟩
       ·exact ok.leads y hy
      ·show (insC cmpB b s.bs).length<=32
       rw [(insC_perm b s.bs).length_eq]
       simp; omega
theorem bind_any (p:Nat) (F:Nat->Prop) (s:Tb) (x:Bd) (w:World) (h:T w p F s) (ok:s.Ok) (hx:x.Fit) :
  Calls Tryz.prog 135 #[.pointer (some ⟨p,0,none⟩),bv x] w fun e w'=>e=.returned (.int .i64 (s.bind x).1) /\ ∃ F',T w' p F' (s.bind x).2/\Moved w w' F F':=by
 obtain ⟨W,fold⟩ : ∃ W,w.alloc (.cells #[.string x.ex,.string x.que,.string x.pat] 36)=W:=⟨_,rfl⟩
 have bW:Below w.heap.size w W:=by rw [<- fold]; exact (Below.refl _ _).alloc (yyH _) _
 have sW:W.heap.size=w.heap.size+1:=by rw [<- fold]; simp
 have x0:W.cell? ⟨w.heap.size,0,none⟩=some (.string x.ex):=by rw [<- fold]; exact cell_of_list (C:=bcells x) (heap_alloc_new w _) 0
 have x1:W.cell? ⟨w.heap.size,1,none⟩=some (.string x.que):=by rw [<- fold]; exact cell_of_list (C:=bcells x) (heap_alloc_new w _) 1
 have x2:W.cell? ⟨w.heap.size,2,none⟩=some (.string x.pat):=by rw [<- fold]; exact cell_of_list (C:=bcells x) (heap_alloc_new w _) 2
 have hM:=made_any p F s W (h.kept bW)
 have hN:=name_any x.que W hx.2.1
 have hend:Hid (∀ w',Below w.heap.size w w' -> ∃ F',T w' p F' s/\Moved w w' F F'):=fun w' hb=>⟨F,h.kept hb,.of_below hb⟩
 cases hg:nameB (txt x.que) with
 |false =>
  have hd:s.bind x=(2,s):=by unfold Tb.bind; rw [if_pos hg]
  rw [hd]
  rw [hg] at hN
  go_enter Tryz.func135,Tryz.ntmps135
  go_wp2_with fail
  refine hM.mono ?_
  rintro e W ⟨rfl,rfl⟩
  go_wp2_with fail
  refine hN.mono ?_
  rintro e w2 ⟨rfl,b2⟩
  go_wp2
  go_ret
  exact ⟨rfl,hend.out _ (bW.trans (b2.mono (by omega)))⟩
 |true =>
  rw [hg] at hN
  go_enter Tryz.func135,Tryz.ntmps135
  go_wp2_with fail
  refine hM.mono ?_
  rintro e W ⟨rfl,rfl⟩
  go_wp2_with fail
  refine hN.mono ?_
  rintro e w2 ⟨rfl,b2⟩
  have b02:Below w.heap.size w w2:=bW.trans (b2.mono (by omega))
  obtain ⟨bx,bb,hq,hF⟩:=h.kept b02
  obtain ⟨c0,c1⟩:=cells2 hq.blk
  have hw:w.heap.size<W.heap.size:=by omega
  have y0:=(b2.cell (p:=⟨w.heap.size,0,none⟩) hw).trans x0
  have y1:=(b2.cell (p:=⟨w.heap.size,1,none⟩) hw).trans x1
  have y2:=(b2.cell (p:=⟨w.heap.size,2,none⟩) hw).trans x2
  have HQ:Hid (TAt w2 p bx bb s):=hq
  have kl : ∀ W',W'.heap[bx]? = w2.heap[bx]? -> (Instr.lookup 124 (.map (some bx)) (.string x.ex) true).run Tryz.prog W'=.ok (.tuple #[xv ((findX s.xs x.ex).getD zeroEx),.bool (findX s.xs x.ex).isSome]) W':=fun W' e=>(hq.x.same e).look ok.xl hx.1
  have la:=kl w2.drew rfl
  have lb : ∀ o,(Instr.lookup 124 (.map (some bx)) (.string x.ex) true).run Tryz.prog ((w2.alloc o).drew)=_:=fun o=>kl ((w2.alloc o).drew) (Below.heap_alloc w2 _ _ hq.x.lt)
  have hlen:s.bs.length<=1000000:=by have:=ok.nb; omega
  have HB02:Hid (Below w.heap.size w w2):=b02
  have HF:Hid (∀ k,F k↔footT p bx bb k):=hF
  have HG:Hid (nameB (txt x.que)=true):=hg
  obtain ⟨yy,hyy⟩ : ∃ yy,(findX s.xs x.ex).getD zeroEx=yy:=⟨_,rfl⟩
  obtain ⟨rr,hrr⟩ : ∃ rr,(findX s.xs x.ex).isSome=rr:=⟨_,rfl⟩
  rw [hyy,hrr] at la
  simp only [hyy,hrr] at lb
  have HYY:Hid ((findX s.xs x.ex).getD zeroEx=yy/\(findX s.xs x.ex).isSome=rr):=⟨hyy,hrr⟩
  have HX0:Hid (w2.cell? ⟨w.heap.size,0,none⟩=some (.string x.ex)/\w2.cell? ⟨w.heap.size,1,none⟩=some (.string x.que)/\w2.cell? ⟨w.heap.size,2,none⟩=some (.string x.pat)/\w.heap.size<w2.heap.size):=⟨y0,y1,y2,by have:=b2.size; omega⟩
  clear x0 x1 x2 hM hN kl fold hg hq hF b02 hyy hrr
  have ya:=fun o=>cell_allocK o y0
  have ca:=fun o=>cell_allocK o c0
  go_wp2
  go_cut [5,6] from 7 to 52 (fun s5 s6 wx=>s5=.pointer (some ⟨w2.heap.size,0,none⟩)/\s6=.bool rr/\Below w2.heap.size w2 wx/\wx.heap[w2.heap.size]? = some (.cells (xcells yy).toArray 34 (0,0)))
  case first =>
   go_region
   all_goals go_wp2
   all_goals go_meet
   all_goals exact ⟨rfl,rfl,((Below.refl _ _).alloc (yyH _) _).drew,heap_alloc_new w2 _⟩
  case rest =>
   obtain ⟨rfl,rfl,b3,hz⟩:=hcut
   have z1:wc.cell? ⟨w2.heap.size,1,none⟩=some (.int .i64 yy.kind):=cell_of_list hz 1
   obtain ⟨v0,v1,v2,hw2⟩:=HX0.out
   have u0:=(b3.cell (p:=⟨w.heap.size,0,none⟩) hw2).trans v0
   have u1:=(b3.cell (p:=⟨w.heap.size,1,none⟩) hw2).trans v1
   have u2:=(b3.cell (p:=⟨w.heap.size,2,none⟩) hw2).trans v2
   have HB3:Hid (Below w.heap.size w wc):=HB02.out.trans (b3.mono (by omega))
   have hwc:w.heap.size<wc.heap.size:=Nat.lt_of_lt_of_le hw2 b3.size
   clear la lb ya ca y0 y1 y2 v0 v1 v2 hz HX0 c0 c1 b3
   cases hf:findX s.xs x.ex with
   |none =>
    obtain rfl:false=rr:=by have:=HYY.out.2; rw [hf] at this; exact this
    have hd:Hid (s.bind x=(3,s)):=by show s.bind x=(3,s); unfold Tb.bind; rw [if_neg (by rw [HG.out]; decide),hf]
    clear hf
    go_wp2
    go_ret
    rw [hd.out]; exact ⟨rfl,hend.out _ HB3.out⟩
   |some y =>
    obtain ⟨rfl,rfl⟩:y=yy/\true=rr:=by have:=HYY.out; rw [hf] at this; exact this
    have hL:=leads_any y.kind x.pat wc hx.2.2
    cases hm:mayP y.kind x.pat with
    |false =>
     have hd:Hid (s.bind x=(2,s)):=by show s.bind x=(2,s); unfold Tb.bind; rw [if_neg (by rw [HG.out]; decide),hf]; simp [hm]
     rw [hm] at hL
     clear hf
     go_wp2_with fail
     refine hL.mono ?_
     rintro e w4 ⟨rfl,b4⟩
     go_wp2
     go_ret
     rw [hd.out]; exact ⟨rfl,hend.out _ (HB3.out.trans (b4.mono HB3.out.size))⟩
    |true =>
     rw [hm] at hL
     go_wp2_with fail
     refine hL.mono ?_
     rintro e w4 ⟨rfl,b4⟩
     have B4:Below w.heap.size w w4:=HB3.out.trans (b4.mono HB3.out.size)
     have hH:=has_any p F s x w4 (h.kept B4) ok hx
     have q0:=(b4.cell (p:=⟨w.heap.size,0,none⟩) hwc).trans u0
     have q1:=(b4.cell (p:=⟨w.heap.size,1,none⟩) hwc).trans u1
     have q2:=(b4.cell (p:=⟨w.heap.size,2,none⟩) hwc).trans u2
     clear u0 u1 u2 z1
     have hw4:w.heap.size<w4.heap.size:=Nat.lt_of_lt_of_le hwc b4.size
     by_cases hin:x∈s.bs
     ·have hd:Hid (s.bind x=(0,s)):=by show s.bind x=(0,s); unfold Tb.bind; rw [if_neg (by rw [HG.out]; decide),hf]; simp [hm,hin]
      rw [decide_eq_true hin] at hH
      clear hf hm
      go_wp2_with fail
      refine hH.mono ?_
      rintro e w5 ⟨rfl,b5⟩
      have B5:Below w.heap.size w w5:=B4.trans (b5.mono B4.size)
      have r0:=(b5.cell (p:=⟨w.heap.size,0,none⟩) hw4).trans q0
      have r1:=(b5.cell (p:=⟨w.heap.size,1,none⟩) hw4).trans q1
      have r2:=(b5.cell (p:=⟨w.heap.size,2,none⟩) hw4).trans q2
      have b25:Below w.heap.size w w5:=B5
      obtain ⟨bx5,bb5,hq5,hF5⟩:=h.kept B5
      obtain ⟨_,d1⟩:=cells2 hq5.blk
      obtain ⟨w6,hst,hb6,gr6⟩:=BAt.storeOld (w:=w5.drew) hq5.b ok.bl x hin hlen
      have HE:Hid (∃ F',T w6 p F' s/\Moved w w6 F F'):=by
       have m5:Moved w w5.drew F F:=.of_below B5.drew
       have m6:Moved w5.drew w6 F (footT p bx5 bb5):=(moved_setB p bx5 gr6).weak fun k hk=>(hF5 k).2 hk
       exact ⟨footT p bx5 bb5,⟨bx5,bb5,(show TAt w5.drew p bx5 bb5 s from ⟨hq5.blk,hq5.x,hq5.b,hq5.ne⟩).setB hb6 gr6,fun _=>Iff.rfl⟩,m5.trans m6⟩
      clear q0 q1 q2 hq5 hF5 hb6 gr6
      go_wp2
      go_region
      all_goals go_wp2
      all_goals go_ret
      all_goals (rw [hd.out]; exact ⟨rfl,HE.out⟩)
     ·rw [decide_eq_false hin] at hH
      have hfit:=hx
      go_wp2_with fail
      refine hH.mono ?_
      rintro e w5 ⟨rfl,b5⟩
      have B5:Below w.heap.size w w5:=B4.trans (b5.mono B4.size)
      have r0:=(b5.cell (p:=⟨w.heap.size,0,none⟩) hw4).trans q0
      have r1:=(b5.cell (p:=⟨w.heap.size,1,none⟩) hw4).trans q1
      have r2:=(b5.cell (p:=⟨w.heap.size,2,none⟩) hw4).trans q2
      obtain ⟨bx5,bb5,hq5,hF5⟩:=h.kept B5
      obtain ⟨_,d1⟩:=cells2 hq5.blk
      have hl5:=hq5.b.len
      by_cases h32:32<=s.bs.length
      ·have hd:Hid (s.bind x=(5,s)):=by show s.bind x=(5,s); unfold Tb.bind; rw [if_neg (by rw [HG.out]; decide),hf]; simp [hm,hin,h32]
       have h32':(32:Int)<=(s.bs.length:Int):=by omega
       clear hf hm q0 q1 q2 hq5 hF5
       go_wp2
       go_ret
       rw [hd.out]; exact ⟨rfl,hend.out _ B5⟩
      ·have hd:Hid (s.bind x=(0,{ s with bs:=insC cmpB x s.bs })):=by show s.bind x=_; unfold Tb.bind; rw [if_neg (by rw [HG.out]; decide),hf]; simp [hm,hin,h32]
       have okD:=ok.bind hfit
       rw [hd.out] at okD
       obtain ⟨w6,hst,hb6,gr6⟩:=BAt.storeNew (w:=w5.drew) hq5.b ok.bl x hfit hin okD.bl hlen
       have HE:Hid (∃ F',T w6 p F' { s with bs:=insC cmpB x s.bs }/\Moved w w6 F F'):=by
        have m5:Moved w w5.drew F F:=.of_below B5.drew
        have m6:Moved w5.drew w6 F (footT p bx5 bb5):=(moved_setB p bx5 gr6).weak fun k hk=>(hF5 k).2 hk
        exact ⟨footT p bx5 bb5,⟨bx5,bb5,(show TAt w5.drew p bx5 bb5 s from ⟨hq5.blk,hq5.x,hq5.b,hq5.ne⟩).setB hb6 gr6,fun _=>Iff.rfl⟩,m5.trans m6⟩
       have h32' : ¬ (32:Int)<=(s.bs.length:Int):=by omega
       clear hf hm q0 q1 q2 hq5 hF5 hb6 gr6 okD
       go_wp2
       go_region
       all_goals go_wp2
       all_goals go_ret
       all_goals (rw [hd.out]; exact ⟨rfl,HE.out⟩)
end Go.Proofs.YtnhnpnafchkhiaaGreatDoor.B
namespace Go.Proofs.YtnhnpnafchkhiaaGreatDoor.B
open Go.Proofs.YtnhnpnafchkhiaaGreatDoor.K
open Go.RowKit Go.Sort Go.Maps Go.Shelf
theorem atKey_absent {H:Type} {es:List (Lit × DataW H)} {z:Lit} (h : ∀ p∈es,p.1≠z) (zd:DataW H):(DataW.map es).atKey z zd=zd:=by
 unfold DataW.atKey
 have:es.find? (fun p=>p.1.sameKey z)=none:=by
  rw [List.find?_eq_none]
  intro p hp
  rw [sameKey_false (h p hp)]; simp
 simp only [this]
theorem deleteFunc_any (pd:Bd->Bool) (g:Nat) (cb:Array Value) (b:Nat) (l:List Bd) (hl:BL l) (w:World) (eg : ∀ args w,(callFunc g args).run Tryz.prog w=.ok (.enter g args) w) (hown:BAt w b l)
  (hdel : ∀ (W:World) (x:Bd),w.grownBy W (some b)->Calls Tryz.prog g (#[bv x,.agg #[]]++cb) W fun e w'=>e=.returned (.bool (pd x))/\W.grownBy w' none) :
  Calls Tryz.prog 242 #[.map (some b),.func (.func g) #[] cb] w fun e w'=>e=.returned (.tuple #[])/\BAt w' b (l.filter fun x => !pd x)/\w.grownBy w' (some b):=by
 obtain ⟨pdL,hpdL⟩ : ∃ pdL:Lit->DataW Ex->Bool,∀ x∈l,∀ d,pdL (bkl x) d=pd x:=by
  refine ⟨fun z _=>l.any fun y=>(bkl y).sameKey z && pd y,fun x hx d=>?_⟩
  rw [Bool.eq_iff_iff,List.any_eq_true]
  constructor
  ·rintro ⟨y,hy,h⟩
   rw [Bool.and_eq_true] at h
   rw [<- hl.diff.unique hy hx (WideAt.sameKey_eq h.1)]
   exact h.2
  ·intro h
   exact ⟨x,hx,by rw [(sameKey_iff bKeyed.one (hl.keys x hx)).2 rfl,h]; rfl⟩
 have hend:Lib.deleteFuncD pdL (DofG bkl bd l)=DofG bkl bd (l.filter fun x => !pd x):=by
  rw [deleteFunc_DofG bKeyed.one hl.keys hl.diff pdL]
  congr 1
  exact List.filter_congr fun x hx=>by rw [hpdL x hx]
 obtain ⟨es0,hD,hap,hkeys⟩:=World.ownsMap.entries hown bKeyed
 have hes : ∀ p∈es0,∃ y∈l,bkl y=p.1:=by
  intro p hp
  unfold DofG at hD
  injection hD with hD
  rw [<- hD] at hp
  obtain ⟨y,hy,rfl⟩:=List.mem_map.1 (mem_sorted.1 hp)
  exact ⟨y,hy,rfl⟩
 have hown':w.ownsMap Tryz.prog 36 unitElem b l.length (.map es0):=by rw [<- hD]; exact hown
 have HEND:Hid (∀ w',w'.ownsMap Tryz.prog 36 unitElem b l.length (Lib.deleteFuncD pdL (.map es0))->BAt w' b (l.filter fun x => !pd x)):=fun w' h=>by
  rw [<- hD,hend] at h
  exact ownsMapG_fit h
 have HD:Hid (∀ (W:World) (x:Bd),w.grownBy W (some b)->Calls Tryz.prog g (#[bv x,.agg #[]]++cb) W fun e w'=>e=.returned (.bool (pd x))/\W.grownBy w' none):=hdel
 clear hdel hown hD hend
 go_enter Tryz.func242,Tryz.ntmps242
 go_wp2_with (first
  |(at_range; refine wpList_range_own _ rfl _ 125 rfl 36 143 bKeyed Tryz.underlying125 unitElem b l.length _ rfl hown' ?_; intro w0 hrg0 hg0 hs0)
  |go_in)
 go_frame
 go_loopw [4,5] (fun _ _ wr => ∃ (left:Lit->Bool) (cnt:Nat),wr.ranges Tryz.prog 36 unitElem b w.heap.size l.length (Fk pdL es0 left) left cnt/\w.grownBy wr (some b))
  (fun _ _ wr=>wr.rangeLeft b w.heap.size)
 case atStart=>exact ⟨_,_,by rw [Fk_start hkeys]; exact hrg0,hg0.but _⟩
 case round =>
  obtain ⟨left,cnt,hrg,hgw⟩:=hrel
  go_wp2_with (first
   |(at_next; refine wpList_next_ranges _ rfl _ rfl 36 bKeyed unitElem bv (fun _:Unit=>Value.agg #[]) (fun key kl hk=>by obtain ⟨s,_,hs,_⟩:=bkey_inv hk; exact ⟨s,hs⟩) (fun v y hv=>⟨(),(unitElem_inv hv).1⟩) b w.heap.size l.length _ _ _ rfl hrg ?_ ?_)
   |go_in)
  ·intro _ hl0
   go_wp2
   go_end0
   exact ⟨rfl,HEND.out _ (by rw [<- Fk_end hl0]; exact hrg.owns),hgw⟩
  ·intro c kl yd yp w1 cnt1 hkey hlx hv hat hrg1 hlt hg1 hs1 hen
   have hgw1:=hgw.andThen hg1 (fun j hj=>by cases hj; exact Or.inl (yyH _))
   obtain ⟨_,hz⟩:=unitElem_inv hv
   simp at hz
   obtain ⟨rfl,rfl⟩:=hz
   obtain ⟨y,hy,hyk⟩ : ∃ y∈l,bkl y=kl:=by
    by_cases hn : ∃ y∈l,bkl y=kl
    ·exact hn
    ·have h1:=hat .nil
     unfold Fk at h1
     rw [atKey_absent (fun p hp e=>by
      obtain ⟨y,hy,hyp⟩:=hes p (List.mem_filter.1 hp).1
      exact hn ⟨y,hy,hyp.trans e⟩)] at h1
     cases h1
   obtain rfl:c=y:=by
    have:=bKeyed.inj hkey (by rw [<- hyk]; exact keyOf_bd (hl.fit y hy))
    cases c; cases y
    simp at this
    simp [this]
   obtain ⟨w2,fold⟩ : ∃ w2,(w1.alloc (.cells #[.string c.ex,.string c.que,.string c.pat] 36)).alloc (.cells #[] 143)=w2:=⟨_,rfl⟩
   have g12:w1.grownBy w2 none:=by rw [<- fold]; exact (World.grownBy_alloc w1 _ none).andThen (World.grownBy_alloc _ _ none) (fun j hj=>by cases hj)
   have hgw2:=hgw1.andThen g12 (fun j hj=>by cases hj)
   have hrg2:=hrg1.kept g12 (by simp) (by simp)
   have k0:w2.cell? ⟨w1.heap.size,0,none⟩=some (.string c.ex):=by rw [<- fold]; exact cell_allocK _ (cell_of_list (C:=bcells c) (heap_alloc_new w1 _) 0)
   have k1:w2.cell? ⟨w1.heap.size,1,none⟩=some (.string c.que):=by rw [<- fold]; exact cell_allocK _ (cell_of_list (C:=bcells c) (heap_alloc_new w1 _) 1)
   have k2:w2.cell? ⟨w1.heap.size,2,none⟩=some (.string c.pat):=by rw [<- fold]; exact cell_allocK _ (cell_of_list (C:=bcells c) (heap_alloc_new w1 _) 2)
   have hc:=HD.out w2 c hgw2
   have hpp:=hpdL c hy (.agg [])
   rw [hyk] at hpp
   have HPP:Hid _:=hpp
   have HAT:Hid (∀ zd,(Fk pdL es0 left).atKey kl zd=.agg []):=hat
   clear hs1 hv hat hpp
   cases hp:pd c <;> rw [hp] at hc
   ·go_wp2_with (first
     |(go_at_fn g; refine hc.mono ?_; rintro e w3 ⟨rfl,hg3⟩)
     |go_in)
    have hrg3:=hrg2.kept hg3 (by simp) (by simp)
    go_roundw
    case rel=>exact ⟨_,cnt1,by rw [<- Fk_stays hap (bKeyed.key hkey) hlx (HPP.out.trans hp) HAT.out]; exact hrg3,hgw2.andThen hg3 (fun j hj=>by cases hj)⟩
    case measure=>rw [hrg3.left_eq,hrg.left_eq]; exact hlt
   ·go_wp2_with (first
     |(go_at_fn g; refine hc.mono ?_; rintro e w3 ⟨rfl,hg3⟩; have hrg3:=hrg2.kept hg3 (by simp) (by simp); have m0:=hg3.cell k0 (by simp); have m1:=hg3.cell k1 (by simp); have m2:=hg3.cell k2 (by simp))
     |(at_delete; refine wpList_delete_ranges _ rfl _ _ 125 36 rfl 143 bKeyed Tryz.underlying125 unitElem b w.heap.size l.length _ _ _ rfl hrg3 _ _ rfl hkey ?_; intro w4 cnt4 hrg4 hle hturn; go_frame)
     |go_in)
    rw [strike_twice] at hrg4
    go_roundw
    case rel=>exact ⟨_,cnt4,by rw [<- Fk_struck hap (bKeyed.key hkey) hlx (HPP.out.trans hp) HAT.out]; exact hrg4,(hgw2.andThen hg3 (fun j hj=>by cases hj)).andThen hturn.grown (fun j hj=>by cases hj; exact Or.inr rfl)⟩
    case measure=>rw [hrg4.left_eq,hrg.left_eq]; omega
theorem shed1_any (pd:Bd->Bool) (g:Nat) (cb:Array Value) (q:Nat) (x:Bd) (W:World) (eg : ∀ args w,(callFunc g args).run Tryz.prog w=.ok (.enter g args) w) (hq:W.cell? ⟨q,0,none⟩=some (.func (.func g) #[] cb))
  (hg : ∀ W',W.grownBy W' none->Calls Tryz.prog g (#[bv x]++cb) W' fun e w'=>e=.returned (.bool (pd x))/\W'.grownBy w' none) :
  Calls Tryz.prog 243 (#[bv x,.agg #[]] ++ #[.pointer (some ⟨q,0,none⟩)]) W fun e w'=>e=.returned (.bool (pd x))/\W.grownBy w' none:=by
 obtain ⟨W2,fold⟩ : ∃ W2,(W.alloc (.cells #[.string x.ex,.string x.que,.string x.pat] 36)).alloc (.cells #[] 143)=W2:=⟨_,rfl⟩
 have g12:W.grownBy W2 none:=by rw [<- fold]; exact (World.grownBy_alloc W _ none).andThen (World.grownBy_alloc _ _ none) (fun j hj=>by cases hj)
 have k0:W2.cell? ⟨W.heap.size,0,none⟩=some (.string x.ex):=by rw [<- fold]; exact cell_allocK _ (cell_of_list (C:=bcells x) (heap_alloc_new W _) 0)
 have k1:W2.cell? ⟨W.heap.size,1,none⟩=some (.string x.que):=by rw [<- fold]; exact cell_allocK _ (cell_of_list (C:=bcells x) (heap_alloc_new W _) 1)
 have k2:W2.cell? ⟨W.heap.size,2,none⟩=some (.string x.pat):=by rw [<- fold]; exact cell_allocK _ (cell_of_list (C:=bcells x) (heap_alloc_new W _) 2)
 have k3:=g12.cell hq (by simp)
 have hc:=hg W2 g12
 generalize pd x=r at hc ⊢
 clear hg
 go_enter Tryz.func243,Tryz.ntmps243
 go_wp2_with (first
  |(go_at_fn g; refine hc.mono ?_; rintro e w3 ⟨rfl,hg3⟩)
  |go_in)
 go_ret
 exact ⟨rfl,g12.andThen hg3 (fun j hj=>by cases hj)⟩
theorem drop1_any (x:Bd) (n:Nat) (s:ByteArray) (W:World) (hn:W.cell? ⟨n,0,none⟩=some (.string s)) :
  Calls Tryz.prog 180 (#[bv x] ++ #[.pointer (some ⟨n,0,none⟩)]) W fun e w'=>e=.returned (.bool (x.ex.toList==s.toList))/\W.grownBy w' none:=by
 have k3:=fun o=>cell_allocK o hn
 go_enter Tryz.func180,Tryz.ntmps180
 go_wp2
 go_ret
 exact ⟨rfl,World.grownBy_alloc W _ none⟩
theorem forget1_any (x:Bd) (n:Nat) (s:ByteArray) (W:World) (hn:W.cell? ⟨n,0,none⟩=some (.string s)) :
  Calls Tryz.prog 179 (#[bv x] ++ #[.pointer (some ⟨n,0,none⟩)]) W fun e w'=>e=.returned (.bool (x.que.toList==s.toList))/\W.grownBy w' none:=by
 have k3:=fun o=>cell_allocK o hn
 go_enter Tryz.func179,Tryz.ntmps179
 go_wp2
 go_ret
 exact ⟨rfl,World.grownBy_alloc W _ none⟩
end Go.Proofs.YtnhnpnafchkhiaaGreatDoor.B
