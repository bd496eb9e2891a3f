import Derived.Test.YtnhnpnafchkhiaaGreatDoorQwA
import Derived.Test.YtnhnpnafchkhiaaGreatDoorQw17
import Derived.Laws.ResultCell
import Derived.Laws.Rows
import Derived.Test.YtnhnpnafchkhiaaGreatDoorQw2
import Derived.Lib.SlicesCompact
set_option maxHeartbeats 4000000
set_option maxRecDepth 20000
namespace Go.Proofs.YtnhnpnafchkhiaaGreatDoor.K
end Go.Proofs.YtnhnpnafchkhiaaGreatDoor.K
namespace Go.Proofs.YtnhnpnafchkhiaaGreatDoor.B
open Go.Proofs.YtnhnpnafchkhiaaGreatDoor.K
open Go.RowKit Go.Sort Go.Maps Go.Shelf
def keepB (pd:Bd->Bool) (l:List Bd):List Bd:=l.filter fun x => !pd x
theorem keepB_le (pd:Bd->Bool) (l:List Bd):(keepB pd l).length<=l.length:=List.length_filter_le _ _
theorem Tb.Ok.keep {s:Tb} (ok:s.Ok) (pd:Bd->Bool):Tb.Ok { s with bs:=keepB pd s.bs } :=
 ⟨ok.ox,ok.ob.filter _,ok.good,fun b hb=>ok.fit b (List.mem_filter.1 hb).1,fun b hb=>ok.leads b (List.mem_filter.1 hb).1,ok.nx,Nat.le_trans (keepB_le pd s.bs) ok.nb⟩
theorem shed_any (pd:Bd->Bool) (g:Nat) (cb:Array Value) (p:Nat) (F:Nat->Prop) (s:Tb) (w:World) (h:T w p F s) (bl:BL s.bs) (hn:s.bs.length<=1000) (eg : ∀ args w,(callFunc g args).run Tryz.prog w=.ok (.enter g args) w)
  (hg : ∀ (W:World) (x:Bd),(∀ k,k<w.heap.size -> ¬ F k->W.heap[k]? = w.heap[k]?)->Calls Tryz.prog g (#[bv x]++cb) W fun e w'=>e=.returned (.bool (pd x))/\W.grownBy w' none) :
  Calls Tryz.prog 178 #[.pointer (some ⟨p,0,none⟩),.func (.func g) #[] cb] w fun e w'=>e=.returned (.int .i64 ((s.bs.length:Int)-((keepB pd s.bs).length:Int))) /\ ∃ F',T w' p F' { s with bs:=keepB pd s.bs }/\Moved w w' F F':=by
 obtain ⟨bx,bb,hq,hF⟩:=h
 obtain ⟨_,c1⟩:=cells2 hq.blk
 have e1 : ∀ args w,(callFunc 243 args).run Tryz.prog w=.ok (.enter 243 args) w:=enters_of Tryz.func243 (by kernel_rfl) rfl
 have hbb:=hq.b.lt
 have hDF : ∀ t,Calls Tryz.prog 242 #[.map (some bb),.func (.func 243) #[] #[.pointer (some ⟨w.heap.size,0,none⟩)]] (w.alloc (.cells #[.func (.func g) #[] cb] t)) fun e w'=>e=.returned (.tuple #[])/\BAt w' bb (keepB pd s.bs)/\w'.cell? ⟨p,1,none⟩=some (.map (some bb)) /\ ∃ F',T w' p F' { s with bs:=keepB pd s.bs }/\Moved w w' F F':=fun t =>
  (deleteFunc_any pd 243 #[.pointer (some ⟨w.heap.size,0,none⟩)] bb s.bs bl _ e1 (hq.b.same (Below.heap_alloc w _ _ hbb)) (fun W x gr=>shed1_any pd g cb w.heap.size x W eg (gr.cell (cell_of_list (C:=[.func (.func g) #[] cb]) (heap_alloc_new w _) 0) (fun e=>by injection e with e; simp only at e; omega)) (fun W' g'=>hg W' x fun k hk hnF=>by
   have hkb:k≠bb:=fun e=>hnF ((hF k).2 (.inr (.inr e)))
   rw [g'.block k (Nat.lt_of_lt_of_le (by simp; omega) gr.size) (by simp),gr.block k (by simp; omega) (fun e=>hkb (by injection e)),Below.heap_alloc w _ _ hk]))).mono fun e w2 ⟨he,hb2,gr2⟩=>by
   have hqa:=hq.same (w':=w.alloc (.cells #[.func (.func g) #[] cb] t)) fun k hk=>Below.heap_alloc w _ _ (hq.lts k hk)
   have m1:Moved w (w.alloc (.cells #[.func (.func g) #[] cb] t)) F F:=.of_below ((Below.refl _ _).alloc (yyH _) _)
   exact ⟨he,hb2,gr2.cell (cell_allocK _ c1) (fun e=>by injection e with e; exact hq.ne_b e.symm),footT p bx bb,⟨bx,bb,hqa.setB hb2 gr2,fun _=>Iff.rfl⟩,m1.trans ((moved_setB p bx gr2).weak fun k hk=>(hF k).2 hk)⟩
 have ca:=fun o=>cell_allocK o c1
 have hlb:=fun o ty=>(hq.b.same (Below.heap_alloc w o bb hbb)).len ty
 have hle:=keepB_le pd s.bs
 have hw1:IntKind.i64.wrap ((s.bs.length:Int)-((keepB pd s.bs).length:Int))=(s.bs.length:Int)-((keepB pd s.bs).length:Int):=by rw [IntKind.wrap_i64]; omega
 clear hg hq hF e1
 generalize hkl:(keepB pd s.bs).length=kl at *
 go_enter Tryz.func178,Tryz.ntmps178
 go_wp2_with fail
 refine (hDF _).mono ?_
 rintro e w2 ⟨rfl,hb2,c2,hE⟩
 have hl2:=hb2.len
 rw [hkl] at hl2
 have HE:Hid (∃ F',T w2 p F' { s with bs:=keepB pd s.bs }/\Moved w w2 F F'):=hE
 clear hb2 hE
 go_wp2
 go_ret
 exact ⟨rfl,HE.out⟩
def Tb.drop (s:Tb) (n:ByteArray):Int × Tb:=match findX s.xs n with
 |none=>(3,s)
 |some _=>(0,⟨s.xs.filter fun x => !decide (x.name=n),keepB (fun b=>b.ex.toList==n.toList) s.bs⟩)
theorem baList_eq {a b:ByteArray}:(a.toList==b.toList)=decide (a=b):=by
 rw [Bool.eq_iff_iff,beq_iff_eq,decide_eq_true_iff]
 constructor
 ·intro h; rw [ByteArray.toList_eq,ByteArray.toList_eq] at h; exact arr_inj h
 ·rintro rfl; rfl
theorem Tb.Ok.drop {s:Tb} (ok:s.Ok) (n:ByteArray):(s.drop n).2.Ok:=by
 unfold Tb.drop
 split
 ·exact ok
 ·refine ⟨ok.ox.filter _,ok.ob.filter _,fun x hx=>ok.good x (List.mem_filter.1 hx).1,fun b hb=>ok.fit b (List.mem_filter.1 hb).1,fun b hb=>?_,Nat.le_trans (List.length_filter_le _ _) ok.nx,Nat.le_trans (keepB_le _ s.bs) ok.nb⟩
  obtain ⟨hb1,hb2⟩:=List.mem_filter.1 hb
  obtain ⟨x,hx,e⟩:=ok.leads b hb1
  refine ⟨x,List.mem_filter.2 ⟨hx,?_⟩,e⟩
  have hb3:(!(b.ex.toList==n.toList))=true:=hb2
  rw [baList_eq,<- e] at hb3
  exact hb3
theorem XAt.del {w:World} {b:Nat} {l:List Ex} (h:XAt w b l) (hl:XL l) {s:ByteArray} (hs:s.size<=maxLen) :
  ∃ f:TypeId->World,∀ ty,(Builtin.delete_ #[124,9] ty #[.map (some b),.string s]).run Tryz.prog w=.ok (.tuple #[]) (f ty)/\XAt (f ty) b (l.filter fun x => !decide (x.name=s))/\w.grownBy (f ty) (some b):=by
 have each : ∀ ty:TypeId,∃ w',(Builtin.delete_ #[124,9] ty #[.map (some b),.string s]).run Tryz.prog w=.ok (.tuple #[]) w'/\XAt w' b (l.filter fun x => !decide (x.name=s))/\w.grownBy w' (some b):=fun ty=>by
  obtain ⟨w',h1,h2,h3⟩:=World.ownsMap.drop h xKeyed Tryz.underlying124 (keyOf_str hs) ty
  refine ⟨w',h1,?_,h3.grown⟩
  rw [del_DofG xKeyed.one hl.keys hl.diff] at h2
  have e:(l.filter fun y => !(xkl y).sameKey (.string s.data.toList))=l.filter fun x => !decide (x.name=s):=List.filter_congr fun y _=>by
   congr 1
   rw [Bool.eq_iff_iff,sameKey_iff xKeyed.one ⟨_,keyOf_str hs⟩,decide_eq_true_iff]
   exact ⟨fun e=>str_inj e,fun e=>by rw [<- e]; rfl⟩
  rw [e] at h2
  exact ownsMapG_fit h2
 obtain ⟨f,hf⟩:=Classical.axiomOfChoice each
 exact ⟨f,hf⟩
theorem drop_any (p:Nat) (F:Nat->Prop) (s:Tb) (n:ByteArray) (w:World) (h:T w p F s) (ok:s.Ok) (hs:n.size<=maxLen) :
  Calls Tryz.prog 134 #[.pointer (some ⟨p,0,none⟩),.string n] w fun e w'=>e=.returned (.int .i64 (s.drop n).1) /\ ∃ F',T w' p F' (s.drop n).2/\Moved w w' F F':=by
 obtain ⟨w2,fold⟩ : ∃ w2,w.alloc (.cells #[.string n] 9)=w2:=⟨_,rfl⟩
 have b02:Below w.heap.size w w2:=by rw [<- fold]; exact (Below.refl _ _).alloc (yyH _) _
 have s2:Hid (w2.heap.size=w.heap.size+1):=by show w2.heap.size=_; rw [<- fold]; simp
 have y0:w2.cell? ⟨w.heap.size,0,none⟩=some (.string n):=by rw [<- fold]; exact cell_of_list (C:=[.string n]) (heap_alloc_new w _) 0
 have hM:=made_any p F s w2 (h.kept b02)
 have hend:Hid (∀ w',Below w.heap.size w w' -> ∃ F',T w' p F' s/\Moved w w' F F'):=fun w' hb=>⟨F,h.kept hb,.of_below hb⟩
 obtain ⟨bx,bb,hq,hF⟩:=h.kept b02
 obtain ⟨c0,c1⟩:=cells2 hq.blk
 have HQ:Hid (TAt w2 p bx bb s):=hq
 have kl : ∀ W',W'.heap[bx]? = w2.heap[bx]? -> (Instr.lookup 124 (.map (some bx)) (.string n) true).run Tryz.prog W'=.ok (.tuple #[xv ((findX s.xs n).getD zeroEx),.bool (findX s.xs n).isSome]) W':=fun W' e=>(hq.x.same e).look ok.xl hs
 have la:=kl w2.drew rfl
 have lb : ∀ o,(Instr.lookup 124 (.map (some bx)) (.string n) true).run Tryz.prog ((w2.alloc o).drew)=_:=fun o=>kl ((w2.alloc o).drew) (Below.heap_alloc w2 _ _ hq.x.lt)
 have HB02:Hid (Below w.heap.size w w2):=b02
 have HF:Hid (∀ k,F k↔footT p bx bb k):=hF
 obtain ⟨yy,hyy⟩ : ∃ yy,(findX s.xs n).getD zeroEx=yy:=⟨_,rfl⟩
 obtain ⟨rr,hrr⟩ : ∃ rr,(findX s.xs n).isSome=rr:=⟨_,rfl⟩
 rw [hyy,hrr] at la
 simp only [hyy,hrr] at lb
 have HRR:Hid ((findX s.xs n).isSome=rr):=hrr
 have ya:=fun o=>cell_allocK o y0
 have ca:=fun o=>cell_allocK o c0
 clear kl hq hF b02 hyy hrr
 go_enter Tryz.func134,Tryz.ntmps134
 go_wp2_with fail
 refine hM.mono ?_
 rintro e w2 ⟨rfl,rfl⟩
 clear fold
 go_wp2
 go_cut [5,6] from 7 to 28 (fun s5 s6 wx=>s5=.pointer (some ⟨w2.heap.size,0,none⟩)/\s6=.bool rr/\Below w2.heap.size w2 wx)
 case first =>
  go_region
  all_goals go_wp2
  all_goals go_meet
  all_goals exact ⟨rfl,rfl,((Below.refl _ _).alloc (yyH _) _).drew⟩
 case rest =>
  obtain ⟨rfl,rfl,b3⟩:=hcut
  have hw2:w.heap.size<w2.heap.size:=by have:=s2.out; omega
  have u0:=(b3.cell (p:=⟨w.heap.size,0,none⟩) hw2).trans y0
  have d0:=(b3.cell (p:=⟨p,0,none⟩) (yyD HQ.out.blk).1).trans c0
  have HQ3:Hid (TAt wc p bx bb s):=HQ.out.same fun k hk=>b3.block k (HQ.out.lts k hk)
  have HB3:Hid (Below w.heap.size w wc):=HB02.out.trans (b3.mono (by omega))
  have hwc:w.heap.size<wc.heap.size:=Nat.lt_of_lt_of_le hw2 b3.size
  clear la lb ya ca y0 c0 c1 b3 hM
  cases hf:findX s.xs n with
  |none =>
   obtain rfl:false=rr:=by have:=HRR.out; rw [hf] at this; exact this
   have hd:Hid (s.drop n=(3,s)):=by show s.drop n=(3,s); unfold Tb.drop; rw [hf]
   clear hf
   go_wp2
   go_ret
   rw [hd.out]; exact ⟨rfl,hend.out _ HB3.out⟩
  |some y =>
   obtain rfl:true=rr:=by have:=HRR.out; rw [hf] at this; exact this
   have hd:Hid (s.drop n=(0,⟨s.xs.filter fun x => !decide (x.name=n),keepB (fun b=>b.ex.toList==n.toList) s.bs⟩)):=by show s.drop n=_; unfold Tb.drop; rw [hf]
   obtain ⟨f,hfx⟩:=XAt.del (w:=wc.drew) HQ3.out.x ok.xl hs
   have hrun:=fun ty=>(hfx ty).1
   have HW5:Hid (∀ ty,T (f ty) p (footT p bx bb) { s with xs:=s.xs.filter fun x => !decide (x.name=n) }/\Moved w (f ty) F (footT p bx bb)/\(f ty).cell? ⟨w.heap.size,0,none⟩=some (.string n)):=fun ty=>by
    obtain ⟨_,hx5,gr5⟩:=hfx ty
    have m5:Moved w wc.drew F F:=.of_below HB3.out.drew
    refine ⟨⟨bx,bb,(show TAt wc.drew p bx bb s from ⟨HQ3.out.blk,HQ3.out.x,HQ3.out.b,HQ3.out.ne⟩).setX hx5 gr5,fun _=>Iff.rfl⟩,m5.trans ((moved_setX p bb gr5).weak fun k hk=>(HF.out k).2 hk),?_⟩
    have hne:w.heap.size≠bx:=fun e=>by have:=h.lts bx ((HF.out bx).2 (.inr (.inl rfl))); omega
    exact gr5.cell (show wc.drew.cell? ⟨w.heap.size,0,none⟩=_ from u0) (fun e=>hne (by injection e))
   have eg : ∀ args w,(callFunc 180 args).run Tryz.prog w=.ok (.enter 180 args) w:=enters_of Tryz.func180 (by kernel_rfl) rfl
   have hwF:Hid (¬ footT p bx bb w.heap.size):=fun hk=>by have:=h.lts w.heap.size ((HF.out _).2 hk); omega
   have hSH : ∀ ty,Calls Tryz.prog 178 #[.pointer (some ⟨p,0,none⟩),.func (.func 180) #[] #[.pointer (some ⟨w.heap.size,0,none⟩)]] (f ty) _:=fun ty =>
    shed_any (fun b=>b.ex.toList==n.toList) 180 #[.pointer (some ⟨w.heap.size,0,none⟩)] p (footT p bx bb) _ (f ty) (HW5.out ty).1 ok.bl (by have:=ok.nb; show s.bs.length<=1000; omega) eg (fun W x hk=>drop1_any x w.heap.size n W (by
     have hl:=World.block_lt_of_cell? _ _ (HW5.out ty).2.2
     have:=hk w.heap.size hl hwF.out
     have h2:=(HW5.out ty).2.2
     simp only [World.cell?] at h2 ⊢
     rw [this]; exact h2))
   clear hf hfx eg
   go_wp2
   go_region
   all_goals (go_wp2_with fail; refine (hSH _).mono ?_; rintro e w6 ⟨rfl,F6,t6,m6⟩; go_wp2; go_ret; rw [hd.out]; exact ⟨rfl,F6,t6,(HW5.out _).2.1.trans m6⟩)
def Soft3 (w:World) (b:Nat):Prop := ∃ cs,w.heap[b]? = some (.cells cs 34 (0,0))/\cs.size=3
abbrev put3 (w:World) (g:Nat) (v0 v1 v2:Value):World:=((w.setCell ⟨g,0,none⟩ v0).setCell ⟨g,1,none⟩ v1).setCell ⟨g,2,none⟩ v2
theorem put3_at {w:World} {g:Nat} (h:Soft3 w g) (v0 v1 v2:Value):(put3 w g v0 v1 v2).heap[g]? = some (.cells #[v0,v1,v2] 34 (0,0)):=by
 obtain ⟨⟨l⟩,h1,h2⟩:=h
 match l,h2 with
 |[a0,a1,a2],_ =>
  have e0:=heap_setCell_same w g 0 _ _ v0 h1
  have e1:=heap_setCell_same _ g 1 _ _ v1 e0
  have e2:=heap_setCell_same _ g 2 _ _ v2 e1
  rw [e2]
  simp
theorem put3_other {w:World} {g k:Nat} (v0 v1 v2:Value) (h:k≠g):(put3 w g v0 v1 v2).heap[k]? = w.heap[k]? := by
 unfold put3
 rw [heap_setCell_other _ _ _ _ h,heap_setCell_other _ _ _ _ h,heap_setCell_other _ _ _ _ h]
theorem put3_size (w:World) (g:Nat) (v0 v1 v2:Value):(put3 w g v0 v1 v2).heap.size=w.heap.size:=by simp [put3]
theorem put3_below {w0 w:World} {g:Nat} (v0 v1 v2:Value) (h:Below w0.heap.size w0 w) (hg:w0.heap.size<=g):Below w0.heap.size w0 (put3 w g v0 v1 v2) :=
 h.trans ⟨rfl,rfl,rfl,Nat.le_of_eq (put3_size w g v0 v1 v2).symm,fun k hk=>put3_other v0 v1 v2 (by omega)⟩
theorem ret_x {fn:Func} {R:Ending->World->Prop} {a:Act} {w:World} {p u:Tmp} (h:fn.results = #[.cell p 34,.tmp u]) (g:Nat) {v0 v1 v2 r:Value} (hp:a.tmps.getD p undef=.pointer (some ⟨g,0,none⟩)) (hu:a.tmps.getD u undef=r) (hd:a.defers=[])
  (hg:w.heap[g]? = some (.cells #[v0,v1,v2] 34 (0,0))) (hR:R (.returned (.tuple #[.agg #[v0,v1,v2],r])) w):bodyPost Tryz.prog fn R .ret a w:=by
 have hr:(results fn a.tmps).run Tryz.prog w=.ok (.tuple #[.agg #[v0,v1,v2],a.tmps.getD u undef]) w:=by
  rw [results_cell_tmp h,hp]
  simp [asAddr,run_loadVar_row w g _ _ _ _ _ hg Tryz.underlying34 rfl xInfo3,Result.andThen]
 exact bodyPost_ret hr hd (by rw [hu]; exact hR)
theorem find_any (p:Nat) (F:Nat->Prop) (s:Tb) (n:ByteArray) (w:World) (h:T w p F s) (ok:s.Ok) (hs:n.size<=maxLen) :
  Calls Tryz.prog 151 #[.pointer (some ⟨p,0,none⟩),.string n] w fun e w'=>e=.returned (.tuple #[xv ((findX s.xs n).getD zeroEx),.bool (findX s.xs n).isSome])/\Below w.heap.size w w':=by
 obtain ⟨W,fold⟩ : ∃ W,w.alloc (.cells #[.string ⟨#[]⟩,.int .i64 0,.bool false] 34)=W:=⟨_,rfl⟩
 have bW:Below w.heap.size w W:=by rw [<- fold]; exact (Below.refl _ _).alloc (yyH _) _
 have hWz:W.heap[w.heap.size]? = some (.cells #[.string ⟨#[]⟩,.int .i64 0,.bool false] 34 (0,0)):=by rw [<- fold]; exact heap_alloc_new w _
 have hM:=made_any p F s W (h.kept bW)
 obtain ⟨bx,bb,hq,hF⟩:=h.kept bW
 obtain ⟨c0,c1⟩:=cells2 hq.blk
 have la:=hq.x.look ok.xl hs
 generalize (findX s.xs n).getD zeroEx=yy at la ⊢
 generalize (findX s.xs n).isSome=rr at la ⊢
 obtain ⟨W2,fold2⟩ : ∃ W2,W.alloc (.cells #[.string yy.name,.int .i64 yy.kind,.bool yy.fed] 34)=W2:=⟨_,rfl⟩
 have b2:Below W.heap.size W W2:=by rw [<- fold2]; exact (Below.refl _ _).alloc (yyH _) _
 have z0:W2.cell? ⟨W.heap.size,0,none⟩=some (.string yy.name):=by rw [<- fold2]; exact cell_of_list (C:=xcells yy) (heap_alloc_new W _) 0
 have z1:W2.cell? ⟨W.heap.size,1,none⟩=some (.int .i64 yy.kind):=by rw [<- fold2]; exact cell_of_list (C:=xcells yy) (heap_alloc_new W _) 1
 have z2:W2.cell? ⟨W.heap.size,2,none⟩=some (.bool yy.fed):=by rw [<- fold2]; exact cell_of_list (C:=xcells yy) (heap_alloc_new W _) 2
 have hlt:w.heap.size<W.heap.size:=(yyD hWz).1
 have hW2z:W2.heap[w.heap.size]? = some (.cells #[.string ⟨#[]⟩,.int .i64 0,.bool false] 34 (0,0)):=(b2.block _ hlt).trans hWz
 have t0:W2.cell? ⟨w.heap.size,0,none⟩=some (.string ⟨#[]⟩):=cell_of_list (C:=[.string ⟨#[]⟩,.int .i64 0,.bool false]) hW2z 0
 have t1:W2.cell? ⟨w.heap.size,1,none⟩=some (.int .i64 0):=cell_of_list (C:=[.string ⟨#[]⟩,.int .i64 0,.bool false]) hW2z 1
 have t2:W2.cell? ⟨w.heap.size,2,none⟩=some (.bool false):=cell_of_list (C:=[.string ⟨#[]⟩,.int .i64 0,.bool false]) hW2z 2
 have f0:=frozen_of_list hW2z
 have HZ:Hid _:=put3_at (w:=W2) ⟨_,hW2z,rfl⟩ (.string yy.name) (.int .i64 yy.kind) (.bool yy.fed)
 have HE:Hid _:=put3_below (w:=W2) (.string yy.name) (.int .i64 yy.kind) (.bool yy.fed) (bW.trans (b2.mono bW.size)) (yyH _)
 have hne : ¬ w.heap.size=W.heap.size:=by omega
 clear hq hF hWz hW2z bW b2 hlt
 go_enter Tryz.func151,Tryz.ntmps151
 go_wp2_with fail
 refine hM.mono ?_
 rintro e W ⟨rfl,rfl⟩
 clear fold
 go_wp2_with (at_lookup; refine wpList_lookup_run _ rfl _ _ _ rfl _ _ _ rfl rfl la ?_)
 refine ret_x (p:=4) (u:=5) (r:=.bool rr) rfl w.heap.size rfl rfl rfl HZ.out ?_
 exact ⟨rfl,HE.out⟩
theorem forget_any (p:Nat) (F:Nat->Prop) (s:Tb) (n:ByteArray) (w:World) (h:T w p F s) (ok:s.Ok) :
  Calls Tryz.prog 132 #[.pointer (some ⟨p,0,none⟩),.string n] w fun e w'=>e=.returned (.int .i64 ((s.bs.length:Int)-((keepB (fun b=>b.que.toList==n.toList) s.bs).length:Int))) /\ ∃ F',T w' p F' { s with bs:=keepB (fun b=>b.que.toList==n.toList) s.bs }/\Moved w w' F F':=by
 obtain ⟨W,fold⟩ : ∃ W,w.alloc (.cells #[.string n] 9)=W:=⟨_,rfl⟩
 have bW:Below w.heap.size w W:=by rw [<- fold]; exact (Below.refl _ _).alloc (yyH _) _
 have y0:W.cell? ⟨w.heap.size,0,none⟩=some (.string n):=by rw [<- fold]; exact cell_of_list (C:=[.string n]) (heap_alloc_new w _) 0
 have hM:=made_any p F s W (h.kept bW)
 have eg : ∀ args w,(callFunc 179 args).run Tryz.prog w=.ok (.enter 179 args) w:=enters_of Tryz.func179 (by kernel_rfl) rfl
 have hSH:=shed_any (fun b=>b.que.toList==n.toList) 179 #[.pointer (some ⟨w.heap.size,0,none⟩)] p F s W (h.kept bW) ok.bl (by have:=ok.nb; omega) eg (fun V x hk=>forget1_any x w.heap.size n V (by
  have:=hk w.heap.size (World.block_lt_of_cell? _ _ y0) (fun hf=>by have:=h.lts _ hf; omega)
  simp only [World.cell?] at y0 ⊢
  rw [this]; exact y0))
 clear eg
 go_enter Tryz.func132,Tryz.ntmps132
 go_wp2_with fail
 refine hM.mono ?_
 rintro e W ⟨rfl,rfl⟩
 go_wp2_with fail
 refine hSH.mono ?_
 rintro e w6 ⟨rfl,F6,t6,m6⟩
 go_wp2
 go_ret
 exact ⟨rfl,F6,t6,(Moved.of_below bW).trans m6⟩
def Tb.unbind (s:Tb) (b:Bd):Int × Tb:=if b∈s.bs then (0,{ s with bs:=s.bs.filter fun y => !decide (y=b) }) else (3,s)
theorem Tb.Ok.unbind {s:Tb} (ok:s.Ok) (b:Bd):(s.unbind b).2.Ok:=by
 unfold Tb.unbind
 split
 ·exact ⟨ok.ox,ok.ob.filter _,ok.good,fun y hy=>ok.fit y (List.mem_filter.1 hy).1,fun y hy=>ok.leads y (List.mem_filter.1 hy).1,ok.nx,Nat.le_trans (List.length_filter_le _ _) ok.nb⟩
 ·exact ok
theorem BAt.del {w:World} {b:Nat} {l:List Bd} (h:BAt w b l) (hl:BL l) {x:Bd} (hx:x.Fit) :
  ∃ f:TypeId->World,∀ ty,(Builtin.delete_ #[125,36] ty #[.map (some b),bv x]).run Tryz.prog w=.ok (.tuple #[]) (f ty)/\BAt (f ty) b (l.filter fun y => !decide (y=x))/\w.grownBy (f ty) (some b):=by
 have each : ∀ ty:TypeId,∃ w',(Builtin.delete_ #[125,36] ty #[.map (some b),bv x]).run Tryz.prog w=.ok (.tuple #[]) w'/\BAt w' b (l.filter fun y => !decide (y=x))/\w.grownBy w' (some b):=fun ty=>by
  obtain ⟨w',h1,h2,h3⟩:=World.ownsMap.drop h bKeyed Tryz.underlying125 (keyOf_bd hx) ty
  refine ⟨w',h1,?_,h3.grown⟩
  rw [del_DofG bKeyed.one hl.keys hl.diff] at h2
  have e:(l.filter fun y => !(bkl y).sameKey (bkl x))=l.filter fun y => !decide (y=x):=List.filter_congr fun y hy=>by
   congr 1
   rw [Bool.eq_iff_iff,sameKey_iff bKeyed.one ⟨_,keyOf_bd hx⟩,decide_eq_true_iff]
   exact ⟨fun e=>bkl_inj (hl.fit y hy) hx e,fun e=>by rw [e]⟩
  rw [e] at h2
  exact ownsMapG_fit h2
 obtain ⟨f,hf⟩:=Classical.axiomOfChoice each
 exact ⟨f,hf⟩
theorem unbind_any (p:Nat) (F:Nat->Prop) (s:Tb) (x:Bd) (w:World) (h:T w p F s) (ok:s.Ok) (hx:x.Fit) :
  Calls Tryz.prog 136 #[.pointer (some ⟨p,0,none⟩),bv x] w fun e w'=>e=.returned (.int .i64 (s.unbind x).1) /\ ∃ F',T w' p F' (s.unbind x).2/\Moved w w' F F':=by
 obtain ⟨W,fold⟩ : ∃ W,w.alloc (.cells #[.string x.ex,.string x.que,.string x.pat] 36)=W:=⟨_,rfl⟩
 have bW:Below w.heap.size w W:=by rw [<- fold]; exact (Below.refl _ _).alloc (yyH _) _
 have x0:W.cell? ⟨w.heap.size,0,none⟩=some (.string x.ex):=by rw [<- fold]; exact cell_of_list (C:=bcells x) (heap_alloc_new w _) 0
 have x1:W.cell? ⟨w.heap.size,1,none⟩=some (.string x.que):=by rw [<- fold]; exact cell_of_list (C:=bcells x) (heap_alloc_new w _) 1
 have x2:W.cell? ⟨w.heap.size,2,none⟩=some (.string x.pat):=by rw [<- fold]; exact cell_of_list (C:=bcells x) (heap_alloc_new w _) 2
 have hM:=made_any p F s W (h.kept bW)
 have hH:=has_any p F s x W (h.kept bW) ok hx
 have hWl:=World.block_lt_of_cell? _ _ x0
 go_enter Tryz.func136,Tryz.ntmps136
 go_wp2_with fail
 refine hM.mono ?_
 rintro e W ⟨rfl,rfl⟩
 by_cases hin:x∈s.bs
 ·have hd:Hid (s.unbind x=(0,{ s with bs:=s.bs.filter fun y => !decide (y=x) })):=by show s.unbind x=_; unfold Tb.unbind; rw [if_pos hin]
  rw [decide_eq_true hin] at hH
  go_wp2_with fail
  refine hH.mono ?_
  rintro e w5 ⟨rfl,b5⟩
  have B5:Below w.heap.size w w5:=bW.trans (b5.mono bW.size)
  have r0:=(b5.cell (p:=⟨w.heap.size,0,none⟩) hWl).trans x0
  have r1:=(b5.cell (p:=⟨w.heap.size,1,none⟩) hWl).trans x1
  have r2:=(b5.cell (p:=⟨w.heap.size,2,none⟩) hWl).trans x2
  obtain ⟨bx5,bb5,hq5,hF5⟩:=h.kept B5
  obtain ⟨_,d1⟩:=cells2 hq5.blk
  obtain ⟨f,hfx⟩:=BAt.del (w:=w5.drew) hq5.b ok.bl hx
  have hrun:=fun ty=>(hfx ty).1
  have HE:Hid (∀ ty,∃ F',T (f ty) p F' { s with bs:=s.bs.filter fun y => !decide (y=x) }/\Moved w (f ty) F F'):=fun ty=>by
   obtain ⟨_,hb6,gr6⟩:=hfx ty
   have m5:Moved w w5.drew F F:=.of_below B5.drew
   exact ⟨footT p bx5 bb5,⟨bx5,bb5,(show TAt w5.drew p bx5 bb5 s from ⟨hq5.blk,hq5.x,hq5.b,hq5.ne⟩).setB hb6 gr6,fun _=>Iff.rfl⟩,m5.trans ((moved_setB p bx5 gr6).weak fun k hk=>(hF5 k).2 hk)⟩
  clear hfx hq5 hF5 x0 x1 x2 fold
  go_wp2
  go_region
  all_goals go_wp2
  all_goals go_ret
  all_goals (rw [hd.out]; exact ⟨rfl,HE.out _⟩)
 ·have hd:Hid (s.unbind x=(3,s)):=by show s.unbind x=_; unfold Tb.unbind; rw [if_neg hin]
  rw [decide_eq_false hin] at hH
  go_wp2_with fail
  refine hH.mono ?_
  rintro e w5 ⟨rfl,b5⟩
  have B5:Below w.heap.size w w5:=bW.trans (b5.mono bW.size)
  go_wp2
  go_ret
  rw [hd.out]; exact ⟨rfl,F,h.kept B5,.of_below B5⟩
end Go.Proofs.YtnhnpnafchkhiaaGreatDoor.B
namespace Go.Proofs.YtnhnpnafchkhiaaGreatDoor.B
open Go.Proofs.YtnhnpnafchkhiaaGreatDoor.K
open Go.RowKit Go.Sort
structure XeAt (w:World) (b off:Nat) (x:Ex):Prop where
 c0:w.cell? ⟨b,off,none⟩=some (.string x.name)
 c1:w.cell? ⟨b,off+1,none⟩=some (.int .i64 x.kind)
 c2:w.cell? ⟨b,off+2,none⟩=some (.bool x.fed)
structure BeAt (w:World) (b off:Nat) (x:Bd):Prop where
 c0:w.cell? ⟨b,off,none⟩=some (.string x.ex)
 c1:w.cell? ⟨b,off+1,none⟩=some (.string x.que)
 c2:w.cell? ⟨b,off+2,none⟩=some (.string x.pat)
theorem XeAt.below {w w':World} {B b off:Nat} {x:Ex} (h:XeAt w b off x) (hb:Below B w w') (hB:w.heap.size<=B):XeAt w' b off x:=by
 have hl':b<B:=Nat.lt_of_lt_of_le (World.block_lt_of_cell? _ _ h.c0) hB
 exact ⟨(hb.cell (p:=⟨b,off,none⟩) hl').trans h.c0,(hb.cell (p:=⟨b,off+1,none⟩) hl').trans h.c1,(hb.cell (p:=⟨b,off+2,none⟩) hl').trans h.c2⟩
theorem BeAt.below {w w':World} {B b off:Nat} {x:Bd} (h:BeAt w b off x) (hb:Below B w w') (hB:w.heap.size<=B):BeAt w' b off x:=by
 have hl':b<B:=Nat.lt_of_lt_of_le (World.block_lt_of_cell? _ _ h.c0) hB
 exact ⟨(hb.cell (p:=⟨b,off,none⟩) hl').trans h.c0,(hb.cell (p:=⟨b,off+1,none⟩) hl').trans h.c1,(hb.cell (p:=⟨b,off+2,none⟩) hl').trans h.c2⟩
theorem _root_.Go.Proofs.YtnhnpnafchkhiaaGreatDoor.K.RowOf.exs {w:World} {a:Option Addr} {n cap:Nat} {l:List Ex} (h:RowOf xcells w (.slice a n cap) l) : ∀ i (hi:i<l.length),∃ b off,a=some ⟨b,off,none⟩/\XeAt w b (off+i*3) l[i]:=fun i hi=>by
 obtain ⟨b,off,cap',hv,_,_,hc⟩:=h.at (by omega)
 injection hv with hv1 _ _
 exact ⟨b,off,hv1,⟨by simpa using row_cell hc i hi 0 (by decide) _ rfl,row_cell hc i hi 1 (by decide) _ rfl,row_cell hc i hi 2 (by decide) _ rfl⟩⟩
theorem _root_.Go.Proofs.YtnhnpnafchkhiaaGreatDoor.K.RowOf.bds {w:World} {a:Option Addr} {n cap:Nat} {l:List Bd} (h:RowOf bcells w (.slice a n cap) l) : ∀ i (hi:i<l.length),∃ b off,a=some ⟨b,off,none⟩/\BeAt w b (off+i*3) l[i]:=fun i hi=>by
 obtain ⟨b,off,cap',hv,_,_,hc⟩:=h.at (by omega)
 injection hv with hv1 _ _
 exact ⟨b,off,hv1,⟨by simpa using row_cell hc i hi 0 (by decide) _ rfl,row_cell hc i hi 1 (by decide) _ rfl,row_cell hc i hi 2 (by decide) _ rfl⟩⟩
structure RTAt (w:World) (p:Nat) (vx vb:Value) (s:Tb):Prop where
 blk:w.heap[p]? = some (.cells #[vx,vb] 68 (0,0))
 x:RowOf xcells w vx s.xs
 b:RowOf bcells w vb s.bs
 nx:vx.ownBlock≠some p
 nb:vb.ownBlock≠some p
def rfootT (p:Nat) (vx vb:Value) (k:Nat):Prop:=k=p\/vx.ownBlock=some k\/vb.ownBlock=some k
def RT (w:World) (p:Nat) (F:Nat->Prop) (s:Tb):Prop := ∃ vx vb,RTAt w p vx vb s/\(∀ k,F k↔rfootT p vx vb k) /\ ∀ k,F k->k<w.heap.size
section
variable {α:Type} {c:α->α->Int}
theorem Ord.nodup (h:Cmp3 c) {l:List α} (hl:Ord c l):l.Nodup:=hl.imp (fun {a b} hlt e=>by rw [e,h.self] at hlt; exact absurd hlt (by decide))
theorem Ord.ext (h:Cmp3 c) {l l':List α} (hl:Ord c l) (hl':Ord c l') (he : ∀ x,x∈l'↔x∈l):l'=l :=
 Ord.uniq h hl ((List.perm_ext_iff_of_nodup (hl'.nodup h) (hl.nodup h)).2 he) (hl'.imp (fun {a b} hlt=>by have:=h.neg a b; omega))
theorem cpt_ord [Inhabited α] [DecidableEq α] (h:Cmp3 c) (hz : ∀ a b,c a b=0->a=b) (d:Array α) (hd : ∀ i j,i<j->j<d.size->c d[i]! d[j]! <= 0) : ∀ m,m<=d.size ->
  Ord c (Lib.compactUpTo d m)/\(∀ x,x∈Lib.compactUpTo d m ↔ ∃ j,j<m/\d[j]! = x)
 |0,_=>⟨by simp [Lib.compactUpTo,Ord],fun x=>by simp [Lib.compactUpTo]⟩
 |m+1,hm=>by
  obtain ⟨h1,h2⟩:=cpt_ord h hz d hd m (by omega)
  rw [Lib.compactUpTo_succ]
  by_cases hk:Lib.keeps d m=true
  ·rw [if_pos hk]
   refine ⟨List.pairwise_append.2 ⟨h1,List.pairwise_singleton _ _,fun a ha b hb=>?_⟩,fun x=>?_⟩
   ·obtain ⟨j,hj,rfl⟩:=(h2 a).1 ha
    obtain rfl:b=d[m]! := by simpa using hb
    have hne:d[m]! ≠ d[m-1]! := by
     unfold Lib.keeps at hk
     rw [decide_eq_true_eq] at hk
     rcases hk with rfl | hk
     ·omega
     ·exact hk
    have l1:=hd (m-1) m (by omega) (by omega)
    have l2:c d[m-1]! d[m]! < 0:=by
     rcases Int.lt_or_lt_of_ne (fun e:c d[m-1]! d[m]! = 0=>hne (hz _ _ e).symm) with l | l
     ·exact l
     ·omega
    by_cases hj2:j=m-1
    ·rw [hj2]; exact l2
    ·have l3:=hd j (m-1) (by omega) (by omega)
     by_cases e:c d[j]! d[m-1]! = 0
     ·rw [hz _ _ e]; exact l2
     ·exact h.trans _ _ _ (by omega) l2
   ·rw [List.mem_append,h2]
    constructor
    ·rintro (⟨j,hj,rfl⟩ | hx)
     ·exact ⟨j,by omega,rfl⟩
     ·exact ⟨m,by omega,(List.mem_singleton.1 hx).symm⟩
    ·rintro ⟨j,hj,rfl⟩
     by_cases e:j=m
     ·subst e; right; simp
     ·left; exact ⟨j,by omega,rfl⟩
  ·rw [if_neg hk,List.append_nil]
   refine ⟨h1,fun x=>?_⟩
   rw [h2]
   have hk':m≠0/\d[m]! = d[m-1]! := by
    unfold Lib.keeps at hk
    rw [decide_eq_true_eq] at hk
    exact ⟨fun e=>hk (.inl e),Classical.byContradiction fun e=>hk (.inr e)⟩
   constructor
   ·rintro ⟨j,hj,rfl⟩; exact ⟨j,by omega,rfl⟩
   ·rintro ⟨j,hj,rfl⟩
    by_cases e:j=m
    ·subst e; exact ⟨j-1,by omega,hk'.2.symm⟩
    ·exact ⟨j,by omega,rfl⟩
end
instance memS (x:ByteArray) (l:List ByteArray):Decidable (x∈l):=decidable_of_iff (l.any (fun y=>decide (y=x))=true) (by simp)
def addS (x:ByteArray) (l:List ByteArray):List ByteArray:=if x∈l then l else insC cmpS x l
theorem mem_addS (x y:ByteArray) (l:List ByteArray):y∈addS x l↔y=x\/y∈l:=by
 unfold addS
 split
 ·rename_i h
  constructor
  ·exact .inr
  ·rintro (rfl | h') <;> assumption
 ·rw [(insC_perm x l).mem_iff,List.mem_cons]
theorem addS_ord {x:ByteArray} {l:List ByteArray} (h:Ord cmpS l):Ord cmpS (addS x l):=by
 unfold addS
 split
 ·exact h
 ·rename_i hn
  exact insC_ord cmpS3 h (fun y hy e=>hn (by rw [<- cmpS_eq e]; exact hy))
def mkS (l:List ByteArray):List ByteArray:=l.foldr addS []
theorem mkS_ord : ∀ l,Ord cmpS (mkS l)
 |[]=>List.Pairwise.nil
 |_::r=>addS_ord (mkS_ord r)
theorem mem_mkS (y:ByteArray) : ∀ l,y∈mkS l↔y∈l
 |[]=>Iff.rfl
 |x::r=>by
  show y∈addS x (mkS r)↔_
  rw [mem_addS,mem_mkS y r,List.mem_cons]
theorem mkS_length (l:List ByteArray):(mkS l).length<=l.length:=by
 induction l with
 |nil=>exact yyH _
 |cons x r ih =>
  show (addS x (mkS r)).length<=r.length+1
  unfold addS
  split
  ·omega
  ·rw [(insC_perm x (mkS r)).length_eq,List.length_cons]
   omega
def fitsX (x:Ex) (pat key:ByteArray):Bool:=goodX x && keyB (txt key) && (if x.kind=1 then pat.toList==key.toList else if x.kind=2 then pat.toList.isEmpty else matchB (txt pat) (txt key))
def qsel (x:Ex) (e key:ByteArray) (b:Bd):Bool:=decide (b.ex=e) && fitsX x b.pat key
def queuesT (s:Tb) (e key:ByteArray):List ByteArray:=match findX s.xs e with
 |none=>[]
 |some x=>mkS ((s.bs.filter (qsel x e key)).map Bd.que)
def whoT (s:Tb) (q:ByteArray):List ByteArray:=mkS ((s.bs.filter fun b=>decide (b.que=q)).map Bd.ex)
theorem queuesT_ord (s:Tb) (e key:ByteArray):Ord cmpS (queuesT s e key):=by
 unfold queuesT
 split
 ·exact List.Pairwise.nil
 ·exact mkS_ord _
theorem que_rise {a b:Bd} (h:cmpB a b<0) (he:a.ex=b.ex):cmpS a.que b.que<=0:=by
 unfold cmpB cor at h
 simp only at h
 rw [he,cmpS3.self,if_pos rfl] at h
 by_cases h2:cmpS a.que b.que=0
 ·omega
 ·rw [if_neg h2] at h; omega
theorem compact_rise {l:List ByteArray} (h:l.Pairwise fun a b=>cmpS a b<=0):Lib.compact (l.map (·.data.toList))=(mkS l).map (·.data.toList):=by
 have hC:Cmp3 (fun a b:List UInt8=>Lib.compareBytes a b):=⟨fun _ _=>cb_neg _ _,fun _ _ _=>cb_trans _ _ _,fun a b e d=>by rw [cb_eq a b e]⟩
 have hp:(l.map (·.data.toList)).Pairwise fun a b=>Lib.compareBytes a b<=0:=List.pairwise_map.2 h
 have hd : ∀ i j,i<j->j<(l.map (·.data.toList)).toArray.size->Lib.compareBytes (l.map (·.data.toList)).toArray[i]! (l.map (·.data.toList)).toArray[j]! <= 0:=fun i j hij hj=>by
  have hj':j<(l.map (·.data.toList)).length:=by simpa using hj
  rw [getElem!_pos _ i (by simp at hj' ⊢; omega),getElem!_pos _ j hj]
  exact List.pairwise_iff_getElem.1 hp i j (by omega) hj' hij
 obtain ⟨h1,h2⟩:=cpt_ord hC (fun _ _=>cb_eq _ _) _ hd (l.map (·.data.toList)).length (by simp)
 refine Ord.ext hC ?_ h1 (fun x=>?_)
 ·exact List.pairwise_map.2 (mkS_ord l)
 ·refine (h2 x).trans ?_
  simp only [List.mem_map,mem_mkS]
  constructor
  ·rintro ⟨j,hj,rfl⟩
   have hj':j<l.length:=by simpa using hj
   refine ⟨l[j],List.getElem_mem hj',?_⟩
   rw [getElem!_pos _ j (by simpa using hj')]
   simp
  ·rintro ⟨a,ha,rfl⟩
   obtain ⟨j,hj,rfl⟩:=List.mem_iff_getElem.1 ha
   refine ⟨j,by simpa using hj,?_⟩
   rw [getElem!_pos _ j (by simpa using hj)]
   simp
end Go.Proofs.YtnhnpnafchkhiaaGreatDoor.B
