import Derived.Test.YtnhnpnafchkhiaaGreatDoorQwA
import Derived.Test.YtnhnpnafchkhiaaGreatDoorQw11
import Derived.RangeFuncNested
import Derived.RangeFuncBound
import Derived.RangeFuncCalls
import Derived.RangeFuncLeaves
import Derived.RangeFuncBox
import Derived.Shelf.Abstract
import Derived.Shelf.RegionOpen
import Derived.OwnWalkIn
import Derived.TacticsInMore
import Derived.LoopNIn
import Derived.LoopIn
import Derived.Maps.AppendAt
import Derived.Test.YtnhnpnafchkhiaaGreatDoorQw0
set_option maxHeartbeats 2000000
set_option maxRecDepth 100000
namespace Go.Proofs.YtnhnpnafchkhiaaGreatDoor.S
open Go.RowKit Go.Sort
set_option maxRecDepth 20000
theorem id_cells (w:World) (o:Int) (n:Nat):(w.alloc (.cells #[.int .i64 o,.int .u64 (n:Int)] 38)).cell? ⟨w.heap.size,0,none⟩=some (.int .i64 o)/\(w.alloc (.cells #[.int .i64 o,.int .u64 (n:Int)] 38)).cell? ⟨w.heap.size,1,none⟩=some (.int .u64 (n:Int)):=by
 have:=heap_alloc_new w (.cells #[.int .i64 o,.int .u64 (n:Int)] 38)
 exact ⟨(cells2 this).1,(cells2 this).2.1⟩
theorem setNil_add (n:Nat) (w:World) :
  Calls Tryz.prog 186 #[.pointer none,.int .u64 (n:Int)] w fun e w'=>e=.returned (.bool false)/\w'=w:=by
 go_enter Tryz.func186,Tryz.ntmps186
 go_wp2
 go_ret
 exact ⟨rfl,rfl⟩
theorem bhas_any (b:Value) (f:Nat->List (Nat × Nat)) (o:Int) (n:Nat) (w:World) (h:Told w b f) (hf:Apart 1 (ofF f o)) (hlen:(ofF f o).length<=1000000) :
  Calls Tryz.prog 47 #[b,.agg #[.int .i64 o,.int .u64 (n:Int)]] w fun e w'=>e=.returned (.bool (memB (ofF f o) n))/\Below w.heap.size w w':=by
 obtain ⟨W,fold⟩ : ∃ W,w.alloc (.cells #[.int .i64 o,.int .u64 (n:Int)] 38)=W:=⟨_,rfl⟩
 have bW:Below w.heap.size w W:=by rw [<- fold]; exact (Below.refl _ _).alloc (yyH _) _
 obtain ⟨e0,e1⟩:W.cell? ⟨w.heap.size,0,none⟩=some (.int .i64 o)/\W.cell? ⟨w.heap.size,1,none⟩=some (.int .u64 (n:Int)):=by rw [<- fold]; exact id_cells w o n
 have bD:Below w.heap.size w W.drew:=bW.drew
 have hO:=of_any b f o W.drew (h.below bD)
 have HH:Hid (∀ V s,Lies V s (ofF f o)->Calls Tryz.prog 99 #[s,.int .u64 (n:Int)] V fun e w'=>e=.returned (.bool (memB (ofF f o) n))/\Below V.heap.size V w'):=fun V s hs=>has_any s _ n V hs hf hlen
 generalize memB (ofF f o) n=r at HH ⊢
 generalize ofF f o=l at HH hO
 obtain ⟨q,rfl⟩:=h.ptr
 clear h hf hlen
 go_enter Tryz.func47,Tryz.ntmps47
 go_wp2
 go_region_held3 (fun w'=>w'.cell? ⟨w.heap.size,0,none⟩=some (.int .i64 o)/\w'.cell? ⟨w.heap.size,1,none⟩=some (.int .u64 (n:Int))) (go_keep) (first
  |(go_at_call 67; refine hO.mono ?_; rintro e w3 ⟨s,rfl,hl,rfl⟩; obtain ⟨q2,rfl⟩:=hl.ptr)
  |(go_at_call 99; refine (HH.out _ _ hl).mono ?_; rintro e w4 ⟨rfl,b4⟩; have k0:=cell_on b4 e0; have k1:=cell_on b4 e1))
 all_goals go_wp2
 all_goals go_ret
 all_goals exact ⟨rfl,bD.trans (b4.mono bD.size)⟩
theorem badd_in (p i:Nat) (S:Nat->Nat) (v:Nat->Value) (f:Nat->List (Nat × Nat)) (o:Int) (n:Nat) (w:World) (h:BkAt w p S v f) (hi:i<8) (ho:o=(i:Int)+1) (hf:Fine (f i)) (hlen:(f i).length<=100000) (hn:n<18446744073709551616) :
  Calls Tryz.prog 142 #[ptrS p,.agg #[.int .i64 o,.int .u64 (n:Int)]] w fun e w'=>e=.returned (.bool (newB (f i) n)) /\ ∃ v',BkAt w' p S (putF v i v') (putF f i (addS (f i) n))/\Moved w w' (footB p S v) (footB p S (putF v i v')):=by
 obtain ⟨W,fold⟩ : ∃ W,w.alloc (.cells #[.int .i64 o,.int .u64 (n:Int)] 38)=W:=⟨_,rfl⟩
 have bW:Below w.heap.size w W:=by rw [<- fold]; exact (Below.refl _ _).alloc (yyH _) _
 obtain ⟨e0,e1⟩:W.cell? ⟨w.heap.size,0,none⟩=some (.int .i64 o)/\W.cell? ⟨w.heap.size,1,none⟩=some (.int .u64 (n:Int)):=by rw [<- fold]; exact id_cells w o n
 have bD:Below w.heap.size w W.drew:=bW.drew
 have hBk:BkAt W.drew p S v f:=h.same fun k hk=>bD.block k (h.lts k hk)
 have hO:Calls Tryz.prog 67 #[.pointer (some ⟨p,0,none⟩),.int .i64 o] W.drew (fun e w'=>e=.returned (.pointer (some ⟨S i,0,none⟩))/\w'=W.drew):=of_ptr p i o _ W.drew hi ho hBk.blk
 have hA:=add_any (S i) n (v i) (f i) W.drew (hBk.set i hi) hf.1 hf.2 hn hlen
 have HX:Hid (∀ w',Turned W.drew w' (S i) (v i)->w'.cell? ⟨w.heap.size,0,none⟩=some (.int .i64 o)/\w'.cell? ⟨w.heap.size,1,none⟩=some (.int .u64 (n:Int))):=fun w' t=>by
  have hx:w'.heap[w.heap.size]? = W.drew.heap[w.heap.size]? := t.block _ (World.block_lt_of_cell? W _ e0) (fun e=>by have:=h.lts (S i) (.inr ⟨i,hi,.inl rfl⟩); omega) (fun e=>by have:=h.lts _ (.inr ⟨i,hi,.inr e⟩); omega)
  exact ⟨(World.cell?_of_block (a:=⟨w.heap.size,0,none⟩) hx).trans e0,(World.cell?_of_block (a:=⟨w.heap.size,1,none⟩) hx).trans e1⟩
 have hend:Hid (∀ w' v',SetAt w' (S i) v' (addS (f i) n)->Turned W.drew w' (S i) (v i)->NewOr W.drew (v i) v'->BkAt w' p S (putF v i v') (putF f i (addS (f i) n))/\Moved w w' (footB p S v) (footB p S (putF v i v'))):=fun w' v' hs t nw =>
  ⟨hBk.add hi hs t nw,(Moved.of_below bD).trans (t.moved hi nw)⟩
 clear h hf hlen hBk hi ho hn bW
 generalize newB (f i) n=r at hA ⊢
 unfold ptrS at *
 go_enter Tryz.func142,Tryz.ntmps142
 go_wp2
 go_region_held3 (fun w'=>w'.cell? ⟨w.heap.size,0,none⟩=some (.int .i64 o)/\w'.cell? ⟨w.heap.size,1,none⟩=some (.int .u64 (n:Int))) (go_keep) (first
  |(go_at_call 67; refine hO.mono ?_; rintro e w3 ⟨rfl,rfl⟩)
  |(go_at_call 186; refine hA.mono ?_; rintro e w4 ⟨rfl,v',s4,t4,nw⟩; have HE:Hid _:=hend.out w4 v' s4 t4 nw; obtain ⟨k0,k1⟩:=HX.out w4 t4; clear s4 t4 nw))
 all_goals go_wp2
 all_goals go_ret
 all_goals exact ⟨rfl,v',HE.out⟩
theorem badd_nil (b:Value) (o:Int) (n:Nat) (w:World) (hb : ∃ q,b=.pointer q) (h : ∀ V,Below w.heap.size w V->Calls Tryz.prog 67 #[b,.int .i64 o] V fun e w'=>e=.returned (.pointer none)/\w'=V) :
  Calls Tryz.prog 142 #[b,.agg #[.int .i64 o,.int .u64 (n:Int)]] w fun e w'=>e=.returned (.bool false)/\Below w.heap.size w w':=by
 obtain ⟨W,fold⟩ : ∃ W,w.alloc (.cells #[.int .i64 o,.int .u64 (n:Int)] 38)=W:=⟨_,rfl⟩
 have bW:Below w.heap.size w W:=by rw [<- fold]; exact (Below.refl _ _).alloc (yyH _) _
 obtain ⟨e0,e1⟩:W.cell? ⟨w.heap.size,0,none⟩=some (.int .i64 o)/\W.cell? ⟨w.heap.size,1,none⟩=some (.int .u64 (n:Int)):=by rw [<- fold]; exact id_cells w o n
 have bD:Below w.heap.size w W.drew:=bW.drew
 have hO:=h W.drew bD
 have hA:=setNil_add n W.drew
 obtain ⟨q,rfl⟩:=hb
 clear h
 go_enter Tryz.func142,Tryz.ntmps142
 go_wp2
 go_region_held3 (fun w'=>w'.cell? ⟨w.heap.size,0,none⟩=some (.int .i64 o)/\w'.cell? ⟨w.heap.size,1,none⟩=some (.int .u64 (n:Int))) (go_keep) (first
  |(go_at_call 67; refine hO.mono ?_; rintro e w3 ⟨rfl,rfl⟩)
  |(go_at_call 186; refine hA.mono ?_; rintro e w4 ⟨rfl,rfl⟩))
 all_goals go_wp2
 all_goals go_ret
 all_goals exact ⟨rfl,bD⟩
theorem badd_any (p:Nat) (F:Nat->Prop) (f:Nat->List (Nat × Nat)) (o:Int) (n:Nat) (w:World) (h:Bk w p F f) (hf:FineF f) (hlen:LenF 100000 f) (hn:n<18446744073709551616) :
  Calls Tryz.prog 142 #[ptrS p,.agg #[.int .i64 o,.int .u64 (n:Int)]] w fun e w'=>e=.returned (.bool (freshF f o n)) /\ ∃ F',Bk w' p F' (addF f o n)/\Moved w w' F F':=by
 obtain ⟨S,v,hb,hF⟩:=h
 have e:F=footB p S v:=funext fun k=>propext (hF k)
 subst e
 by_cases ho:1<=o/\o<=8
 ·obtain ⟨i,hi,he⟩:=known_at ho
  refine (badd_in p i S v f o n w hb hi he (hf i hi) (hlen i hi) hn).mono ?_
  rintro e w' ⟨rfl,v',h1,h2⟩
  exact ⟨ret_bool (freshF_in hi he).symm,_,⟨S,_,by rw [addF_in hi he]; exact h1,fun _=>Iff.rfl⟩,h2⟩
 ·refine (badd_nil _ o n w ⟨_,rfl⟩ fun V _=>of_none o _ V (.inr ⟨p,rfl⟩) (.inr ho)).mono ?_
  rintro e w' ⟨rfl,b⟩
  exact ⟨ret_bool (freshF_out ho).symm,_,⟨S,v,by rw [addF_out ho]; exact hb.same fun k hk=>b.block k (hb.lts k hk),fun _=>Iff.rfl⟩,.of_below b⟩
def putE (o:Int) (l:List (Nat × Nat)):Int:=if 1<=o/\o<=8 then (if goodB 1 l=true then 0 else 7) else 2
def putS (f:Nat->List (Nat × Nat)) (o:Int) (l:List (Nat × Nat)):Nat->List (Nat × Nat):=if (1<=o/\o<=8)/\goodB 1 l=true then putF f (o-1).toNat l else f
theorem BkAt.moved_put {w w1:World} {p:Nat} {S:Nat->Nat} {v:Nat->Value} {i B:Nat} {v':Value} (hi:i<8) (b:Below w.heap.size w w1) (hfr:From0 w.heap.size B v'):Moved w (w1.setCell ⟨p,i,none⟩ (ptrS B)) (footB p S v) (footB p (putF S i B) (putF v i v')):=by
 refine ⟨b.os,b.tape,b.output,by simpa using b.size,fun k hk hn=>?_,?_⟩
 ·rw [Below.heap_setCell _ _ _ _ (fun e=>hn (.inl e)),b.block k hk]
 ·rintro k (rfl | ⟨j,hj,hk⟩)
  ·exact .inl (.inl rfl)
  ·by_cases e:j=i
   ·subst e
    rw [putF_at,putF_at] at hk
    rcases hk with rfl | hk
    ·exact .inr hfr.1
    ·exact .inr (hfr.2 k hk)
   ·rw [putF_ne _ _ e,putF_ne _ _ e] at hk
    exact .inl (.inr ⟨j,hj,hk⟩)
structure Fill (w wr:World) (k:Nat):Prop where
 blk:wr.heap[w.heap.size]? = some (.cells (fcells 8 fun j=>if j<k then ptrS (w.heap.size+1+j) else .pointer none).toArray 131 (0,0))
 size:wr.heap.size=w.heap.size+1+k
 set : ∀ j,j<k->wr.heap[w.heap.size+1+j]? = some (.cells #[.bool true,.slice none 0 0] 189 (0,0))
 bel:Below w.heap.size w wr
theorem Fill.drew {w wr:World} {k:Nat} (h:Fill w wr k):Fill w wr.drew k:=⟨h.blk,h.size,h.set,h.bel.drew⟩
theorem Fill.step {w wr:World} {k:Nat} (h:Fill w wr k):Fill w ((wr.alloc (.cells #[.bool true,.slice none 0 0] 189)).setCell ⟨w.heap.size,k,none⟩ (.pointer (some ⟨wr.heap.size,0,none⟩))) (k+1):=by
 have hlt:w.heap.size<wr.heap.size:=by have:=h.size; omega
 have hb:(wr.alloc (.cells #[.bool true,.slice none 0 0] 189)).heap[w.heap.size]? = _:=(Below.heap_alloc wr _ _ hlt).trans h.blk
 refine ⟨?_,?_,fun j hj=>?_,(h.bel.alloc h.bel.size _).setCell (p:=⟨w.heap.size,k,none⟩) (yyH _) _⟩
 ·rw [heap_fset hb,fcells_congr (t:=fun j=>if j<k+1 then ptrS (w.heap.size+1+j) else .pointer none)]
  intro j _
  unfold putF
  by_cases e:j=k
  ·subst e
   rw [if_pos rfl,if_pos (by omega),<- h.size]
   rfl
  ·rw [if_neg e]
   show (if j<k then _ else _)=_
   by_cases e2:j<k
   ·rw [if_pos e2,if_pos (by omega)]
   ·rw [if_neg e2,if_neg (by omega)]
 ·simp [h.size]; omega
 ·rw [Below.heap_setCell _ _ _ _ (show w.heap.size+1+j≠w.heap.size by omega)]
  by_cases e:j=k
  ·subst e
   rw [<- h.size]
   exact heap_alloc_new wr _
  ·rw [Below.heap_alloc wr _ _ (by rw [h.size]; omega)]
   exact h.set j (by omega)
theorem Fill.done {w wr:World} (h:Fill w wr 8) : ∃ F,Bk wr w.heap.size F (fun _=>[]) /\ ∀ k,F k->w.heap.size<=k:=by
 refine ⟨_,⟨fun j=>w.heap.size+1+j,fun _=>.slice none 0 0,⟨?_,fun i hi=>⟨h.set i hi,own2_nil _ _⟩,fun i j _ _ e=>by omega,fun i j _ _ _ g hg=>by simp [Value.ownBlock] at hg⟩,fun _=>Iff.rfl⟩,?_⟩
 ·rw [h.blk,fcells_congr (t:=fun i=>ptrS (w.heap.size+1+i))]
  intro i hi
  rw [if_pos hi]
 ·rintro k (rfl | ⟨i,hi,rfl | hk⟩)
  ·exact yyH _
  ·show w.heap.size<=w.heap.size+1+i
   omega
  ·simp [Value.ownBlock] at hk
theorem bnew_any (w:World) :
  Calls Tryz.prog 23 #[] w fun e w'=>e=.returned (ptrS w.heap.size) /\ ∃ F,Bk w' w.heap.size F (fun _=>[])/\(∀ k,F k->w.heap.size<=k)/\Below w.heap.size w w':=by
 obtain ⟨W,fold⟩ : ∃ W,w.alloc (.cells #[.pointer none,.pointer none,.pointer none,.pointer none,.pointer none,.pointer none,.pointer none,.pointer none] 131)=W:=⟨_,rfl⟩
 have H0:Fill w W 0:=by
  rw [<- fold]
  exact ⟨heap_alloc_new w _,by simp,fun j hj=>absurd hj (Nat.not_lt_zero _),(Below.refl _ _).alloc (yyH _) _⟩
 go_enter Tryz.func23,Tryz.ntmps23
 go_wp2
 clear fold
 go_loopw [5] (fun u5 wr => ∃ k:Nat,u5=.int .i64 k/\k<=8/\Fill w wr k) (fun u5 _=>8-(intOf u5).toNat)
 case atStart=>exact ⟨0,rfl,by omega,H0⟩
 case round =>
  obtain ⟨k,rfl,hk,HF⟩:=hrel
  clear H0
  by_cases hlt2:k<8
  ·have hlt:(k:Int)<8:=by omega
   have hp:w.heap.size<wr.heap.size:=by have:=HF.size; omega
   have c0:wr.cell? ⟨w.heap.size,k,none⟩=some (.pointer none):=by rw [cell_of_list HF.blk,fcells_get _ hlt2,if_neg (by omega)]
   have f0:wr.frozen? ⟨w.heap.size,k,none⟩=false:=by simp [World.frozen?,HF.blk]
   have HS:Hid (Fill w ((wr.drew.alloc (.cells #[.bool true,.slice none 0 0] 189)).setCell ⟨w.heap.size,k,none⟩ (.pointer (some ⟨wr.drew.heap.size,0,none⟩))) (k+1)):=HF.drew.step
   have hN:=new_any wr.drew
   have HC:Hid (∀ w3,w3=wr.drew.alloc (.cells #[.bool true,.slice none 0 0] 189)->w3.cell? ⟨w.heap.size,k,none⟩=some (.pointer none)/\w3.frozen? ⟨w.heap.size,k,none⟩=false):=fun w3 e=>by
    subst e
    exact ⟨(World.cell?_of_block (a:=⟨w.heap.size,k,none⟩) (Below.heap_alloc wr.drew _ _ hp)).trans c0,(World.frozen?_of_block (a:=⟨w.heap.size,k,none⟩) (Below.heap_alloc wr.drew _ _ hp)).trans f0⟩
   clear HF hp
   go_wp2
   go_region_held3 (fun w'=>w'.frozen? ⟨w.heap.size,k,none⟩=false) (go_keep) (first
    |(go_at_call 55; refine hN.mono ?_; rintro e w3 ⟨rfl,_,hw3⟩; obtain ⟨k0,k1⟩:=HC.out w3 hw3; have HW:Hid _:=hw3; clear hw3))
   all_goals go_wp2
   all_goals refine ⟨⟨k+1,by go_num,by omega,?_⟩,by simp [intOf]; omega⟩
   all_goals (rw [HW.out]; exact HS.out)
  ·obtain rfl:k=8:=by omega
   go_wp2
   go_ret
   obtain ⟨F,h1,h2⟩:=HF.done
   exact ⟨rfl,F,h1,h2,HF.bel⟩
end Go.Proofs.YtnhnpnafchkhiaaGreatDoor.S
namespace Go.Proofs.YtnhnpnafchkhiaaGreatDoor.S
open Go.RowKit Go.Shelf
set_option maxRecDepth 20000
attribute [local go_sem] Oper.semAt_some
def liveK (f:Nat->List (Nat × Nat)) (k:Nat):List Nat:=(List.range k).filter fun i=>decide (0<topL (f i))
def liveL (f:Nat->List (Nat × Nat)):List Nat:=liveK f 8
theorem liveK_len (f:Nat->List (Nat × Nat)) (k:Nat):(liveK f k).length<=k:=by
 have:=List.length_filter_le (fun i=>decide (0<topL (f i))) (List.range k)
 simpa [liveK] using this
theorem liveK_yes {f:Nat->List (Nat × Nat)} {k:Nat} (h:0<topL (f k)):liveK f (k+1)=liveK f k++[k]:=by simp [liveK,List.range_succ,List.filter_append,h]
theorem liveK_no {f:Nat->List (Nat × Nat)} {k:Nat} (h : ¬ 0<topL (f k)):liveK f (k+1)=liveK f k:=by simp [liveK,List.range_succ,List.filter_append,h]
theorem liveK_pre {f:Nat->List (Nat × Nat)} {k m:Nat} (h:k<=m):liveK f k <+: liveK f m:=by
 obtain ⟨d,rfl⟩:=Nat.exists_eq_add_of_le h
 induction d with
 |zero=>exact List.prefix_refl _
 |succ d ih =>
  refine (ih (by omega)).trans ?_
  rw [<- Nat.add_assoc]
  by_cases ht:0<topL (f (k+d))
  ·rw [liveK_yes ht]; exact List.prefix_append _ _
  ·rw [liveK_no ht]; exact List.prefix_refl _
def Gives (w:World) (b:Value) (s:Nat->Value) (f:Nat->List (Nat × Nat)):Prop := ∀ V,Below w.heap.size w V -> ∀ i:Nat,i<8->Calls Tryz.prog 67 #[b,.int .i64 ((i:Int)+1)] V (fun e w'=>e=.returned (s i)/\w'=V)/\Lies V (s i) (f i)
theorem Told.gives {w:World} {b:Value} {f:Nat->List (Nat × Nat)} (h:Told w b f) : ∃ s,Gives w b s f:=by
 rcases h.way with ⟨rfl,rfl⟩ | ⟨p,s,rfl,hp,hs⟩
 ·exact ⟨fun _=>.pointer none,fun V _ i _=>⟨of_none _ _ V (.inl rfl) (.inl rfl),.inl ⟨rfl,rfl⟩⟩⟩
 ·exact ⟨s,fun V hV i hi=>⟨of_ptr p i _ s V hi rfl (by rw [hV.block p (yyD hp).1]; exact hp),(hs i hi).below hV (yyH _)⟩⟩
def KeepB (n₀ Bn:Nat) (W W':World):Prop:=Below n₀ W W'/\W'.heap[Bn]? = W.heap[Bn]?
theorem keepB_t {n₀ Bn:Nat} {A B C:World} (h:KeepB n₀ Bn A B) (k:KeepB n₀ Bn B C):KeepB n₀ Bn A C:=⟨h.1.trans k.1,k.2.trans h.2⟩
theorem keepB_b {n₀ Bn:Nat} {w:World} (hn:n₀<=w.heap.size) (hB:Bn<w.heap.size) (W:World) (l:Nat) (o o':Obj) (hl:w.heap.size<=l) (h:W.heap[l]? = some o) (h1:o.isCells=false) (h2:o.isWalk=false):KeepB n₀ Bn W (W.putObj l o') :=
 ⟨belowK_b hn W l o o' hl h h1 h2,World.putObj_heap_other (by omega)⟩
theorem all_any (q:Option Addr) (w:World) :
  Calls Tryz.prog 66 #[.pointer q] w fun e w'=>e=.returned (.func (.func 118) #[] #[.pointer (some ⟨w.heap.size,0,none⟩)])/\w'=w.alloc (.cells #[.pointer q] 84):=by
 go_enter Tryz.func66,Tryz.ntmps66
 go_wp2
 go_ret
 exact ⟨rfl,rfl⟩
theorem all1_in (n:Nat) (_hn:1<=n) (l Bn:Nat) (b:Value) (s:Nat->Value) (f:Nat->List (Nat × Nat)) (w:World) (hg:Gives w b s f) (J Jx:List Nat->World->Prop)
  (hY : ∀ (pre:List Nat) (x:Nat) (W:World),x<8->J pre W->pre.length<8->YieldAt Fence.wide (n-1) Tryz.prog l #[.int .i64 ((x:Int)+1),s x] W fun e W' =>
   (e=.returned (.bool true)/\J (pre++[x]) W'/\KeepB w.heap.size Bn W W')\/(e=.returned (.bool false)/\Jx (pre++[x]) W'))
  (W:World) (hW:Below w.heap.size w W) (hBn:W.cell? ⟨Bn,0,none⟩=some b) (h0:J [] W) :
  CallsIn Fence.wide n Tryz.prog 118 #[.func (.yield l) #[] #[],.pointer (some ⟨Bn,0,none⟩)] W fun e W'=>(∃ v,e=.returned v) /\
   ((∃ ys,ys=liveL f/\J ys W')\/(∃ pre,pre <+: liveL f/\Jx pre W')):=by
 refine callsIn_of_wp Tryz.func118 rfl trivial ?_ rfl
 simp only [Tryz.ntmps118,List.size_toArray,List.length_cons,List.length_nil,Nat.reduceAdd,Nat.reduceSub,Array.replicate_succ,Array.replicate_zero,List.push_toArray,List.append_toArray,List.nil_append,List.cons_append]
 gi_wp2
 gi_loopw [3] (fun p wr => ∃ k:Nat,p=.int .i64 ((k:Int)+1)/\k<=8/\Below w.heap.size w wr/\wr.cell? ⟨Bn,0,none⟩=some b/\J (liveK f k) wr)
  (fun p _=>9-(intOf p).toNat)
 case atStart=>exact ⟨0,rfl,by omega,hW,hBn,h0⟩
 case round =>
  obtain ⟨k,rfl,hk,hB,hc,hJ⟩:=hrel
  have hKn:=known_any ((k:Int)+1) wr
  by_cases hlt:k<8
  ·rw [show knownB ((k:Int)+1)=true from decide_eq_true (by omega)] at hKn
   obtain ⟨hO,hL⟩:=hg wr hB k hlt
   have hT:=top_any (s k) (f k) wr hL
   obtain ⟨q,hq⟩:=hL.ptr
   have hst := @liveK_yes f k
   have hst2 := @liveK_no f k
   have HP:Hid (liveK f k++[k]=liveK f (k+1)->liveK f k++[k] <+: liveL f):=fun e=>by rw [e]; exact liveK_pre (by omega)
   have hYk:=hY (liveK f k) k wr hlt hJ (by have:=liveK_len f k; omega)
   rw [hq] at hO hT hYk
   generalize hm:topL (f k)=m at hT hst hst2
   clear hm hL hY
   by_cases hp:0<m
   ·have hd:decide ((0:Int)<(m:Int))=true:=decide_eq_true (by omega)
    have HS:Hid (liveK f (k+1)=liveK f k++[k]):=hst hp
    clear hst hst2
    obtain ⟨fn,tmps,assign,body,hy,hR⟩:=hYk
    gi_wp2_with (first
     |(refine ⟨trivial,?_⟩; gi_at_call 119; refine (callsIn_wide.2 hKn).mono ?_; rintro e w' ⟨rfl,rfl⟩)
     |(refine ⟨trivial,?_⟩; gi_at_call 67; refine (callsIn_wide.2 hO).mono ?_; rintro e w' ⟨rfl,rfl⟩)
     |(refine ⟨trivial,?_⟩; gi_at_call 120; refine (callsIn_wide.2 hT).mono ?_; rintro e w' ⟨rfl,rfl⟩))
    refine hR.mono ?_
    rintro e W3 (⟨rfl,hJ3,hk3⟩ | ⟨rfl,hJx3⟩)
    ·gi_wp2
     go_roundw
     case rel=>exact ⟨k+1,by go_num,by omega,hB.trans hk3.1,(World.cell?_of_block (a:=⟨Bn,0,none⟩) hk3.2).trans hc,by rw [HS.out]; exact hJ3⟩
     case measure=>simp [intOf]; omega
    ·gi_wp2
     refine bodyPost_ret (results_none rfl _ _ _) rfl ?_
     exact ⟨⟨_,rfl⟩,.inr ⟨_,HP.out HS.out.symm,hJx3⟩⟩
   ·have HS:Hid (liveK f (k+1)=liveK f k):=hst2 hp
    clear hst hst2
    obtain rfl:m=0:=by omega
    rw [show ((0:Nat):Int)=0 from rfl] at hT
    gi_wp2_with (first
     |(refine ⟨trivial,?_⟩; gi_at_call 119; refine (callsIn_wide.2 hKn).mono ?_; rintro e w' ⟨rfl,rfl⟩)
     |(refine ⟨trivial,?_⟩; gi_at_call 67; refine (callsIn_wide.2 hO).mono ?_; rintro e w' ⟨rfl,rfl⟩)
     |(refine ⟨trivial,?_⟩; gi_at_call 120; refine (callsIn_wide.2 hT).mono ?_; rintro e w' ⟨rfl,rfl⟩))
    refine ⟨fun f h=>(by cases h),?_⟩
    gi_wp2
    go_roundw
    case rel=>exact ⟨k+1,by go_num,by omega,hB,hc,by rw [HS.out]; exact hJ⟩
    case measure=>simp [intOf]; omega
  ·obtain rfl:k=8:=by omega
   rw [show knownB (((8:Nat):Int)+1)=false from rfl] at hKn
   gi_wp2_with (refine ⟨trivial,?_⟩; gi_at_call 119; refine (callsIn_wide.2 hKn).mono ?_; rintro e w' ⟨rfl,rfl⟩)
   go_end0
   exact ⟨⟨_,rfl⟩,.inl ⟨_,rfl,hJ⟩⟩
end Go.Proofs.YtnhnpnafchkhiaaGreatDoor.S
namespace Go.Proofs.YtnhnpnafchkhiaaGreatDoor.S
open Go.RowKit Go.Shelf
set_option maxRecDepth 20000
attribute [local go_sem] Oper.semAt_some
theorem all_stops (n:Nat) (hn:1<=n) (Bn:Nat) (b:Value) (s:Nat->Value) (f:Nat->List (Nat × Nat)) (w w0:World) (hg:Gives w b s f) (hb:Below w.heap.size w w0) (hBn:Bn<w0.heap.size) (hc:w0.cell? ⟨Bn,0,none⟩=some b) :
  SeqStopsK Fence.wide n Tryz.prog 118 #[.pointer (some ⟨Bn,0,none⟩)] (fun x:Nat => #[Value.int .i64 ((x:Int)+1),s x]) (KeepB w.heap.size Bn) (fun ys=>ys=liveL f) (fun pre=>pre <+: liveL f) 8 w0:=fun l J Jx W hW _ _ hY h0 =>
 all1_in n hn l Bn b s f w hg J Jx (fun pre x W _=>hY pre x W) W (hb.trans (hW.mono hb.size)) ((hW.cell (p:=⟨Bn,0,none⟩) hBn).trans hc) h0
theorem infoInt:(Tryz.prog.info? 3).map (fun i=>(i.zero,i.size,i.bytes))=some (some (.int .i64 0),1,8):=by kernel_rfl
theorem boxed_own {β:Type} (B:Nat) (t:TypeId) (v:Value):Own (fun (_:β) W=>Boxed W B t v):=by
 intro s X Y row h hg hrow
 refine h.kept hg fun e=>?_
 obtain ⟨o,ho,hc⟩:=hrow B e.symm
 rw [show X.heap[B]? = _ from h] at ho
 cases ho
 cases hc
def places (l:List Nat):List Int:=l.map fun i:Nat=>(i:Int)+1
theorem places_len (l:List Nat):(places l).length=l.length:=by simp [places]
theorem places_snoc (l:List Nat) (x:Nat):places (l++[x])=places l++[(x:Int)+1]:=by simp [places]
theorem origins_in (q:Option Addr) (f:Nat->List (Nat × Nat)) (w:World) (h:Told w (.pointer q) f) :
  CallsIn Fence.wide 3 Tryz.prog 29 #[.pointer q] w fun e W' => ∃ v,e=.returned v/\Own1 W' w.heap.size 3 v (icells (places (liveL f)))/\Below w.heap.size w W':=by
 obtain ⟨s,hg⟩:=h.gives
 obtain ⟨i0,hi,hz0,hz1,hz2⟩:=info_parts infoInt
 clear h
 refine callsIn_of_wp_marks Tryz.func29 rfl trivial ?_ rfl
 simp only [Tryz.ntmps29,List.size_toArray,List.length_cons,List.length_nil,Nat.reduceAdd,Nat.reduceSub,Array.replicate_succ,Array.replicate_zero,List.push_toArray,List.append_toArray,List.nil_append,List.cons_append]
 gi_wp2_with (refine ⟨trivial,?_⟩; gi_at_call 66; refine (callsIn_wide.2 (all_any q _)).mono ?_; rintro e w' ⟨rfl,rfl⟩)
 have bO:=Boxed.new w 60 (.slice none 0 0)
 have bN:=Boxed.new (w.alloc (.cells #[.slice none 0 0] 60)) 84 (.pointer q)
 simp only [World.size_alloc] at bN
 have hB0:Below w.heap.size w ((w.alloc (.cells #[.slice none 0 0] 60)).alloc (.cells #[.pointer q] 84)):=((Below.refl _ _).alloc (yyH _) _).alloc (by simp) _
 refine wpIn_rangeFunc_ownG rfl (by decide) (gf:=118) (lb := #[.pointer (some ⟨w.heap.size+1,0,none⟩)]) rfl trivial (enters_of Tryz.func118 (by kernel_rfl) rfl)
  (all_stops _ (by decide) (w.heap.size+1) (.pointer q) s f w _ hg hB0 bN.lt bN.cell) keepB_t (keepB_b (by simp; omega) bN.lt) (Below.refl _ _) (fun _=>rfl)
  (fun pre W=>((∃ v,Boxed W w.heap.size 60 v/\W.ownsRow w.heap.size 3 1 v pre.length (icells (places pre))/\True)/\Boxed W (w.heap.size+1) 84 (.pointer q))/\Below w.heap.size w W)
  (fun _ _ _=>False)
  (OwnFrom.and (OwnFrom.and (Own.from (holdsRow_own w.heap.size w.heap.size 60 3 1 (fun pre:List Nat=>pre.length) (fun pre=>icells (places pre)) (fun _ _=>True)) _) (Own.from (boxed_own _ _ _) _)) (ownFrom_below (yyH _) (by simp; omega)))
  (fun _ _ _ _ _ hs _ _=>hs)
  ⟨⟨⟨_,bO.alloc _,World.ownsRow_nil _ _ _ _,trivial⟩,bN⟩,hB0⟩
  (fun x=>{ tmps := #[.pointer q,undef,.slice none 0 0,.pointer (some ⟨w.heap.size,0,none⟩),.int .i64 ((x:Int)+1),.pointer q,.func (.func 118) #[] #[.pointer (some ⟨w.heap.size+1,0,none⟩)],.int .i64 ((x:Int)+1),s x,undef,undef,undef,undef,undef],defers:=[] }) ?assign ?body ?done ?stop
 case assign =>
  intro l x W K hK
  gi_wp2
  exact hK
 case body =>
  rintro l pre x W ⟨⟨⟨v,hv,hrow,_⟩,hN⟩,hB⟩ hlt
  have hc:=hv.cell
  have hsz:w.heap.size<=W.heap.size:=hB.size
  obtain ⟨ga,gc,hgv⟩ : ∃ a cap,v=.slice a pre.length cap:=by
   obtain ⟨a,cap,h⟩:=(row_of_owns (cs:=icells (places pre)) (by rw [icells_length,places_len]; exact hrow)).slice
   rw [icells_length,places_len] at h
   exact ⟨a,cap,h⟩
  subst hgv
  gi_wp2_with (gi_at_builtin; refine wpListIn_append_own _ rfl _ _ 60 rfl w.heap.size 3 i0 (.int .i64 0) 1 8 Tryz.underlying60 hi hz0 hz1 hz2 rfl (by decide) _ _ _ rfl (hrow.alloc _) ⟨W.heap.size,0,none⟩ 1 1 [.int .i64 ((x:Int)+1)] rfl rfl (cell_one_new _ _ _) (by simp [Value.oneCell']) (by unfold maxLen; omega) (by omega) (by simp; omega) ?_; intro v' w1 hown' hgrow _; obtain ⟨g',cap',rfl⟩:=ownsRow_succ hown'; obtain ⟨hv1,hv2,hr2,hk2,hb2⟩:=hv.appended (by decide) hrow hsz (yyH _) hown' hgrow; have hc1:=hv1.cell; have hf1:=hv1.frozen; have hN1:Hid _:=(hN.alloc _).kept hgrow (hN.not_row (by decide) hrow))
  have hN2:Boxed (w1.setCell ⟨w.heap.size,0,none⟩ (.slice (some ⟨g',0,none⟩) (pre.length+1) cap')) (w.heap.size+1) 84 (.pointer q):=(Below.heap_setCell _ _ _ _ (show w.heap.size+1≠w.heap.size by omega)).trans hN1.out
  refine ⟨hk2.from _,⟨hb2,?_⟩,⟨⟨_,hv2,?_,trivial⟩,hN2⟩,hB.trans hb2⟩
  ·rw [show (w1.setCell ⟨w.heap.size,0,none⟩ (.slice (some ⟨g',0,none⟩) (pre.length+1) cap')).heap[w.heap.size+1]? = _ from hN2,show W.heap[w.heap.size+1]? = _ from hN]
  ·rw [places_snoc,icells_append,List.length_append]
   exact hr2
 case done =>
  rintro D ys W hD rfl ⟨⟨⟨v,hv,hrow,_⟩,hN⟩,hB⟩ hK
  have hc:=hv.cell
  gi_wp2
  refine ⟨by simp,.inl ⟨_,_,rfl,run_takeDeferred hK,?_⟩⟩
  refine ⟨_,results_tmp rfl _ _ _,v,rfl,?_,hB.trans (belowK_b (w:=w) (yyH _) W D _ _ (by simp at hD; omega) hK rfl rfl)⟩
  unfold Own1
  rw [icells_length,places_len]
  exact ownsRow_putObj hrow _ hK rfl
 case stop =>
  rintro D c pre W _ _ h _
  exact h.elim
theorem origins_any (b:Value) (f:Nat->List (Nat × Nat)) (w:World) (h:Told w b f) :
  Calls Tryz.prog 29 #[b] w fun e W' => ∃ v,e=.returned v/\Own1 W' w.heap.size 3 v (icells (places (liveL f)))/\Below w.heap.size w W':=by
 obtain ⟨q,rfl⟩:=h.ptr
 exact callsIn_wide.1 (origins_in q f w h)
end Go.Proofs.YtnhnpnafchkhiaaGreatDoor.S
namespace Go.Proofs.YtnhnpnafchkhiaaGreatDoor.S
open Go.RowKit
theorem branges_any (b:Value) (f:Nat->List (Nat × Nat)) (o:Int) (w:World) (h:Told w b f) (hlen:(ofF f o).length<=1000000) :
  Calls Tryz.prog 30 #[b,.int .i64 o] w fun e w' => ∃ v',e=.returned v'/\Own2 w' w.heap.size v' (ofF f o)/\Below w.heap.size w w':=by
 have hO:=of_any b f o w h
 generalize ofF f o=l at hO hlen ⊢
 obtain ⟨q,rfl⟩:=h.ptr
 go_enter Tryz.func30,Tryz.ntmps30
 go_wp2_with fail
 refine hO.mono ?_
 rintro e w ⟨s,rfl,hl,rfl⟩
 obtain ⟨q2,rfl⟩:=hl.ptr
 go_wp2_with fail
 refine (ranges_any _ l _ hl hlen).mono ?_
 rintro e w2 ⟨v',rfl,own,b⟩
 obtain ⟨va,vc,rfl⟩:=own.rng.slice
 go_wp2
 go_ret
 exact ⟨_,rfl,own,b⟩
end Go.Proofs.YtnhnpnafchkhiaaGreatDoor.S
