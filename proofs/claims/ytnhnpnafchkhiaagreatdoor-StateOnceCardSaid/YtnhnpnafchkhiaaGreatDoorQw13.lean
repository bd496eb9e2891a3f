import Derived.Test.YtnhnpnafchkhiaaGreatDoorQwA
import Derived.Test.YtnhnpnafchkhiaaGreatDoorQw12
namespace Go.Proofs.YtnhnpnafchkhiaaGreatDoor.S
open Go.RowKit Go.Shelf
set_option maxRecDepth 20000
attribute [local go_sem] Oper.semAt_some
theorem all_stops8 (n:Nat) (hn:1<=n) (Bn:Nat) (b:Value) (s:Nat->Value) (f:Nat->List (Nat × Nat)) (w w0:World) (hg:Gives w b s f) (hb:Below w.heap.size w w0) (hBn:Bn<w0.heap.size) (hc:w0.cell? ⟨Bn,0,none⟩=some b) :
  SeqStopsK Fence.wide n Tryz.prog 118 #[.pointer (some ⟨Bn,0,none⟩)] (fun x:Fin 8 => #[Value.int .i64 ((x.1:Int)+1),s x.1]) (KeepB w.heap.size Bn) (fun ys=>ys.map Fin.val=liveL f) (fun _=>True) 8 w0:=fun l J Jx W hW _ _ hY h0=>by
 refine (all1_in n hn l Bn b s f w hg (fun pre W => ∃ pf:List (Fin 8),pf.map Fin.val=pre/\J pf W) (fun pre W => ∃ pf:List (Fin 8),pf.map Fin.val=pre/\Jx pf W) ?_ W (hb.trans (hW.mono hb.size)) ((hW.cell (p:=⟨Bn,0,none⟩) hBn).trans hc) ⟨[],rfl,h0⟩).mono ?_
 ·rintro pre x W1 hx ⟨pf,rfl,hj⟩ hl
  refine (hY pf ⟨x,hx⟩ W1 hj (by simpa using hl)).mono ?_
  rintro e W' (⟨rfl,h1,h2⟩ | ⟨rfl,h1⟩)
  ·exact .inl ⟨rfl,⟨pf++[⟨x,hx⟩],by simp,h1⟩,h2⟩
  ·exact .inr ⟨rfl,pf++[⟨x,hx⟩],by simp,h1⟩
 ·rintro e W' ⟨h1,⟨ys,rfl,pf,h2,h3⟩ | ⟨pre,_,pf,_,h3⟩⟩
  ·exact ⟨h1,.inl ⟨pf,h2,h3⟩⟩
  ·exact ⟨h1,.inr ⟨pf,trivial,h3⟩⟩
def copyF (f:Nat->List (Nat × Nat)) (pre:List (Fin 8)):Nat->List (Nat × Nat):=fun i=>if i∈pre.map Fin.val then f i else []
theorem copyF_snoc (f:Nat->List (Nat × Nat)) (pre:List (Fin 8)) (x:Fin 8):putF (copyF f pre) x.1 (f x.1)=copyF f (pre++[x]):=by
 funext i
 unfold putF copyF
 by_cases h:i=x.1
 ·rw [if_pos h,if_pos (by rw [h]; simp),h]
 ·rw [if_neg h]
  by_cases h2:i∈pre.map Fin.val
  ·rw [if_pos h2,if_pos (by rw [List.map_append]; exact List.mem_append_left _ h2)]
  ·rw [if_neg h2,if_neg (fun h3=>by rw [List.map_append,List.mem_append] at h3; exact h3.elim h2 (fun h4=>h (by simpa using h4)))]
theorem topL_pos {l:List (Nat × Nat)} (h:Apart 1 l) (hl:l≠[]):0<topL l:=by
 unfold topL
 rw [List.getLast?_eq_some_getLast hl]
 have:=h.lowR (List.getLast_mem hl)
 show 0<(l.getLast hl).2
 omega
theorem live_mem {f:Nat->List (Nat × Nat)} (hf:FineF f) {i:Nat} (hi:i<8):i∈liveL f↔f i≠[]:=by
 unfold liveL liveK
 rw [List.mem_filter,List.mem_range]
 constructor
 ·rintro ⟨_,h⟩ e
  rw [e] at h
  simp [topL] at h
 ·exact fun h=>⟨hi,decide_eq_true (topL_pos (hf i hi).1 h)⟩
theorem copyF_all {f:Nat->List (Nat × Nat)} (hf:FineF f) {ys:List (Fin 8)} (h:ys.map Fin.val=liveL f) (i:Nat) (hi:i<8):copyF f ys i=f i:=by
 unfold copyF
 rw [h]
 by_cases e:f i=[]
 ·rw [if_neg (fun hm=>(live_mem hf hi).1 hm e),e]
 ·rw [if_pos ((live_mem hf hi).2 e)]
theorem BkAt.congr {w:World} {p:Nat} {S:Nat->Nat} {v:Nat->Value} {f g:Nat->List (Nat × Nat)} (h:BkAt w p S v f) (e : ∀ i,i<8->f i=g i):BkAt w p S v g:=⟨h.blk,fun i hi=>e i hi ▸ h.set i hi,h.inj,h.ap⟩
theorem BkAt.cells {w:World} {p:Nat} {S:Nat->Nat} {v:Nat->Value} {f:Nat->List (Nat × Nat)} (h:BkAt w p S v f) : ∀ k,footB p S v k -> ∃ c t,w.heap[k]? = some (.cells c t (0,0)):=by
 rintro k (rfl | ⟨i,hi,rfl | hk⟩)
 ·exact ⟨_,_,h.blk⟩
 ·exact ⟨_,_,(h.set i hi).blk⟩
 ·obtain ⟨c,hc⟩:=(h.set i hi).own.block_ty hk
  exact ⟨_,_,hc⟩
def Half9 (B p:Nat) (f:Nat->List (Nat × Nat)) (W:World):Prop := ∃ S v,BkAt W p S v f /\ ∀ k,footB p S v k->B<=k
theorem half9_own {β:Type} (B p:Nat) (g:β->Nat->List (Nat × Nat)):Own (fun s W=>Half9 B p (g s) W):=by
 rintro s X Y row ⟨S,v,h,hB⟩ hg hrow
 refine ⟨S,v,h.same fun k hk=>hg.block k (h.lts k hk) fun e=>?_,hB⟩
 obtain ⟨o,ho,hc⟩:=hrow k e.symm
 obtain ⟨c,t,h2⟩:=h.cells k hk
 rw [h2] at ho
 cases ho
 cases hc
theorem Half9.put {B p:Nat} {f:Nat->List (Nat × Nat)} {W w3:World} (h:Half9 B p f W) (b:Below W.heap.size W w3) {i:Nat} (hi:i<8) {C:Nat} {v':Value} {l:List (Nat × Nat)} (hs:SetAt w3 C v' l) (hfr:From0 W.heap.size C v') (hBW:B<=W.heap.size):Half9 B p (putF f i l) (w3.setCell ⟨p,i,none⟩ (ptrS C)):=by
 obtain ⟨S,v,hb,hB⟩:=h
 have hb3:BkAt w3 p S v f:=hb.same fun k hk=>b.block k (hb.lts k hk)
 refine ⟨_,_,hb3.put hi hs hfr (fun k hk=>hb.lts k hk),?_⟩
 intro k hk
 rcases (BkAt.moved_put (p:=p) (S:=S) (v:=v) hi b hfr).sub k hk with h1 | h1
 ·exact hB k h1
 ·omega
theorem Half9.at {B p:Nat} {f:Nat->List (Nat × Nat)} {W:World} (h:Half9 B p f W) {i:Nat} (hi:i<8):(∃ b,W.cell? ⟨p,i,none⟩=some (.pointer b))/\W.frozen? ⟨p,i,none⟩=false/\B<=p/\p<W.heap.size /\ ∃ c,W.heap[p]? = some (.cells c 131 (0,0)):=by
 obtain ⟨S,v,hb,hB⟩:=h
 exact ⟨⟨_,by rw [cell_of_list hb.blk,fcells_get _ hi]; rfl⟩,by simp [World.frozen?,hb.blk],hB p (.inl rfl),hb.lts p (.inl rfl),_,hb.blk⟩
theorem keeps_below {W W':World} (b:Below W.heap.size W W'):KeepsOthers W W':=⟨b.size,fun k _ hk _=>(b.block k (yyD hk).1).trans hk⟩
set_option maxRecDepth 100000 in
set_option maxHeartbeats 40000000 in
theorem copyB_in (p:Nat) (F:Nat->Prop) (f:Nat->List (Nat × Nat)) (w:World) (h:Bk w p F f) (hf:FineF f) (hlen:LenF 1000000 f) :
    CallsIn Fence.wide 3 Tryz.prog 33 #[ptrS p] w fun e W' => ∃ p',e=.returned (ptrS p')/\Half9 w.heap.size p' f W'/\Below w.heap.size w W':=by
  obtain ⟨s,hg⟩:=h.told.gives
  have hM:=made_any p F f w h
  have hNew:=bnew_any w
  clear h
  unfold ptrS at *
  refine callsIn_of_wp_marks Tryz.func33 rfl trivial ?_ rfl
  simp only [Tryz.ntmps33,List.size_toArray,List.length_cons,List.length_nil,Nat.reduceAdd,Nat.reduceSub,Array.replicate_succ,Array.replicate_zero,List.push_toArray,List.append_toArray,List.nil_append,List.cons_append]
  gi_wp2_with (first
    | (refine ⟨trivial,?_⟩; gi_at_call 73; refine (callsIn_wide.2 hM).mono ?_; rintro e w ⟨rfl,rfl⟩)
    | (refine ⟨trivial,?_⟩; gi_at_call 23; refine (callsIn_wide.2 hNew).mono ?_; rintro e w1 ⟨rfl,F1,hb1,hF1,bl1⟩)
    | (refine ⟨trivial,?_⟩; gi_at_call 66; refine (callsIn_wide.2 (all_any _ _)).mono ?_; rintro e w' ⟨rfl,rfl⟩))
  obtain ⟨W0,hW0⟩ : ∃ W0,(w1.alloc (.cells #[.pointer (some ⟨w.heap.size,0,none⟩)] 84)).alloc (.cells #[.pointer (some ⟨p,0,none⟩)] 84)=W0:=⟨_,rfl⟩
  have bA:=Boxed.new w1 84 (.pointer (some ⟨w.heap.size,0,none⟩))
  have bN:Boxed W0 (w1.heap.size+1) 84 (.pointer (some ⟨p,0,none⟩)):=by
    rw [<- hW0]
    have:=Boxed.new (w1.alloc (.cells #[.pointer (some ⟨w.heap.size,0,none⟩)] 84)) 84 (.pointer (some ⟨p,0,none⟩))
    rwa [World.size_alloc] at this
  have bO:Boxed W0 w1.heap.size 84 (.pointer (some ⟨w.heap.size,0,none⟩)):=by rw [<- hW0]; exact bA.alloc _
  have b10:Below w1.heap.size w1 W0:=by rw [<- hW0]; exact ((Below.refl _ _).alloc (yyH _) _).alloc (by simp) _
  have hB0:Below w.heap.size w W0:=keptW bl1 b10
  have hs0:W0.heap.size=w1.heap.size+1+1:=by rw [<- hW0]; simp
  have H0:Half9 w.heap.size w.heap.size (copyF f []) W0:=by
    obtain ⟨S,v,hb,hF⟩:=hb1
    exact ⟨S,v,(hb.same fun k hk=>b10.block k (hb.lts k hk)).congr (fun i _=>rfl),fun k hk=>hF1 k ((hF k).2 hk)⟩
  rw [hW0]
  clear hW0 bA hb1 hF1 hM hNew
  have hsw:w.heap.size<=w1.heap.size:=bl1.size
  refine wpIn_rangeFunc_ownG rfl (by decide) (gf:=118) (lb := #[.pointer (some ⟨w1.heap.size+1,0,none⟩)]) rfl trivial (enters_of Tryz.func118 (by kernel_rfl) rfl)
    (all_stops8 _ (by decide) (w1.heap.size+1) (.pointer (some ⟨p,0,none⟩)) s f w _ hg hB0 bN.lt bN.cell) keepB_t (keepB_b (by omega) bN.lt) (Below.refl _ _) (fun _=>rfl)
    (fun pre W=>(Half9 w.heap.size w.heap.size (copyF f pre) W/\Boxed W w1.heap.size 84 (.pointer (some ⟨w.heap.size,0,none⟩))/\Boxed W (w1.heap.size+1) 84 (.pointer (some ⟨p,0,none⟩)))/\Below w.heap.size w W)
    (fun _ _ _=>False)
    (OwnFrom.and (OwnFrom.and (Own.from (half9_own _ _ _) _) (OwnFrom.and (Own.from (boxed_own _ _ _) _) (Own.from (boxed_own _ _ _) _))) (ownFrom_below (yyH _) (by omega)))
    (fun _ _ _ _ _ hs _ _=>hs)
    ⟨⟨H0,bO,bN⟩,hB0⟩
    (fun x=>{ tmps := #[.pointer (some ⟨p,0,none⟩),undef,.pointer none,.pointer (some ⟨w1.heap.size,0,none⟩),.int .i64 ((x.1:Int)+1),s x.1,.pointer (some ⟨p,0,none⟩),.bool true,.bool false,.pointer (some ⟨w.heap.size,0,none⟩),.pointer (some ⟨p,0,none⟩),.func (.func 118) #[] #[.pointer (some ⟨w1.heap.size+1,0,none⟩)],.int .i64 ((x.1:Int)+1),s x.1,undef,undef,undef,undef,undef,undef,undef,undef,undef],defers:=[] }) ?assign ?body ?done ?stop
  case assign =>
    intro l x W K hK
    gi_wp2
    exact hK
  case body =>
    rintro l pre x W ⟨⟨hH,hO,hN⟩,hB⟩ hlt
    have hcO:=hO.cell
    have hx:=x.2
    obtain ⟨⟨q0,c0⟩,f0,hp1,hp2,cb,hpb⟩:=hH.at hx
    have HS:Hid _:=copyF_snoc f pre x
    have hC : ∀ V,Below W.heap.size W V->Calls Tryz.prog 74 #[s x.1] V fun e w' => ∃ B v,e=.returned (.pointer (some ⟨B,0,none⟩))/\SetAt w' B v (f x.1)/\From0 V.heap.size B v/\Below V.heap.size V w':=fun V hV=>copy_any (s x.1) (f x.1) V (hg V (keptW hB hV) x.1 hx).2 (hlen x.1 hx)
    obtain ⟨q2,hq2⟩:=(hg W hB x.1 hx).2.ptr
    have HD:Hid (Half9 w.heap.size w.heap.size (copyF f pre) W):=hH
    have hne1:w1.heap.size≠w.heap.size:=fun e=>by have:=hO; unfold Boxed at this; rw [e,hpb] at this; simp at this
    have hne2:w1.heap.size+1≠w.heap.size:=fun e=>by omega
    have HE:Hid (∀ V w3 C v',Below W.heap.size W V->SetAt w3 C v' (f x.1)->From0 V.heap.size C v'->Below V.heap.size V w3->(w3.cell? ⟨w.heap.size,x.1,none⟩=some (.pointer q0)/\w3.frozen? ⟨w.heap.size,x.1,none⟩=false/\w3.cell? ⟨w1.heap.size,0,none⟩=some (.pointer (some ⟨w.heap.size,0,none⟩))) /\
        (KeepsFrom W0.heap.size W (w3.setCell ⟨w.heap.size,x.1,none⟩ (.pointer (some ⟨C,0,none⟩)))/\KeepB w.heap.size (w1.heap.size+1) W (w3.setCell ⟨w.heap.size,x.1,none⟩ (.pointer (some ⟨C,0,none⟩)))/\(Half9 w.heap.size w.heap.size (copyF f (pre++[x])) (w3.setCell ⟨w.heap.size,x.1,none⟩ (.pointer (some ⟨C,0,none⟩)))/\Boxed (w3.setCell ⟨w.heap.size,x.1,none⟩ (.pointer (some ⟨C,0,none⟩))) w1.heap.size 84 (.pointer (some ⟨w.heap.size,0,none⟩))/\Boxed (w3.setCell ⟨w.heap.size,x.1,none⟩ (.pointer (some ⟨C,0,none⟩))) (w1.heap.size+1) 84 (.pointer (some ⟨p,0,none⟩)))/\Below w.heap.size w (w3.setCell ⟨w.heap.size,x.1,none⟩ (.pointer (some ⟨C,0,none⟩))))):=by
      intro V w3 C v' hV hs hfr b3
      have b3':Below W.heap.size W w3:=keptW hV b3
      have hfr':From0 W.heap.size C v':=⟨Nat.le_trans hV.size hfr.1,fun g hg=>Nat.le_trans hV.size (hfr.2 g hg)⟩
      have o1 : ∀ k,k≠w.heap.size->k<W.heap.size->(w3.setCell ⟨w.heap.size,x.1,none⟩ (.pointer (some ⟨C,0,none⟩))).heap[k]? = W.heap[k]? := fun k hk hl=>(Below.heap_setCell _ _ _ _ hk).trans (b3'.block k hl)
      have bb:Below w.heap.size W (w3.setCell ⟨w.heap.size,x.1,none⟩ (.pointer (some ⟨C,0,none⟩))):=(b3'.mono hB.size).setCell (p:=⟨w.heap.size,x.1,none⟩) (yyH _) _
      refine ⟨⟨cell_on b3' c0,(World.frozen?_of_block (a:=⟨w.heap.size,x.1,none⟩) (b3'.block _ hp2)).trans f0,cell_on b3' hcO⟩,?_,⟨bb,o1 _ hne2 hN.lt⟩,⟨?_,(o1 _ hne1 hO.lt).trans hO,(o1 _ hne2 hN.lt).trans hN⟩,hB.trans bb⟩
      · exact ((keeps_below b3').trans (KeepsOthers.setCell _ _ _)).from _
      · rw [<- HS.out]
        exact HD.out.put b3' hx hs hfr' hB.size
    have hw:IntKind.i64.wrap ((x.1:Int)+1-1)=(x.1:Int):=by rw [IntKind.wrap_i64]; omega
    have hw2:IntKind.i64.wrap (x.1:Int)=(x.1:Int):=by rw [IntKind.wrap_i64]; omega
    have hi':(x.1:Int)<8:=by omega
    rw [hq2] at hC ⊢
    clear HD hH hO hN hpb
    clear hs0 b10 hB0 bN bO H0 hp1 hp2 hsw bl1 hne1 hne2 hB hlt hg hlen hf
    generalize hxx:x.1=i at *
    clear hxx
    have hmx:Tryz.prog.follows .mixedOrders=true:=by kernel_rfl
    gi_wp2
    gi_region_with_o (refine ⟨trivial,?_⟩; gi_at_call 74; refine (CallsIn.inRound l (callsIn_wide.2 (hC _ (by first | exact Below.refl _ _ | exact (Below.refl _ _).drew)))).mono ?_; rintro e w3 ⟨C,v',rfl,s3,fr3,b3⟩; obtain ⟨⟨k0,k1,k2⟩,HR0⟩:=HE.out _ w3 C v' (by first | exact Below.refl _ _ | exact (Below.refl _ _).drew) s3 fr3 b3; have HR:Hid _:=HR0; clear HR0 s3 fr3 b3)
    all_goals gi_wp2
    all_goals exact HR.out
  case done =>
    rintro D ys W hD hys ⟨⟨hH,hO,hN⟩,hB⟩ hK
    have hc:=hO.cell
    have HH:Hid (Half9 w.heap.size w.heap.size f (W.putObj D (.deferred none))):=by
      obtain ⟨S,v,hb,hF⟩:=half9_own (β:=Unit) w.heap.size w.heap.size (fun _=>copyF f ys) () W _ (some D) hH (grownBy_putObj' W D _) (fun r e=>by cases e; exact ⟨_,hK,rfl⟩)
      exact ⟨S,v,hb.congr (copyF_all hf hys),hF⟩
    clear hys hH
    gi_wp2
    refine ⟨by simp,.inl ⟨_,_,rfl,run_takeDeferred hK,?_⟩⟩
    exact ⟨_,results_tmp rfl _ _ _,w.heap.size,rfl,HH.out,hB.trans (belowK_b (w:=w) (yyH _) W D _ _ (by omega) hK rfl rfl)⟩
  case stop =>
    rintro D c pre W _ _ h _
    exact h.elim
theorem copyB_any (p:Nat) (F:Nat->Prop) (f:Nat->List (Nat × Nat)) (w:World) (h:Bk w p F f) (hf:FineF f) (hlen:LenF 1000000 f) :
  Calls Tryz.prog 33 #[ptrS p] w fun e W' => ∃ p',e=.returned (ptrS p') /\ ∃ F',Bk W' p' F' f/\(∀ k,F' k->w.heap.size<=k)/\Below w.heap.size w W':=by
 refine (callsIn_wide.1 (copyB_in p F f w h hf hlen)).mono ?_
 rintro e W' ⟨p',rfl,⟨S,v,hb,hB⟩,b⟩
 exact ⟨p',rfl,_,⟨S,v,hb,fun _=>Iff.rfl⟩,hB,b⟩
end Go.Proofs.YtnhnpnafchkhiaaGreatDoor.S
