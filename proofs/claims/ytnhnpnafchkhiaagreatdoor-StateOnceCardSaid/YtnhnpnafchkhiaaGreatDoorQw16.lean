import Derived.Test.YtnhnpnafchkhiaaGreatDoorQwA
import Derived.Test.YtnhnpnafchkhiaaGreatDoorQw15
import Derived.Test.YtnhnpnafchkhiaaGreatDoorQw2
import Derived.Shelf.SlSortCmp.WholeK
import Derived.Shelf.SlSortCmp.NoneTotal
import Derived.Deep.RegionHeld3
import Derived.WalkSpells
set_option maxHeartbeats 4000000
set_option maxRecDepth 100000
namespace Go.Proofs.YtnhnpnafchkhiaaGreatDoor.K
end Go.Proofs.YtnhnpnafchkhiaaGreatDoor.K
namespace Go.Proofs.YtnhnpnafchkhiaaGreatDoor.B
open Go.Proofs.YtnhnpnafchkhiaaGreatDoor.K
open Go.RowKit Go.Maps Go.Sort Go.Shelf
attribute [local go_sem] Oper.semAt_some
instance:Inhabited Bd:=⟨zeroBd⟩
theorem values1_inBd (F:Fence) (n:Nat) (h58:F.fn 113) (hro:F.round=none) (hn:1<=n) (l Bm b:Nat) (out:List Bd) (hr:BL out) (J Jx:List Bd->World->Prop)
  (hY : ∀ pre x W,J pre W->pre.length<out.length->YieldAt F (n-1) Tryz.prog l #[bv x] W fun e W' =>
   (e=.returned (.bool true)/\J (pre++[x]) W'/\KeepsWalks W W')\/(e=.returned (.bool false)/\Jx (pre++[x]) W'))
  (W:World) (hJ:AbidesFrom W.heap.size J) (hm:W.cell? ⟨Bm,0,none⟩=some (.map (some b))) (hown:BAt W b out) (h0:J [] W) :
  CallsIn F n Tryz.prog 113 #[.func (.yield l) #[] #[],.pointer (some ⟨Bm,0,none⟩)] W fun e W'=>(∃ v,e=.returned v) /\
   ((∃ xs,xs.Perm out/\J xs W')\/(∃ pre,True/\Jx pre W')):=by
 refine callsIn_of_wp Tryz.func113 rfl h58 ?_ hro
 simp only [Tryz.ntmps113,List.size_toArray,List.length_cons,List.length_nil,Nat.reduceAdd,Nat.reduceSub,Array.replicate_succ,Array.replicate_zero,List.push_toArray,List.append_toArray,List.nil_append,List.cons_append]
 have hD:Maps.size (DofG bkl bd out)=out.length:=size_DofG out
 gi_wp2_with (first
  |(gi_at_range; refine wpListIn_range_own _ rfl _ 125 rfl 36 143 bKeyed Tryz.underlying125 unitElem b out.length (DofG bkl bd out) rfl hown ?_; intro w0 hrg0 hg0 hs0)
  |gi_in)
 go_frame
 gi_loopw [3] (fun _ wr => ∃ (left:Lit->Bool) (cnt:Nat) (ps:List Bd),wr.ranges Tryz.prog 36 unitElem b W.heap.size out.length (DofG bkl bd out) left cnt/\ps.length+cnt<=out.length/\ComeG bkl out left ps/\J ps wr)
  (fun _ wr=>wr.rangeLeft b W.heap.size)
 case atStart =>
  exact ⟨_,_,[],hrg0,by rw [hD]; simp,ComeG.start bKeyed.one hr.keys,hJ [] W w0 none h0 hg0 (fun r e=>by cases e)⟩
 case round =>
  obtain ⟨left,cnt,ps,hrg,hcs,hC,hJs⟩:=hrel
  gi_wp2_with (first
   |(gi_at_next; refine wpListIn_next_ranges _ rfl _ rfl 36 bKeyed unitElem bv (fun _:Unit=>Value.agg #[]) (fun key kl hk=>by obtain ⟨s,_,hs,_⟩:=bkey_inv hk; exact ⟨s,hs⟩) (fun v y hv=>⟨(),(unitElem_inv hv).1⟩) b W.heap.size out.length _ _ _ rfl hrg ?_ ?_)
   |gi_in)
  ·intro hc0 hl0
   gi_wp2
   go_end0
   exact ⟨⟨_,rfl⟩,.inl ⟨ps,hC.perm hr.diff hl0,hJs⟩⟩
  ·intro c kl yd yp w2 cnt2 hkey hlk hv hat hrg2 hlt hg2 hs2 hen
   obtain ⟨hc,rfl⟩:=b_entry hr hkey hv hat
   have hJ2:J ps w2:=hJ ps wr w2 (some W.heap.size) hJs hg2 (fun r e=>by cases e; exact ⟨yyH _,hrg.iter_walk⟩)
   obtain ⟨w3,fold⟩ : ∃ w3,w2.alloc (.cells #[.string c.ex,.string c.que,.string c.pat] 36)=w3:=⟨_,rfl⟩
   have hJ3:J ps w3:=hJ ps w2 w3 none hJ2 (by rw [<- fold]; exact World.grownBy_alloc _ _ _) (fun r e=>by cases e)
   have hrg3:=hrg2.alloc (.cells #[.string c.ex,.string c.que,.string c.pat] 36)
   rw [fold] at hrg3
   have x0:w3.cell? ⟨w2.heap.size,0,none⟩=(bcells c)[0]? := by rw [<- fold]; simp [World.cell?_alloc_at,bcells]
   have x1:w3.cell? ⟨w2.heap.size,1,none⟩=(bcells c)[1]? := by rw [<- fold]; simp [World.cell?_alloc_at,bcells]
   have x2:w3.cell? ⟨w2.heap.size,2,none⟩=(bcells c)[2]? := by rw [<- fold]; simp [World.cell?_alloc_at,bcells]
   simp only [bcells,yyE,yyF] at x0 x1 x2
   obtain ⟨fn,tmps,assign,body,hy,hR⟩:=hY ps c w3 hJ3 (by omega)
   clear hs2 hkey hv hat
   gi_wp2
   refine hR.mono ?_
   have hC2:=hC.step bKeyed.one hr.keys hr.diff hc hlk
   rintro e W3 (⟨rfl,hJ4,hk4⟩ | ⟨rfl,hJx4⟩)
   ·gi_wp2
    have hrg4:=hrg3.of_walks hk4
    go_roundw
    case rel=>exact ⟨_,cnt2,ps++[c],hrg4,by simp; omega,hC2,hJ4⟩
    case measure=>rw [hrg4.left_eq,hrg.left_eq]; exact hlt
   ·gi_wp2
    refine bodyPost_ret (results_none rfl _ _ _) rfl ?_
    exact ⟨⟨_,rfl⟩,.inr ⟨ps++[c],trivial,hJx4⟩⟩
theorem values1_nilBd (F:Fence) (n:Nat) (h58:F.fn 113) (hro:F.round=none) (l Bm:Nat) (J:List Bd->World->Prop) (W:World) (hJ:AbidesFrom W.heap.size J) (hm:W.cell? ⟨Bm,0,none⟩=some (.map none)) (h0:J [] W) :
  CallsIn F n Tryz.prog 113 #[.func (.yield l) #[] #[],.pointer (some ⟨Bm,0,none⟩)] W fun e W'=>(∃ v,e=.returned v)/\J [] W':=by
 refine callsIn_of_wp Tryz.func113 rfl h58 ?_ hro
 simp only [Tryz.ntmps113,List.size_toArray,List.length_cons,List.length_nil,Nat.reduceAdd,Nat.reduceSub,Array.replicate_succ,Array.replicate_zero,List.push_toArray,List.append_toArray,List.nil_append,List.cons_append]
 have hrg:=run_range_nilMap (P:=Tryz.prog) W 125 36 143 Tryz.underlying125
 have hnx : ∀ ty,(Instr.next (.pointer (some ⟨W.heap.size,0,none⟩)) false ty).run Tryz.prog (W.alloc (.mapIter none 0 #[] 0))=_:=fun ty=>run_next_nilMap _ ty 0 0 #[]
 gi_wp2
 refine wpIn_loop_rounds 1 ?_
 rw [roundsIn_succ]
 gi_wp2
 go_end0
 exact ⟨⟨_,rfl⟩,hJ [] W _ none h0 (World.grownBy_alloc W _ none) (fun r e=>by cases e)⟩
def MapAtBd (w:World) (mb:Option Nat) (out:List Bd):Prop:=(mb=none/\out=[]) \/ ∃ b,mb=some b/\BAt w b out
theorem MapAtBd.below {w w':World} {mb:Option Nat} {out:List Bd} (h:MapAtBd w mb out) (hb:Below w.heap.size w w'):MapAtBd w' mb out:=by
 rcases h with h | ⟨b,rfl,ho⟩
 ·exact .inl h
 ·exact .inr ⟨b,rfl,ho.same (hb.block b ho.lt)⟩
theorem values_stopsBd (Bm:Nat) (mb:Option Nat) (out:List Bd) (hr:BL out) (n:Nat) (hn:1<=n) (w:World) (hBm:w.cell? ⟨Bm,0,none⟩=some (.map mb)) (hown:MapAtBd w mb out) :
  SeqStopsK Fence.wide n Tryz.prog 113 #[.pointer (some ⟨Bm,0,none⟩)] (fun x:Bd => #[bv x]) KeepsWalks (fun xs=>xs.Perm out) (fun _=>True) out.length w:=fun l J Jx W hW hJ _ hY h0=>by
 have hm:W.cell? ⟨Bm,0,none⟩=some (.map mb):=(hW.cell (p:=⟨Bm,0,none⟩) (World.block_lt_of_cell? _ _ hBm)).trans hBm
 rcases hown.below hW with ⟨rfl,rfl⟩ | ⟨b,rfl,ho⟩
 ·exact (values1_nilBd Fence.wide n trivial rfl l Bm J W hJ hm h0).mono fun _ _ ⟨he,hj⟩=>⟨he,.inl ⟨[],List.Perm.refl _,hj⟩⟩
 ·exact values1_inBd Fence.wide n trivial rfl hn l Bm b out hr J Jx hY W hJ hm ho h0
theorem item_newsBd (W:World) (x:Bd) : ∀ j u,(bcells x)[j]? = some u->(W.alloc (.cells #[.string x.ex,.string x.que,.string x.pat] 36)).cell? ((⟨W.heap.size,0,none⟩:Addr).add j)=some u:=by
 intro j u hj
 rw [Addr.add_lit,Nat.zero_add]
 have:=cell_of_list (C:=bcells x) (w:=W.alloc (.cells (bcells x).toArray 36)) (g:=W.heap.size) (t:=36) (heap_alloc_new W _) j
 exact this.trans hj
theorem appendSeq_inBd (Bm:Nat) (mb:Option Nat) (out:List Bd) (hr:BL out) (hlen:out.length<=1000000) (w:World) (hBm:w.cell? ⟨Bm,0,none⟩=some (.map mb)) (hown:MapAtBd w mb out) :
  CallsIn Fence.wide 5 Tryz.prog 171 #[.slice none 0 0,.func (.func 113) #[] #[.pointer (some ⟨Bm,0,none⟩)]] w fun e W' => ∃ v xs,e=.returned v/\xs.Perm out/\OwnB W' w.heap.size v xs/\Below w.heap.size w W':=by
 refine callsIn_of_wp_marks Tryz.func171 rfl trivial ?_ rfl
 simp only [Tryz.ntmps171,List.size_toArray,List.length_cons,List.length_nil,Nat.reduceAdd,Nat.reduceSub,Array.replicate_succ,Array.replicate_zero,List.push_toArray,List.append_toArray,List.nil_append,List.cons_append]
 gi_wp2
 obtain ⟨W0,hW0⟩ : ∃ W0,w.alloc (.cells #[.slice none 0 0] 44)=W0:=⟨_,rfl⟩
 have bS:Boxed W0 w.heap.size 44 (.slice none 0 0):=by rw [<- hW0]; exact Boxed.new w _ _
 have hB0:Below w.heap.size w W0:=by rw [<- hW0]; exact (Below.refl _ w).alloc (yyH _) _
 have hsz:W0.heap.size=w.heap.size+1:=by rw [<- hW0]; simp
 rw [hW0]
 clear hW0
 obtain ⟨i0,hi0,hz0,hzs,hzb⟩:=bInfo
 refine wpIn_rangeFunc_ownH rfl (by decide) (gf:=113) (lb := #[.pointer (some ⟨Bm,0,none⟩)]) rfl trivial (enters_of Tryz.func113 (by kernel_rfl) rfl)
  (values_stopsBd Bm mb out hr (5-1) (by decide) w hBm hown) walksK_t walksK_b hB0 (fun _=>rfl)
  (fun pre W=>(∃ v,Boxed W w.heap.size 44 v/\W.ownsRow w.heap.size 36 3 v pre.length (cellsOf bcells pre)/\True)/\Below w.heap.size w W)
  (fun _ _ _=>False)
  (OwnFrom.and (Own.from (holdsRow_own w.heap.size w.heap.size 44 36 3 (fun pre:List Bd=>pre.length) (fun pre=>cellsOf bcells pre) (fun _ _=>True)) _) (ownFrom_below (yyH _) (by omega)))
  (fun _ _ _ _ _ hs _ _=>hs)
  ⟨⟨_,bS,World.ownsRow_nil _ _ _ _,trivial⟩,hB0⟩
  (fun x a' W => ∃ Bx,w.heap.size<Bx/\W.heap[Bx]? = some (.cells (bcells x).toArray 36 (0,0))/\a'={ tmps := #[.slice none 0 0,.func (.func 113) #[] #[.pointer (some ⟨Bm,0,none⟩)],.pointer (some ⟨w.heap.size,0,none⟩),undef,.slice none 0 0,.pointer (some ⟨Bx,0,none⟩),.func (.func 113) #[] #[.pointer (some ⟨Bm,0,none⟩)],bv x,undef,undef,undef,undef,undef],defers:=[] })
  (fun x a' _ X Y row hs hg hr=>by
   obtain ⟨Bx,h1,h2,h3⟩:=hs
   refine ⟨Bx,h1,(hg.block Bx (yyD h2).1 (fun e=>?_)).trans h2,h3⟩
   obtain ⟨_,o,ho,hc⟩:=hr Bx e.symm
   rw [h2] at ho; cases ho; cases hc)
  ?assign ?body ?done ?stop
 case assign =>
  rintro l pre x W K ⟨⟨v,bS1,hrow,_⟩,hB1⟩ hK
  gi_wp2
  exact hK _ _ ((KeepsOthers.alloc _ _).from _) (KeepsWalks.alloc _ _) ⟨⟨v,bS1.alloc _,hrow.alloc _,trivial⟩,hB1.alloc hB1.size _⟩ ⟨W.heap.size,bS1.lt,heap_alloc_new W _,rfl⟩
 case body =>
  rintro l pre x a' W hl ⟨r,hr'⟩ ⟨⟨v,bS1,hrow,_⟩,hB1⟩ ⟨Bx,hBx,hX,rfl⟩ hlt
  have cS:=bS1.cell
  have fS:=bS1.frozen
  have x0:W.cell? ⟨Bx,0,none⟩=(bcells x)[0]? := by simp [World.cell?,hX,bcells]
  have x1:W.cell? ⟨Bx,1,none⟩=(bcells x)[1]? := by simp [World.cell?,hX,bcells]
  have x2:W.cell? ⟨Bx,2,none⟩=(bcells x)[2]? := by simp [World.cell?,hX,bcells]
  simp only [bcells,yyE,yyF] at x0 x1 x2
  have hBl:=bS1.lt
  gi_wp2_with (first
   |(gi_at_builtin; refine wpListIn_append_own _ rfl _ _ 44 rfl w.heap.size 36 i0 _ 3 48 Tryz.underlying44 hi0 hz0 hzs hzb rfl (by decide) v pre.length (cellsOf bcells pre) rfl (hrow.alloc _) ⟨W.heap.size,0,none⟩ 1 1 (bcells x) rfl rfl (item_newsBd W x) (Enc.one x) (by unfold maxLen; omega) (by omega) (by have:=hB1.size; simp; omega) ?_; intro v' w1 hown' hgrow _; obtain ⟨g',cap',rfl⟩:=ownsRow_succ hown'; obtain ⟨hv1,hv2,hr2,hk2,hb2⟩:=bS1.appended (by decide) hrow hB1.size (yyH _) hown' hgrow; have hc1:=hv1.cell; have hf1:=hv1.frozen)
   |gi_in)
  refine ⟨hk2.from _,hk2.walks,⟨_,hv2,?_,trivial⟩,hB1.trans hb2⟩
  rw [cellsOf_append,List.length_append]
  simpa [cellsOf_cons,cellsOf_nil] using hr2
 case done =>
  rintro D xs W hD hperm ⟨⟨v,bS1,hrow,_⟩,hB1⟩ hK
  have cS:=bS1.cell
  obtain ⟨va,vc,rfl⟩:=(show OwnB W w.heap.size v xs from hrow).rng.slice
  gi_wp2
  refine ⟨by simp,.inl ⟨_,_,rfl,run_takeDeferred hK,?_⟩⟩
  exact ⟨_,results_tmp (t:=4) rfl _ _ _,.slice va xs.length vc,xs,rfl,hperm,ownsRow_putObj hrow _ hK rfl,hB1.trans (belowK_b (w:=w) (yyH _) W D _ _ (by omega) hK rfl rfl)⟩
 case stop =>
  rintro D c pre W _ _ h _
  exact h.elim
theorem collect_anyBd (Bm:Nat) (mb:Option Nat) (out:List Bd) (hr:BL out) (hlen:out.length<=1000000) (w:World) (hBm:w.cell? ⟨Bm,0,none⟩=some (.map mb)) (hown:MapAtBd w mb out) :
  Calls Tryz.prog 111 #[.func (.func 113) #[] #[.pointer (some ⟨Bm,0,none⟩)]] w fun e W' => ∃ v xs,e=.returned v/\xs.Perm out/\OwnB W' w.heap.size v xs/\Below w.heap.size w W':=by
 have hA:=callsIn_wide.1 (appendSeq_inBd Bm mb out hr hlen w hBm hown)
 go_enter Tryz.func111,Tryz.ntmps111
 go_wp2_with fail
 refine hA.mono ?_
 rintro e w1 ⟨v,xs,rfl,hp,own,b⟩
 obtain ⟨va,vc,rfl⟩:=own.rng.slice
 go_wp2
 go_ret
 exact ⟨_,xs,rfl,hp,own,b⟩
theorem values_anyBd (mb:Option Nat) (w:World) :
  Calls Tryz.prog 62 #[.map mb] w fun e w'=>e=.returned (.func (.func 113) #[] #[.pointer (some ⟨w.heap.size,0,none⟩)])/\w'=w.alloc (.cells #[.map mb] 125):=by
 go_enter Tryz.func62,Tryz.ntmps62
 go_wp2
 go_ret
 exact ⟨rfl,rfl⟩
theorem ltBd (x y:Bd):ltOf cmpB x y=decide (cmpB x y<0):=rfl
theorem swoBd:SWO (ltOf cmpB):=cmpB3.swo
theorem or3_any (n:Nat) (a b c:Int) (w:World) (h0:w.cell? ⟨n,0,none⟩=some (.int .i64 a)) (h1:w.cell? ⟨n,1,none⟩=some (.int .i64 b)) (h2:w.cell? ⟨n,2,none⟩=some (.int .i64 c)) :
  Calls Tryz.prog 114 #[.slice (some ⟨n,0,none⟩) 3 3] w fun e w'=>e=.returned (.int .i64 (if a=0 then (if b=0 then c else b) else a))/\w'=w:=by
 by_cases ha:a=0
 ·rw [if_pos ha]
  by_cases hb:b=0
  ·rw [if_pos hb]
   by_cases hc:c=0
   ·subst ha hb hc
    go_enter Tryz.func114,Tryz.ntmps114
    go_wp2
    go_rounds 4
    go_ret
    exact ⟨rfl,rfl⟩
   ·subst ha hb
    go_enter Tryz.func114,Tryz.ntmps114
    go_wp2
    go_rounds 4
    go_ret
    exact ⟨rfl,rfl⟩
  ·rw [if_neg hb]
   subst ha
   go_enter Tryz.func114,Tryz.ntmps114
   go_wp2
   go_rounds 4
   go_ret
   exact ⟨rfl,rfl⟩
 ·rw [if_neg ha]
  go_enter Tryz.func114,Tryz.ntmps114
  go_wp2
  go_rounds 4
  go_ret
  exact ⟨rfl,rfl⟩
theorem cmpBd_any (x y:Bd) (W:World):Calls Tryz.prog 63 #[bv x,bv y] W fun e w'=>e=.returned (.int .i64 (cmpB x y)) /\ ∃ q os',w'=grow (W.drewN q) os':=by
 have hS : ∀ a b W',Calls Tryz.prog 60 #[.string a,.string b] W' fun e w'=>e=.returned (.int .i64 (cmpS a b))/\w'=W':=fun a b W'=>Any.strings_Compare Tryz.lays106 a b W'
 have hB:cmpB x y=if cmpS x.ex y.ex=0 then (if cmpS x.que y.que=0 then cmpS x.pat y.pat else cmpS x.que y.que) else cmpS x.ex y.ex:=rfl
 have h1:=fun W'=>hS x.ex y.ex W'
 have h2:=fun W'=>hS x.que y.que W'
 have h3:=fun W'=>hS x.pat y.pat W'
 rw [hB]
 generalize cmpS x.ex y.ex=r1 at h1 ⊢
 generalize cmpS x.que y.que=r2 at h2 ⊢
 generalize cmpS x.pat y.pat=r3 at h3 ⊢
 clear hS hB
 obtain ⟨X,fold⟩ : ∃ X,(W.alloc (.cells #[.string x.ex,.string x.que,.string x.pat] 36)).alloc (.cells #[.string y.ex,.string y.que,.string y.pat] 36)=X:=⟨_,rfl⟩
 have a0:X.cell? ⟨W.heap.size,0,none⟩=some (.string x.ex):=by rw [<- fold]; simp [World.cell?_alloc_old,World.cell?_alloc_at]
 have a1:X.cell? ⟨W.heap.size,1,none⟩=some (.string x.que):=by rw [<- fold]; simp [World.cell?_alloc_old,World.cell?_alloc_at]
 have a2:X.cell? ⟨W.heap.size,2,none⟩=some (.string x.pat):=by rw [<- fold]; simp [World.cell?_alloc_old,World.cell?_alloc_at]
 have b0:X.cell? ⟨W.heap.size+1,0,none⟩=some (.string y.ex):=by rw [<- fold,<- World.size_alloc W (.cells #[.string x.ex,.string x.que,.string x.pat] 36)]; simp [World.cell?_alloc_at]
 have b1:X.cell? ⟨W.heap.size+1,1,none⟩=some (.string y.que):=by rw [<- fold,<- World.size_alloc W (.cells #[.string x.ex,.string x.que,.string x.pat] 36)]; simp [World.cell?_alloc_at]
 have b2:X.cell? ⟨W.heap.size+1,2,none⟩=some (.string y.pat):=by rw [<- fold,<- World.size_alloc W (.cells #[.string x.ex,.string x.que,.string x.pat] 36)]; simp [World.cell?_alloc_at]
 have HX:Hid (X=grow W #[.cells #[.string x.ex,.string x.que,.string x.pat] 36,.cells #[.string y.ex,.string y.que,.string y.pat] 36]):=by
  show X=_
  rw [<- fold,alloc_eq_grow,alloc_eq_grow,grow_grow]; rfl
 have hO:=or3_any X.heap.size r1 r2 r3 (X.drew.alloc (.cells #[.int .i64 r1,.int .i64 r2,.int .i64 r3] 3)) (cell_of_list (C:=[.int .i64 r1,.int .i64 r2,.int .i64 r3]) (heap_alloc_new X.drew _) 0) (cell_of_list (C:=[.int .i64 r1,.int .i64 r2,.int .i64 r3]) (heap_alloc_new X.drew _) 1) (cell_of_list (C:=[.int .i64 r1,.int .i64 r2,.int .i64 r3]) (heap_alloc_new X.drew _) 2)
 generalize (if r1=0 then (if r2=0 then r3 else r2) else r1)=r at hO ⊢
 go_enter Tryz.func63,Tryz.ntmps63
 go_wp2
 go_region_held3 (fun w'=>w'.cell? ⟨W.heap.size,0,none⟩=some (.string x.ex)/\w'.cell? ⟨W.heap.size,1,none⟩=some (.string x.que)/\w'.cell? ⟨W.heap.size,2,none⟩=some (.string x.pat)/\w'.cell? ⟨W.heap.size+1,0,none⟩=some (.string y.ex)/\w'.cell? ⟨W.heap.size+1,1,none⟩=some (.string y.que)/\w'.cell? ⟨W.heap.size+1,2,none⟩=some (.string y.pat)) (go_keep) (first
  |(go_at_call_of 60 (Value.string x.ex); refine (h1 _).mono ?_; rintro e w' ⟨rfl,rfl⟩)
  |(go_at_call_of 60 (Value.string x.que); refine (h2 _).mono ?_; rintro e w' ⟨rfl,rfl⟩)
  |(go_at_call_of 60 (Value.string x.pat); refine (h3 _).mono ?_; rintro e w' ⟨rfl,rfl⟩)
  |(go_at_call 114; refine hO.mono ?_; rintro e w' ⟨rfl,rfl⟩))
 all_goals go_wp2
 all_goals go_ret
 all_goals exact ⟨rfl,1,#[.cells #[.string x.ex,.string x.que,.string x.pat] 36,.cells #[.string y.ex,.string y.que,.string y.pat] 36,.cells #[.int .i64 r1,.int .i64 r2,.int .i64 r3] 3],by rw [HX.out]; rfl⟩
theorem flatRBd (l:List Bd):flatK bcells 3 l.toArray=(cellsOf bcells l).toArray:=by
 have hll:=cellsOf_length (enc:=bcells) l
 refine ext_get! (by simp [hll]) fun t ht=>?_
 have ht':t<l.length*3:=by simpa using ht
 rw [get_flatK _ _ _ _ (by simpa using ht')]
 have hil:t / 3<l.length:=by omega
 have hj:t % 3<3:=Nat.mod_lt _ (by decide)
 have hg:=cellsOf_get (enc:=bcells) l (t / 3) (t % 3) hil hj
 rw [show t / 3*3+t % 3=t by omega] at hg
 have e:l.toArray[t / 3]! = l[t / 3]:=by simp [hil]
 have hb:t<(cellsOf bcells l).length:=by rw [hll]; exact ht'
 have hr:(cellsOf bcells l).toArray[t]! = (cellsOf bcells l)[t]:=by rw [getElem!_pos _ t (by simpa using hb)]; simp
 rw [hr,e]
 rw [List.getElem?_eq_getElem hb] at hg
 have hc:t % 3<(bcells l[t / 3]).length:=hj
 rw [List.getElem?_eq_getElem hc] at hg
 injection hg with hg
 rw [hg]
 first
  |rw [getElem!_pos _ _ hc]
  |simp [hc]
theorem holdsRBd {w:World} {g:Nat} {l:List Bd} {T:List Value} (hg:w.heap[g]? = some (.cells (cellsOf bcells l++T).toArray 36 (0,0))):HoldsK bcells 3 w g 0 l.toArray:=by
 intro j hj
 rw [flatRBd] at hj ⊢
 have hj':j<(cellsOf bcells l).length:=by simpa using hj
 refine ⟨?_,frozen_of_list hg _⟩
 rw [Nat.zero_add,cell_of_list hg,List.getElem?_append_left hj',List.getElem?_eq_getElem hj',getElem!_pos _ j (by simpa using hj')]
 simp
theorem sortedWorldBd {w:World} {g n:Nat} {l l':List Bd} {T:List Value} {os:Array Obj} (hg:w.heap[g]? = some (.cells (cellsOf bcells l++T).toArray 36 (0,0))) (hl:l'.length=l.length) :
  (sortWorldK bcells 3 w g 0 n l'.toArray os).heap[g]? = some (.cells (cellsOf bcells l'++T).toArray 36 (0,0))/\w.grownBy (sortWorldK bcells 3 w g 0 n l'.toArray os) (some g):=by
 have hlt:=(yyD hg).1
 have hsz:(putRowK bcells 3 (Sort.ahead w n) g 0 l'.toArray).heap.size=w.heap.size:=by unfold putRowK; simp
 have hgb:(putRowK bcells 3 (Sort.ahead w n) g 0 l'.toArray).heap[g]? = some (.cells (cellsOf bcells l'++T).toArray 36 (0,0)):=by
  unfold putRowK putRow mapBlock
  show (w.heap.modify g _)[g]? = _
  rw [Array.getElem?_modify,if_pos rfl,hg]
  simp only [Option.map_some,onCells,flatRBd]
  congr 2
  apply Array.ext'
  apply List.ext_getElem?
  intro k
  have e1:=cellsOf_length (enc:=bcells) l
  have e2:=cellsOf_length (enc:=bcells) l'
  unfold putCells
  simp only [Array.toList_mapIdx,List.getElem?_mapIdx,Nat.zero_le,true_and,Nat.zero_add,Nat.sub_zero,List.size_toArray,id]
  by_cases hk:k<(cellsOf bcells l').length
  ·have hk2:k<(cellsOf bcells l).length:=by omega
   rw [List.getElem?_append_left hk2,List.getElem?_append_left hk,List.getElem?_eq_getElem hk2,List.getElem?_eq_getElem hk]
   simp [hk]
  ·rw [List.getElem?_append_right (by omega),List.getElem?_append_right (by omega),e1,e2,hl]
   have hk3 : ¬ k<l.length*3:=by omega
   cases T[k-l.length*3]? with
   |none=>rfl
   |some x=>simp [hk3]
 refine ⟨?_,?_⟩
 ·unfold sortWorldK
  rw [heap_grow_old _ _ (by rw [hsz]; exact hlt)]
  exact hgb
 ·refine ⟨rfl,rfl,rfl,?_,fun k hk hne=>?_⟩
  ·unfold sortWorldK
   rw [size_grow,hsz]; omega
  ·unfold sortWorldK
   rw [heap_grow_old _ _ (by rw [hsz]; exact hk)]
   unfold putRowK putRow mapBlock
   show (w.heap.modify g _)[k]? = _
   rw [Array.getElem?_modify,if_neg (fun he=>hne (by rw [he]))]
theorem sort_anyBd (base:Nat) (v:Value) (l:List Bd) (w:World) (hown:OwnB w base v l) (hlen:l.length<=1000000) :
  Calls Tryz.prog 112 #[v,.func (.func 63) #[] #[]] w fun e w'=>e=.returned (.tuple #[]) /\ ∃ l',l'.Perm l/\(∀ i j (hi:i<l'.length) (hj:j<l'.length),i<j -> ¬ cmpB l'[j] l'[i]<0)/\OwnB w' base v l'/\w.grownBy w' v.ownBlock:=by
 by_cases hp:0<l.length
 ·rcases hown.split with ⟨rfl,rfl⟩ | ⟨g,c,T,rfl,hbg,hg,h1,h2,hT⟩
  ·simp at hp
  ·have eg : ∀ args w,(callFunc 63 args).run Tryz.prog w=.ok (.enter 63 args) w:=enters_of Tryz.func63 (by kernel_rfl) rfl
   have hcon:=AnyQ.slices_SortFunc Tryz.sortB 3 Tryz.isAgg36 Tryz.sizeOf36 bcells (fun _=>rfl) (fun x v hv=>Enc.one x v hv) cmpB swoBd 63 #[] g 0 c l.toArray w eg
    (fun _ _ _ _ x y=>cmpBd_any x y _) (holdsRBd hg) (yyD hg).1 (by simp; omega)
   change Calls Tryz.prog 112 _ _ _ at hcon
   refine hcon.mono ?_
   rintro e w' ⟨rfl,d',n,os,hperm,hsort,rfl⟩
   have hd:d'=d'.toList.toArray:=by simp
   have hs:d'.toList.length=l.length:=by simpa using hperm.1
   obtain ⟨hw1,hw2⟩:=sortedWorldBd (n:=n) (l':=d'.toList) (os:=os) hg hs
   rw [<- hd] at hw1 hw2
   refine ⟨rfl,d'.toList,?_,fun i j hi hj hij=>?_,ownOf_mk hbg hw1 hs.symm (by omega) h2 (by rw [hs]; exact hT),hw2⟩
   ·have h3:=hperm.2.2
    have e1:d'.extract 0 l.toArray.size=d':=by rw [<- hperm.1]; simp
    rw [e1] at h3
    simpa using h3
   ·have h4:=hsort i j (Nat.zero_le _) hij (by rw [hs] at hj; simpa using hj)
    rw [ltBd] at h4
    have a1:d'[i]! = d'.toList[i]:=by rw [getElem!_pos _ i (by simpa using hi)]; simp
    have a2:d'[j]! = d'.toList[j]:=by rw [getElem!_pos _ j (by simpa using hj)]; simp
    rw [a1,a2] at h4
    simpa using h4
 ·obtain rfl:l=[]:=List.eq_nil_of_length_eq_zero (by omega)
  obtain ⟨a,cap,rfl⟩:=hown.rng.slice
  have hcon:=AnyF.slices_SortFunc_none Tryz.sortB a cap (.func (.func 63) #[] #[]) w
  change Calls Tryz.prog 112 _ _ _ at hcon
  refine hcon.mono ?_
  rintro e w' ⟨rfl,rfl⟩
  exact ⟨rfl,[],List.Perm.refl _,fun i j hi=>by simp at hi,hown,⟨rfl,rfl,rfl,yyH _,fun _ _ _=>rfl⟩⟩
theorem sortedFunc_anyBd (Bm:Nat) (mb:Option Nat) (out:List Bd) (hr:BL out) (ho:Ord cmpB out) (hlen:out.length<=1000000) (w:World) (hBm:w.cell? ⟨Bm,0,none⟩=some (.map mb)) (hown:MapAtBd w mb out) :
  Calls Tryz.prog 61 #[.func (.func 113) #[] #[.pointer (some ⟨Bm,0,none⟩)],.func (.func 63) #[] #[]] w fun e W' => ∃ v,e=.returned v/\OwnB W' w.heap.size v out/\Below w.heap.size w W':=by
 have hC:=collect_anyBd Bm mb out hr hlen w hBm hown
 go_enter Tryz.func61,Tryz.ntmps61
 go_wp2_with fail
 refine hC.mono ?_
 rintro e w1 ⟨v,xs,rfl,hp,own,b⟩
 have hl:xs.length<=1000000:=by rw [hp.length_eq]; exact hlen
 have hS:=sort_anyBd w.heap.size v xs w1 own hl
 obtain ⟨va,vc,hva⟩:=own.rng.slice
 subst hva
 go_wp2_with fail
 refine hS.mono ?_
 rintro e w2 ⟨rfl,l2,hp2,hs2,own2,gr2⟩
 obtain rfl:=ho.uniq cmpB3 (hp2.trans hp) (List.pairwise_iff_getElem.2 fun i j hi hj h=>by have:=hs2 i j hi hj h; omega)
 have bel:Below w.heap.size w w2:=own.below gr2 b b.size (yyH _)
 go_wp2
 go_ret
 exact ⟨_,rfl,own2,bel⟩
end Go.Proofs.YtnhnpnafchkhiaaGreatDoor.B
namespace Go.Proofs.YtnhnpnafchkhiaaGreatDoor.B
open Go.Proofs.YtnhnpnafchkhiaaGreatDoor.K
open Go.RowKit Go.Sort Go.Maps
def findX (l:List Ex) (s:ByteArray):Option Ex:=l.find? fun x=>decide (x.name=s)
theorem findX_some {l:List Ex} {s:ByteArray} {x:Ex} (h:findX l s=some x):x∈l/\x.name=s:=⟨List.mem_of_find?_eq_some h,by simpa using List.find?_some h⟩
theorem findX_none {l:List Ex} {s:ByteArray} (h:findX l s=none) : ∀ x∈l,x.name≠s:=fun x hx=>by simpa using List.find?_eq_none.1 h x hx
theorem XAt.look {w:World} {b:Nat} {l:List Ex} (h:XAt w b l) (hl:XL l) {s:ByteArray} (hs:s.size<=maxLen) :
  (Instr.lookup 124 (.map (some b)) (.string s) true).run Tryz.prog w=.ok (.tuple #[xv ((findX l s).getD zeroEx),.bool (findX l s).isSome]) w:=by
 obtain ⟨v,ps,h1,h2⟩:=World.ownsMap.look_ok h xKeyed Tryz.underlying124 (Tryz.zeroValue34 w) (zd:=.held zeroEx) (zp:=[]) (rdEx_xv zeroEx) (keyOf_str hs)
 obtain ⟨x,rfl,hx⟩:=rdEx_inv h2
 rw [h1]
 have hk:KeysOf Tryz.prog 9 (.string s.data.toList):=⟨_,keyOf_str hs⟩
 cases hf:findX l s with
 |none =>
  have hne : ∀ y∈l,xkl y≠.string s.data.toList:=fun y hy e=>findX_none hf y hy (str_inj e)
  rw [atKey_none hne] at hx
  simp at hx
  rw [has_DofG_false xKeyed.one hk hne,<- hx.1]
  rfl
 |some y =>
  obtain ⟨hy,rfl⟩:=findX_some hf
  rw [show Lit.string y.name.data.toList=xkl y from rfl,atKey_mem xKeyed.one hl.keys hl.diff hy] at hx
  simp [xd] at hx
  rw [(has_DofG xKeyed.one hk).2 ⟨y,hy,rfl⟩,<- hx.1]
  rfl
theorem BAt.look {w:World} {b:Nat} {l:List Bd} (h:BAt w b l) (hl:BL l) {x:Bd} (hx:x.Fit) :
  (Instr.lookup 125 (.map (some b)) (bv x) true).run Tryz.prog w=.ok (.tuple #[.agg #[],.bool (decide (x∈l))]) w:=by
 obtain ⟨v,ps,h1,h2⟩:=World.ownsMap.look_ok h bKeyed Tryz.underlying125 (Tryz.zeroValue143 w) (zd:=.agg []) (zp:=[]) unitElem_mk (keyOf_bd hx)
 obtain ⟨rfl,_⟩:=unitElem_inv h2
 rw [h1]
 have hk:KeysOf Tryz.prog 36 (bkl x):=⟨_,keyOf_bd hx⟩
 by_cases hm:x∈l
 ·rw [(has_DofG bKeyed.one hk).2 ⟨x,hm,rfl⟩,decide_eq_true hm]
 ·rw [has_DofG_false bKeyed.one hk (fun y hy e=>hm (by rw [<- bkl_inj (hl.fit y hy) hx e]; exact hy)),decide_eq_false hm]
theorem XAt.len {w:World} {b:Nat} {l:List Ex} (h:XAt w b l) (ty:TypeId):(Builtin.len_ #[124] ty #[.map (some b)]).run Tryz.prog w=.ok (.int .i64 (l.length:Nat)) w:=by
 have:=World.ownsMap.len h Tryz.underlying124 ty
 rwa [size_DofG] at this
theorem BAt.len {w:World} {b:Nat} {l:List Bd} (h:BAt w b l) (ty:TypeId):(Builtin.len_ #[125] ty #[.map (some b)]).run Tryz.prog w=.ok (.int .i64 (l.length:Nat)) w:=by
 have:=World.ownsMap.len h Tryz.underlying125 ty
 rwa [size_DofG] at this
theorem XAt.perm {w:World} {b n:Nat} {l l':List Ex} (h:w.ownsMap Tryz.prog 9 rdEx b n (DofG xkl xd l')) (hl:XL l) (hp:l'.Perm l):XAt w b l:=by
 rw [DofG_perm xKeyed.one hl.keys hl.diff hp] at h
 exact ownsMapG_fit h
theorem BAt.perm {w:World} {b n:Nat} {l l':List Bd} (h:w.ownsMap Tryz.prog 36 unitElem b n (DofG bkl bd l')) (hl:BL l) (hp:l'.Perm l):BAt w b l:=by
 rw [DofG_perm bKeyed.one hl.keys hl.diff hp] at h
 exact ownsMapG_fit h
def goodX (x:Ex):Bool:=nameB (txt x.name) && (decide (x.kind=1) || decide (x.kind=2) || decide (x.kind=3))
def mayP (kind:Int) (p:ByteArray):Bool:=if kind=1 then keyB (txt p) else if kind=2 then p.toList.isEmpty else patB (txt p)
structure Tb where
 xs:List Ex
 bs:List Bd
structure Tb.Ok (s:Tb):Prop where
 ox:Ord cmpX s.xs
 ob:Ord cmpB s.bs
 good : ∀ x∈s.xs,goodX x=true
 fit : ∀ b∈s.bs,b.Fit
 leads : ∀ b∈s.bs,∃ x∈s.xs,x.name=b.ex
 nx:s.xs.length<=8
 nb:s.bs.length<=32
theorem name_short {s:ByteArray} (h:nameB (txt s)=true):s.size<=20:=by
 unfold nameB at h
 rw [txt_length] at h
 simp at h
 exact h.1
theorem good_short {x:Ex} (h:goodX x=true):x.name.size<=20:=by
 unfold goodX at h
 rw [Bool.and_eq_true] at h
 exact name_short h.1
theorem xl_of {l:List Ex} (ho:Ord cmpX l) (hg : ∀ x∈l,goodX x=true):XL l :=
 ⟨ho.imp fun {a b} h e=>by rw [show cmpX a b=0 by unfold cmpX; rw [str_inj e]; exact cmpS3.self _] at h; exact absurd h (by decide),fun x hx=>by have:=good_short (hg x hx); unfold maxLen; omega⟩
theorem bl_of {l:List Bd} (ho:Ord cmpB l) (hf : ∀ b∈l,b.Fit):BL l:=by
 refine ⟨?_,hf⟩
 have:l.Pairwise fun a b=>a∈l/\b∈l/\cmpB a b<0:=List.Pairwise.imp_of_mem (fun ha hb h=>⟨ha,hb,h⟩) ho
 exact this.imp fun {a b} ⟨ha,hb,h⟩ e=>by rw [bkl_inj (hf a ha) (hf b hb) e,cmpB3.self] at h; exact absurd h (by decide)
theorem Tb.Ok.xl {s:Tb} (h:s.Ok):XL s.xs:=xl_of h.ox h.good
theorem Tb.Ok.bl {s:Tb} (h:s.Ok):BL s.bs:=bl_of h.ob h.fit
structure TAt (w:World) (p bx bb:Nat) (s:Tb):Prop where
 blk:w.heap[p]? = some (.cells #[.map (some bx),.map (some bb)] 127 (0,0))
 x:XAt w bx s.xs
 b:BAt w bb s.bs
 ne:bx≠bb
def footT (p bx bb:Nat) (k:Nat):Prop:=k=p\/k=bx\/k=bb
def T (w:World) (p:Nat) (F:Nat->Prop) (s:Tb):Prop := ∃ bx bb,TAt w p bx bb s /\ ∀ k,F k↔footT p bx bb k
theorem TAt.lts {w:World} {p bx bb:Nat} {s:Tb} (h:TAt w p bx bb s) : ∀ k,footT p bx bb k->k<w.heap.size:=by
 rintro k (rfl | rfl | rfl)
 ·exact (yyD h.blk).1
 ·exact h.x.lt
 ·exact h.b.lt
theorem T.lts {w:World} {p:Nat} {F:Nat->Prop} {s:Tb} (h:T w p F s) : ∀ k,F k->k<w.heap.size:=by
 obtain ⟨bx,bb,hq,hF⟩:=h
 exact fun k hk=>hq.lts k ((hF k).1 hk)
theorem TAt.same {w w':World} {p bx bb:Nat} {s:Tb} (h:TAt w p bx bb s) (hs : ∀ k,footT p bx bb k->w'.heap[k]? = w.heap[k]?):TAt w' p bx bb s :=
 ⟨by rw [hs p (.inl rfl)]; exact h.blk,h.x.same (hs bx (.inr (.inl rfl))),h.b.same (hs bb (.inr (.inr rfl))),h.ne⟩
theorem T.same {w w':World} {p:Nat} {F:Nat->Prop} {s:Tb} (h:T w p F s) (hs : ∀ k,F k->w'.heap[k]? = w.heap[k]?):T w' p F s:=by
 obtain ⟨bx,bb,hq,hF⟩:=h
 exact ⟨bx,bb,hq.same fun k hk=>hs k ((hF k).2 hk),hF⟩
theorem T.kept {w w':World} {p:Nat} {F:Nat->Prop} {s:Tb} (h:T w p F s) (hb:Below w.heap.size w w'):T w' p F s:=h.same fun k hk=>hb.block k (h.lts k hk)
theorem cells2 {w:World} {b:Nat} {v0 v1:Value} {t:TypeId} (h:w.heap[b]? = some (.cells #[v0,v1] t (0,0))):w.cell? ⟨b,0,none⟩=some v0/\w.cell? ⟨b,1,none⟩=some v1:=by
 simp [World.cell?,h]
theorem TAt.ne_x {w:World} {p bx bb:Nat} {s:Tb} (h:TAt w p bx bb s):bx≠p:=by
 rintro rfl
 obtain ⟨es,clock,hb,_⟩:=h.x
 rw [h.blk] at hb
 cases hb
theorem TAt.ne_b {w:World} {p bx bb:Nat} {s:Tb} (h:TAt w p bx bb s):bb≠p:=by
 rintro rfl
 obtain ⟨es,clock,hb,_⟩:=h.b
 rw [h.blk] at hb
 cases hb
def newT:Tb:=⟨[],[]⟩
theorem newT_ok:newT.Ok:=⟨List.Pairwise.nil,List.Pairwise.nil,by simp [newT],by simp [newT],by simp [newT],by simp [newT],by simp [newT]⟩
theorem new_any (w:World):Calls Tryz.prog 22 #[] w fun e w' => ∃ p,e=.returned (.pointer (some ⟨p,0,none⟩)) /\ ∃ F,T w' p F newT/\(∀ k,F k->w.heap.size<=k)/\Below w.heap.size w w':=by
 have hmm := @run_makeMap Tryz.prog
 go_enter Tryz.func22,Tryz.ntmps22
 go_wp2
 go_ret
 refine ⟨w.heap.size+1+1,rfl,footT (w.heap.size+1+1) w.heap.size (w.heap.size+1),⟨_,_,⟨?_,?_,?_,by omega⟩,fun _=>Iff.rfl⟩,?_,?_⟩
 ·have h:=heap_alloc_new ((w.alloc (.map #[] 0)).alloc (.map #[] 0)) (.cells #[.map (some w.heap.size),.map (some (w.heap.size+1))] 127)
  rw [World.size_alloc,World.size_alloc] at h
  exact h
 ·exact ((xAt_new w).same (Below.heap_alloc _ _ _ (by simp))).same (Below.heap_alloc _ _ _ (by simp; omega))
 ·have h:=bAt_new (w.alloc (.map #[] 0))
  rw [World.size_alloc] at h
  exact h.same (Below.heap_alloc _ _ _ (by simp))
 ·rintro k (rfl | rfl | rfl) <;> omega
 ·exact (((Below.refl _ w).alloc (yyH _) _).alloc (by simp) _).alloc (by simp; omega) _
theorem made_any (p:Nat) (F:Nat->Prop) (s:Tb) (w:World) (h:T w p F s):Calls Tryz.prog 56 #[.pointer (some ⟨p,0,none⟩)] w fun e w'=>e=.returned (.bool true)/\w'=w:=by
 obtain ⟨bx,bb,hq,_⟩:=h
 obtain ⟨c0,c1⟩:=cells2 hq.blk
 clear hq
 have hnn : ∀ w,(binOp .neq 124 (.map (some bx)) (.map none)).run Tryz.prog w=.ok (.bool true) w:=fun w=>run_neq_map_nil w 124 9 34 (some bx) Tryz.underlying124
 go_enter Tryz.func56,Tryz.ntmps56
 go_wp2
 go_ret
 exact ⟨rfl,rfl⟩
theorem good_any (x:Ex) (w:World) (hs:x.name.size<=maxLen):Calls Tryz.prog 128 #[xv x] w fun e w'=>e=.returned (.bool (goodX x))/\Below w.heap.size w w':=by
 have hN:=fun w=>name_any x.name w hs
 have b0 : ∀ o,Below w.heap.size w (w.alloc o):=fun o=>(Below.refl _ _).alloc (yyH _) _
 unfold goodX
 generalize nameB (txt x.name)=nb at hN ⊢
 by_cases h:x.kind=1\/x.kind=2\/x.kind=3
 ·have e:(decide (x.kind=1) || decide (x.kind=2) || decide (x.kind=3))=true:=by rcases h with h | h | h <;> simp [h]
  rw [e,Bool.and_true]
  rcases h with h | h | h
  all_goals go_enter Tryz.func128,Tryz.ntmps128
  all_goals go_wp2_with (go_at_call 126; refine (hN _).mono ?_; rintro e w' ⟨rfl,hb⟩)
  all_goals go_ret
  all_goals exact ⟨rfl,(b0 _).trans (hb.mono (by simp))⟩
 ·obtain ⟨h1,h2,h3⟩ : ¬ x.kind=1 /\ ¬ x.kind=2 /\ ¬ x.kind=3:=⟨fun e=>h (.inl e),fun e=>h (.inr (.inl e)),fun e=>h (.inr (.inr e))⟩
  have e:(decide (x.kind=1) || decide (x.kind=2) || decide (x.kind=3))=false:=by simp [h1,h2,h3]
  rw [e,Bool.and_false]
  clear h
  go_enter Tryz.func128,Tryz.ntmps128
  go_wp2
  go_ret
  exact ⟨rfl,b0 _⟩
theorem leads_any (k:Int) (p:ByteArray) (w:World) (hs:p.size<=maxLen):Calls Tryz.prog 181 #[.int .i64 k,.string p] w fun e w'=>e=.returned (.bool (mayP k p))/\Below w.heap.size w w':=by
 have hK:=fun w=>key_any p w hs
 have hP:=fun w=>pattern_any p w hs
 unfold mayP
 by_cases h1:k=1
 ·rw [if_pos h1]
  go_enter Tryz.func181,Tryz.ntmps181
  go_wp2_with (go_at_call 177; refine (hK _).mono ?_; rintro e w' ⟨rfl,hb⟩)
  go_ret
  exact ⟨rfl,hb⟩
 ·rw [if_neg h1]
  by_cases h2:k=2
  ·rw [if_pos h2]
   go_enter Tryz.func181,Tryz.ntmps181
   go_wp2
   go_ret
   exact ⟨rfl,Below.refl _ _⟩
  ·rw [if_neg h2]
   go_enter Tryz.func181,Tryz.ntmps181
   go_wp2_with (go_at_call 244; refine (hP _).mono ?_; rintro e w' ⟨rfl,hb⟩)
   go_ret
   exact ⟨rfl,hb⟩
theorem exchanges_any (p:Nat) (F:Nat->Prop) (s:Tb) (w:World) (h:T w p F s) (ok:s.Ok) :
  Calls Tryz.prog 26 #[.pointer (some ⟨p,0,none⟩)] w fun e w' => ∃ v',e=.returned v'/\OwnX w' w.heap.size v' s.xs/\Below w.heap.size w w':=by
 have hM:=made_any p F s w h
 obtain ⟨bx,bb,hq,_⟩:=h
 obtain ⟨c0,c1⟩:=cells2 hq.blk
 have b1:Below w.heap.size w (w.alloc (.cells #[.map (some bx)] 124)):=(Below.refl _ _).alloc (yyH _) _
 have hm:MapAtEx w (some bx) s.xs:=.inr ⟨bx,rfl,hq.x⟩
 have hS:=sortedFunc_anyEx w.heap.size (some bx) s.xs ok.xl ok.ox (by have:=ok.nx; omega) _ (cell_of_list (C:=[.map (some bx)]) (heap_alloc_new w _) 0) (hm.below b1)
 clear hq
 go_enter Tryz.func26,Tryz.ntmps26
 go_wp2_with fail
 refine hM.mono ?_
 rintro e w ⟨rfl,rfl⟩
 go_wp2_with fail
 refine (values_anyEx (some bx) w).mono ?_
 rintro e w1 ⟨rfl,rfl⟩
 go_wp2_with fail
 refine hS.mono ?_
 rintro e w2 ⟨v,rfl,own,b⟩
 obtain ⟨va,vc,rfl⟩:=own.rng.slice
 go_wp2
 go_ret
 exact ⟨_,rfl,own.mono b1.size,b1.trans (b.mono b1.size)⟩
theorem bindings_any (p:Nat) (F:Nat->Prop) (s:Tb) (w:World) (h:T w p F s) (ok:s.Ok) :
  Calls Tryz.prog 27 #[.pointer (some ⟨p,0,none⟩)] w fun e w' => ∃ v',e=.returned v'/\OwnB w' w.heap.size v' s.bs/\Below w.heap.size w w':=by
 have hM:=made_any p F s w h
 obtain ⟨bx,bb,hq,_⟩:=h
 obtain ⟨c0,c1⟩:=cells2 hq.blk
 have b1:Below w.heap.size w (w.alloc (.cells #[.map (some bb)] 125)):=(Below.refl _ _).alloc (yyH _) _
 have hm:MapAtBd w (some bb) s.bs:=.inr ⟨bb,rfl,hq.b⟩
 have hS:=sortedFunc_anyBd w.heap.size (some bb) s.bs ok.bl ok.ob (by have:=ok.nb; omega) _ (cell_of_list (C:=[.map (some bb)]) (heap_alloc_new w _) 0) (hm.below b1)
 clear hq
 go_enter Tryz.func27,Tryz.ntmps27
 go_wp2_with fail
 refine hM.mono ?_
 rintro e w ⟨rfl,rfl⟩
 go_wp2_with fail
 refine (values_anyBd (some bb) w).mono ?_
 rintro e w1 ⟨rfl,rfl⟩
 go_wp2_with fail
 refine hS.mono ?_
 rintro e w2 ⟨v,rfl,own,b⟩
 obtain ⟨va,vc,rfl⟩:=own.rng.slice
 go_wp2
 go_ret
 exact ⟨_,rfl,own.mono b1.size,b1.trans (b.mono b1.size)⟩
end Go.Proofs.YtnhnpnafchkhiaaGreatDoor.B
