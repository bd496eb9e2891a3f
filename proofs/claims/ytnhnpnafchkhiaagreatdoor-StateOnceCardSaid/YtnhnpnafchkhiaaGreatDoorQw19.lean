import Derived.Test.YtnhnpnafchkhiaaGreatDoorQwA
import Derived.Test.YtnhnpnafchkhiaaGreatDoorQw18
import Derived.Test.YtnhnpnafchkhiaaGreatDoorQw6
import Derived.Lib.RowBridge
import Derived.Deep.RegionHeld3
import Derived.BigQuiet
import Derived.Laws.EntriesVeiled
set_option maxHeartbeats 4000000
set_option maxRecDepth 20000
namespace Go.Proofs.YtnhnpnafchkhiaaGreatDoor.K
end Go.Proofs.YtnhnpnafchkhiaaGreatDoor.K
namespace Go.Proofs.YtnhnpnafchkhiaaGreatDoor.B
open Go.Proofs.YtnhnpnafchkhiaaGreatDoor.K
open Go.RowKit Go.Sort Go.Shelf
def FitV (w:World) (v:Value) (x:Ex) (key:ByteArray):Prop :=
 (v=.func (.func 192) #[] #[]/\(goodX x && keyB (txt key))=false) \/
 (∃ b,v=.func (.func 193) #[] #[.pointer (some ⟨b,0,none⟩)]/\(goodX x && keyB (txt key))=true/\x.kind=1/\w.cell? ⟨b,0,none⟩=some (.string key)) \/
 (v=.func (.func 194) #[] #[]/\(goodX x && keyB (txt key))=true/\x.kind≠1/\x.kind=2) \/
 (∃ b,v=.func (.func 195) #[] #[.pointer (some ⟨b,0,none⟩)]/\(goodX x && keyB (txt key))=true/\x.kind≠1/\x.kind≠2/\w.cell? ⟨b,0,none⟩=some (.string key))
theorem FitV.below {w w':World} {B:Nat} {v:Value} {x:Ex} {key:ByteArray} (h:FitV w v x key) (hb:Below B w w') (hB:w.heap.size<=B):FitV w' v x key:=by
 rcases h with h | ⟨b,h1,h2,h3,h4⟩ | h | ⟨b,h1,h2,h3,h3',h4⟩
 ·exact .inl h
 ·exact .inr (.inl ⟨b,h1,h2,h3,(hb.cell (p:=⟨b,0,none⟩) (Nat.lt_of_lt_of_le (World.block_lt_of_cell? _ _ h4) hB)).trans h4⟩)
 ·exact .inr (.inr (.inl h))
 ·exact .inr (.inr (.inr ⟨b,h1,h2,h3,h3',(hb.cell (p:=⟨b,0,none⟩) (Nat.lt_of_lt_of_le (World.block_lt_of_cell? _ _ h4) hB)).trans h4⟩))
theorem fit1_any (s:ByteArray) (w:World):Calls Tryz.prog 192 #[.string s] w fun e w'=>e=.returned (.bool false)/\Below w.heap.size w w':=by
 go_enter Tryz.func192,Tryz.ntmps192
 go_wp2
 go_ret
 exact ⟨rfl,Below.refl _ _⟩
theorem fit2_any (s key:ByteArray) (b:Nat) (w:World) (hb:w.cell? ⟨b,0,none⟩=some (.string key)):Calls Tryz.prog 193 #[.string s,.pointer (some ⟨b,0,none⟩)] w fun e w'=>e=.returned (.bool (s.toList==key.toList))/\Below w.heap.size w w':=by
 go_enter Tryz.func193,Tryz.ntmps193
 go_wp2
 go_ret
 exact ⟨rfl,Below.refl _ _⟩
theorem fit3_any (s:ByteArray) (w:World):Calls Tryz.prog 194 #[.string s] w fun e w'=>e=.returned (.bool s.toList.isEmpty)/\Below w.heap.size w w':=by
 go_enter Tryz.func194,Tryz.ntmps194
 go_wp2
 go_ret
 exact ⟨rfl,Below.refl _ _⟩
theorem fit4_any (s key:ByteArray) (b:Nat) (w:World) (hb:w.cell? ⟨b,0,none⟩=some (.string key)) (hs:s.size<=maxLen) (hk:key.size<=maxLen):Calls Tryz.prog 195 #[.string s,.pointer (some ⟨b,0,none⟩)] w fun e w'=>e=.returned (.bool (matchB (txt s) (txt key)))/\Below w.heap.size w w':=by
 go_enter Tryz.func195,Tryz.ntmps195
 go_wp2_with (go_at_call 196; refine (match_any s key _ hs hk).mono ?_; rintro e w' ⟨rfl,hb⟩)
 go_ret
 exact ⟨rfl,hb⟩
theorem fitting_any (x:Ex) (key:ByteArray) (w:World) (hs:x.name.size<=maxLen) (hk:key.size<=maxLen) :
  Calls Tryz.prog 152 #[xv x,.string key] w fun e w' => ∃ v,e=.returned v/\FitV w' v x key/\Below w.heap.size w w':=by
 obtain ⟨W,fold⟩ : ∃ W,(w.alloc (.cells #[.string x.name,.int .i64 x.kind,.bool x.fed] 34)).alloc (.cells #[.string key] 9)=W:=⟨_,rfl⟩
 have bW:Below w.heap.size w W:=by rw [<- fold]; exact ((Below.refl _ _).alloc (yyH _) _).alloc (by simp) _
 have x0:W.cell? ⟨w.heap.size,0,none⟩=some (.string x.name):=by rw [<- fold]; exact cell_allocK _ (cell_of_list (C:=xcells x) (heap_alloc_new w _) 0)
 have x1:W.cell? ⟨w.heap.size,1,none⟩=some (.int .i64 x.kind):=by rw [<- fold]; exact cell_allocK _ (cell_of_list (C:=xcells x) (heap_alloc_new w _) 1)
 have x2:W.cell? ⟨w.heap.size,2,none⟩=some (.bool x.fed):=by rw [<- fold]; exact cell_allocK _ (cell_of_list (C:=xcells x) (heap_alloc_new w _) 2)
 have y0:W.cell? ⟨w.heap.size+1,0,none⟩=some (.string key):=by rw [<- fold,<- World.size_alloc w (.cells #[.string x.name,.int .i64 x.kind,.bool x.fed] 34)]; exact cell_of_list (C:=[.string key]) (heap_alloc_new _ _) 0
 have hG:=good_any x W hs
 have hK:=fun w=>key_any key w hk
 have hFk:(goodX x && keyB (txt key))=true -> ∀ V,Below W.heap.size W V->(x.kind=1->FitV V (.func (.func 193) #[] #[.pointer (some ⟨w.heap.size+1,0,none⟩)]) x key)/\(x.kind≠1->x.kind=2->FitV V (.func (.func 194) #[] #[]) x key)/\(x.kind≠1->x.kind≠2->FitV V (.func (.func 195) #[] #[.pointer (some ⟨w.heap.size+1,0,none⟩)]) x key):=fun hg V hV=>by
  have hc:=(hV.cell (p:=⟨w.heap.size+1,0,none⟩) (World.block_lt_of_cell? _ _ y0)).trans y0
  exact ⟨fun h=>.inr (.inl ⟨_,rfl,hg,h,hc⟩),fun h h'=>.inr (.inr (.inl ⟨rfl,hg,h,h'⟩)),fun h h'=>.inr (.inr (.inr ⟨_,rfl,hg,h,h',hc⟩))⟩
 have hFk':(goodX x && keyB (txt key))=false -> ∀ V,FitV V (.func (.func 192) #[] #[]) x key:=fun hg V=>.inl ⟨rfl,hg⟩
 have HFK:Hid _:=hFk
 have HFK':Hid _:=hFk'
 clear hFk hFk'
 go_enter Tryz.func152,Tryz.ntmps152
 cases hg:goodX x
 ·rw [hg] at hG HFK'
  go_wp2_with (go_at_call 128; refine hG.mono ?_; rintro e w1 ⟨rfl,b1⟩)
  go_ret
  exact ⟨_,rfl,HFK'.out rfl _,bW.trans (b1.mono bW.size)⟩
 ·rw [hg] at hG HFK HFK'
  go_wp2_with fail
  refine hG.mono ?_
  rintro e w1 ⟨rfl,b1⟩
  have z0:=(b1.cell (p:=⟨w.heap.size+1,0,none⟩) (World.block_lt_of_cell? _ _ y0)).trans y0
  have z1:=(b1.cell (p:=⟨w.heap.size,1,none⟩) (World.block_lt_of_cell? _ _ x1)).trans x1
  clear x0 x1 x2 y0 fold
  go_wp2_with fail
  refine (hK _).mono ?_
  rintro e w2 ⟨rfl,b2⟩
  have z2:=(b2.cell (p:=⟨w.heap.size,1,none⟩) (World.block_lt_of_cell? _ _ z1)).trans z1
  have B:Below W.heap.size W w2:=b1.trans (b2.mono b1.size)
  cases hk2:keyB (txt key)
  ·rw [hk2] at HFK'
   go_wp2
   go_ret
   exact ⟨_,rfl,HFK'.out rfl _,bW.trans (B.mono bW.size)⟩
  ·rw [hk2] at HFK
   obtain ⟨o1,o2,o3⟩:=HFK.out rfl w2 B
   by_cases h1:x.kind=1
   ·go_wp2
    go_ret
    exact ⟨_,rfl,o1 h1,bW.trans (B.mono bW.size)⟩
   ·by_cases h2:x.kind=2
    ·go_wp2
     go_ret
     exact ⟨_,rfl,o2 h1 h2,bW.trans (B.mono bW.size)⟩
    ·go_wp2
     go_ret
     exact ⟨_,rfl,o3 h1 h2,bW.trans (B.mono bW.size)⟩
theorem below_setCells {base g:Nat} (hg:base<=g) : ∀ (vs:List Value) (o:Nat) (w:World),Below base w (w.setCells g o vs)
 |[],_,w=>Below.refl _ w
 |v::vs,o,w=>by
  have h1:Below base w (w.setCell ⟨g,o,none⟩ v):=⟨rfl,rfl,rfl,by simp,fun k hk=>heap_setCell_other _ _ _ _ (show k≠g by omega)⟩
  exact h1.trans (below_setCells hg vs (o+1) _)
theorem queues1_any (x:Bd) (n m:Nat) (e key:ByteArray) (y:Ex) (v:Value) (W:World) (hx:x.Fit) (hk:key.size<=maxLen) (hn:W.cell? ⟨n,0,none⟩=some (.string e)) (hm:W.cell? ⟨m,0,none⟩=some v) (hv:FitV W v y key) :
  Calls Tryz.prog 154 (#[bv x] ++ #[.pointer (some ⟨n,0,none⟩),.pointer (some ⟨m,0,none⟩)]) W fun r w'=>r=.returned (.tuple #[.string x.que,.bool (qsel y e key x)])/\Below W.heap.size W w':=by
 obtain ⟨X,fold⟩ : ∃ X,W.alloc (.cells #[.string x.ex,.string x.que,.string x.pat] 36)=X:=⟨_,rfl⟩
 have bX:Below W.heap.size W X:=by rw [<- fold]; exact (Below.refl _ _).alloc (yyH _) _
 have a0:X.cell? ⟨W.heap.size,0,none⟩=some (.string x.ex):=by rw [<- fold]; exact cell_of_list (C:=bcells x) (heap_alloc_new W _) 0
 have a1:X.cell? ⟨W.heap.size,1,none⟩=some (.string x.que):=by rw [<- fold]; exact cell_of_list (C:=bcells x) (heap_alloc_new W _) 1
 have a2:X.cell? ⟨W.heap.size,2,none⟩=some (.string x.pat):=by rw [<- fold]; exact cell_of_list (C:=bcells x) (heap_alloc_new W _) 2
 have n0:X.cell? ⟨n,0,none⟩=some (.string e):=by rw [<- fold]; exact cell_allocK _ hn
 have m0:X.cell? ⟨m,0,none⟩=some v:=by rw [<- fold]; exact cell_allocK _ hm
 have hvX:=hv.below bX (yyH _)
 have hq:qsel y e key x=((x.ex.toList==e.toList) && fitsX y x.pat key):=by
  unfold qsel
  congr 1
  rw [Bool.eq_iff_iff]
  simp only [decide_eq_true_eq,beq_iff_eq,ByteArray.toList_eq]
  exact ⟨fun h=>by rw [h],arr_inj⟩
 rw [hq]
 clear hq hv hn hm
 cases hd:(x.ex.toList==e.toList)
 ·rw [Bool.false_and]
  rcases hvX with ⟨rfl,h1⟩ | ⟨b,rfl,h1,h2,h3⟩ | ⟨rfl,h1,h2,h3⟩ | ⟨b,rfl,h1,h2,h2',h3⟩
  all_goals go_enter Tryz.func154,Tryz.ntmps154
  all_goals go_wp2
  all_goals go_quiet (fail)
  all_goals go_wp2
  all_goals go_ret2
  all_goals exact ⟨rfl,bX.trans (by first | exact ((Below.refl _ _).drew).mono bX.size | exact ⟨rfl,rfl,rfl,yyH _,fun _ _=>rfl⟩)⟩
 ·rw [Bool.true_and]
  have CL : ∃ f caps,v=.func (.func f) #[] caps/\(∀ args w,(callFunc f args).run Tryz.prog w=.ok (.enter f args) w)/\Calls Tryz.prog f (#[.string x.pat]++caps) X.drew fun r w'=>r=.returned (.bool (fitsX y x.pat key))/\Below X.heap.size X w':=by
   rcases hvX with ⟨rfl,h1⟩ | ⟨b,rfl,h1,h2,h3⟩ | ⟨rfl,h1,h2,h3⟩ | ⟨b,rfl,h1,h2,h2',h3⟩
   ·refine ⟨_,_,rfl,enters_of Tryz.func192 (by kernel_rfl) rfl,(fit1_any x.pat X.drew).mono ?_⟩
    rintro r w' ⟨rfl,b⟩
    exact ⟨retK_bool (by unfold fitsX; rw [h1]; rfl),(show Below X.heap.size X X.drew from (Below.refl _ _).drew).trans b⟩
   ·refine ⟨_,_,rfl,enters_of Tryz.func193 (by kernel_rfl) rfl,(fit2_any x.pat key b X.drew h3).mono ?_⟩
    rintro r w' ⟨rfl,b⟩
    exact ⟨retK_bool (by unfold fitsX; rw [h1,if_pos h2]; rfl),(show Below X.heap.size X X.drew from (Below.refl _ _).drew).trans b⟩
   ·refine ⟨_,_,rfl,enters_of Tryz.func194 (by kernel_rfl) rfl,(fit3_any x.pat X.drew).mono ?_⟩
    rintro r w' ⟨rfl,b⟩
    exact ⟨retK_bool (by unfold fitsX; rw [h1,if_neg h2,if_pos h3]; rfl),(show Below X.heap.size X X.drew from (Below.refl _ _).drew).trans b⟩
   ·refine ⟨_,_,rfl,enters_of Tryz.func195 (by kernel_rfl) rfl,(fit4_any x.pat key b X.drew h3 hx.2.2 hk).mono ?_⟩
    rintro r w' ⟨rfl,b⟩
    exact ⟨retK_bool (by unfold fitsX; rw [h1,if_neg h2,if_neg h2']; rfl),(show Below X.heap.size X X.drew from (Below.refl _ _).drew).trans b⟩
  obtain ⟨f,caps,rfl,ef,hc⟩:=CL
  generalize fitsX y x.pat key=rr at hc ⊢
  clear hvX
  go_enter Tryz.func154,Tryz.ntmps154
  go_wp2
  go_region_held3 (fun w'=>w'.cell? ⟨W.heap.size,0,none⟩=some (.string x.ex)/\w'.cell? ⟨W.heap.size,1,none⟩=some (.string x.que)/\w'.cell? ⟨W.heap.size,2,none⟩=some (.string x.pat)/\w'.cell? ⟨n,0,none⟩=some (.string e)/\w'.cell? ⟨m,0,none⟩=some (.func (.func f) #[] caps)) (go_keep) (first
   |(go_at_fn f; refine hc.mono ?_; rintro r w' ⟨rfl,bw⟩; have q0:=(bw.cell (p:=⟨W.heap.size,0,none⟩) (World.block_lt_of_cell? _ _ a0)).trans a0; have q1:=(bw.cell (p:=⟨W.heap.size,1,none⟩) (World.block_lt_of_cell? _ _ a1)).trans a1; have q2:=(bw.cell (p:=⟨W.heap.size,2,none⟩) (World.block_lt_of_cell? _ _ a2)).trans a2; have q3:=(bw.cell (p:=⟨n,0,none⟩) (World.block_lt_of_cell? _ _ n0)).trans n0; have q4:=(bw.cell (p:=⟨m,0,none⟩) (World.block_lt_of_cell? _ _ m0)).trans m0))
  all_goals go_wp2
  all_goals go_ret2
  all_goals exact ⟨rfl,bX.trans (bw.mono bX.size)⟩
theorem _root_.Go.Proofs.YtnhnpnafchkhiaaGreatDoor.Own1.kept {w w':World} {b B:Nat} {e:TypeId} {v:Value} {cs:List Value} (h:Own1 w b e v cs) (hb:Below B w w') (hB:w.heap.size<=B):Own1 w' b e v cs:=by
 refine ⟨h.1,?_⟩
 rcases h.2 with h1 | ⟨g,cap,cur,hv,hg,hblk,h1⟩
 ·exact .inl h1
 ·exact .inr ⟨g,cap,cur,hv,hg,(hb.block g (Nat.lt_of_lt_of_le (yyD hblk).1 hB)).trans hblk,h1⟩
theorem FitV.func {w:World} {v:Value} {x:Ex} {key:ByteArray} (h:FitV w v x key) : ∃ f caps,v=.func (.func f) #[] caps:=by
 rcases h with ⟨h,_⟩ | ⟨b,h,_⟩ | ⟨h,_⟩ | ⟨b,h,_⟩ <;> exact ⟨_,_,h⟩
theorem rise_que {s:Tb} (ok:s.Ok) (x:Ex) (e key:ByteArray):((s.bs.filter (qsel x e key)).map Bd.que).Pairwise fun a b=>cmpS a b<=0:=by
 rw [List.pairwise_map]
 have h1:Ord cmpB (s.bs.filter (qsel x e key)):=ok.ob.filter _
 refine List.Pairwise.imp_of_mem (fun {a b} ha hb h=>?_) h1
 have ea:a.ex=e:=by have:=(List.mem_filter.1 ha).2; unfold qsel at this; simp at this; exact this.1
 have eb:b.ex=e:=by have:=(List.mem_filter.1 hb).2; unfold qsel at this; simp at this; exact this.1
 exact que_rise h (by rw [ea,eb])
def NewS (w:World) (base:Nat) (v:Value) (l:List ByteArray):Prop :=
 Row w v (scells l)/\(l=[] \/ ∃ g cap,v=.slice (some ⟨g,0,none⟩) l.length cap/\base<=g/\g<w.heap.size/\l.length<=cap/\cap<=maxLen /\ ∀ j,j<l.length->w.frozen? ⟨g,j,none⟩=false)
theorem NewS.mono {w:World} {b c:Nat} {v:Value} {l:List ByteArray} (h:NewS w b v l) (hc:c<=b):NewS w c v l :=
 ⟨h.1,h.2.imp id fun ⟨g,cap,h1,h2,h3⟩=>⟨g,cap,h1,Nat.le_trans hc h2,h3⟩⟩
theorem compactO_any (v:Value) (l:List ByteArray) (base:Nat) (w:World) (h:Own1 w base 9 v (scells l)) (hl:l.length<=1000000) (hr:l.Pairwise fun a b=>cmpS a b<=0) :
  Calls Tryz.prog 197 #[v] w fun e w' => ∃ v',e=.returned v'/\NewS w' base v' (mkS l)/\Below base w w':=by
 by_cases h0:l.length=0
 ·have:l=[]:=List.eq_nil_of_length_eq_zero h0
  subst this
  have hrow:=h.row
  obtain ⟨a,cap,rfl⟩:=hrow.sliceStrs
  refine (Any.slices_Compact_string_empty Tryz.lays194 a cap w).mono ?_
  rintro e w' ⟨rfl,rfl⟩
  exact ⟨_,rfl,⟨hrow,.inl rfl⟩,Below.refl _ _⟩
 ·rcases h.2 with ⟨rfl,hn⟩ | ⟨g,cap,cur,rfl,hg,hblk,hnc,hcm,_,_⟩
  ·rw [scells_length] at hn; exact absurd hn h0
  ·rw [scells_length] at hnc
   have hcells : ∀ j,j<l.length->w.cell? ⟨g,0+j,none⟩=some (.string (l.getD j ByteArray.empty)):=fun j hj=>by
    rw [Nat.zero_add]
    have:=World.ownsRow.cells h (g:=g) rfl j (.string (l.getD j ByteArray.empty)) (by simp [scells,List.getD,hj])
    rw [Go.WideShapes.add_plain,Nat.zero_add] at this
    exact this
   have hfz : ∀ j,j<l.length->w.frozen? ⟨g,0+j,none⟩=false:=fun j _=>frozen_of_list hblk _
   have hH:=Lib.holds_of_strings (w:=w) (b:=g) (off:=0) (n:=l.length) (ss:=l) (yyH _) hcells hfz
   rw [List.take_length] at hH
   have hC:=Any.slices_Compact_string Tryz.lays194 g 0 cap (l.map (·.data.toList)) w hH (by rw [List.length_map]; omega) (by rw [List.length_map]; omega)
   rw [List.length_map,compact_rise hr] at hC
   rw [scells_length]
   refine hC.mono ?_
   rintro e w' ⟨rfl,q,rfl⟩
   have hle:=mkS_length l
   rw [Lib.putRow_eq_setCells encStr w g 0 _ _ q hH (by simp; omega)]
   refine ⟨_,rfl,⟨.inr ⟨⟨g,0,none⟩,cap,by rw [scells_length,List.length_map],by rw [scells_length]; omega,hcm,fun j u hj=>?_⟩,.inr ⟨g,cap,by rw [List.length_map],hg,?_,by omega,hcm,fun j hj=>?_⟩⟩,?_⟩
   ·have hj':j<(mkS l).length:=by
     have:=(List.getElem?_eq_some_iff.1 hj).1
     rwa [scells_length] at this
    have hin:=World.cell?_setCells_in g (((mkS l).map (fun x:ByteArray=>x.data.toList)++List.replicate (l.length-((mkS l).map (fun x:ByteArray=>x.data.toList)).length) []).map encStr) 0 (w.drewN q) (fun i hi=>by
     have hi':i<l.length:=by simp at hi; omega
     rw [World.cell?_drewN,hcells i hi']; rfl) j (by simp; omega)
    rw [Nat.zero_add] at hin
    rw [show (⟨g,0,none⟩:Addr).add j=⟨g,j,none⟩ by rw [Go.WideShapes.add_plain,Nat.zero_add],hin]
    simp only [scells,List.getElem?_map] at hj
    rw [List.getElem?_eq_getElem hj'] at hj
    simp only [Option.map_some,Option.some.injEq] at hj
    rw [<- hj]
    rw [List.getElem_map,List.getElem_append_left (by simpa using hj')]
    simp [encStr]
   ·have h1:=(below_setCells (Nat.zero_le g) (((mkS l).map (fun x:ByteArray=>x.data.toList)++List.replicate (l.length-((mkS l).map (fun x:ByteArray=>x.data.toList)).length) []).map encStr) 0 (w.drewN q)).size
    have h2:g<w.heap.size:=(yyD hblk).1
    exact Nat.lt_of_lt_of_le h2 h1
   ·rw [World.frozen?_setCells]
    have:=hfz j (by omega)
    rw [Nat.zero_add] at this
    exact this
   ·exact (show Below base w (w.drewN q) from ⟨rfl,rfl,rfl,yyH _,fun _ _=>rfl⟩).trans (below_setCells hg _ 0 (w.drewN q))
theorem namesO_any (p:Nat) (F:Nat->Prop) (s:Tb) (f:Nat) (caps:Array Value) (nm:Bd->ByteArray) (sel:Bd->Bool) (w:World) (h:T w p F s) (ok:s.Ok) (ef : ∀ args w,(callFunc f args).run Tryz.prog w=.ok (.enter f args) w)
  (hcl : ∀ V x,x.Fit->Below w.heap.size w V->Calls Tryz.prog f (#[bv x]++caps) V fun r w'=>r=.returned (.tuple #[.string (nm x),.bool (sel x)])/\Below V.heap.size V w')
  (hr:((s.bs.filter sel).map nm).Pairwise fun a b=>cmpS a b<=0) :
  Calls Tryz.prog 153 #[.func (.func 27) #[.pointer (some ⟨p,0,none⟩)] #[],.func (.func f) #[] caps] w fun e w' => ∃ v',e=.returned v'/\NewS w' w.heap.size v' (mkS ((s.bs.filter sel).map nm))/\Below w.heap.size w w':=by
 have HC:Hid (∀ V x,x.Fit->Below w.heap.size w V->Calls Tryz.prog f (#[bv x]++caps) V fun r w'=>r=.returned (.tuple #[.string (nm x),.bool (sel x)])/\Below V.heap.size V w'):=hcl
 have nb:=ok.nb
 have fit:=ok.fit
 have hL32:((s.bs.filter sel).map nm).length<=32:=by
  rw [List.length_map]
  exact Nat.le_trans (List.length_filter_le _ _) ok.nb
 obtain ⟨L,hL⟩ : ∃ L,(s.bs.filter sel).map nm=L:=⟨_,rfl⟩
 rw [hL] at hr hL32 ⊢
 have HL:Hid ((s.bs.filter sel).map nm=L):=hL
 clear hcl hL
 go_enter Tryz.func153,Tryz.ntmps153
 go_wp2_with fail
 refine (bindings_any p F s w h ok).mono ?_
 rintro e w1 ⟨v1,rfl,own,b1⟩
 obtain ⟨va,vc,rfl⟩:=own.rng.slice
 have hB:=own.rng.bds
 clear own h ok
 go_wp2
 go_loopw [5,7,8,9,13] (fun u5 u7 u8 u9 u13 wr => ∃ k:Nat,u13=.int .i64 k/\k<=s.bs.length/\Own1 wr w1.heap.size 9 u5 (scells (((s.bs.take k).filter sel).map nm))/\Below w1.heap.size w1 wr) (fun u5 u7 u8 u9 u13 wr=>s.bs.length-(intOf u13).toNat)
 case atStart=>exact ⟨0,rfl,Nat.zero_le _,own1_nil _ _ _,Below.refl _ _⟩
 case round =>
  obtain ⟨k,rfl,hk,hown,hbr⟩:=hrel
  by_cases hlt2:k<s.bs.length
  ·have hlt:(k:Int)<(s.bs.length:Int):=by omega
   obtain ⟨b,off,rfl,hi⟩:=hB k hlt2
   obtain ⟨e0,e1,e2⟩:=hi.below hbr (yyH _)
   have hfk:=fit _ (List.getElem_mem hlt2)
   have htk:(((s.bs.take (k+1)).filter sel).map nm)=(((s.bs.take k).filter sel).map nm)++(if sel s.bs[k]=true then [nm s.bs[k]] else []):=by
    rw [List.take_succ_eq_append_getElem hlt2,List.filter_append,List.map_append]
    congr 1
    by_cases hs:sel s.bs[k]=true <;> simp [hs]
   have hle:(((s.bs.take k).filter sel).map nm).length<=32:=by
    rw [List.length_map]
    refine Nat.le_trans (List.length_filter_le _ _) ?_
    rw [List.length_take]; omega
   clear hB hi
   generalize s.bs[k]=x at *
   generalize (((s.bs.take k).filter sel).map nm)=done at *
   have HT:Hid _:=htk
   clear htk
   obtain ⟨X,fold⟩ : ∃ X,wr.alloc (.cells #[.string x.ex,.string x.que,.string x.pat] 36)=X:=⟨_,rfl⟩
   have bX:Below w1.heap.size w1 X:=by rw [<- fold]; exact hbr.alloc hbr.size _
   have a0:X.cell? ⟨wr.heap.size,0,none⟩=some (.string x.ex):=by rw [<- fold]; exact cell_of_list (C:=bcells x) (heap_alloc_new wr _) 0
   have a1:X.cell? ⟨wr.heap.size,1,none⟩=some (.string x.que):=by rw [<- fold]; exact cell_of_list (C:=bcells x) (heap_alloc_new wr _) 1
   have a2:X.cell? ⟨wr.heap.size,2,none⟩=some (.string x.pat):=by rw [<- fold]; exact cell_of_list (C:=bcells x) (heap_alloc_new wr _) 2
   have oX:Own1 X w1.heap.size 9 u5 (scells done):=by rw [<- fold]; exact World.ownsRow.alloc hown _
   have hc:=HC.out X x hfk (b1.trans (bX.mono b1.size))
   obtain ⟨da,dc,rfl⟩:=hown.row.sliceStrs
   have hX:Hid (w1.heap.size<=X.heap.size):=bX.size
   cases hs:sel x
   ·rw [hs] at hc HT
    go_wp2_with (first
     |(go_at_fn f; refine hc.mono ?_; rintro e w3 ⟨rfl,b3⟩))
    go_roundw
    case rel =>
     refine ⟨k+1,by go_num,by omega,?_,bX.trans (b3.mono hX.out)⟩
     rw [HT.out]
     simp only [Bool.false_eq_true,if_false,List.append_nil]
     exact oX.kept b3 (yyH _)
    case measure=>simp [intOf]; omega
   ·rw [hs] at hc HT
    go_wp2_with (first
     |(go_at_fn f; refine hc.mono ?_; rintro e w3 ⟨rfl,b3⟩; have o3:Own1 w3 w1.heap.size 9 (.slice da done.length dc) (scells done):=oX.kept b3 (yyH _); have h3:Hid (w1.heap.size<=w3.heap.size):=Nat.le_trans hX.out b3.size)
     |(at_builtin; refine wpList_append_row rfl _ _ 52 9 (.string ⟨#[]⟩) 16 elemS rfl w1.heap.size _ _ (scells done) [.string (nm x)] rfl rfl (World.ownsRow.alloc o3 _) (row_one _ _ _) (by simp [Value.oneCell']) (by rw [scells_length]; simp; omega) (by rw [scells_length]; simp; omega) (by have:=h3.out; simp; omega) ?_; intro v' w4 hown' hb4 hs4))
    go_roundw
    case rel =>
     refine ⟨k+1,by go_num,by omega,?_,(bX.trans (b3.mono hX.out)).trans (((Below.refl _ _).alloc h3.out _).trans hb4)⟩
     rw [HT.out]
     simp only [if_true]
     rw [scells_append]
     exact hown'
    case measure=>simp [intOf]; omega
  ·obtain rfl:k=s.bs.length:=by omega
   rw [List.take_length,HL.out] at hown
   have hC:=compactO_any _ _ _ wr hown (by omega) hr
   obtain ⟨da,dc,rfl⟩:=hown.row.sliceStrs
   go_wp2_with fail
   refine hC.mono ?_
   rintro e w4 ⟨v',rfl,row,b4⟩
   obtain ⟨ra,rc,rfl⟩:=row.1.sliceStrs
   have ROW:Hid _:=row.mono b1.size
   clear row
   go_wp2
   go_ret
   exact ⟨_,rfl,ROW.out,b1.trans ((hbr.trans b4).mono b1.size)⟩
theorem queuesO_any (p:Nat) (F:Nat->Prop) (s:Tb) (e key:ByteArray) (w:World) (h:T w p F s) (ok:s.Ok) (he:e.size<=maxLen) (hk:key.size<=maxLen) :
  Calls Tryz.prog 94 #[.pointer (some ⟨p,0,none⟩),.string e,.string key] w fun r w' => ∃ v',r=.returned v'/\NewS w' w.heap.size v' (queuesT s e key)/\Below w.heap.size w w':=by
 obtain ⟨W,fold⟩ : ∃ W,w.alloc (.cells #[.string e] 9)=W:=⟨_,rfl⟩
 have bW:Below w.heap.size w W:=by rw [<- fold]; exact (Below.refl _ _).alloc (yyH _) _
 have y0:W.cell? ⟨w.heap.size,0,none⟩=some (.string e):=by rw [<- fold]; exact cell_of_list (C:=[.string e]) (heap_alloc_new w _) 0
 have hF:=find_any p F s e W (h.kept bW) ok he
 have HT:Hid (∀ V,Below W.heap.size W V->T V p F s):=fun V hV=>(h.kept bW).kept hV
 clear h
 cases hf:findX s.xs e with
 |none =>
  rw [hf] at hF
  have hq:queuesT s e key=[]:=by unfold queuesT; rw [hf]
  rw [hq]
  go_enter Tryz.func94,Tryz.ntmps94
  go_wp2_with (go_at_call 151; refine hF.mono ?_; rintro r w1 ⟨rfl,b1⟩)
  go_ret
  exact ⟨_,rfl,⟨.inl ⟨rfl,rfl⟩,.inl rfl⟩,(bW.trans (b1.mono bW.size)).alloc (Nat.le_trans bW.size b1.size) _⟩
 |some x =>
  rw [hf] at hF
  have hq:queuesT s e key=mkS ((s.bs.filter (qsel x e key)).map Bd.que):=by unfold queuesT; rw [hf]
  have hx:x.name.size<=maxLen:=by
   have:=good_short (ok.good x (findX_some hf).1)
   unfold maxLen; omega
  have hrise:=rise_que ok x e key
  simp only [Option.getD_some,Option.isSome_some] at hF
  have HQ:Hid _:=hq
  clear hq
  go_enter Tryz.func94,Tryz.ntmps94
  go_wp2_with fail
  refine hF.mono ?_
  rintro r w1 ⟨rfl,b1⟩
  obtain ⟨X,foldX⟩ : ∃ X,w1.alloc (.cells #[.string x.name,.int .i64 x.kind,.bool x.fed] 34)=X:=⟨_,rfl⟩
  have bX:Below W.heap.size W X:=by rw [<- foldX]; exact b1.alloc b1.size _
  have x0:X.cell? ⟨w1.heap.size,0,none⟩=some (.string x.name):=by rw [<- foldX]; exact cell_of_list (C:=xcells x) (heap_alloc_new w1 _) 0
  have x1:X.cell? ⟨w1.heap.size,1,none⟩=some (.int .i64 x.kind):=by rw [<- foldX]; exact cell_of_list (C:=xcells x) (heap_alloc_new w1 _) 1
  have x2:X.cell? ⟨w1.heap.size,2,none⟩=some (.bool x.fed):=by rw [<- foldX]; exact cell_of_list (C:=xcells x) (heap_alloc_new w1 _) 2
  go_wp2_with fail
  refine (fitting_any x key X hx hk).mono ?_
  rintro r w2 ⟨v,rfl,fv,b2⟩
  obtain ⟨f,caps,rfl⟩:=fv.func
  obtain ⟨Y,foldY⟩ : ∃ Y,w2.alloc (.cells #[.func (.func f) #[] caps] 172)=Y:=⟨_,rfl⟩
  have bY2:Below w2.heap.size w2 Y:=by rw [<- foldY]; exact (Below.refl _ _).alloc (yyH _) _
  have bY:Below W.heap.size W Y:=(bX.trans (b2.mono bX.size)).trans (bY2.mono (Nat.le_trans bX.size b2.size))
  have f0:Y.cell? ⟨w2.heap.size,0,none⟩=some (.func (.func f) #[] caps):=by rw [<- foldY]; exact cell_of_list (C:=[.func (.func f) #[] caps]) (heap_alloc_new w2 _) 0
  have z0:Y.cell? ⟨w.heap.size,0,none⟩=some (.string e):=(bY.cell (p:=⟨w.heap.size,0,none⟩) (World.block_lt_of_cell? _ _ y0)).trans y0
  have fvY:=fv.below bY2 (yyH _)
  have hN:=namesO_any p F s 154 #[.pointer (some ⟨w.heap.size,0,none⟩),.pointer (some ⟨w2.heap.size,0,none⟩)] Bd.que (qsel x e key) Y (HT.out Y bY) ok (enters_of Tryz.func154 (by kernel_rfl) rfl)
   (fun V b hb hV=>queues1_any b w.heap.size w2.heap.size e key x _ V hb hk ((hV.cell (p:=⟨w.heap.size,0,none⟩) (World.block_lt_of_cell? _ _ z0)).trans z0) ((hV.cell (p:=⟨w2.heap.size,0,none⟩) (World.block_lt_of_cell? _ _ f0)).trans f0) (fvY.below hV (yyH _))) hrise
  rw [<- HQ.out] at hN
  clear x0 x1 x2 y0 z0 f0 fvY fv foldX fold
  go_wp2_with fail
  refine hN.mono ?_
  rintro r w3 ⟨v3,rfl,row,b3⟩
  obtain ⟨ra,rc,rfl⟩:=row.1.sliceStrs
  have ROW:Hid _:=row.mono (Nat.le_trans bW.size bY.size)
  clear row
  go_wp2
  go_ret
  exact ⟨_,rfl,ROW.out,bW.trans ((bY.trans (b3.mono bY.size)).mono bW.size)⟩
theorem same_any (vx vb:Value) (p:Nat) (F:Nat->Prop) (s:Tb) (w:World) (hx:RowOf xcells w vx s.xs) (hb:RowOf bcells w vb s.bs) (hr:RT w p F s) :
  Calls Tryz.prog 39 #[vx,vb,.pointer (some ⟨p,0,none⟩)] w fun e w'=>e=.returned (.bool true)/\Below w.heap.size w w':=by
 obtain ⟨ux,ub,hq,_,_⟩:=hr
 obtain ⟨c0,c1⟩:=cells2 hq.blk
 obtain ⟨ax,cx,rfl⟩:=hx.slice
 obtain ⟨ab,cb,rfl⟩:=hb.slice
 obtain ⟨dx,ex,rfl⟩:=hq.x.slice
 obtain ⟨db,eb,rfl⟩:=hq.b.slice
 have X1:=hx.exs
 have X2:=hq.x.exs
 have B1:=hb.bds
 have B2:=hq.b.bds
 have lx:s.xs.length<=9223372036854775807:=by
  rcases hx with ⟨_,h⟩ | ⟨_,_,_,h1,h2,_⟩
  ·rw [h]; simp
  ·unfold maxLen at h2; omega
 have lb:s.bs.length<=9223372036854775807:=by
  rcases hb with ⟨_,h⟩ | ⟨_,_,_,h1,h2,_⟩
  ·rw [h]; simp
  ·unfold maxLen at h2; omega
 clear hq hx hb
 go_enter Tryz.func39,Tryz.ntmps39
 go_wp2
 go_loopw [29] (fun u29 wr => ∃ k:Nat,u29=.int .i64 k/\k<=s.xs.length/\Below w.heap.size w wr) (fun u29 _=>s.xs.length-(intOf u29).toNat)
 case atStart=>exact ⟨0,rfl,Nat.zero_le _,Below.refl _ _⟩
 case round =>
  obtain ⟨k,rfl,hk,hbr⟩:=hrel
  by_cases hlt2:k<s.xs.length
  ·have hlt:(k:Int)<(s.xs.length:Int):=by omega
   obtain ⟨b1,o1,rfl,i1⟩:=X1 k hlt2
   obtain ⟨b2,o2,rfl,i2⟩:=X2 k hlt2
   obtain ⟨e0,e1,e2⟩:=i1.below hbr (yyH _)
   obtain ⟨f0,f1,f2⟩:=i2.below hbr (yyH _)
   have c0':wr.cell? ⟨p,0,none⟩=_:=(hbr.cell (p:=⟨p,0,none⟩) (World.block_lt_of_cell? _ _ c0)).trans c0
   generalize s.xs[k]=x at *
   clear X1 X2 B1 B2 i1 i2 c0 c1
   have HB:Hid (∀ q,Below w.heap.size w (wr.drewN q)):=fun q=>⟨hbr.os,hbr.tape,hbr.output,hbr.size,hbr.block⟩
   go_wp2
   go_quiet (fail)
   go_wp2
   exact ⟨⟨k+1,by go_num,by omega,HB.out _⟩,by simp [intOf]; omega⟩
  ·obtain rfl:k=s.xs.length:=by omega
   clear X1 X2
   go_wp2
   go_loopw [47] (fun u47 wr => ∃ k:Nat,u47=.int .i64 k/\k<=s.bs.length/\Below w.heap.size w wr) (fun u47 _=>s.bs.length-(intOf u47).toNat)
   case atStart=>exact ⟨0,rfl,Nat.zero_le _,hbr⟩
   case round =>
    clear hbr hk hlt2
    obtain ⟨k,rfl,hk,hbr⟩:=hrel
    by_cases hlt2:k<s.bs.length
    ·have hlt:(k:Int)<(s.bs.length:Int):=by omega
     obtain ⟨b1,o1,rfl,i1⟩:=B1 k hlt2
     obtain ⟨b2,o2,rfl,i2⟩:=B2 k hlt2
     obtain ⟨e0,e1,e2⟩:=i1.below hbr (yyH _)
     obtain ⟨f0,f1,f2⟩:=i2.below hbr (yyH _)
     have c1':wr.cell? ⟨p,1,none⟩=_:=(hbr.cell (p:=⟨p,1,none⟩) (World.block_lt_of_cell? _ _ c1)).trans c1
     generalize s.bs[k]=x at *
     clear B1 B2 i1 i2 c0 c1
     have HB:Hid (∀ q,Below w.heap.size w (wr.drewN q)):=fun q=>⟨hbr.os,hbr.tape,hbr.output,hbr.size,hbr.block⟩
     go_wp2
     go_quiet (fail)
     go_wp2
     exact ⟨⟨k+1,by go_num,by omega,HB.out _⟩,by simp [intOf]; omega⟩
    ·obtain rfl:k=s.bs.length:=by omega
     clear B1 B2
     go_wp2
     go_ret
     exact ⟨rfl,hbr⟩
end Go.Proofs.YtnhnpnafchkhiaaGreatDoor.B
namespace Go.Proofs.YtnhnpnafchkhiaaGreatDoor.B
open Go.Proofs.YtnhnpnafchkhiaaGreatDoor.K
open Go.RowKit Go.Sort Go.Maps Go.Shelf
theorem cloneX_any (b:Nat) (l:List Ex) (w:World) (h:XAt w b l) :
  Calls Tryz.prog 71 #[.map (some b)] w fun e w'=>e=.returned (.map (some w.heap.size))/\XAt w' w.heap.size l/\Below w.heap.size w w':=by
 refine (AnyW.maps_Clone_owns Tryz.cloneX 9 rdEx b l.length (DofG xkl xd l) w h).mono ?_
 rintro e w' ⟨rfl,h1,_,h3⟩
 exact ⟨rfl,h1,h3⟩
theorem cloneB_any (b:Nat) (l:List Bd) (w:World) (h:BAt w b l) :
  Calls Tryz.prog 72 #[.map (some b)] w fun e w'=>e=.returned (.map (some w.heap.size))/\BAt w' w.heap.size l/\Below w.heap.size w w':=by
 refine (AnyW.maps_Clone_owns Tryz.cloneB 36 unitElem b l.length (DofG bkl bd l) w h).mono ?_
 rintro e w' ⟨rfl,h1,_,h3⟩
 exact ⟨rfl,h1,h3⟩
theorem copy_end {w V:World} {bx bb:Nat} {s:Tb} (hV:Below w.heap.size w V) (hx:XAt V bx s.xs) (hb:BAt V bb s.bs) (h1:w.heap.size<=bx) (h2:w.heap.size<=bb) (hne:bx≠bb) :
  ∃ F',T (V.alloc (.cells #[.map (some bx),.map (some bb)] 127)) V.heap.size F' s/\(∀ k,F' k->w.heap.size<=k)/\Below w.heap.size w (V.alloc (.cells #[.map (some bx),.map (some bb)] 127)):=by
 refine ⟨footT V.heap.size bx bb,⟨bx,bb,⟨heap_alloc_new V _,hx.same (Below.heap_alloc V _ _ hx.lt),hb.same (Below.heap_alloc V _ _ hb.lt),hne⟩,fun _=>Iff.rfl⟩,?_,hV.alloc hV.size _⟩
 rintro k (rfl | rfl | rfl)
 ·exact hV.size
 ·exact h1
 ·exact h2
theorem copy_any (p:Nat) (F:Nat->Prop) (s:Tb) (w:World) (h:T w p F s) :
  Calls Tryz.prog 32 #[.pointer (some ⟨p,0,none⟩)] w fun e w' => ∃ p',e=.returned (.pointer (some ⟨p',0,none⟩)) /\ ∃ F',T w' p' F' s/\(∀ k,F' k->w.heap.size<=k)/\Below w.heap.size w w':=by
 have hM:=made_any p F s w h
 obtain ⟨bx,bb,hq,_⟩:=h
 obtain ⟨c0,c1⟩:=cells2 hq.blk
 have hp:p<w.heap.size:=(yyD hq.blk).1
 have cX : ∀ V,Below w.heap.size w V->Calls Tryz.prog 71 #[.map (some bx)] V fun e w'=>e=.returned (.map (some V.heap.size))/\XAt w' V.heap.size s.xs/\Below V.heap.size V w':=fun V hV=>cloneX_any bx s.xs V (hq.x.same (hV.block bx hq.x.lt))
 have cB : ∀ V,Below w.heap.size w V->Calls Tryz.prog 72 #[.map (some bb)] V fun e w'=>e=.returned (.map (some V.heap.size))/\BAt w' V.heap.size s.bs/\Below V.heap.size V w':=fun V hV=>cloneB_any bb s.bs V (hq.b.same (hV.block bb hq.b.lt))
 have bD:Below w.heap.size w w.drew:=(Below.refl _ _).drew
 have HK:Hid (∀ V,Below w.heap.size w V->V.cell? ⟨p,0,none⟩=some (.map (some bx))/\V.cell? ⟨p,1,none⟩=some (.map (some bb))):=fun V hV=>⟨(hV.cell (p:=⟨p,0,none⟩) hp).trans c0,(hV.cell (p:=⟨p,1,none⟩) hp).trans c1⟩
 clear hq hp
 go_enter Tryz.func32,Tryz.ntmps32
 go_wp2_with fail
 refine hM.mono ?_
 rintro e w ⟨rfl,rfl⟩
 go_wp2
 go_region_held3 (fun w'=>w'.cell? ⟨p,0,none⟩=some (.map (some bx))/\w'.cell? ⟨p,1,none⟩=some (.map (some bb))) (go_keep) (first
  |(go_at_call 71; refine (cX w.drew bD).mono ?_; rintro e wx ⟨rfl,x1,bx1⟩; have bwx:Below w.heap.size w wx:=bD.trans bx1; obtain ⟨k0,k1⟩:=HK.out wx bwx)
  |(go_at_call 72; refine (cB w.drew bD).mono ?_; rintro e wb ⟨rfl,y1,by1⟩; have bwb:Below w.heap.size w wb:=bD.trans by1; obtain ⟨k0,k1⟩:=HK.out wb bwb)
  |(go_at_call 72; refine (cB wx bwx).mono ?_; rintro e wy ⟨rfl,y2,by2⟩; have bwy:Below w.heap.size w wy:=bwx.trans (by2.mono bwx.size); obtain ⟨k2,k3⟩:=HK.out wy bwy)
  |(go_at_call 71; refine (cX wb bwb).mono ?_; rintro e wy ⟨rfl,x2,bx2⟩; have bwy:Below w.heap.size w wy:=bwb.trans (bx2.mono bwb.size); obtain ⟨k2,k3⟩:=HK.out wy bwy))
 all_goals go_wp2
 all_goals go_ret
 all_goals first
  |exact ⟨_,rfl,copy_end bwy (x1.same (by2.block _ x1.lt)) y2 (yyH _) bwx.size (Nat.ne_of_lt x1.lt)⟩
  |exact ⟨_,rfl,copy_end bwy x2 (y1.same (bx2.block _ y1.lt)) bwb.size (yyH _) (Nat.ne_of_gt y1.lt)⟩
end Go.Proofs.YtnhnpnafchkhiaaGreatDoor.B
