import Derived.Test.YtnhnpnafchkhiaaGreatDoorQwA
import Derived.Test.YtnhnpnafchkhiaaGreatDoorQw25
import Derived.BigQuiet
import Derived.Deep.RegionHeld3
set_option maxHeartbeats 4000000
set_option maxRecDepth 20000
namespace Go.Proofs.YtnhnpnafchkhiaaGreatDoor.K
end Go.Proofs.YtnhnpnafchkhiaaGreatDoor.K
namespace Go.Proofs.YtnhnpnafchkhiaaGreatDoor.F
open Go.Proofs.YtnhnpnafchkhiaaGreatDoor.K
open Go.RowKit Go.Sort
theorem _root_.Go.Proofs.YtnhnpnafchkhiaaGreatDoor.Moved.row {w1 wr:World} {F F':Nat->Prop} {v:Value} {l:List It} {B:Nat} (m:Moved w1 wr F F') (own:Own8 w1 B v l) (hF : ∀ k,F k->k<B):Rows wr v l :=
 own.rng.same fun g hg=>m.block g (own.lt hg).2 (fun hf=>by have:=hF g hf; have:=(own.lt hg).1; omega)
theorem reset_any (p:Nat) (F:Nat->Prop) (s:St) (w:World) (h:Q w p F s) (ok:s.Ok) :
  Calls Tryz.prog 149 #[.pointer (some ⟨p,0,none⟩)] w fun e w'=>e=.returned (.int .i64 s.reset.1) /\ ∃ F',Q w' p F' s.reset.2/\Moved w w' F F':=by
 have hO:=out_any p F s w h ok
 have hlt:=h.lts
 have hout:s.out.length<=1000000:=by have:=ok.room; have:=ok.m; omega
 unfold St.reset
 go_enter Tryz.func149,Tryz.ntmps149
 go_wp2_with fail
 refine hO.mono ?_
 rintro e w1 ⟨v,rfl,own,b1⟩
 have q1:=h.kept b1
 have m1:Moved w w1 F F:=.of_below b1
 obtain ⟨va,vc,hv⟩:=own.rng.slice
 subst hv
 have HB:Hid (Moved w w1 F F/\Own8 w1 w.heap.size (.slice va s.out.length vc) s.out /\ ∀ k,F k->k<w.heap.size):=⟨m1,own,hlt⟩
 clear h hO m1 own hlt b1
 go_wp2
 go_loopw [5,10] (fun u5 u10 wr => ∃ k:Nat,u10=.int .i64 k/\k<=s.out.length /\ ∃ F',Q wr p F' (backs k s)/\Moved w1 wr F F') (fun u5 u10 wr=>s.out.length-(intOf u10).toNat)
 case atStart=>exact ⟨0,rfl,Nat.zero_le _,F,q1,Moved.refl _ _⟩
 case round =>
  obtain ⟨k,rfl,hk,F',qr,mr⟩:=hrel
  by_cases hlt2:k<s.out.length
  ·have hlt3:(k:Int)<(s.out.length:Int):=by omega
   have hrow:Rows wr (.slice va s.out.length vc) s.out:=mr.row HB.out.2.1 HB.out.2.2
   obtain ⟨_,_,hA⟩:=hrow.items
   obtain ⟨b,off,rfl,hi⟩:=hA k hlt2
   obtain ⟨e0,e1,e2,e3,e4,e5,e6,e7⟩:=hi
   have hst:Hid _:=backs_step ok k (List.getElem?_eq_getElem hlt2)
   have hup:s.out[k].tag<18446744073709551616:=by have:=ok.uo _ (List.getElem_mem hlt2); have:=ok.n; omega
   have okr:=ok.backs (n:=k)
   generalize s.out[k]=x at *
   have hBk:=back_any p F' (backs k s) x.tag _ (qr.kept (below_alloc wr (.cells #[.int .u64 (x.tag:Int),.int .i64 x.m.o,.int .u64 x.m.s,.int .i64 x.m.hop,.string x.m.ex,.string x.m.key,.string x.m.body,.bool x.again] 74))) okr hup
   clear hA hrow
   go_wp2_with fail
   refine hBk.mono ?_
   rintro e w2 ⟨rfl,F2,q2,m2⟩
   go_wp2
   go_roundw
   case rel=>exact ⟨k+1,by go_num,by omega,F2,by rw [hst.out]; exact q2,(mr.trans (.of_below (below_alloc _ _))).trans m2⟩
   case measure=>simp [intOf]; omega
  ·obtain rfl:k=s.out.length:=by omega
   go_wp2
   go_ret
   exact ⟨rfl,F',qr,HB.out.1.trans mr⟩
end Go.Proofs.YtnhnpnafchkhiaaGreatDoor.F
namespace Go.Proofs.YtnhnpnafchkhiaaGreatDoor.F
open Go.Proofs.YtnhnpnafchkhiaaGreatDoor.K
open Go.RowKit
theorem same_any (va vb:Value) (l:List It) (w:World) (ha:Rows w va l) (hb:Rows w vb l):Calls Tryz.prog 40 #[va,vb] w fun e w'=>e=.returned (.bool true)/\Below w.heap.size w w':=by
 obtain ⟨a,cap,rfl⟩:=ha.slice
 obtain ⟨a2,cap2,rfl⟩:=hb.slice
 obtain ⟨_,hl,hA⟩:=ha.items
 obtain ⟨_,_,hB⟩:=hb.items
 have l63:l.length<=9223372036854775807:=by
  rcases ha with ⟨_,rfl⟩ | ⟨_,_,hv,h1,h2,_⟩
  ·simp
  ·unfold maxLen at h2; omega
 clear ha hb
 go_enter Tryz.func40,Tryz.ntmps40
 go_wp2
 go_loopw [5,13] (fun u5 u13 wr => ∃ k:Nat,u13=.int .i64 k/\k<=l.length/\Below w.heap.size w wr) (fun u5 u13 wr=>l.length-(intOf u13).toNat)
 case atStart=>exact ⟨0,rfl,Nat.zero_le _,Below.refl _ _⟩
 case round =>
  obtain ⟨k,rfl,hk,hb⟩:=hrel
  by_cases hlt2:k<l.length
  ·have hlt:(k:Int)<(l.length:Int):=by omega
   obtain ⟨b,off,rfl,hi⟩:=hA k hlt2
   obtain ⟨b2,off2,rfl,hi2⟩:=hB k hlt2
   obtain ⟨e0,e1,e2,e3,e4,e5,e6,e7⟩:=hi.below hb (yyH _)
   obtain ⟨g0,g1,g2,g3,g4,g5,g6,g7⟩:=hi2.below hb (yyH _)
   clear hA hB hi hi2
   generalize l[k]=x at *
   go_wp2
   go_quiet (fail)
   go_wp2
   go_roundw
   case rel=>exact ⟨k+1,by go_num,by omega,hb.trans ⟨rfl,rfl,rfl,yyH _,fun _ _=>rfl⟩⟩
   case measure=>simp [intOf]; omega
  ·obtain rfl:k=l.length:=by omega
   go_wp2
   go_ret
   exact ⟨rfl,hb⟩
end Go.Proofs.YtnhnpnafchkhiaaGreatDoor.F
namespace Go.Proofs.YtnhnpnafchkhiaaGreatDoor.F
open Go.Proofs.YtnhnpnafchkhiaaGreatDoor.K
open Go.RowKit Go.Sort Go.Maps Go.Shelf
theorem clone_any (b:Nat) (l:List It) (w:World) (h:OutAt w b l) :
  Calls Tryz.prog 77 #[.map (some b)] w fun e w'=>e=.returned (.map (some w.heap.size))/\OutAt w' w.heap.size l/\Below w.heap.size w w':=by
 refine (AnyW.maps_Clone_owns Tryz.clone 32 rdIt b l.length (Dof l) w h).mono ?_
 rintro e w' ⟨rfl,h1,_,h3⟩
 exact ⟨rfl,h1,h3⟩
theorem copy_end {w V:World} {v:Value} {b:Nat} {s:St} (hV:Below w.heap.size w V) (hx:Own8 V w.heap.size v s.rdy) (hb:OutAt V b s.out) (h2:w.heap.size<=b) :
  ∃ F',Q (V.alloc (.cells #[.int .i64 (s.most:Int),.int .u64 (s.next:Int),v,.map (some b)] 162)) V.heap.size F' s/\(∀ k,F' k->w.heap.size<=k)/\Below w.heap.size w (V.alloc (.cells #[.int .i64 (s.most:Int),.int .u64 (s.next:Int),v,.map (some b)] 162)):=by
 refine ⟨foot V.heap.size v b,⟨v,b,⟨heap_alloc_new V _,(hx.alloc _).mono (Nat.zero_le _),hb.same (Below.heap_alloc V _ _ hb.lt)⟩,fun _=>Iff.rfl⟩,?_,hV.alloc hV.size _⟩
 rintro k (rfl | hk | rfl)
 ·exact hV.size
 ·exact (hx.lt hk).1
 ·exact h2
theorem copy_any (p:Nat) (F:Nat->Prop) (s:St) (w:World) (h:Q w p F s) (ok:s.Ok) :
  Calls Tryz.prog 34 #[.pointer (some ⟨p,0,none⟩)] w fun e w' => ∃ p',e=.returned (.pointer (some ⟨p',0,none⟩)) /\ ∃ F',Q w' p' F' s/\(∀ k,F' k->w.heap.size<=k)/\Below w.heap.size w w':=by
 have hM:=made_any p F s w h ok.m1
 obtain ⟨v,b,hq,_⟩:=h
 obtain ⟨⟨c0,c1,c2,c3⟩,_⟩:=cells4 hq.blk
 have hp:p<w.heap.size:=hq.lt
 have hrr:Rows w v s.rdy:=hq.rows.rng
 have hln:s.rdy.length<=1000000:=by have:=ok.room; have:=ok.m; omega
 have cA:Hid (∀ V,Below w.heap.size w V->Calls Tryz.prog 76 #[v] V fun e w' => ∃ v',e=.returned v'/\Own8 w' V.heap.size v' s.rdy/\Below V.heap.size V w'):=fun V hV=>another_any v s.rdy V (hrr.below hV (yyH _)) hln
 have cB:Hid (∀ V,Below w.heap.size w V->Calls Tryz.prog 77 #[.map (some b)] V fun e w'=>e=.returned (.map (some V.heap.size))/\OutAt w' V.heap.size s.out/\Below V.heap.size V w'):=fun V hV=>clone_any b s.out V (hq.out.same (hV.block b hq.out.lt))
 have bD:Below w.heap.size w w.drew:=(Below.refl _ _).drew
 have HK:Hid (∀ V,Below w.heap.size w V->V.cell? ⟨p,0,none⟩=some (.int .i64 (s.most:Int))/\V.cell? ⟨p,1,none⟩=some (.int .u64 (s.next:Int))/\V.cell? ⟨p,2,none⟩=some v/\V.cell? ⟨p,3,none⟩=some (.map (some b))):=fun V hV=>⟨(hV.cell (p:=⟨p,0,none⟩) hp).trans c0,(hV.cell (p:=⟨p,1,none⟩) hp).trans c1,(hV.cell (p:=⟨p,2,none⟩) hp).trans c2,(hV.cell (p:=⟨p,3,none⟩) hp).trans c3⟩
 obtain ⟨ar,cr,rfl⟩:=hrr.slice
 clear hq hp hrr hln ok
 go_enter Tryz.func34,Tryz.ntmps34
 go_wp2_with fail
 refine hM.mono ?_
 rintro e w ⟨rfl,rfl⟩
 go_wp2
 go_region_held3 (fun w'=>w'.cell? ⟨p,0,none⟩=some (.int .i64 (s.most:Int))/\w'.cell? ⟨p,1,none⟩=some (.int .u64 (s.next:Int))/\w'.cell? ⟨p,2,none⟩=some (.slice ar s.rdy.length cr)/\w'.cell? ⟨p,3,none⟩=some (.map (some b))) (go_keep) (first
  |(go_at_call 76; refine (cA.out w.drew bD).mono ?_; rintro e wx ⟨v1,rfl,x1,bx1⟩; have bwx:Below w.heap.size w wx:=bD.trans bx1; obtain ⟨k0,k1,k2,k3⟩:=HK.out wx bwx; have X1:Hid _:=x1; obtain ⟨a1,p1,hv1⟩:=x1.rng.slice; subst hv1; clear x1)
  |(go_at_call 77; refine (cB.out wx bwx).mono ?_; rintro e wy ⟨rfl,y2,by2⟩; have bwy:Below w.heap.size w wy:=bwx.trans (by2.mono bwx.size); obtain ⟨l0,l1,l2,l3⟩:=HK.out wy bwy; have Y2:Hid _:=y2; clear y2))
 all_goals go_wp2
 all_goals go_ret
 all_goals exact ⟨_,rfl,copy_end bwy (show Own8 wy w.heap.size (.slice a1 s.rdy.length p1) s.rdy from OwnOf.kept (w:=wx) X1.out by2 (yyH _)) Y2.out bwx.size⟩
end Go.Proofs.YtnhnpnafchkhiaaGreatDoor.F
