import Derived.Test.YtnhnpnafchkhiaaGreatDoorQwA
import Derived.Test.YtnhnpnafchkhiaaGreatDoorQw29
import Derived.Test.YtnhnpnafchkhiaaGreatDoorQw12
namespace Go.Proofs.YtnhnpnafchkhiaaGreatDoor
open Go.RowKit
def NewPost (w:World) (site N0 H:Int) (E:List (Int × Int)) (e:Ending) (w':World):Prop := ∃ p,e=.returned (.pointer (some ⟨p,0,none⟩)) /\ ∃ F,SS w' p F (newSm site N0 E H)/\(∀ k,F k->w.heap.size<=k)/\Below w.heap.size w w'
set_option maxRecDepth 20000 in
set_option maxHeartbeats 4000000 in
theorem new14_any (site N0 H:Int) (v:Value) (E:List (Int × Int)) (w:World) (hr:K.RowOf O.ecells w v E) (hE:E.length<=1000000) (hg:O.goodB N0 E H=true) (h1:1<=site) (h2:site<=N0) :
  Calls Tryz.prog 7 #[.int .i64 site,O.tv N0 v H] w (NewPost w site N0 H E):=by
 obtain ⟨a,cap,rfl⟩:=hr.slice
 obtain ⟨n,hn⟩ : ∃ z,E.length=z:=⟨_,rfl⟩
 rw [hn] at hr ⊢
 obtain ⟨W,fold⟩ : ∃ W,w.alloc (.cells #[.int .i64 N0,.slice a n cap,.int .i64 H] 24)=W:=⟨_,rfl⟩
 have bW:Below w.heap.size w W:=by rw [<- fold]; exact box_below w _
 have kW:W.heap[w.heap.size]? = some (.cells #[.int .i64 N0,.slice a n cap,.int .i64 H] 24 (0,0)):=by rw [<- fold]; exact heap_alloc_new w _
 have hG:=O.good_any N0 H (.slice a n cap) E W (hr.below bW (yyH _))
 rw [hg] at hG
 obtain ⟨x0,x1,x2⟩:=cells3 kW
 have s1 : ¬ site<1:=by omega
 have s2 : ¬ N0<site:=by omega
 have HW:Hid (Below w.heap.size w W/\W.heap[w.heap.size]? = some (.cells #[.int .i64 N0,.slice a n cap,.int .i64 H] 24 (0,0))/\K.RowOf O.ecells w (.slice a n cap) E/\E.length<=1000000):=⟨bW,kW,hr,hE⟩
 clear bW kW hr hE h1 h2 hg hn
 have hmm := @run_makeMap Tryz.prog
 go_enter Tryz.func7,Tryz.ntmps7
 go_wp2_with fail
 try rw [fold]
 refine hG.mono ?_
 rintro e W1 ⟨rfl,b1⟩
 clear hG
 have b01:=keptW HW.out.1 b1
 have k1:W1.heap[w.heap.size]? = some (.cells #[.int .i64 N0,.slice a n cap,.int .i64 H] 24 (0,0)):=(b1.block _ (yyD HW.out.2.1).1).trans HW.out.2.1
 have hA:=anotherE_any (.slice a n cap) E W1 (HW.out.2.2.1.below b01 (yyH _)) HW.out.2.2.2
 obtain ⟨y0,y1,y2⟩:=cells3 k1
 have H1:Hid (Below w.heap.size w W1/\W1.heap[w.heap.size]? = some (.cells #[.int .i64 N0,.slice a n cap,.int .i64 H] 24 (0,0))):=⟨b01,k1⟩
 clear b1 b01 k1 x0 x1 x2
 go_wp2_with fail
 refine hA.mono ?_
 rintro e W2 ⟨v2,rfl,o2,b2⟩
 clear hA y0 y1 y2
 have k2:W2.heap[w.heap.size]? = some (.cells #[.int .i64 N0,.slice a n cap,.int .i64 H] 24 (0,0)):=(b2.block _ (yyD H1.out.2).1).trans H1.out.2
 obtain ⟨y0,y1,y2⟩:=cells3 k2
 obtain ⟨a2,c2,rfl⟩:=o2.rng.slice
 obtain ⟨n2,hn2⟩ : ∃ z,E.length=z:=⟨_,rfl⟩
 rw [hn2] at o2 ⊢
 have fz:W2.frozen? ⟨w.heap.size,1,none⟩=false:=frozen_of_row W2 w.heap.size 1 _ _ k2
 obtain ⟨W3,fold3⟩ : ∃ X,W2.setCell ⟨w.heap.size,1,none⟩ (.slice a2 n2 c2)=X:=⟨_,rfl⟩
 have k3:W3.heap[w.heap.size]? = some (.cells #[.int .i64 N0,.slice a2 n2 c2,.int .i64 H] 24 (0,0)):=by rw [<- fold3]; exact heap_setCell_same _ _ _ _ _ _ k2
 have b03:Below w.heap.size w W3:=by rw [<- fold3]; exact (keptW H1.out.1 b2).setCell (p:=⟨w.heap.size,1,none⟩) (yyH _) _
 have o3:OwnE W3 W1.heap.size (.slice a2 n2 c2) E:=o2.same fun g hg=>by
  rw [<- fold3]
  have:=o2.lt hg
  have:=(yyD H1.out.2).1
  exact heap_setCell_other _ _ _ _ (by show g≠w.heap.size; omega)
 obtain ⟨z0,z1,z2⟩:=cells3 k3
 have HK:Hid (∀ V,Below W3.heap.size W3 V->V.cell? ⟨w.heap.size,0,none⟩=some (.int .i64 N0)/\V.cell? ⟨w.heap.size,1,none⟩=some (.slice a2 n2 c2)/\V.cell? ⟨w.heap.size,2,none⟩=some (.int .i64 H)):=fun V b=>⟨cell_on b z0,cell_on b z1,cell_on b z2⟩
 have H3:Hid (Below w.heap.size w W3/\OwnE W3 W1.heap.size (.slice a2 n2 c2) E/\w.heap.size<=W1.heap.size):=⟨b03,o3,H1.out.1.size⟩
 clear k2 k3 b2 o2 hn2 b03 o3 y0 y2 H1 HW
 go_wp2
 try rw [fold3]
 clear y1 fz fold3 fold
 refine wp_region_noPanic ?_
 refine wp_region_held_drew (S:=fun w'=>w'.cell? ⟨w.heap.size,0,none⟩=some (.int .i64 N0)/\w'.cell? ⟨w.heap.size,1,none⟩=some (.slice a2 n2 c2)/\w'.cell? ⟨w.heap.size,2,none⟩=some (.int .i64 H)) (by kernel_rfl) ⟨z0,z1,z2⟩ (fun hHeld=>?_)
 refine wpAnyH_take (i:=0) (v:=.int .i64 site) (by simp only [yyG,yyE]; rfl) (by kernel_rfl) (by kernel_rfl) (by kernel_rfl) (fun _ _ _ h=>h) (Or.inl ⟨by rfl,?_⟩) (by assumption) ?_
 ·(intro wq hSq; clear hSq; go_simp; try with_reducible rfl)
 try simp only [Act.put,yyA,yyB,yyC]
 refine wpAnyH_take (i:=1) (v:=O.tv N0 (.slice a2 n2 c2) H) (by simp only [yyG,yyF,yyE]; rfl) (by kernel_rfl) (by kernel_rfl) (by kernel_rfl) (fun _ _ _ h=>h) (Or.inl ⟨by rfl,?_⟩) (by assumption) ?_
 ·(intro wq hSq; obtain ⟨q0,q1,q2⟩:=hSq; go_simp; try with_reducible rfl)
 try simp only [Act.put,yyA,yyB,yyC]
 obtain ⟨V0,fV0⟩ : ∃ X,W3.drew=X:=⟨_,rfl⟩
 have B0:Below W3.heap.size W3 V0:=by rw [<- fV0]; exact drew_below W3
 rw [fV0] at hHeld ⊢
 clear fV0
 refine wpAnyH_ready (rs:=[2,3,5]) (by kernel_rfl) (by simp) ?_
 refine AllReadyH.cons rfl (fun K hK=>?_) ?_
 ·skip
  go_simp
  go_at_call 22
  refine (B.new_any V0).mono ?_
  rintro e V1 ⟨tp,rfl,Ft,ht,nt,B1⟩
  dsimp only
  refine hK.out _ _ (HK.out V1 (keptW B0 B1)) (fun hHeld=>?_)
  clear hK K
  try simp only [Act.put,yyA,yyB,yyC]
  refine wpAnyH_ready (rs:=[3,4,5]) (by kernel_rfl) (by simp) ?_
  refine AllReadyH.cons rfl (fun K hK=>?_) ?_
  ·skip
   go_simp
   obtain ⟨V2,fq⟩ : ∃ X,V1.alloc (.map #[] 0)=X:=⟨_,rfl⟩
   have B2:Below V1.heap.size V1 V2:=by rw [<- fq]; exact box_below V1 _
   have hq:DAt V2 V1.heap.size []:=by rw [<- fq]; exact dAt_new V1
   have zq:V1.heap.size<V2.heap.size:=hq.lt
   try rw [fq]
   refine hK.out _ _ (HK.out V2 (keptW (keptW B0 B1) B2)) (fun hHeld=>?_)
   clear hK K
   try simp only [Act.put,yyA,yyB,yyC]
   refine wpAnyH_ready (rs:=[4,5]) (by kernel_rfl) (by simp) ?_
   refine AllReadyH.cons rfl (fun K hK=>?_) ?_
   ·skip
    go_simp
    go_at_call 23
    refine (S.bnew_any V2).mono ?_
    rintro e V3 ⟨rfl,Fb,hb,nb,B3⟩
    dsimp only
    refine hK.out _ _ (HK.out V3 (keptW (keptW (keptW B0 B1) B2) B3)) (fun hHeld=>?_)
    clear hK K
    try simp only [Act.put,yyA,yyB,yyC]
    refine wpAnyH_ready (rs:=[5]) (by kernel_rfl) (by simp) ?_
    refine AllReadyH.cons rfl (fun K hK=>?_) AllReadyH.nil
    go_simp
    obtain ⟨V4,fl⟩ : ∃ X,V3.alloc (.map #[] 0)=X:=⟨_,rfl⟩
    have B4:Below V3.heap.size V3 V4:=by rw [<- fl]; exact box_below V3 _
    have hl:LAt V4 V3.heap.size []:=by rw [<- fl]; exact lAt_new V3
    have zl:V3.heap.size<V4.heap.size:=hl.lt
    try rw [fl]
    refine hK.out _ _ (HK.out V4 (keptW (keptW (keptW (keptW B0 B1) B2) B3) B4)) (fun hHeld=>?_)
    clear hK K
    try simp only [Act.put,yyA,yyB,yyC]
    refine wpAnyH_ready (rs:=[6]) (by kernel_rfl) (by simp) ?_
    refine AllReadyH.cons rfl (fun K hK=>?_) AllReadyH.nil
    go_simp
    refine hK.out _ _ (HK.out V4 (keptW (keptW (keptW (keptW B0 B1) B2) B3) B4)) (fun hHeld=>?_)
    clear hK K
    try simp only [Act.put,yyA,yyB,yyC]
    have HE:Hid _:=new_end (site:=site) (N0:=N0) (H:=H) (keptW H3.out.1 (keptW (keptW (keptW (keptW B0 B1) B2) B3) B4)) H3.out.2.1 (keptW (keptW (keptW (keptW B0 B1) B2) B3) B4) H3.out.2.2 ht (keptW (keptW B2 B3) B4) nt (yyH _) hb B4 nb (yyH _) hq (keptW B3 B4) hl (Below.refl _ _) (by have:=H3.out.1.size; have:=B0.size; have:=B1.size; have:=B2.size; have:=B3.size; omega) (by have:=H3.out.1.size; have:=B0.size; have:=B1.size; have:=B2.size; have:=B3.size; omega) (by have:=H3.out.1.size; have:=B0.size; have:=B1.size; have:=B2.size; have:=B3.size; omega) (by have:=H3.out.1.size; have:=B0.size; have:=B1.size; have:=B2.size; have:=B3.size; omega) (by have:=H3.out.1.size; have:=B0.size; have:=B1.size; have:=B2.size; have:=B3.size; omega) (by have:=H3.out.1.size; have:=B0.size; have:=B1.size; have:=B2.size; have:=B3.size; omega) (by have:=H3.out.1.size; have:=B0.size; have:=B1.size; have:=B2.size; have:=B3.size; omega) (by have:=H3.out.1.size; have:=B0.size; have:=B1.size; have:=B2.size; have:=B3.size; omega) (by have:=B1.size; have:=B2.size; have:=B3.size; have:=B4.size; omega) (by have:=B1.size; have:=B2.size; have:=B3.size; have:=B4.size; omega) (by have:=B1.size; have:=B2.size; have:=B3.size; have:=B4.size; omega) (by have:=B1.size; have:=B2.size; have:=B3.size; have:=B4.size; omega) (by have:=B1.size; have:=B2.size; have:=B3.size; have:=B4.size; omega) (by have:=B1.size; have:=B2.size; have:=B3.size; have:=B4.size; omega)
    refine wpAnyH_ready (rs:=[7]) (by kernel_rfl) (by simp) ?_
    refine AllReadyH.cons rfl (fun K hK=>?_) AllReadyH.nil
    go_simp
    refine hK.out _ _ (HK.out _ (keptW (keptW (keptW (keptW (keptW B0 B1) B2) B3) B4) (box_below V4 _))) (fun hHeld=>?_)
    clear hK K
    try simp only [Act.put,yyA,yyB,yyC]
    refine wpAnyH_take (i:=8) (v:=.pointer (some ⟨V4.heap.size,0,none⟩)) (by simp only [yyG,yyF,yyE]; rfl) (by kernel_rfl) (by kernel_rfl) (by kernel_rfl) (fun _ _ _ h=>h) (Or.inl ⟨by rfl,?_⟩) (by assumption) ?_
    ·(intro wq hSq; clear hSq; go_simp; try with_reducible rfl)
    try simp only [Act.put,yyA,yyB,yyC]
    refine wpAnyH_done (by kernel_rfl) ?_ _
    refine NoPanic.normal ?_
    clear hHeld
    go_wp2
    go_ret
    exact ⟨_,rfl,HE.out⟩
   refine AllReadyH.cons rfl (fun K hK=>?_) AllReadyH.nil
   go_simp
   obtain ⟨V3,fl⟩ : ∃ X,V2.alloc (.map #[] 0)=X:=⟨_,rfl⟩
   have B3:Below V2.heap.size V2 V3:=by rw [<- fl]; exact box_below V2 _
   have hl:LAt V3 V2.heap.size []:=by rw [<- fl]; exact lAt_new V2
   have zl:V2.heap.size<V3.heap.size:=hl.lt
   try rw [fl]
   refine hK.out _ _ (HK.out V3 (keptW (keptW (keptW B0 B1) B2) B3)) (fun hHeld=>?_)
   clear hK K
   try simp only [Act.put,yyA,yyB,yyC]
   refine wpAnyH_ready (rs:=[4]) (by kernel_rfl) (by simp) ?_
   refine AllReadyH.cons rfl (fun K hK=>?_) AllReadyH.nil
   go_simp
   go_at_call 23
   refine (S.bnew_any V3).mono ?_
   rintro e V4 ⟨rfl,Fb,hb,nb,B4⟩
   dsimp only
   refine hK.out _ _ (HK.out V4 (keptW (keptW (keptW (keptW B0 B1) B2) B3) B4)) (fun hHeld=>?_)
   clear hK K
   try simp only [Act.put,yyA,yyB,yyC]
   refine wpAnyH_ready (rs:=[6]) (by kernel_rfl) (by simp) ?_
   refine AllReadyH.cons rfl (fun K hK=>?_) AllReadyH.nil
   go_simp
   refine hK.out _ _ (HK.out V4 (keptW (keptW (keptW (keptW B0 B1) B2) B3) B4)) (fun hHeld=>?_)
   clear hK K
   try simp only [Act.put,yyA,yyB,yyC]
   have HE:Hid _:=new_end (site:=site) (N0:=N0) (H:=H) (keptW H3.out.1 (keptW (keptW (keptW (keptW B0 B1) B2) B3) B4)) H3.out.2.1 (keptW (keptW (keptW (keptW B0 B1) B2) B3) B4) H3.out.2.2 ht (keptW (keptW B2 B3) B4) nt (yyH _) hb (Below.refl _ _) nb (yyH _) hq (keptW B3 B4) hl B4 (by have:=H3.out.1.size; have:=B0.size; have:=B1.size; have:=B2.size; have:=B3.size; omega) (by have:=H3.out.1.size; have:=B0.size; have:=B1.size; have:=B2.size; have:=B3.size; omega) (by have:=H3.out.1.size; have:=B0.size; have:=B1.size; have:=B2.size; have:=B3.size; omega) (by have:=H3.out.1.size; have:=B0.size; have:=B1.size; have:=B2.size; have:=B3.size; omega) (by have:=H3.out.1.size; have:=B0.size; have:=B1.size; have:=B2.size; have:=B3.size; omega) (by have:=H3.out.1.size; have:=B0.size; have:=B1.size; have:=B2.size; have:=B3.size; omega) (by have:=H3.out.1.size; have:=B0.size; have:=B1.size; have:=B2.size; have:=B3.size; omega) (by have:=H3.out.1.size; have:=B0.size; have:=B1.size; have:=B2.size; have:=B3.size; omega) (by have:=B1.size; have:=B2.size; have:=B3.size; have:=B4.size; omega) (by have:=B1.size; have:=B2.size; have:=B3.size; have:=B4.size; omega) (by have:=B1.size; have:=B2.size; have:=B3.size; have:=B4.size; omega) (by have:=B1.size; have:=B2.size; have:=B3.size; have:=B4.size; omega) (by have:=B1.size; have:=B2.size; have:=B3.size; have:=B4.size; omega) (by have:=B1.size; have:=B2.size; have:=B3.size; have:=B4.size; omega)
   refine wpAnyH_ready (rs:=[7]) (by kernel_rfl) (by simp) ?_
   refine AllReadyH.cons rfl (fun K hK=>?_) AllReadyH.nil
   go_simp
   refine hK.out _ _ (HK.out _ (keptW (keptW (keptW (keptW (keptW B0 B1) B2) B3) B4) (box_below V4 _))) (fun hHeld=>?_)
   clear hK K
   try simp only [Act.put,yyA,yyB,yyC]
   refine wpAnyH_take (i:=8) (v:=.pointer (some ⟨V4.heap.size,0,none⟩)) (by simp only [yyG,yyF,yyE]; rfl) (by kernel_rfl) (by kernel_rfl) (by kernel_rfl) (fun _ _ _ h=>h) (Or.inl ⟨by rfl,?_⟩) (by assumption) ?_
   ·(intro wq hSq; clear hSq; go_simp; try with_reducible rfl)
   try simp only [Act.put,yyA,yyB,yyC]
   refine wpAnyH_done (by kernel_rfl) ?_ _
   refine NoPanic.normal ?_
   clear hHeld
   go_wp2
   go_ret
   exact ⟨_,rfl,HE.out⟩
  refine AllReadyH.cons rfl (fun K hK=>?_) ?_
  ·skip
   go_simp
   go_at_call 23
   refine (S.bnew_any V1).mono ?_
   rintro e V2 ⟨rfl,Fb,hb,nb,B2⟩
   dsimp only
   refine hK.out _ _ (HK.out V2 (keptW (keptW B0 B1) B2)) (fun hHeld=>?_)
   clear hK K
   try simp only [Act.put,yyA,yyB,yyC]
   refine wpAnyH_ready (rs:=[3,5]) (by kernel_rfl) (by simp) ?_
   refine AllReadyH.cons rfl (fun K hK=>?_) ?_
   ·skip
    go_simp
    obtain ⟨V3,fq⟩ : ∃ X,V2.alloc (.map #[] 0)=X:=⟨_,rfl⟩
    have B3:Below V2.heap.size V2 V3:=by rw [<- fq]; exact box_below V2 _
    have hq:DAt V3 V2.heap.size []:=by rw [<- fq]; exact dAt_new V2
    have zq:V2.heap.size<V3.heap.size:=hq.lt
    try rw [fq]
    refine hK.out _ _ (HK.out V3 (keptW (keptW (keptW B0 B1) B2) B3)) (fun hHeld=>?_)
    clear hK K
    try simp only [Act.put,yyA,yyB,yyC]
    refine wpAnyH_ready (rs:=[5]) (by kernel_rfl) (by simp) ?_
    refine AllReadyH.cons rfl (fun K hK=>?_) AllReadyH.nil
    go_simp
    obtain ⟨V4,fl⟩ : ∃ X,V3.alloc (.map #[] 0)=X:=⟨_,rfl⟩
    have B4:Below V3.heap.size V3 V4:=by rw [<- fl]; exact box_below V3 _
    have hl:LAt V4 V3.heap.size []:=by rw [<- fl]; exact lAt_new V3
    have zl:V3.heap.size<V4.heap.size:=hl.lt
    try rw [fl]
    refine hK.out _ _ (HK.out V4 (keptW (keptW (keptW (keptW B0 B1) B2) B3) B4)) (fun hHeld=>?_)
    clear hK K
    try simp only [Act.put,yyA,yyB,yyC]
    refine wpAnyH_ready (rs:=[6]) (by kernel_rfl) (by simp) ?_
    refine AllReadyH.cons rfl (fun K hK=>?_) AllReadyH.nil
    go_simp
    refine hK.out _ _ (HK.out V4 (keptW (keptW (keptW (keptW B0 B1) B2) B3) B4)) (fun hHeld=>?_)
    clear hK K
    try simp only [Act.put,yyA,yyB,yyC]
    have HE:Hid _:=new_end (site:=site) (N0:=N0) (H:=H) (keptW H3.out.1 (keptW (keptW (keptW (keptW B0 B1) B2) B3) B4)) H3.out.2.1 (keptW (keptW (keptW (keptW B0 B1) B2) B3) B4) H3.out.2.2 ht (keptW (keptW B2 B3) B4) nt (yyH _) hb (keptW B3 B4) nb (yyH _) hq B4 hl (Below.refl _ _) (by have:=H3.out.1.size; have:=B0.size; have:=B1.size; have:=B2.size; have:=B3.size; omega) (by have:=H3.out.1.size; have:=B0.size; have:=B1.size; have:=B2.size; have:=B3.size; omega) (by have:=H3.out.1.size; have:=B0.size; have:=B1.size; have:=B2.size; have:=B3.size; omega) (by have:=H3.out.1.size; have:=B0.size; have:=B1.size; have:=B2.size; have:=B3.size; omega) (by have:=H3.out.1.size; have:=B0.size; have:=B1.size; have:=B2.size; have:=B3.size; omega) (by have:=H3.out.1.size; have:=B0.size; have:=B1.size; have:=B2.size; have:=B3.size; omega) (by have:=H3.out.1.size; have:=B0.size; have:=B1.size; have:=B2.size; have:=B3.size; omega) (by have:=H3.out.1.size; have:=B0.size; have:=B1.size; have:=B2.size; have:=B3.size; omega) (by have:=B1.size; have:=B2.size; have:=B3.size; have:=B4.size; omega) (by have:=B1.size; have:=B2.size; have:=B3.size; have:=B4.size; omega) (by have:=B1.size; have:=B2.size; have:=B3.size; have:=B4.size; omega) (by have:=B1.size; have:=B2.size; have:=B3.size; have:=B4.size; omega) (by have:=B1.size; have:=B2.size; have:=B3.size; have:=B4.size; omega) (by have:=B1.size; have:=B2.size; have:=B3.size; have:=B4.size; omega)
    refine wpAnyH_ready (rs:=[7]) (by kernel_rfl) (by simp) ?_
    refine AllReadyH.cons rfl (fun K hK=>?_) AllReadyH.nil
    go_simp
    refine hK.out _ _ (HK.out _ (keptW (keptW (keptW (keptW (keptW B0 B1) B2) B3) B4) (box_below V4 _))) (fun hHeld=>?_)
    clear hK K
    try simp only [Act.put,yyA,yyB,yyC]
    refine wpAnyH_take (i:=8) (v:=.pointer (some ⟨V4.heap.size,0,none⟩)) (by simp only [yyG,yyF,yyE]; rfl) (by kernel_rfl) (by kernel_rfl) (by kernel_rfl) (fun _ _ _ h=>h) (Or.inl ⟨by rfl,?_⟩) (by assumption) ?_
    ·(intro wq hSq; clear hSq; go_simp; try with_reducible rfl)
    try simp only [Act.put,yyA,yyB,yyC]
    refine wpAnyH_done (by kernel_rfl) ?_ _
    refine NoPanic.normal ?_
    clear hHeld
    go_wp2
    go_ret
    exact ⟨_,rfl,HE.out⟩
   refine AllReadyH.cons rfl (fun K hK=>?_) AllReadyH.nil
   go_simp
   obtain ⟨V3,fl⟩ : ∃ X,V2.alloc (.map #[] 0)=X:=⟨_,rfl⟩
   have B3:Below V2.heap.size V2 V3:=by rw [<- fl]; exact box_below V2 _
   have hl:LAt V3 V2.heap.size []:=by rw [<- fl]; exact lAt_new V2
   have zl:V2.heap.size<V3.heap.size:=hl.lt
   try rw [fl]
   refine hK.out _ _ (HK.out V3 (keptW (keptW (keptW B0 B1) B2) B3)) (fun hHeld=>?_)
   clear hK K
   try simp only [Act.put,yyA,yyB,yyC]
   refine wpAnyH_ready (rs:=[3]) (by kernel_rfl) (by simp) ?_
   refine AllReadyH.cons rfl (fun K hK=>?_) AllReadyH.nil
   go_simp
   obtain ⟨V4,fq⟩ : ∃ X,V3.alloc (.map #[] 0)=X:=⟨_,rfl⟩
   have B4:Below V3.heap.size V3 V4:=by rw [<- fq]; exact box_below V3 _
   have hq:DAt V4 V3.heap.size []:=by rw [<- fq]; exact dAt_new V3
   have zq:V3.heap.size<V4.heap.size:=hq.lt
   try rw [fq]
   refine hK.out _ _ (HK.out V4 (keptW (keptW (keptW (keptW B0 B1) B2) B3) B4)) (fun hHeld=>?_)
   clear hK K
   try simp only [Act.put,yyA,yyB,yyC]
   refine wpAnyH_ready (rs:=[6]) (by kernel_rfl) (by simp) ?_
   refine AllReadyH.cons rfl (fun K hK=>?_) AllReadyH.nil
   go_simp
   refine hK.out _ _ (HK.out V4 (keptW (keptW (keptW (keptW B0 B1) B2) B3) B4)) (fun hHeld=>?_)
   clear hK K
   try simp only [Act.put,yyA,yyB,yyC]
   have HE:Hid _:=new_end (site:=site) (N0:=N0) (H:=H) (keptW H3.out.1 (keptW (keptW (keptW (keptW B0 B1) B2) B3) B4)) H3.out.2.1 (keptW (keptW (keptW (keptW B0 B1) B2) B3) B4) H3.out.2.2 ht (keptW (keptW B2 B3) B4) nt (yyH _) hb (keptW B3 B4) nb (yyH _) hq (Below.refl _ _) hl B4 (by have:=H3.out.1.size; have:=B0.size; have:=B1.size; have:=B2.size; have:=B3.size; omega) (by have:=H3.out.1.size; have:=B0.size; have:=B1.size; have:=B2.size; have:=B3.size; omega) (by have:=H3.out.1.size; have:=B0.size; have:=B1.size; have:=B2.size; have:=B3.size; omega) (by have:=H3.out.1.size; have:=B0.size; have:=B1.size; have:=B2.size; have:=B3.size; omega) (by have:=H3.out.1.size; have:=B0.size; have:=B1.size; have:=B2.size; have:=B3.size; omega) (by have:=H3.out.1.size; have:=B0.size; have:=B1.size; have:=B2.size; have:=B3.size; omega) (by have:=H3.out.1.size; have:=B0.size; have:=B1.size; have:=B2.size; have:=B3.size; omega) (by have:=H3.out.1.size; have:=B0.size; have:=B1.size; have:=B2.size; have:=B3.size; omega) (by have:=B1.size; have:=B2.size; have:=B3.size; have:=B4.size; omega) (by have:=B1.size; have:=B2.size; have:=B3.size; have:=B4.size; omega) (by have:=B1.size; have:=B2.size; have:=B3.size; have:=B4.size; omega) (by have:=B1.size; have:=B2.size; have:=B3.size; have:=B4.size; omega) (by have:=B1.size; have:=B2.size; have:=B3.size; have:=B4.size; omega) (by have:=B1.size; have:=B2.size; have:=B3.size; have:=B4.size; omega)
   refine wpAnyH_ready (rs:=[7]) (by kernel_rfl) (by simp) ?_
   refine AllReadyH.cons rfl (fun K hK=>?_) AllReadyH.nil
   go_simp
   refine hK.out _ _ (HK.out _ (keptW (keptW (keptW (keptW (keptW B0 B1) B2) B3) B4) (box_below V4 _))) (fun hHeld=>?_)
   clear hK K
   try simp only [Act.put,yyA,yyB,yyC]
   refine wpAnyH_take (i:=8) (v:=.pointer (some ⟨V4.heap.size,0,none⟩)) (by simp only [yyG,yyF,yyE]; rfl) (by kernel_rfl) (by kernel_rfl) (by kernel_rfl) (fun _ _ _ h=>h) (Or.inl ⟨by rfl,?_⟩) (by assumption) ?_
   ·(intro wq hSq; clear hSq; go_simp; try with_reducible rfl)
   try simp only [Act.put,yyA,yyB,yyC]
   refine wpAnyH_done (by kernel_rfl) ?_ _
   refine NoPanic.normal ?_
   clear hHeld
   go_wp2
   go_ret
   exact ⟨_,rfl,HE.out⟩
  refine AllReadyH.cons rfl (fun K hK=>?_) AllReadyH.nil
  go_simp
  obtain ⟨V2,fl⟩ : ∃ X,V1.alloc (.map #[] 0)=X:=⟨_,rfl⟩
  have B2:Below V1.heap.size V1 V2:=by rw [<- fl]; exact box_below V1 _
  have hl:LAt V2 V1.heap.size []:=by rw [<- fl]; exact lAt_new V1
  have zl:V1.heap.size<V2.heap.size:=hl.lt
  try rw [fl]
  refine hK.out _ _ (HK.out V2 (keptW (keptW B0 B1) B2)) (fun hHeld=>?_)
  clear hK K
  try simp only [Act.put,yyA,yyB,yyC]
  refine wpAnyH_ready (rs:=[3,4]) (by kernel_rfl) (by simp) ?_
  refine AllReadyH.cons rfl (fun K hK=>?_) ?_
  ·skip
   go_simp
   obtain ⟨V3,fq⟩ : ∃ X,V2.alloc (.map #[] 0)=X:=⟨_,rfl⟩
   have B3:Below V2.heap.size V2 V3:=by rw [<- fq]; exact box_below V2 _
   have hq:DAt V3 V2.heap.size []:=by rw [<- fq]; exact dAt_new V2
   have zq:V2.heap.size<V3.heap.size:=hq.lt
   try rw [fq]
   refine hK.out _ _ (HK.out V3 (keptW (keptW (keptW B0 B1) B2) B3)) (fun hHeld=>?_)
   clear hK K
   try simp only [Act.put,yyA,yyB,yyC]
   refine wpAnyH_ready (rs:=[4]) (by kernel_rfl) (by simp) ?_
   refine AllReadyH.cons rfl (fun K hK=>?_) AllReadyH.nil
   go_simp
   go_at_call 23
   refine (S.bnew_any V3).mono ?_
   rintro e V4 ⟨rfl,Fb,hb,nb,B4⟩
   dsimp only
   refine hK.out _ _ (HK.out V4 (keptW (keptW (keptW (keptW B0 B1) B2) B3) B4)) (fun hHeld=>?_)
   clear hK K
   try simp only [Act.put,yyA,yyB,yyC]
   refine wpAnyH_ready (rs:=[6]) (by kernel_rfl) (by simp) ?_
   refine AllReadyH.cons rfl (fun K hK=>?_) AllReadyH.nil
   go_simp
   refine hK.out _ _ (HK.out V4 (keptW (keptW (keptW (keptW B0 B1) B2) B3) B4)) (fun hHeld=>?_)
   clear hK K
   try simp only [Act.put,yyA,yyB,yyC]
   have HE:Hid _:=new_end (site:=site) (N0:=N0) (H:=H) (keptW H3.out.1 (keptW (keptW (keptW (keptW B0 B1) B2) B3) B4)) H3.out.2.1 (keptW (keptW (keptW (keptW B0 B1) B2) B3) B4) H3.out.2.2 ht (keptW (keptW B2 B3) B4) nt (yyH _) hb (Below.refl _ _) nb (yyH _) hq B4 hl (keptW B3 B4) (by have:=H3.out.1.size; have:=B0.size; have:=B1.size; have:=B2.size; have:=B3.size; omega) (by have:=H3.out.1.size; have:=B0.size; have:=B1.size; have:=B2.size; have:=B3.size; omega) (by have:=H3.out.1.size; have:=B0.size; have:=B1.size; have:=B2.size; have:=B3.size; omega) (by have:=H3.out.1.size; have:=B0.size; have:=B1.size; have:=B2.size; have:=B3.size; omega) (by have:=H3.out.1.size; have:=B0.size; have:=B1.size; have:=B2.size; have:=B3.size; omega) (by have:=H3.out.1.size; have:=B0.size; have:=B1.size; have:=B2.size; have:=B3.size; omega) (by have:=H3.out.1.size; have:=B0.size; have:=B1.size; have:=B2.size; have:=B3.size; omega) (by have:=H3.out.1.size; have:=B0.size; have:=B1.size; have:=B2.size; have:=B3.size; omega) (by have:=B1.size; have:=B2.size; have:=B3.size; have:=B4.size; omega) (by have:=B1.size; have:=B2.size; have:=B3.size; have:=B4.size; omega) (by have:=B1.size; have:=B2.size; have:=B3.size; have:=B4.size; omega) (by have:=B1.size; have:=B2.size; have:=B3.size; have:=B4.size; omega) (by have:=B1.size; have:=B2.size; have:=B3.size; have:=B4.size; omega) (by have:=B1.size; have:=B2.size; have:=B3.size; have:=B4.size; omega)
   refine wpAnyH_ready (rs:=[7]) (by kernel_rfl) (by simp) ?_
   refine AllReadyH.cons rfl (fun K hK=>?_) AllReadyH.nil
   go_simp
   refine hK.out _ _ (HK.out _ (keptW (keptW (keptW (keptW (keptW B0 B1) B2) B3) B4) (box_below V4 _))) (fun hHeld=>?_)
   clear hK K
   try simp only [Act.put,yyA,yyB,yyC]
   refine wpAnyH_take (i:=8) (v:=.pointer (some ⟨V4.heap.size,0,none⟩)) (by simp only [yyG,yyF,yyE]; rfl) (by kernel_rfl) (by kernel_rfl) (by kernel_rfl) (fun _ _ _ h=>h) (Or.inl ⟨by rfl,?_⟩) (by assumption) ?_
   ·(intro wq hSq; clear hSq; go_simp; try with_reducible rfl)
   try simp only [Act.put,yyA,yyB,yyC]
   refine wpAnyH_done (by kernel_rfl) ?_ _
   refine NoPanic.normal ?_
   clear hHeld
   go_wp2
   go_ret
   exact ⟨_,rfl,HE.out⟩
  refine AllReadyH.cons rfl (fun K hK=>?_) AllReadyH.nil
  go_simp
  go_at_call 23
  refine (S.bnew_any V2).mono ?_
  rintro e V3 ⟨rfl,Fb,hb,nb,B3⟩
  dsimp only
  refine hK.out _ _ (HK.out V3 (keptW (keptW (keptW B0 B1) B2) B3)) (fun hHeld=>?_)
  clear hK K
  try simp only [Act.put,yyA,yyB,yyC]
  refine wpAnyH_ready (rs:=[3]) (by kernel_rfl) (by simp) ?_
  refine AllReadyH.cons rfl (fun K hK=>?_) AllReadyH.nil
  go_simp
  obtain ⟨V4,fq⟩ : ∃ X,V3.alloc (.map #[] 0)=X:=⟨_,rfl⟩
  have B4:Below V3.heap.size V3 V4:=by rw [<- fq]; exact box_below V3 _
  have hq:DAt V4 V3.heap.size []:=by rw [<- fq]; exact dAt_new V3
  have zq:V3.heap.size<V4.heap.size:=hq.lt
  try rw [fq]
  refine hK.out _ _ (HK.out V4 (keptW (keptW (keptW (keptW B0 B1) B2) B3) B4)) (fun hHeld=>?_)
  clear hK K
  try simp only [Act.put,yyA,yyB,yyC]
  refine wpAnyH_ready (rs:=[6]) (by kernel_rfl) (by simp) ?_
  refine AllReadyH.cons rfl (fun K hK=>?_) AllReadyH.nil
  go_simp
  refine hK.out _ _ (HK.out V4 (keptW (keptW (keptW (keptW B0 B1) B2) B3) B4)) (fun hHeld=>?_)
  clear hK K
  try simp only [Act.put,yyA,yyB,yyC]
  have HE:Hid _:=new_end (site:=site) (N0:=N0) (H:=H) (keptW H3.out.1 (keptW (keptW (keptW (keptW B0 B1) B2) B3) B4)) H3.out.2.1 (keptW (keptW (keptW (keptW B0 B1) B2) B3) B4) H3.out.2.2 ht (keptW (keptW B2 B3) B4) nt (yyH _) hb B4 nb (yyH _) hq (Below.refl _ _) hl (keptW B3 B4) (by have:=H3.out.1.size; have:=B0.size; have:=B1.size; have:=B2.size; have:=B3.size; omega) (by have:=H3.out.1.size; have:=B0.size; have:=B1.size; have:=B2.size; have:=B3.size; omega) (by have:=H3.out.1.size; have:=B0.size; have:=B1.size; have:=B2.size; have:=B3.size; omega) (by have:=H3.out.1.size; have:=B0.size; have:=B1.size; have:=B2.size; have:=B3.size; omega) (by have:=H3.out.1.size; have:=B0.size; have:=B1.size; have:=B2.size; have:=B3.size; omega) (by have:=H3.out.1.size; have:=B0.size; have:=B1.size; have:=B2.size; have:=B3.size; omega) (by have:=H3.out.1.size; have:=B0.size; have:=B1.size; have:=B2.size; have:=B3.size; omega) (by have:=H3.out.1.size; have:=B0.size; have:=B1.size; have:=B2.size; have:=B3.size; omega) (by have:=B1.size; have:=B2.size; have:=B3.size; have:=B4.size; omega) (by have:=B1.size; have:=B2.size; have:=B3.size; have:=B4.size; omega) (by have:=B1.size; have:=B2.size; have:=B3.size; have:=B4.size; omega) (by have:=B1.size; have:=B2.size; have:=B3.size; have:=B4.size; omega) (by have:=B1.size; have:=B2.size; have:=B3.size; have:=B4.size; omega) (by have:=B1.size; have:=B2.size; have:=B3.size; have:=B4.size; omega)
  refine wpAnyH_ready (rs:=[7]) (by kernel_rfl) (by simp) ?_
  refine AllReadyH.cons rfl (fun K hK=>?_) AllReadyH.nil
  go_simp
  refine hK.out _ _ (HK.out _ (keptW (keptW (keptW (keptW (keptW B0 B1) B2) B3) B4) (box_below V4 _))) (fun hHeld=>?_)
  clear hK K
  try simp only [Act.put,yyA,yyB,yyC]
  refine wpAnyH_take (i:=8) (v:=.pointer (some ⟨V4.heap.size,0,none⟩)) (by simp only [yyG,yyF,yyE]; rfl) (by kernel_rfl) (by kernel_rfl) (by kernel_rfl) (fun _ _ _ h=>h) (Or.inl ⟨by rfl,?_⟩) (by assumption) ?_
  ·(intro wq hSq; clear hSq; go_simp; try with_reducible rfl)
  try simp only [Act.put,yyA,yyB,yyC]
  refine wpAnyH_done (by kernel_rfl) ?_ _
  refine NoPanic.normal ?_
  clear hHeld
  go_wp2
  go_ret
  exact ⟨_,rfl,HE.out⟩
 refine AllReadyH.cons rfl (fun K hK=>?_) ?_
 ·skip
  go_simp
  obtain ⟨V1,fq⟩ : ∃ X,V0.alloc (.map #[] 0)=X:=⟨_,rfl⟩
  have B1:Below V0.heap.size V0 V1:=by rw [<- fq]; exact box_below V0 _
  have hq:DAt V1 V0.heap.size []:=by rw [<- fq]; exact dAt_new V0
  have zq:V0.heap.size<V1.heap.size:=hq.lt
  try rw [fq]
  refine hK.out _ _ (HK.out V1 (keptW B0 B1)) (fun hHeld=>?_)
  clear hK K
  try simp only [Act.put,yyA,yyB,yyC]
  refine wpAnyH_ready (rs:=[2,5]) (by kernel_rfl) (by simp) ?_
  refine AllReadyH.cons rfl (fun K hK=>?_) ?_
  ·skip
   go_simp
   go_at_call 22
   refine (B.new_any V1).mono ?_
   rintro e V2 ⟨tp,rfl,Ft,ht,nt,B2⟩
   dsimp only
   refine hK.out _ _ (HK.out V2 (keptW (keptW B0 B1) B2)) (fun hHeld=>?_)
   clear hK K
   try simp only [Act.put,yyA,yyB,yyC]
   refine wpAnyH_ready (rs:=[4,5]) (by kernel_rfl) (by simp) ?_
   refine AllReadyH.cons rfl (fun K hK=>?_) ?_
   ·skip
    go_simp
    go_at_call 23
    refine (S.bnew_any V2).mono ?_
    rintro e V3 ⟨rfl,Fb,hb,nb,B3⟩
    dsimp only
    refine hK.out _ _ (HK.out V3 (keptW (keptW (keptW B0 B1) B2) B3)) (fun hHeld=>?_)
    clear hK K
    try simp only [Act.put,yyA,yyB,yyC]
    refine wpAnyH_ready (rs:=[5]) (by kernel_rfl) (by simp) ?_
    refine AllReadyH.cons rfl (fun K hK=>?_) AllReadyH.nil
    go_simp
    obtain ⟨V4,fl⟩ : ∃ X,V3.alloc (.map #[] 0)=X:=⟨_,rfl⟩
    have B4:Below V3.heap.size V3 V4:=by rw [<- fl]; exact box_below V3 _
    have hl:LAt V4 V3.heap.size []:=by rw [<- fl]; exact lAt_new V3
    have zl:V3.heap.size<V4.heap.size:=hl.lt
    try rw [fl]
    refine hK.out _ _ (HK.out V4 (keptW (keptW (keptW (keptW B0 B1) B2) B3) B4)) (fun hHeld=>?_)
    clear hK K
    try simp only [Act.put,yyA,yyB,yyC]
    refine wpAnyH_ready (rs:=[6]) (by kernel_rfl) (by simp) ?_
    refine AllReadyH.cons rfl (fun K hK=>?_) AllReadyH.nil
    go_simp
    refine hK.out _ _ (HK.out V4 (keptW (keptW (keptW (keptW B0 B1) B2) B3) B4)) (fun hHeld=>?_)
    clear hK K
    try simp only [Act.put,yyA,yyB,yyC]
    have HE:Hid _:=new_end (site:=site) (N0:=N0) (H:=H) (keptW H3.out.1 (keptW (keptW (keptW (keptW B0 B1) B2) B3) B4)) H3.out.2.1 (keptW (keptW (keptW (keptW B0 B1) B2) B3) B4) H3.out.2.2 ht (keptW B3 B4) nt (yyH _) hb B4 nb (yyH _) hq (keptW (keptW B2 B3) B4) hl (Below.refl _ _) (by have:=H3.out.1.size; have:=B0.size; have:=B1.size; have:=B2.size; have:=B3.size; omega) (by have:=H3.out.1.size; have:=B0.size; have:=B1.size; have:=B2.size; have:=B3.size; omega) (by have:=H3.out.1.size; have:=B0.size; have:=B1.size; have:=B2.size; have:=B3.size; omega) (by have:=H3.out.1.size; have:=B0.size; have:=B1.size; have:=B2.size; have:=B3.size; omega) (by have:=H3.out.1.size; have:=B0.size; have:=B1.size; have:=B2.size; have:=B3.size; omega) (by have:=H3.out.1.size; have:=B0.size; have:=B1.size; have:=B2.size; have:=B3.size; omega) (by have:=H3.out.1.size; have:=B0.size; have:=B1.size; have:=B2.size; have:=B3.size; omega) (by have:=H3.out.1.size; have:=B0.size; have:=B1.size; have:=B2.size; have:=B3.size; omega) (by have:=B1.size; have:=B2.size; have:=B3.size; have:=B4.size; omega) (by have:=B1.size; have:=B2.size; have:=B3.size; have:=B4.size; omega) (by have:=B1.size; have:=B2.size; have:=B3.size; have:=B4.size; omega) (by have:=B1.size; have:=B2.size; have:=B3.size; have:=B4.size; omega) (by have:=B1.size; have:=B2.size; have:=B3.size; have:=B4.size; omega) (by have:=B1.size; have:=B2.size; have:=B3.size; have:=B4.size; omega)
    refine wpAnyH_ready (rs:=[7]) (by kernel_rfl) (by simp) ?_
    refine AllReadyH.cons rfl (fun K hK=>?_) AllReadyH.nil
    go_simp
    refine hK.out _ _ (HK.out _ (keptW (keptW (keptW (keptW (keptW B0 B1) B2) B3) B4) (box_below V4 _))) (fun hHeld=>?_)
    clear hK K
    try simp only [Act.put,yyA,yyB,yyC]
    refine wpAnyH_take (i:=8) (v:=.pointer (some ⟨V4.heap.size,0,none⟩)) (by simp only [yyG,yyF,yyE]; rfl) (by kernel_rfl) (by kernel_rfl) (by kernel_rfl) (fun _ _ _ h=>h) (Or.inl ⟨by rfl,?_⟩) (by assumption) ?_
    ·(intro wq hSq; clear hSq; go_simp; try with_reducible rfl)
    try simp only [Act.put,yyA,yyB,yyC]
    refine wpAnyH_done (by kernel_rfl) ?_ _
    refine NoPanic.normal ?_
    clear hHeld
    go_wp2
    go_ret
    exact ⟨_,rfl,HE.out⟩
   refine AllReadyH.cons rfl (fun K hK=>?_) AllReadyH.nil
   go_simp
   obtain ⟨V3,fl⟩ : ∃ X,V2.alloc (.map #[] 0)=X:=⟨_,rfl⟩
   have B3:Below V2.heap.size V2 V3:=by rw [<- fl]; exact box_below V2 _
   have hl:LAt V3 V2.heap.size []:=by rw [<- fl]; exact lAt_new V2
   have zl:V2.heap.size<V3.heap.size:=hl.lt
   try rw [fl]
   refine hK.out _ _ (HK.out V3 (keptW (keptW (keptW B0 B1) B2) B3)) (fun hHeld=>?_)
   clear hK K
   try simp only [Act.put,yyA,yyB,yyC]
   refine wpAnyH_ready (rs:=[4]) (by kernel_rfl) (by simp) ?_
   refine AllReadyH.cons rfl (fun K hK=>?_) AllReadyH.nil
   go_simp
   go_at_call 23
   refine (S.bnew_any V3).mono ?_
   rintro e V4 ⟨rfl,Fb,hb,nb,B4⟩
   dsimp only
   refine hK.out _ _ (HK.out V4 (keptW (keptW (keptW (keptW B0 B1) B2) B3) B4)) (fun hHeld=>?_)
   clear hK K
   try simp only [Act.put,yyA,yyB,yyC]
   refine wpAnyH_ready (rs:=[6]) (by kernel_rfl) (by simp) ?_
   refine AllReadyH.cons rfl (fun K hK=>?_) AllReadyH.nil
   go_simp
   refine hK.out _ _ (HK.out V4 (keptW (keptW (keptW (keptW B0 B1) B2) B3) B4)) (fun hHeld=>?_)
   clear hK K
   try simp only [Act.put,yyA,yyB,yyC]
   have HE:Hid _:=new_end (site:=site) (N0:=N0) (H:=H) (keptW H3.out.1 (keptW (keptW (keptW (keptW B0 B1) B2) B3) B4)) H3.out.2.1 (keptW (keptW (keptW (keptW B0 B1) B2) B3) B4) H3.out.2.2 ht (keptW B3 B4) nt (yyH _) hb (Below.refl _ _) nb (yyH _) hq (keptW (keptW B2 B3) B4) hl B4 (by have:=H3.out.1.size; have:=B0.size; have:=B1.size; have:=B2.size; have:=B3.size; omega) (by have:=H3.out.1.size; have:=B0.size; have:=B1.size; have:=B2.size; have:=B3.size; omega) (by have:=H3.out.1.size; have:=B0.size; have:=B1.size; have:=B2.size; have:=B3.size; omega) (by have:=H3.out.1.size; have:=B0.size; have:=B1.size; have:=B2.size; have:=B3.size; omega) (by have:=H3.out.1.size; have:=B0.size; have:=B1.size; have:=B2.size; have:=B3.size; omega) (by have:=H3.out.1.size; have:=B0.size; have:=B1.size; have:=B2.size; have:=B3.size; omega) (by have:=H3.out.1.size; have:=B0.size; have:=B1.size; have:=B2.size; have:=B3.size; omega) (by have:=H3.out.1.size; have:=B0.size; have:=B1.size; have:=B2.size; have:=B3.size; omega) (by have:=B1.size; have:=B2.size; have:=B3.size; have:=B4.size; omega) (by have:=B1.size; have:=B2.size; have:=B3.size; have:=B4.size; omega) (by have:=B1.size; have:=B2.size; have:=B3.size; have:=B4.size; omega) (by have:=B1.size; have:=B2.size; have:=B3.size; have:=B4.size; omega) (by have:=B1.size; have:=B2.size; have:=B3.size; have:=B4.size; omega) (by have:=B1.size; have:=B2.size; have:=B3.size; have:=B4.size; omega)
   refine wpAnyH_ready (rs:=[7]) (by kernel_rfl) (by simp) ?_
   refine AllReadyH.cons rfl (fun K hK=>?_) AllReadyH.nil
   go_simp
   refine hK.out _ _ (HK.out _ (keptW (keptW (keptW (keptW (keptW B0 B1) B2) B3) B4) (box_below V4 _))) (fun hHeld=>?_)
   clear hK K
   try simp only [Act.put,yyA,yyB,yyC]
   refine wpAnyH_take (i:=8) (v:=.pointer (some ⟨V4.heap.size,0,none⟩)) (by simp only [yyG,yyF,yyE]; rfl) (by kernel_rfl) (by kernel_rfl) (by kernel_rfl) (fun _ _ _ h=>h) (Or.inl ⟨by rfl,?_⟩) (by assumption) ?_
   ·(intro wq hSq; clear hSq; go_simp; try with_reducible rfl)
   try simp only [Act.put,yyA,yyB,yyC]
   refine wpAnyH_done (by kernel_rfl) ?_ _
   refine NoPanic.normal ?_
   clear hHeld
   go_wp2
   go_ret
   exact ⟨_,rfl,HE.out⟩
  refine AllReadyH.cons rfl (fun K hK=>?_) AllReadyH.nil
  go_simp
  obtain ⟨V2,fl⟩ : ∃ X,V1.alloc (.map #[] 0)=X:=⟨_,rfl⟩
  have B2:Below V1.heap.size V1 V2:=by rw [<- fl]; exact box_below V1 _
  have hl:LAt V2 V1.heap.size []:=by rw [<- fl]; exact lAt_new V1
  have zl:V1.heap.size<V2.heap.size:=hl.lt
  try rw [fl]
  refine hK.out _ _ (HK.out V2 (keptW (keptW B0 B1) B2)) (fun hHeld=>?_)
  clear hK K
  try simp only [Act.put,yyA,yyB,yyC]
  refine wpAnyH_ready (rs:=[2]) (by kernel_rfl) (by simp) ?_
  refine AllReadyH.cons rfl (fun K hK=>?_) AllReadyH.nil
  go_simp
  go_at_call 22
  refine (B.new_any V2).mono ?_
  rintro e V3 ⟨tp,rfl,Ft,ht,nt,B3⟩
  dsimp only
  refine hK.out _ _ (HK.out V3 (keptW (keptW (keptW B0 B1) B2) B3)) (fun hHeld=>?_)
  clear hK K
  try simp only [Act.put,yyA,yyB,yyC]
  refine wpAnyH_ready (rs:=[4]) (by kernel_rfl) (by simp) ?_
  refine AllReadyH.cons rfl (fun K hK=>?_) AllReadyH.nil
  go_simp
  go_at_call 23
  refine (S.bnew_any V3).mono ?_
  rintro e V4 ⟨rfl,Fb,hb,nb,B4⟩
  dsimp only
  refine hK.out _ _ (HK.out V4 (keptW (keptW (keptW (keptW B0 B1) B2) B3) B4)) (fun hHeld=>?_)
  clear hK K
  try simp only [Act.put,yyA,yyB,yyC]
  refine wpAnyH_ready (rs:=[6]) (by kernel_rfl) (by simp) ?_
  refine AllReadyH.cons rfl (fun K hK=>?_) AllReadyH.nil
  go_simp
  refine hK.out _ _ (HK.out V4 (keptW (keptW (keptW (keptW B0 B1) B2) B3) B4)) (fun hHeld=>?_)
  clear hK K
  try simp only [Act.put,yyA,yyB,yyC]
  have HE:Hid _:=new_end (site:=site) (N0:=N0) (H:=H) (keptW H3.out.1 (keptW (keptW (keptW (keptW B0 B1) B2) B3) B4)) H3.out.2.1 (keptW (keptW (keptW (keptW B0 B1) B2) B3) B4) H3.out.2.2 ht B4 nt (yyH _) hb (Below.refl _ _) nb (yyH _) hq (keptW (keptW B2 B3) B4) hl (keptW B3 B4) (by have:=H3.out.1.size; have:=B0.size; have:=B1.size; have:=B2.size; have:=B3.size; omega) (by have:=H3.out.1.size; have:=B0.size; have:=B1.size; have:=B2.size; have:=B3.size; omega) (by have:=H3.out.1.size; have:=B0.size; have:=B1.size; have:=B2.size; have:=B3.size; omega) (by have:=H3.out.1.size; have:=B0.size; have:=B1.size; have:=B2.size; have:=B3.size; omega) (by have:=H3.out.1.size; have:=B0.size; have:=B1.size; have:=B2.size; have:=B3.size; omega) (by have:=H3.out.1.size; have:=B0.size; have:=B1.size; have:=B2.size; have:=B3.size; omega) (by have:=H3.out.1.size; have:=B0.size; have:=B1.size; have:=B2.size; have:=B3.size; omega) (by have:=H3.out.1.size; have:=B0.size; have:=B1.size; have:=B2.size; have:=B3.size; omega) (by have:=B1.size; have:=B2.size; have:=B3.size; have:=B4.size; omega) (by have:=B1.size; have:=B2.size; have:=B3.size; have:=B4.size; omega) (by have:=B1.size; have:=B2.size; have:=B3.size; have:=B4.size; omega) (by have:=B1.size; have:=B2.size; have:=B3.size; have:=B4.size; omega) (by have:=B1.size; have:=B2.size; have:=B3.size; have:=B4.size; omega) (by have:=B1.size; have:=B2.size; have:=B3.size; have:=B4.size; omega)
  refine wpAnyH_ready (rs:=[7]) (by kernel_rfl) (by simp) ?_
  refine AllReadyH.cons rfl (fun K hK=>?_) AllReadyH.nil
  go_simp
  refine hK.out _ _ (HK.out _ (keptW (keptW (keptW (keptW (keptW B0 B1) B2) B3) B4) (box_below V4 _))) (fun hHeld=>?_)
  clear hK K
  try simp only [Act.put,yyA,yyB,yyC]
  refine wpAnyH_take (i:=8) (v:=.pointer (some ⟨V4.heap.size,0,none⟩)) (by simp only [yyG,yyF,yyE]; rfl) (by kernel_rfl) (by kernel_rfl) (by kernel_rfl) (fun _ _ _ h=>h) (Or.inl ⟨by rfl,?_⟩) (by assumption) ?_
  ·(intro wq hSq; clear hSq; go_simp; try with_reducible rfl)
  try simp only [Act.put,yyA,yyB,yyC]
  refine wpAnyH_done (by kernel_rfl) ?_ _
  refine NoPanic.normal ?_
  clear hHeld
  go_wp2
  go_ret
  exact ⟨_,rfl,HE.out⟩
 refine AllReadyH.cons rfl (fun K hK=>?_) AllReadyH.nil
 go_simp
 obtain ⟨V1,fl⟩ : ∃ X,V0.alloc (.map #[] 0)=X:=⟨_,rfl⟩
 have B1:Below V0.heap.size V0 V1:=by rw [<- fl]; exact box_below V0 _
 have hl:LAt V1 V0.heap.size []:=by rw [<- fl]; exact lAt_new V0
 have zl:V0.heap.size<V1.heap.size:=hl.lt
 try rw [fl]
 refine hK.out _ _ (HK.out V1 (keptW B0 B1)) (fun hHeld=>?_)
 clear hK K
 try simp only [Act.put,yyA,yyB,yyC]
 refine wpAnyH_ready (rs:=[2,3]) (by kernel_rfl) (by simp) ?_
 refine AllReadyH.cons rfl (fun K hK=>?_) ?_
 ·skip
  go_simp
  go_at_call 22
  refine (B.new_any V1).mono ?_
  rintro e V2 ⟨tp,rfl,Ft,ht,nt,B2⟩
  dsimp only
  refine hK.out _ _ (HK.out V2 (keptW (keptW B0 B1) B2)) (fun hHeld=>?_)
  clear hK K
  try simp only [Act.put,yyA,yyB,yyC]
  refine wpAnyH_ready (rs:=[3,4]) (by kernel_rfl) (by simp) ?_
  refine AllReadyH.cons rfl (fun K hK=>?_) ?_
  ·skip
   go_simp
   obtain ⟨V3,fq⟩ : ∃ X,V2.alloc (.map #[] 0)=X:=⟨_,rfl⟩
   have B3:Below V2.heap.size V2 V3:=by rw [<- fq]; exact box_below V2 _
   have hq:DAt V3 V2.heap.size []:=by rw [<- fq]; exact dAt_new V2
   have zq:V2.heap.size<V3.heap.size:=hq.lt
   try rw [fq]
   refine hK.out _ _ (HK.out V3 (keptW (keptW (keptW B0 B1) B2) B3)) (fun hHeld=>?_)
   clear hK K
   try simp only [Act.put,yyA,yyB,yyC]
   refine wpAnyH_ready (rs:=[4]) (by kernel_rfl) (by simp) ?_
   refine AllReadyH.cons rfl (fun K hK=>?_) AllReadyH.nil
   go_simp
   go_at_call 23
   refine (S.bnew_any V3).mono ?_
   rintro e V4 ⟨rfl,Fb,hb,nb,B4⟩
   dsimp only
   refine hK.out _ _ (HK.out V4 (keptW (keptW (keptW (keptW B0 B1) B2) B3) B4)) (fun hHeld=>?_)
   clear hK K
   try simp only [Act.put,yyA,yyB,yyC]
   refine wpAnyH_ready (rs:=[6]) (by kernel_rfl) (by simp) ?_
   refine AllReadyH.cons rfl (fun K hK=>?_) AllReadyH.nil
   go_simp
   refine hK.out _ _ (HK.out V4 (keptW (keptW (keptW (keptW B0 B1) B2) B3) B4)) (fun hHeld=>?_)
   clear hK K
   try simp only [Act.put,yyA,yyB,yyC]
   have HE:Hid _:=new_end (site:=site) (N0:=N0) (H:=H) (keptW H3.out.1 (keptW (keptW (keptW (keptW B0 B1) B2) B3) B4)) H3.out.2.1 (keptW (keptW (keptW (keptW B0 B1) B2) B3) B4) H3.out.2.2 ht (keptW B3 B4) nt (yyH _) hb (Below.refl _ _) nb (yyH _) hq B4 hl (keptW (keptW B2 B3) B4) (by have:=H3.out.1.size; have:=B0.size; have:=B1.size; have:=B2.size; have:=B3.size; omega) (by have:=H3.out.1.size; have:=B0.size; have:=B1.size; have:=B2.size; have:=B3.size; omega) (by have:=H3.out.1.size; have:=B0.size; have:=B1.size; have:=B2.size; have:=B3.size; omega) (by have:=H3.out.1.size; have:=B0.size; have:=B1.size; have:=B2.size; have:=B3.size; omega) (by have:=H3.out.1.size; have:=B0.size; have:=B1.size; have:=B2.size; have:=B3.size; omega) (by have:=H3.out.1.size; have:=B0.size; have:=B1.size; have:=B2.size; have:=B3.size; omega) (by have:=H3.out.1.size; have:=B0.size; have:=B1.size; have:=B2.size; have:=B3.size; omega) (by have:=H3.out.1.size; have:=B0.size; have:=B1.size; have:=B2.size; have:=B3.size; omega) (by have:=B1.size; have:=B2.size; have:=B3.size; have:=B4.size; omega) (by have:=B1.size; have:=B2.size; have:=B3.size; have:=B4.size; omega) (by have:=B1.size; have:=B2.size; have:=B3.size; have:=B4.size; omega) (by have:=B1.size; have:=B2.size; have:=B3.size; have:=B4.size; omega) (by have:=B1.size; have:=B2.size; have:=B3.size; have:=B4.size; omega) (by have:=B1.size; have:=B2.size; have:=B3.size; have:=B4.size; omega)
   refine wpAnyH_ready (rs:=[7]) (by kernel_rfl) (by simp) ?_
   refine AllReadyH.cons rfl (fun K hK=>?_) AllReadyH.nil
   go_simp
   refine hK.out _ _ (HK.out _ (keptW (keptW (keptW (keptW (keptW B0 B1) B2) B3) B4) (box_below V4 _))) (fun hHeld=>?_)
   clear hK K
   try simp only [Act.put,yyA,yyB,yyC]
   refine wpAnyH_take (i:=8) (v:=.pointer (some ⟨V4.heap.size,0,none⟩)) (by simp only [yyG,yyF,yyE]; rfl) (by kernel_rfl) (by kernel_rfl) (by kernel_rfl) (fun _ _ _ h=>h) (Or.inl ⟨by rfl,?_⟩) (by assumption) ?_
   ·(intro wq hSq; clear hSq; go_simp; try with_reducible rfl)
   try simp only [Act.put,yyA,yyB,yyC]
   refine wpAnyH_done (by kernel_rfl) ?_ _
   refine NoPanic.normal ?_
   clear hHeld
   go_wp2
   go_ret
   exact ⟨_,rfl,HE.out⟩
  refine AllReadyH.cons rfl (fun K hK=>?_) AllReadyH.nil
  go_simp
  go_at_call 23
  refine (S.bnew_any V2).mono ?_
  rintro e V3 ⟨rfl,Fb,hb,nb,B3⟩
  dsimp only
  refine hK.out _ _ (HK.out V3 (keptW (keptW (keptW B0 B1) B2) B3)) (fun hHeld=>?_)
  clear hK K
  try simp only [Act.put,yyA,yyB,yyC]
  refine wpAnyH_ready (rs:=[3]) (by kernel_rfl) (by simp) ?_
  refine AllReadyH.cons rfl (fun K hK=>?_) AllReadyH.nil
  go_simp
  obtain ⟨V4,fq⟩ : ∃ X,V3.alloc (.map #[] 0)=X:=⟨_,rfl⟩
  have B4:Below V3.heap.size V3 V4:=by rw [<- fq]; exact box_below V3 _
  have hq:DAt V4 V3.heap.size []:=by rw [<- fq]; exact dAt_new V3
  have zq:V3.heap.size<V4.heap.size:=hq.lt
  try rw [fq]
  refine hK.out _ _ (HK.out V4 (keptW (keptW (keptW (keptW B0 B1) B2) B3) B4)) (fun hHeld=>?_)
  clear hK K
  try simp only [Act.put,yyA,yyB,yyC]
  refine wpAnyH_ready (rs:=[6]) (by kernel_rfl) (by simp) ?_
  refine AllReadyH.cons rfl (fun K hK=>?_) AllReadyH.nil
  go_simp
  refine hK.out _ _ (HK.out V4 (keptW (keptW (keptW (keptW B0 B1) B2) B3) B4)) (fun hHeld=>?_)
  clear hK K
  try simp only [Act.put,yyA,yyB,yyC]
  have HE:Hid _:=new_end (site:=site) (N0:=N0) (H:=H) (keptW H3.out.1 (keptW (keptW (keptW (keptW B0 B1) B2) B3) B4)) H3.out.2.1 (keptW (keptW (keptW (keptW B0 B1) B2) B3) B4) H3.out.2.2 ht (keptW B3 B4) nt (yyH _) hb B4 nb (yyH _) hq (Below.refl _ _) hl (keptW (keptW B2 B3) B4) (by have:=H3.out.1.size; have:=B0.size; have:=B1.size; have:=B2.size; have:=B3.size; omega) (by have:=H3.out.1.size; have:=B0.size; have:=B1.size; have:=B2.size; have:=B3.size; omega) (by have:=H3.out.1.size; have:=B0.size; have:=B1.size; have:=B2.size; have:=B3.size; omega) (by have:=H3.out.1.size; have:=B0.size; have:=B1.size; have:=B2.size; have:=B3.size; omega) (by have:=H3.out.1.size; have:=B0.size; have:=B1.size; have:=B2.size; have:=B3.size; omega) (by have:=H3.out.1.size; have:=B0.size; have:=B1.size; have:=B2.size; have:=B3.size; omega) (by have:=H3.out.1.size; have:=B0.size; have:=B1.size; have:=B2.size; have:=B3.size; omega) (by have:=H3.out.1.size; have:=B0.size; have:=B1.size; have:=B2.size; have:=B3.size; omega) (by have:=B1.size; have:=B2.size; have:=B3.size; have:=B4.size; omega) (by have:=B1.size; have:=B2.size; have:=B3.size; have:=B4.size; omega) (by have:=B1.size; have:=B2.size; have:=B3.size; have:=B4.size; omega) (by have:=B1.size; have:=B2.size; have:=B3.size; have:=B4.size; omega) (by have:=B1.size; have:=B2.size; have:=B3.size; have:=B4.size; omega) (by have:=B1.size; have:=B2.size; have:=B3.size; have:=B4.size; omega)
  refine wpAnyH_ready (rs:=[7]) (by kernel_rfl) (by simp) ?_
  refine AllReadyH.cons rfl (fun K hK=>?_) AllReadyH.nil
  go_simp
  refine hK.out _ _ (HK.out _ (keptW (keptW (keptW (keptW (keptW B0 B1) B2) B3) B4) (box_below V4 _))) (fun hHeld=>?_)
  clear hK K
  try simp only [Act.put,yyA,yyB,yyC]
  refine wpAnyH_take (i:=8) (v:=.pointer (some ⟨V4.heap.size,0,none⟩)) (by simp only [yyG,yyF,yyE]; rfl) (by kernel_rfl) (by kernel_rfl) (by kernel_rfl) (fun _ _ _ h=>h) (Or.inl ⟨by rfl,?_⟩) (by assumption) ?_
  ·(intro wq hSq; clear hSq; go_simp; try with_reducible rfl)
  try simp only [Act.put,yyA,yyB,yyC]
  refine wpAnyH_done (by kernel_rfl) ?_ _
  refine NoPanic.normal ?_
  clear hHeld
  go_wp2
  go_ret
  exact ⟨_,rfl,HE.out⟩
 refine AllReadyH.cons rfl (fun K hK=>?_) AllReadyH.nil
 go_simp
 obtain ⟨V2,fq⟩ : ∃ X,V1.alloc (.map #[] 0)=X:=⟨_,rfl⟩
 have B2:Below V1.heap.size V1 V2:=by rw [<- fq]; exact box_below V1 _
 have hq:DAt V2 V1.heap.size []:=by rw [<- fq]; exact dAt_new V1
 have zq:V1.heap.size<V2.heap.size:=hq.lt
 try rw [fq]
 refine hK.out _ _ (HK.out V2 (keptW (keptW B0 B1) B2)) (fun hHeld=>?_)
 clear hK K
 try simp only [Act.put,yyA,yyB,yyC]
 refine wpAnyH_ready (rs:=[2]) (by kernel_rfl) (by simp) ?_
 refine AllReadyH.cons rfl (fun K hK=>?_) AllReadyH.nil
 go_simp
 go_at_call 22
 refine (B.new_any V2).mono ?_
 rintro e V3 ⟨tp,rfl,Ft,ht,nt,B3⟩
 dsimp only
 refine hK.out _ _ (HK.out V3 (keptW (keptW (keptW B0 B1) B2) B3)) (fun hHeld=>?_)
 clear hK K
 try simp only [Act.put,yyA,yyB,yyC]
 refine wpAnyH_ready (rs:=[4]) (by kernel_rfl) (by simp) ?_
 refine AllReadyH.cons rfl (fun K hK=>?_) AllReadyH.nil
 go_simp
 go_at_call 23
 refine (S.bnew_any V3).mono ?_
 rintro e V4 ⟨rfl,Fb,hb,nb,B4⟩
 dsimp only
 refine hK.out _ _ (HK.out V4 (keptW (keptW (keptW (keptW B0 B1) B2) B3) B4)) (fun hHeld=>?_)
 clear hK K
 try simp only [Act.put,yyA,yyB,yyC]
 refine wpAnyH_ready (rs:=[6]) (by kernel_rfl) (by simp) ?_
 refine AllReadyH.cons rfl (fun K hK=>?_) AllReadyH.nil
 go_simp
 refine hK.out _ _ (HK.out V4 (keptW (keptW (keptW (keptW B0 B1) B2) B3) B4)) (fun hHeld=>?_)
 clear hK K
 try simp only [Act.put,yyA,yyB,yyC]
 have HE:Hid _:=new_end (site:=site) (N0:=N0) (H:=H) (keptW H3.out.1 (keptW (keptW (keptW (keptW B0 B1) B2) B3) B4)) H3.out.2.1 (keptW (keptW (keptW (keptW B0 B1) B2) B3) B4) H3.out.2.2 ht B4 nt (yyH _) hb (Below.refl _ _) nb (yyH _) hq (keptW B3 B4) hl (keptW (keptW B2 B3) B4) (by have:=H3.out.1.size; have:=B0.size; have:=B1.size; have:=B2.size; have:=B3.size; omega) (by have:=H3.out.1.size; have:=B0.size; have:=B1.size; have:=B2.size; have:=B3.size; omega) (by have:=H3.out.1.size; have:=B0.size; have:=B1.size; have:=B2.size; have:=B3.size; omega) (by have:=H3.out.1.size; have:=B0.size; have:=B1.size; have:=B2.size; have:=B3.size; omega) (by have:=H3.out.1.size; have:=B0.size; have:=B1.size; have:=B2.size; have:=B3.size; omega) (by have:=H3.out.1.size; have:=B0.size; have:=B1.size; have:=B2.size; have:=B3.size; omega) (by have:=H3.out.1.size; have:=B0.size; have:=B1.size; have:=B2.size; have:=B3.size; omega) (by have:=H3.out.1.size; have:=B0.size; have:=B1.size; have:=B2.size; have:=B3.size; omega) (by have:=B1.size; have:=B2.size; have:=B3.size; have:=B4.size; omega) (by have:=B1.size; have:=B2.size; have:=B3.size; have:=B4.size; omega) (by have:=B1.size; have:=B2.size; have:=B3.size; have:=B4.size; omega) (by have:=B1.size; have:=B2.size; have:=B3.size; have:=B4.size; omega) (by have:=B1.size; have:=B2.size; have:=B3.size; have:=B4.size; omega) (by have:=B1.size; have:=B2.size; have:=B3.size; have:=B4.size; omega)
 refine wpAnyH_ready (rs:=[7]) (by kernel_rfl) (by simp) ?_
 refine AllReadyH.cons rfl (fun K hK=>?_) AllReadyH.nil
 go_simp
 refine hK.out _ _ (HK.out _ (keptW (keptW (keptW (keptW (keptW B0 B1) B2) B3) B4) (box_below V4 _))) (fun hHeld=>?_)
 clear hK K
 try simp only [Act.put,yyA,yyB,yyC]
 refine wpAnyH_take (i:=8) (v:=.pointer (some ⟨V4.heap.size,0,none⟩)) (by simp only [yyG,yyF,yyE]; rfl) (by kernel_rfl) (by kernel_rfl) (by kernel_rfl) (fun _ _ _ h=>h) (Or.inl ⟨by rfl,?_⟩) (by assumption) ?_
 ·(intro wq hSq; clear hSq; go_simp; try with_reducible rfl)
 try simp only [Act.put,yyA,yyB,yyC]
 refine wpAnyH_done (by kernel_rfl) ?_ _
 refine NoPanic.normal ?_
 clear hHeld
 go_wp2
 go_ret
 exact ⟨_,rfl,HE.out⟩
end Go.Proofs.YtnhnpnafchkhiaaGreatDoor
