import Derived.Test.YtnhnpnafchkhiaaGreatDoorQwA
import Derived.Test.YtnhnpnafchkhiaaGreatDoorQw31
import Derived.Test.YtnhnpnafchkhiaaGreatDoorQw32
import Derived.Test.YtnhnpnafchkhiaaGreatDoorQw12
namespace Go.Proofs.YtnhnpnafchkhiaaGreatDoor
open Go.RowKit
theorem findQ_in {l:List (ByteArray × F.St)} (h:(l.map Prod.fst).Nodup) {n:ByteArray} {q:F.St} (hm:(n,q)∈l):findQ l n=some q:=by
 cases hf:findQ l n with
 |none=>exact absurd (List.mem_map.2 ⟨(n,q),hm,rfl⟩) (findQ_none hf)
 |some q'=>rw [nodup_pair h hm (findQ_some hf)]
theorem linkOf_in {l:List (Int × List Ms)} (h:(l.map Prod.fst).Nodup) {t:Int} {x:List Ms} (hm:(t,x)∈l):linkOf l t=x:=by
 unfold linkOf
 cases hf:l.find? fun y=>decide (y.1=t) with
 |none=>exact absurd (by simp:decide ((t,x).1=t)=true) (List.find?_eq_none.1 hf (t,x) hm)
 |some y =>
  obtain ⟨t',x'⟩:=y
  obtain rfl:t'=t:=by simpa using List.find?_some hf
  rw [nodup_pair h hm (List.mem_of_find?_eq_some hf)]
  rfl
structure Reads (w:World) (p:Nat) (G:Nat->Prop) (s:Sm) (tp bp:Nat):Prop where
 st : ∀ V,Below w.heap.size w V->SS V p G s
 cells : ∀ V,Below w.heap.size w V->V.cell? ⟨p,4,none⟩=some (.int .u64 (s.seq:Int))/\V.cell? ⟨p,5,none⟩=some (.int .u64 (s.boots:Int))/\V.cell? ⟨p,6,none⟩=some (.pointer (some ⟨tp,0,none⟩))/\V.cell? ⟨p,8,none⟩=some (.pointer (some ⟨bp,0,none⟩))
 xs : ∀ V,Below w.heap.size w V->Calls Tryz.prog 26 #[.pointer (some ⟨tp,0,none⟩)] V fun e w' => ∃ v',e=.returned v'/\B.OwnX w' V.heap.size v' s.tb.xs/\Below V.heap.size V w'
 bs : ∀ V,Below w.heap.size w V->Calls Tryz.prog 27 #[.pointer (some ⟨tp,0,none⟩)] V fun e w' => ∃ v',e=.returned v'/\B.OwnB w' V.heap.size v' s.tb.bs/\Below V.heap.size V w'
 os : ∀ V,Below w.heap.size w V->Calls Tryz.prog 29 #[.pointer (some ⟨bp,0,none⟩)] V fun e w' => ∃ v',e=.returned v'/\Own1 w' V.heap.size 3 v' (icells (S.places (S.liveL s.bk)))/\Below V.heap.size V w'
 rs : ∀ V o,Below w.heap.size w V->Calls Tryz.prog 30 #[.pointer (some ⟨bp,0,none⟩),.int .i64 o] V fun e w' => ∃ v',e=.returned v'/\S.Own2 w' V.heap.size v' (S.ofF s.bk o)/\Below V.heap.size V w'
theorem reads_of {w:World} {p:Nat} {G:Nat->Prop} {s:Sm} (h:SS w p G s) (r:s.Ready) : ∃ tp bp,Reads w p G s tp bp:=by
 obtain ⟨ft,d,hs,hF⟩:=id h
 obtain ⟨c0,c1,c2,c3,c4,c5,c6,c7,c8,c9⟩:=cells10 hs.blk
 refine ⟨d.tp,d.bp,fun V b=>h.kept b,fun V b=>⟨cell_on b c4,cell_on b c5,cell_on b c6,cell_on b c8⟩,fun V b=>B.exchanges_any d.tp (ft .table) s.tb V (hs.table.same fun k hk=>b.block k (hs.table.lts k hk)) r.tb,fun V b=>B.bindings_any d.tp (ft .table) s.tb V (hs.table.same fun k hk=>b.block k (hs.table.lts k hk)) r.tb,fun V b=>S.origins_any (S.ptrS d.bp) s.bk V (hs.book.kept b).told,fun V o b=>S.branges_any (S.ptrS d.bp) s.bk o V (hs.book.kept b).told (r.bk.at o).2⟩
set_option maxRecDepth 20000 in
set_option maxHeartbeats 8000000 in
theorem parts14_any (p:Nat) (G:Nat->Prop) (s:Sm) (w:World) (h:SS w p G s) (r:s.Ready) (hu:UpK s.qs) (hn:s.qs.length<=1000) :
  Calls Tryz.prog 9 #[.pointer (some ⟨p,0,none⟩)] w fun e w' => ∃ P,e=.returned (ptv P)/\PartsIs w' w.heap.size P s/\Below w.heap.size w w':=by
 obtain ⟨W,fold⟩ : ∃ W,w.alloc (.cells #[.int .u64 0,.int .u64 0,.slice none 0 0,.slice none 0 0,.slice none 0 0,.slice none 0 0,.slice none 0 0] 49)=W:=⟨_,rfl⟩
 have bW:Below w.heap.size w W:=by rw [<- fold]; exact box_below w _
 have kW:W.heap[w.heap.size]? = some (.cells (ptcells zPt).toArray 49 (0,0)):=by rw [<- fold]; exact heap_alloc_new w _
 have hM:=made14_any p G s W (h.kept bW)
 obtain ⟨tp,bp,hR⟩:=reads_of h r
 have HR:Hid (Reads w p G s tp bp):=hR
 have H0:Hid (s.Ready/\UpK s.qs/\s.qs.length<=1000):=⟨r,hu,hn⟩
 have HW:Hid (Below w.heap.size w W/\W.heap[w.heap.size]? = some (.cells (ptcells zPt).toArray 49 (0,0))):=⟨bW,kW⟩
 clear h r hu hn hR bW kW
 go_enter Tryz.func9,Tryz.ntmps9
 go_wp2_with fail
 try rw [fold]
 refine hM.mono ?_
 rintro e W ⟨rfl,rfl⟩
 clear hM fold
 go_wp2
 go_cut [3] from 12 to 34 (fun u3 wx => ∃ g1 P,u3=.pointer (some ⟨g1,0,none⟩)/\Hid (PIn w wx g1 P s [] [] []))
 case first =>
  refine wp_region_noPanic ?_
  refine wp_region_held_drew (S:=fun w'=>w'.cell? ⟨p,4,none⟩=some (.int .u64 (s.seq:Int))/\w'.cell? ⟨p,5,none⟩=some (.int .u64 (s.boots:Int))/\w'.cell? ⟨p,6,none⟩=some (.pointer (some ⟨tp,0,none⟩))/\w'.cell? ⟨p,8,none⟩=some (.pointer (some ⟨bp,0,none⟩))) (by kernel_rfl) (HR.out.cells W.drew (keptW HW.out.1 (drew_below W))) (fun hHeld=>?_)
  refine wpAnyH_take (i:=0) (v:=.pointer (some ⟨p,0,none⟩)) (by simp only [yyG,yyE]; rfl) (by kernel_rfl) (by kernel_rfl) (by kernel_rfl) (fun _ _ _ h=>h) (Or.inl ⟨by rfl,?_⟩) (by assumption) ?_
  ·(intro wq hSq; clear hSq; go_simp; try with_reducible rfl)
  try simp only [Act.put,yyA,yyB,yyC]
  refine wpAnyH_take (i:=1) (v:=.pointer (some ⟨p,0,none⟩)) (by simp only [yyG,yyF,yyE]; rfl) (by kernel_rfl) (by kernel_rfl) (by kernel_rfl) (fun _ _ _ h=>h) (Or.inl ⟨by rfl,?_⟩) (by assumption) ?_
  ·(intro wq hSq; clear hSq; go_simp; try with_reducible rfl)
  try simp only [Act.put,yyA,yyB,yyC]
  refine wpAnyH_take (i:=2) (v:=.pointer (some ⟨p,4,none⟩)) (by simp only [yyG,yyF,yyE]; rfl) (by kernel_rfl) (by kernel_rfl) (by kernel_rfl) (fun _ _ _ h=>h) (Or.inl ⟨by rfl,?_⟩) (by assumption) ?_
  ·(intro wq hSq; clear hSq; go_simp; try with_reducible rfl)
  try simp only [Act.put,yyA,yyB,yyC]
  refine wpAnyH_take (i:=3) (v:=.int .u64 (s.seq:Int)) (by simp only [yyG,yyF,yyE]; rfl) (by kernel_rfl) (by kernel_rfl) (by kernel_rfl) (fun _ _ _ h=>h) (Or.inl ⟨by rfl,?_⟩) (by assumption) ?_
  ·(intro wq hSq; obtain ⟨q0,q1,q2,q3⟩:=hSq; go_simp; try with_reducible rfl)
  try simp only [Act.put,yyA,yyB,yyC]
  refine wpAnyH_take (i:=4) (v:=.pointer (some ⟨p,0,none⟩)) (by simp only [yyG,yyF,yyE]; rfl) (by kernel_rfl) (by kernel_rfl) (by kernel_rfl) (fun _ _ _ h=>h) (Or.inl ⟨by rfl,?_⟩) (by assumption) ?_
  ·(intro wq hSq; clear hSq; go_simp; try with_reducible rfl)
  try simp only [Act.put,yyA,yyB,yyC]
  refine wpAnyH_take (i:=5) (v:=.pointer (some ⟨p,0,none⟩)) (by simp only [yyG,yyF,yyE]; rfl) (by kernel_rfl) (by kernel_rfl) (by kernel_rfl) (fun _ _ _ h=>h) (Or.inl ⟨by rfl,?_⟩) (by assumption) ?_
  ·(intro wq hSq; clear hSq; go_simp; try with_reducible rfl)
  try simp only [Act.put,yyA,yyB,yyC]
  refine wpAnyH_take (i:=6) (v:=.pointer (some ⟨p,5,none⟩)) (by simp only [yyG,yyF,yyE]; rfl) (by kernel_rfl) (by kernel_rfl) (by kernel_rfl) (fun _ _ _ h=>h) (Or.inl ⟨by rfl,?_⟩) (by assumption) ?_
  ·(intro wq hSq; clear hSq; go_simp; try with_reducible rfl)
  try simp only [Act.put,yyA,yyB,yyC]
  refine wpAnyH_take (i:=7) (v:=.int .u64 (s.boots:Int)) (by simp only [yyG,yyF,yyE]; rfl) (by kernel_rfl) (by kernel_rfl) (by kernel_rfl) (fun _ _ _ h=>h) (Or.inl ⟨by rfl,?_⟩) (by assumption) ?_
  ·(intro wq hSq; obtain ⟨q0,q1,q2,q3⟩:=hSq; go_simp; try with_reducible rfl)
  try simp only [Act.put,yyA,yyB,yyC]
  refine wpAnyH_take (i:=8) (v:=.pointer (some ⟨p,0,none⟩)) (by simp only [yyG,yyF,yyE]; rfl) (by kernel_rfl) (by kernel_rfl) (by kernel_rfl) (fun _ _ _ h=>h) (Or.inl ⟨by rfl,?_⟩) (by assumption) ?_
  ·(intro wq hSq; clear hSq; go_simp; try with_reducible rfl)
  try simp only [Act.put,yyA,yyB,yyC]
  refine wpAnyH_take (i:=9) (v:=.pointer (some ⟨p,0,none⟩)) (by simp only [yyG,yyF,yyE]; rfl) (by kernel_rfl) (by kernel_rfl) (by kernel_rfl) (fun _ _ _ h=>h) (Or.inl ⟨by rfl,?_⟩) (by assumption) ?_
  ·(intro wq hSq; clear hSq; go_simp; try with_reducible rfl)
  try simp only [Act.put,yyA,yyB,yyC]
  refine wpAnyH_take (i:=10) (v:=.pointer (some ⟨p,6,none⟩)) (by simp only [yyG,yyF,yyE]; rfl) (by kernel_rfl) (by kernel_rfl) (by kernel_rfl) (fun _ _ _ h=>h) (Or.inl ⟨by rfl,?_⟩) (by assumption) ?_
  ·(intro wq hSq; clear hSq; go_simp; try with_reducible rfl)
  try simp only [Act.put,yyA,yyB,yyC]
  refine wpAnyH_take (i:=11) (v:=.pointer (some ⟨tp,0,none⟩)) (by simp only [yyG,yyF,yyE]; rfl) (by kernel_rfl) (by kernel_rfl) (by kernel_rfl) (fun _ _ _ h=>h) (Or.inl ⟨by rfl,?_⟩) (by assumption) ?_
  ·(intro wq hSq; obtain ⟨q0,q1,q2,q3⟩:=hSq; go_simp; try with_reducible rfl)
  try simp only [Act.put,yyA,yyB,yyC]
  refine wpAnyH_take (i:=13) (v:=.pointer (some ⟨p,0,none⟩)) (by simp only [yyG,yyF,yyE]; rfl) (by kernel_rfl) (by kernel_rfl) (by kernel_rfl) (fun _ _ _ h=>h) (Or.inl ⟨by rfl,?_⟩) (by assumption) ?_
  ·(intro wq hSq; clear hSq; go_simp; try with_reducible rfl)
  try simp only [Act.put,yyA,yyB,yyC]
  refine wpAnyH_take (i:=14) (v:=.pointer (some ⟨p,0,none⟩)) (by simp only [yyG,yyF,yyE]; rfl) (by kernel_rfl) (by kernel_rfl) (by kernel_rfl) (fun _ _ _ h=>h) (Or.inl ⟨by rfl,?_⟩) (by assumption) ?_
  ·(intro wq hSq; clear hSq; go_simp; try with_reducible rfl)
  try simp only [Act.put,yyA,yyB,yyC]
  refine wpAnyH_take (i:=15) (v:=.pointer (some ⟨p,6,none⟩)) (by simp only [yyG,yyF,yyE]; rfl) (by kernel_rfl) (by kernel_rfl) (by kernel_rfl) (fun _ _ _ h=>h) (Or.inl ⟨by rfl,?_⟩) (by assumption) ?_
  ·(intro wq hSq; clear hSq; go_simp; try with_reducible rfl)
  try simp only [Act.put,yyA,yyB,yyC]
  refine wpAnyH_take (i:=16) (v:=.pointer (some ⟨tp,0,none⟩)) (by simp only [yyG,yyF,yyE]; rfl) (by kernel_rfl) (by kernel_rfl) (by kernel_rfl) (fun _ _ _ h=>h) (Or.inl ⟨by rfl,?_⟩) (by assumption) ?_
  ·(intro wq hSq; obtain ⟨q0,q1,q2,q3⟩:=hSq; go_simp; try with_reducible rfl)
  try simp only [Act.put,yyA,yyB,yyC]
  obtain ⟨V0,fV0⟩ : ∃ X,W.drew=X:=⟨_,rfl⟩
  have B0:Below W.heap.size W V0:=by rw [<- fV0]; exact drew_below W
  rw [fV0] at hHeld ⊢
  clear fV0
  refine wpAnyH_ready (rs:=[12,19]) (by kernel_rfl) (by simp) ?_
  refine AllReadyH.cons rfl (fun KK hK=>?_) ?_
  ·skip
   go_simp
   go_at_call 26
   refine (HR.out.xs V0 (keptW HW.out.1 B0)).mono ?_
   rintro e V1 ⟨vx,rfl,ox,B1⟩
   obtain ⟨xa,xc,hvx⟩:=ox.rng.slice
   obtain ⟨xn,hxn⟩ : ∃ z,s.tb.xs.length=z:=⟨_,rfl⟩
   rw [hxn] at hvx
   subst hvx
   clear hxn
   dsimp only
   refine hK.out _ _ (HR.out.cells V1 (keptW (keptW HW.out.1 B0) B1)) (fun hHeld=>?_)
   clear hK KK
   try simp only [Act.put,yyA,yyB,yyC]
   refine wpAnyH_ready (rs:=[17,19]) (by kernel_rfl) (by simp) ?_
   refine AllReadyH.cons rfl (fun KK hK=>?_) ?_
   ·skip
    go_simp
    go_at_call 27
    refine (HR.out.bs V1 (keptW (keptW HW.out.1 B0) B1)).mono ?_
    rintro e V2 ⟨vb,rfl,ob,B2⟩
    obtain ⟨ba,bc,hvb⟩:=ob.rng.slice
    obtain ⟨bn,hbn⟩ : ∃ z,s.tb.bs.length=z:=⟨_,rfl⟩
    rw [hbn] at hvb
    subst hvb
    clear hbn
    dsimp only
    refine hK.out _ _ (HR.out.cells V2 (keptW (keptW (keptW HW.out.1 B0) B1) B2)) (fun hHeld=>?_)
    clear hK KK
    try simp only [Act.put,yyA,yyB,yyC]
    refine wpAnyH_ready (rs:=[18,19]) (by kernel_rfl) (by simp) ?_
    refine AllReadyH.cons rfl (fun KK hK=>?_) ?_
    ·skip
     go_simp
     refine hK.out _ _ (HR.out.cells V2 (keptW (keptW (keptW HW.out.1 B0) B1) B2)) (fun hHeld=>?_)
     clear hK KK
     try simp only [Act.put,yyA,yyB,yyC]
     refine wpAnyH_ready (rs:=[19]) (by kernel_rfl) (by simp) ?_
     refine AllReadyH.cons rfl (fun KK hK=>?_) AllReadyH.nil
     go_simp
     obtain ⟨V3,fa⟩ : ∃ X,V2.alloc (.cells #[.int .u64 0,.int .u64 0,.slice none 0 0,.slice none 0 0,.slice none 0 0,.slice none 0 0,.slice none 0 0] 49)=X:=⟨_,rfl⟩
     have B3:Below V2.heap.size V2 V3:=by rw [<- fa]; exact box_below V2 _
     have ka:V3.heap[V2.heap.size]? = some (.cells (ptcells zPt).toArray 49 (0,0)):=by rw [<- fa]; exact heap_alloc_new V2 _
     try rw [fa]
     clear fa
     refine hK.out _ _ (HR.out.cells V3 (keptW (keptW (keptW (keptW HW.out.1 B0) B1) B2) B3)) (fun hHeld=>?_)
     clear hK KK
     try simp only [Act.put,yyA,yyB,yyC]
     have hg:V3.heap[V2.heap.size]? = some (.cells (ptcells zPt).toArray 49 (0,0)):=((Below.refl _ _).block _ (yyD ka).1).trans ka
     have h0:=(yyD HW.out.2).1
     have hb:V3.heap[w.heap.size]? = some (.cells (ptcells zPt).toArray 49 (0,0)):=((keptW (keptW (keptW B0 B1) B2) B3).block _ h0).trans HW.out.2
     have HP:Hid (PIn w (V3.setRow V2.heap.size (ptcells ⟨s.seq,s.boots,(xa,xn,xc),(ba,bn,bc),zSl,zSl,zSl⟩).toArray) V2.heap.size ⟨s.seq,s.boots,(xa,xn,xc),(ba,bn,bc),zSl,zSl,zSl⟩ s [] [] []):=PIn.start (keptW (keptW (keptW (keptW HW.out.1 B0) B1) B2) B3) hb hg (by have s0:=B0.size; have s1:=B1.size; have s2:=B2.size; have s3:=B3.size; omega) (owns_lower (ox.kept (keptW B2 B3) (yyH _)) (by have:=HW.out.1.size; have s0:=B0.size; have s1:=B1.size; have s2:=B2.size; have s3:=B3.size; omega)) (owns_lower (ob.kept B3 (yyH _)) (by have:=HW.out.1.size; have s0:=B0.size; have s1:=B1.size; have s2:=B2.size; have s3:=B3.size; omega))
     clear h0 hb ox ob ka
     refine wpAnyH_ready (rs:=[20]) (by kernel_rfl) (by simp) ?_
     refine AllReadyH.cons rfl (fun KK hK=>?_) AllReadyH.nil
     refine wp_store_row 49 _ _ rfl V2.heap.size (ptcells ⟨s.seq,s.boots,(xa,xn,xc),(ba,bn,bc),zSl,zSl,zSl⟩).toArray rfl rfl 49 (ptcells zPt).toArray hg infoPt rfl (onePt _) ?_
     refine hK.out _ _ (HR.out.cells _ HP.out.bel) (fun hHeld=>?_)
     clear hK KK
     try simp only [Act.put,yyA]
     refine wpAnyH_done (by kernel_rfl) ?_ _
     refine NoPanic.normal ?_
     clear hHeld
     go_wp2
     go_meet
     exact ⟨_,_,rfl,HP⟩
    refine AllReadyH.cons rfl (fun KK hK=>?_) AllReadyH.nil
    go_simp
    obtain ⟨V3,fa⟩ : ∃ X,V2.alloc (.cells #[.int .u64 0,.int .u64 0,.slice none 0 0,.slice none 0 0,.slice none 0 0,.slice none 0 0,.slice none 0 0] 49)=X:=⟨_,rfl⟩
    have B3:Below V2.heap.size V2 V3:=by rw [<- fa]; exact box_below V2 _
    have ka:V3.heap[V2.heap.size]? = some (.cells (ptcells zPt).toArray 49 (0,0)):=by rw [<- fa]; exact heap_alloc_new V2 _
    try rw [fa]
    clear fa
    refine hK.out _ _ (HR.out.cells V3 (keptW (keptW (keptW (keptW HW.out.1 B0) B1) B2) B3)) (fun hHeld=>?_)
    clear hK KK
    try simp only [Act.put,yyA,yyB,yyC]
    refine wpAnyH_ready (rs:=[18]) (by kernel_rfl) (by simp) ?_
    refine AllReadyH.cons rfl (fun KK hK=>?_) AllReadyH.nil
    go_simp
    refine hK.out _ _ (HR.out.cells V3 (keptW (keptW (keptW (keptW HW.out.1 B0) B1) B2) B3)) (fun hHeld=>?_)
    clear hK KK
    try simp only [Act.put,yyA,yyB,yyC]
    have hg:V3.heap[V2.heap.size]? = some (.cells (ptcells zPt).toArray 49 (0,0)):=((Below.refl _ _).block _ (yyD ka).1).trans ka
    have h0:=(yyD HW.out.2).1
    have hb:V3.heap[w.heap.size]? = some (.cells (ptcells zPt).toArray 49 (0,0)):=((keptW (keptW (keptW B0 B1) B2) B3).block _ h0).trans HW.out.2
    have HP:Hid (PIn w (V3.setRow V2.heap.size (ptcells ⟨s.seq,s.boots,(xa,xn,xc),(ba,bn,bc),zSl,zSl,zSl⟩).toArray) V2.heap.size ⟨s.seq,s.boots,(xa,xn,xc),(ba,bn,bc),zSl,zSl,zSl⟩ s [] [] []):=PIn.start (keptW (keptW (keptW (keptW HW.out.1 B0) B1) B2) B3) hb hg (by have s0:=B0.size; have s1:=B1.size; have s2:=B2.size; have s3:=B3.size; omega) (owns_lower (ox.kept (keptW B2 B3) (yyH _)) (by have:=HW.out.1.size; have s0:=B0.size; have s1:=B1.size; have s2:=B2.size; have s3:=B3.size; omega)) (owns_lower (ob.kept B3 (yyH _)) (by have:=HW.out.1.size; have s0:=B0.size; have s1:=B1.size; have s2:=B2.size; have s3:=B3.size; omega))
    clear h0 hb ox ob ka
    refine wpAnyH_ready (rs:=[20]) (by kernel_rfl) (by simp) ?_
    refine AllReadyH.cons rfl (fun KK hK=>?_) AllReadyH.nil
    refine wp_store_row 49 _ _ rfl V2.heap.size (ptcells ⟨s.seq,s.boots,(xa,xn,xc),(ba,bn,bc),zSl,zSl,zSl⟩).toArray rfl rfl 49 (ptcells zPt).toArray hg infoPt rfl (onePt _) ?_
    refine hK.out _ _ (HR.out.cells _ HP.out.bel) (fun hHeld=>?_)
    clear hK KK
    try simp only [Act.put,yyA]
    refine wpAnyH_done (by kernel_rfl) ?_ _
    refine NoPanic.normal ?_
    clear hHeld
    go_wp2
    go_meet
    exact ⟨_,_,rfl,HP⟩
   refine AllReadyH.cons rfl (fun KK hK=>?_) AllReadyH.nil
   go_simp
   obtain ⟨V2,fa⟩ : ∃ X,V1.alloc (.cells #[.int .u64 0,.int .u64 0,.slice none 0 0,.slice none 0 0,.slice none 0 0,.slice none 0 0,.slice none 0 0] 49)=X:=⟨_,rfl⟩
   have B2:Below V1.heap.size V1 V2:=by rw [<- fa]; exact box_below V1 _
   have ka:V2.heap[V1.heap.size]? = some (.cells (ptcells zPt).toArray 49 (0,0)):=by rw [<- fa]; exact heap_alloc_new V1 _
   try rw [fa]
   clear fa
   refine hK.out _ _ (HR.out.cells V2 (keptW (keptW (keptW HW.out.1 B0) B1) B2)) (fun hHeld=>?_)
   clear hK KK
   try simp only [Act.put,yyA,yyB,yyC]
   refine wpAnyH_ready (rs:=[17]) (by kernel_rfl) (by simp) ?_
   refine AllReadyH.cons rfl (fun KK hK=>?_) AllReadyH.nil
   go_simp
   go_at_call 27
   refine (HR.out.bs V2 (keptW (keptW (keptW HW.out.1 B0) B1) B2)).mono ?_
   rintro e V3 ⟨vb,rfl,ob,B3⟩
   obtain ⟨ba,bc,hvb⟩:=ob.rng.slice
   obtain ⟨bn,hbn⟩ : ∃ z,s.tb.bs.length=z:=⟨_,rfl⟩
   rw [hbn] at hvb
   subst hvb
   clear hbn
   dsimp only
   refine hK.out _ _ (HR.out.cells V3 (keptW (keptW (keptW (keptW HW.out.1 B0) B1) B2) B3)) (fun hHeld=>?_)
   clear hK KK
   try simp only [Act.put,yyA,yyB,yyC]
   refine wpAnyH_ready (rs:=[18]) (by kernel_rfl) (by simp) ?_
   refine AllReadyH.cons rfl (fun KK hK=>?_) AllReadyH.nil
   go_simp
   refine hK.out _ _ (HR.out.cells V3 (keptW (keptW (keptW (keptW HW.out.1 B0) B1) B2) B3)) (fun hHeld=>?_)
   clear hK KK
   try simp only [Act.put,yyA,yyB,yyC]
   have hg:V3.heap[V1.heap.size]? = some (.cells (ptcells zPt).toArray 49 (0,0)):=(B3.block _ (yyD ka).1).trans ka
   have h0:=(yyD HW.out.2).1
   have hb:V3.heap[w.heap.size]? = some (.cells (ptcells zPt).toArray 49 (0,0)):=((keptW (keptW (keptW B0 B1) B2) B3).block _ h0).trans HW.out.2
   have HP:Hid (PIn w (V3.setRow V1.heap.size (ptcells ⟨s.seq,s.boots,(xa,xn,xc),(ba,bn,bc),zSl,zSl,zSl⟩).toArray) V1.heap.size ⟨s.seq,s.boots,(xa,xn,xc),(ba,bn,bc),zSl,zSl,zSl⟩ s [] [] []):=PIn.start (keptW (keptW (keptW (keptW HW.out.1 B0) B1) B2) B3) hb hg (by have s0:=B0.size; have s1:=B1.size; have s2:=B2.size; have s3:=B3.size; omega) (owns_lower (ox.kept (keptW B2 B3) (yyH _)) (by have:=HW.out.1.size; have s0:=B0.size; have s1:=B1.size; have s2:=B2.size; have s3:=B3.size; omega)) (owns_lower (ob.kept (Below.refl _ _) (yyH _)) (by have:=HW.out.1.size; have s0:=B0.size; have s1:=B1.size; have s2:=B2.size; have s3:=B3.size; omega))
   clear h0 hb ox ob ka
   refine wpAnyH_ready (rs:=[20]) (by kernel_rfl) (by simp) ?_
   refine AllReadyH.cons rfl (fun KK hK=>?_) AllReadyH.nil
   refine wp_store_row 49 _ _ rfl V1.heap.size (ptcells ⟨s.seq,s.boots,(xa,xn,xc),(ba,bn,bc),zSl,zSl,zSl⟩).toArray rfl rfl 49 (ptcells zPt).toArray hg infoPt rfl (onePt _) ?_
   refine hK.out _ _ (HR.out.cells _ HP.out.bel) (fun hHeld=>?_)
   clear hK KK
   try simp only [Act.put,yyA]
   refine wpAnyH_done (by kernel_rfl) ?_ _
   refine NoPanic.normal ?_
   clear hHeld
   go_wp2
   go_meet
   exact ⟨_,_,rfl,HP⟩
  refine AllReadyH.cons rfl (fun KK hK=>?_) AllReadyH.nil
  go_simp
  obtain ⟨V1,fa⟩ : ∃ X,V0.alloc (.cells #[.int .u64 0,.int .u64 0,.slice none 0 0,.slice none 0 0,.slice none 0 0,.slice none 0 0,.slice none 0 0] 49)=X:=⟨_,rfl⟩
  have B1:Below V0.heap.size V0 V1:=by rw [<- fa]; exact box_below V0 _
  have ka:V1.heap[V0.heap.size]? = some (.cells (ptcells zPt).toArray 49 (0,0)):=by rw [<- fa]; exact heap_alloc_new V0 _
  try rw [fa]
  clear fa
  refine hK.out _ _ (HR.out.cells V1 (keptW (keptW HW.out.1 B0) B1)) (fun hHeld=>?_)
  clear hK KK
  try simp only [Act.put,yyA,yyB,yyC]
  refine wpAnyH_ready (rs:=[12]) (by kernel_rfl) (by simp) ?_
  refine AllReadyH.cons rfl (fun KK hK=>?_) AllReadyH.nil
  go_simp
  go_at_call 26
  refine (HR.out.xs V1 (keptW (keptW HW.out.1 B0) B1)).mono ?_
  rintro e V2 ⟨vx,rfl,ox,B2⟩
  obtain ⟨xa,xc,hvx⟩:=ox.rng.slice
  obtain ⟨xn,hxn⟩ : ∃ z,s.tb.xs.length=z:=⟨_,rfl⟩
  rw [hxn] at hvx
  subst hvx
  clear hxn
  dsimp only
  refine hK.out _ _ (HR.out.cells V2 (keptW (keptW (keptW HW.out.1 B0) B1) B2)) (fun hHeld=>?_)
  clear hK KK
  try simp only [Act.put,yyA,yyB,yyC]
  refine wpAnyH_ready (rs:=[17]) (by kernel_rfl) (by simp) ?_
  refine AllReadyH.cons rfl (fun KK hK=>?_) AllReadyH.nil
  go_simp
  go_at_call 27
  refine (HR.out.bs V2 (keptW (keptW (keptW HW.out.1 B0) B1) B2)).mono ?_
  rintro e V3 ⟨vb,rfl,ob,B3⟩
  obtain ⟨ba,bc,hvb⟩:=ob.rng.slice
  obtain ⟨bn,hbn⟩ : ∃ z,s.tb.bs.length=z:=⟨_,rfl⟩
  rw [hbn] at hvb
  subst hvb
  clear hbn
  dsimp only
  refine hK.out _ _ (HR.out.cells V3 (keptW (keptW (keptW (keptW HW.out.1 B0) B1) B2) B3)) (fun hHeld=>?_)
  clear hK KK
  try simp only [Act.put,yyA,yyB,yyC]
  refine wpAnyH_ready (rs:=[18]) (by kernel_rfl) (by simp) ?_
  refine AllReadyH.cons rfl (fun KK hK=>?_) AllReadyH.nil
  go_simp
  refine hK.out _ _ (HR.out.cells V3 (keptW (keptW (keptW (keptW HW.out.1 B0) B1) B2) B3)) (fun hHeld=>?_)
  clear hK KK
  try simp only [Act.put,yyA,yyB,yyC]
  have hg:V3.heap[V0.heap.size]? = some (.cells (ptcells zPt).toArray 49 (0,0)):=((keptW B2 B3).block _ (yyD ka).1).trans ka
  have h0:=(yyD HW.out.2).1
  have hb:V3.heap[w.heap.size]? = some (.cells (ptcells zPt).toArray 49 (0,0)):=((keptW (keptW (keptW B0 B1) B2) B3).block _ h0).trans HW.out.2
  have HP:Hid (PIn w (V3.setRow V0.heap.size (ptcells ⟨s.seq,s.boots,(xa,xn,xc),(ba,bn,bc),zSl,zSl,zSl⟩).toArray) V0.heap.size ⟨s.seq,s.boots,(xa,xn,xc),(ba,bn,bc),zSl,zSl,zSl⟩ s [] [] []):=PIn.start (keptW (keptW (keptW (keptW HW.out.1 B0) B1) B2) B3) hb hg (by have s0:=B0.size; have s1:=B1.size; have s2:=B2.size; have s3:=B3.size; omega) (owns_lower (ox.kept B3 (yyH _)) (by have:=HW.out.1.size; have s0:=B0.size; have s1:=B1.size; have s2:=B2.size; have s3:=B3.size; omega)) (owns_lower (ob.kept (Below.refl _ _) (yyH _)) (by have:=HW.out.1.size; have s0:=B0.size; have s1:=B1.size; have s2:=B2.size; have s3:=B3.size; omega))
  clear h0 hb ox ob ka
  refine wpAnyH_ready (rs:=[20]) (by kernel_rfl) (by simp) ?_
  refine AllReadyH.cons rfl (fun KK hK=>?_) AllReadyH.nil
  refine wp_store_row 49 _ _ rfl V0.heap.size (ptcells ⟨s.seq,s.boots,(xa,xn,xc),(ba,bn,bc),zSl,zSl,zSl⟩).toArray rfl rfl 49 (ptcells zPt).toArray hg infoPt rfl (onePt _) ?_
  refine hK.out _ _ (HR.out.cells _ HP.out.bel) (fun hHeld=>?_)
  clear hK KK
  try simp only [Act.put,yyA]
  refine wpAnyH_done (by kernel_rfl) ?_ _
  refine NoPanic.normal ?_
  clear hHeld
  go_wp2
  go_meet
  exact ⟨_,_,rfl,HP⟩
 case rest =>
  obtain ⟨g1,P1,rfl,HP⟩:=hcut
  have hN:=names14_any p G s wc (HR.out.st wc HP.out.bel) H0.out.2.1 (by have:=H0.out.2.2; omega)
  clear HW
  go_wp2_with fail
  refine hN.mono ?_
  rintro e V1 ⟨vn,rfl,on,b1⟩
  clear hN
  obtain ⟨na,nc,hvn⟩:=on.row.slice
  obtain ⟨nn,hnn⟩ : ∃ z,s.qs.length=z:=⟨_,rfl⟩
  rw [scells_length,List.length_map,hnn] at hvn
  subst hvn
  have HL1:Hid (PIn w V1 g1 P1 s [] [] []/\Own1 V1 w.heap.size 9 (.slice na nn nc) (scells (s.qs.map Prod.fst))):=⟨HP.out.go b1,own1_lower on HP.out.bel.size⟩
  have HN1:Hid (s.qs.length=nn/\nn<=1000):=⟨hnn,by have:=H0.out.2.2; omega⟩
  clear on b1 HP hnn
  go_wp2
  go_loopg [5,6,7,38] nn (fun g u5 u6 u7 u38 wr => ∃ i:Nat,u38=.int .i64 (i:Int)/\i<=nn/\g=nn-i/\Hid (∃ P,PIn w wr g1 P s (s.qs.take i) [] []/\Own1 wr w.heap.size 9 (.slice na nn nc) (scells (s.qs.map Prod.fst))))
  case atStart=>exact ⟨0,rfl,Nat.zero_le _,rfl,P1,HL1.out.1,HL1.out.2⟩
  case round =>
   obtain ⟨i,rfl,hi,rfl,HI⟩:=hrel
   by_cases hlt:i<nn
   ·have hlt':(i:Int)<(nn:Int):=by omega
    have hil:i<s.qs.length:=by rw [HN1.out.1]; exact hlt
    obtain ⟨⟨n,q⟩,hy⟩ : ∃ y,s.qs[i]=y:=⟨_,rfl⟩
    have hm:(n,q)∈s.qs:=by rw [<- hy]; exact List.getElem_mem hil
    have htk:s.qs.take (i+1)=s.qs.take i++[(n,q)]:=by rw [List.take_succ_eq_append_getElem hil,hy]
    obtain ⟨P,hP,hOn⟩:=HI.out
    obtain ⟨bb,off,cap',hv,hc1,hc2,hcs⟩:=hOn.row.at (by rw [scells_length,List.length_map]; omega)
    have hc:wr.cell? ⟨bb,off+i,none⟩=some (.string n):=by
     rw [hcs i (by rw [scells_length,List.length_map]; exact hil)]
     simp [scells,hy]
    rw [scells_length,List.length_map,HN1.out.1] at hv hc1
    injection hv with hv1 _ hv2
    subst hv1 hv2
    have hQ:=queue14_some p G s n q wr (HR.out.st wr hP.bel) H0.out.1.fit (by have h20:n.size<=20:=H0.out.1.fit.short _ hm; unfold maxLen; omega) (findQ_in H0.out.1.fit.names hm) (H0.out.1.qok _ hm)
    obtain ⟨sq,bt,⟨xa,xn,xc⟩,⟨ba,bn,bc⟩,⟨qa,qn,qc⟩,⟨sa,sn,sc⟩,⟨la,ln,lc⟩⟩:=P
    obtain ⟨Q,oQ,aQ⟩:=hP.is.q
    have HI2:Hid (PIn w wr g1 ⟨sq,bt,(xa,xn,xc),(ba,bn,bc),(qa,qn,qc),(sa,sn,sc),(la,ln,lc)⟩ s (s.qs.take i) [] []/\Own1 wr w.heap.size 9 (.slice (some ⟨bb,off,none⟩) nn nc) (scells (s.qs.map Prod.fst))/\OwnQp wr w.heap.size (.slice qa qn qc) Q/\All2 (fun x y=>QpIs wr w.heap.size x y.1 y.2) Q (s.qs.take i)/\s.qs.take (i+1)=s.qs.take i++[(n,q)]/\Q.length<=1000):=⟨hP,hOn,oQ,aQ,htk,by rw [aQ.len,List.length_take]; have:=HN1.out.2; omega⟩
    have hi63:i<9223372036854775807:=by have:=HN1.out.2; omega
    have HI63:Hid (i<9223372036854775807):=hi63
    clear HI hP hOn oQ aQ htk hm hy hcs hc1 hc2 hil hi63
    go_wp2_with fail
    refine hQ.mono ?_
    rintro e V2 ⟨x,rfl,hx,b2⟩
    clear hQ hc
    obtain ⟨V3,f3⟩ : ∃ X,V2.alloc (.cells #[.string ⟨#[]⟩,.int .i64 0,.int .u64 0,.slice none 0 0,.slice none 0 0] 59)=X:=⟨_,rfl⟩
    have z3:V3.heap[V2.heap.size]? = some (.cells (qpcells zQp).toArray 59 (0,0)):=by rw [<- f3]; exact heap_alloc_new V2 _
    have b3:Below V2.heap.size V2 V3:=by rw [<- f3]; exact box_below V2 _
    obtain ⟨V4,f4⟩ : ∃ X,V3.setRow V2.heap.size (qpcells x).toArray=X:=⟨_,rfl⟩
    have x4:V4.heap[V2.heap.size]? = some (.cells (qpcells x).toArray 59 (0,0)):=by rw [<- f4]; exact setRow_heap _ _ _ _ _ _ z3
    have b4:Below V2.heap.size V2 V4:=by rw [<- f4]; exact below_setRow b3 (yyH _) _
    obtain ⟨V5,f5⟩ : ∃ X,V4.alloc (.cells #[.string x.name,.int .i64 x.most,.int .u64 x.next,.slice x.r.1 x.r.2.1 x.r.2.2,.slice x.o.1 x.o.2.1 x.o.2.2] 59)=X:=⟨_,rfl⟩
    have b5:Below V4.heap.size V4 V5:=by rw [<- f5]; exact box_below V4 _
    have r5:K.RowOf qpcells V5 (.slice (some ⟨V4.heap.size,0,none⟩) 1 1) [x]:=by rw [<- f5]; exact K.rowK_one V4 x _ rfl
    have b15:=keptW (keptW b2 b4) b5
    have hP5:=HI2.out.1.go b15
    have hx5:QpIs V5 w.heap.size x n q:=⟨hx.name,hx.most,hx.next,owns_same (owns_lower hx.r HI2.out.1.bel.size) fun g _ hg=>(keptW b4 b5).block g hg,owns_same (owns_lower hx.o HI2.out.1.bel.size) fun g _ hg=>(keptW b4 b5).block g hg⟩
    have HB:Hid (PIn w V5 g1 ⟨sq,bt,(xa,xn,xc),(ba,bn,bc),(qa,qn,qc),(sa,sn,sc),(la,ln,lc)⟩ s (s.qs.take i) [] []/\Own1 V5 w.heap.size 9 (.slice (some ⟨bb,off,none⟩) nn nc) (scells (s.qs.map Prod.fst))/\OwnQp V5 w.heap.size (.slice qa qn qc) Q/\All2 (fun x y=>QpIs V5 w.heap.size x y.1 y.2) Q (s.qs.take i)/\QpIs V5 w.heap.size x n q/\K.RowOf qpcells V5 (.slice (some ⟨V4.heap.size,0,none⟩) 1 1) [x]/\w.heap.size<=V5.heap.size):=⟨hP5,own1_same HI2.out.2.1 (fun g hg=>b15.block g (World.ownsRow.lt HI2.out.2.1 g hg).2),HI2.out.2.2.1.kept b15 (yyH _),HI2.out.2.2.2.1.imp fun _ _ z=>⟨z.name,z.most,z.next,owns_same z.r fun g _ hg=>b15.block g hg,owns_same z.o fun g _ hg=>b15.block g hg⟩,hx5,r5,hP5.bel.size⟩
    have HC:Hid (V3.heap[V2.heap.size]? = some (.cells (qpcells zQp).toArray 59 (0,0))/\V4.heap[V2.heap.size]? = some (.cells (qpcells x).toArray 59 (0,0))):=⟨z3,x4⟩
    have c4:V4.cell? ⟨g1,4,none⟩=some (.slice qa qn qc):=box_at ((HI2.out.1.go (keptW b2 b4)).blk) rfl
    obtain ⟨ii,hii,hzz,hss,hbb⟩:=infoQP
    have hz5:(qpv zQp).cells.size=5:=rfl
    clear z3 x4 b3 b4 b5 r5 b15 hP5 hx5 hx b2
    go_wp2_with (first
     |refine wpList_store_row rfl 59 _ _ rfl V2.heap.size (qpcells x).toArray rfl rfl 59 (qpcells zQp).toArray (by first | exact HC.out.1 | (rw [f3]; exact HC.out.1)) infoQp rfl (oneQp _) ?_; (try rw [f3]); (try rw [f4])
     |refine wpList_load_row rfl 59 _ rfl V2.heap.size rfl 59 #[.string x.name,.int .i64 x.most,.int .u64 x.next,.slice x.r.1 x.r.2.1 x.r.2.2,.slice x.o.1 x.o.2.1 x.o.2.2] (0,0) _ HC.out.2 Tryz.underlying59 rfl infoQp ?_
     |(at_builtin; (try rw [f5]); refine K.wpList_append_rows (enc:=qpcells) rfl (.tmp 49) (.tmp 51) 45 rfl Tryz.underlying45 ii (qpv zQp) 80 hii hzz hss hbb hz5 w.heap.size (.slice qa qn qc) (.slice (some ⟨V4.heap.size,0,none⟩) 1 1) Q [x] rfl rfl HB.out.2.2.1 HB.out.2.2.2.2.2.1 (by have:=HI2.out.2.2.2.2.2; unfold maxLen; show Q.length+1<=_; omega) (by have:=HI2.out.2.2.2.2.2; show (Q.length+1)*80<=_; omega) HB.out.2.2.2.2.2.2 ?_; intro v6 w6 o6 g6 n6; have bu6:=but_grown HB.out.2.2.1 g6 HB.out.2.2.2.2.2.2; obtain ⟨va6,vc6,hv6⟩:=o6.rng.slice; obtain ⟨nv6,hnv6⟩ : ∃ z,(Q++[x]).length=z:=⟨_,rfl⟩; rw [hnv6] at hv6; subst hv6; clear hnv6; have hi6:=HB.out.1.is.addQ bu6 (v:=(va6,nv6,vc6)) (y:=(n,q)) HB.out.2.2.2.1 o6 HB.out.2.2.2.2.1; have bl6:=(bu6.keep _ _ _ _ HB.out.1.blk (by decide)).trans HB.out.1.blk; have fz6:w6.frozen? ⟨g1,4,none⟩=false:=frozen_of_row w6 g1 4 _ _ bl6; have c6:w6.cell? ⟨g1,4,none⟩=some (.slice qa qn qc):=box_at bl6 rfl; have P6:Hid (PIn w (w6.setCell ⟨g1,4,none⟩ (.slice va6 nv6 vc6)) g1 ⟨sq,bt,(xa,xn,xc),(ba,bn,bc),(va6,nv6,vc6),(sa,sn,sc),(la,ln,lc)⟩ s (s.qs.take i++[(n,q)]) [] []):=HB.out.1.put bu6 (by decide) hi6 (j:=4) rfl; have N6:Hid (Own1 (w6.setCell ⟨g1,4,none⟩ (.slice va6 nv6 vc6)) w.heap.size 9 (.slice (some ⟨bb,off,none⟩) nn nc) (scells (s.qs.map Prod.fst))):=owns_but (owns_but HB.out.2.1 bu6 (by decide)) (but_setCell (B:=w.heap.size) bl6 (Nat.le_of_lt HB.out.1.ne) _) (by decide); clear bu6 hi6 bl6 o6 g6 n6))
    go_wp2
    go_roundg (nn-(i+1))
    case measure=>omega
    case rel=>exact ⟨i+1,congrArg (Value.int IntKind.i64) (by have:=HI63.out; unfold wrap64; omega),by omega,rfl,_,by rw [HI2.out.2.2.2.2.1]; exact P6.out,N6.out⟩
   ·have hlt' : ¬ (i:Int)<(nn:Int):=by omega
    obtain rfl:i=nn:=by omega
    obtain ⟨P2,hP2,_⟩:=HI.out
    rw [List.take_of_length_le (by rw [HN1.out.1]; exact yyH _)] at hP2
    have HP2:Hid (PIn w wr g1 P2 s s.qs [] []):=hP2
    have hO:=HR.out.os wr hP2.bel
    obtain ⟨_,_,_,d8⟩:=HR.out.cells wr hP2.bel
    clear hP2 HI HL1 HN1 hi hlt hlt'
    go_wp2_with fail
    refine hO.mono ?_
    rintro e V1 ⟨vn,rfl,on,b1⟩
    clear hO d8
    obtain ⟨na,nc,hvn⟩:=on.row.slice
    obtain ⟨nn,hnn⟩ : ∃ z,(S.places (S.liveL s.bk)).length=z:=⟨_,rfl⟩
    rw [icells_length,hnn] at hvn
    subst hvn
    have HL1:Hid (PIn w V1 g1 P2 s s.qs [] []/\Own1 V1 w.heap.size 3 (.slice na nn nc) (icells (S.places (S.liveL s.bk)))):=⟨HP2.out.go b1,own1_lower on HP2.out.bel.size⟩
    have HN1:Hid ((S.places (S.liveL s.bk)).length=nn/\nn<=1000):=⟨hnn,by rw [<- hnn,S.places_len]; have:=S.liveK_len s.bk 8; unfold S.liveL; omega⟩
    clear on b1 HP2 hnn
    go_wp2
    go_loopg [9,61] nn (fun g u9 u61 wr => ∃ i:Nat,u61=.int .i64 (i:Int)/\i<=nn/\g=nn-i/\Hid (∃ P,PIn w wr g1 P s s.qs ((S.places (S.liveL s.bk)).take i) []/\Own1 wr w.heap.size 3 (.slice na nn nc) (icells (S.places (S.liveL s.bk)))))
    case atStart=>exact ⟨0,rfl,Nat.zero_le _,rfl,P2,HL1.out.1,HL1.out.2⟩
    case round =>
     obtain ⟨i,rfl,hi,rfl,HI⟩:=hrel
     by_cases hlt:i<nn
     ·have hlt':(i:Int)<(nn:Int):=by omega
      have hil:i<(S.places (S.liveL s.bk)).length:=by rw [HN1.out.1]; exact hlt
      obtain ⟨o,hy⟩ : ∃ y,(S.places (S.liveL s.bk))[i]=y:=⟨_,rfl⟩
      have htk:(S.places (S.liveL s.bk)).take (i+1)=(S.places (S.liveL s.bk)).take i++[o]:=by rw [List.take_succ_eq_append_getElem hil,hy]
      obtain ⟨P,hP,hOn⟩:=HI.out
      obtain ⟨bb,off,cap',hv,hc1,hc2,hcs⟩:=hOn.row.at (by rw [icells_length]; omega)
      have hc:wr.cell? ⟨bb,off+i,none⟩=some (.int .i64 o):=by
       rw [hcs i (by rw [icells_length]; exact hil)]
       simp [icells,hy]
      rw [icells_length,HN1.out.1] at hv hc1
      injection hv with hv1 _ hv2
      subst hv1 hv2
      obtain ⟨sq,bt,⟨xa,xn,xc⟩,⟨ba,bn,bc⟩,⟨qa,qn,qc⟩,⟨sa,sn,sc⟩,⟨la,ln,lc⟩⟩:=P
      obtain ⟨Q,oQ,aQ⟩:=hP.is.s
      have HI2:Hid (PIn w wr g1 ⟨sq,bt,(xa,xn,xc),(ba,bn,bc),(qa,qn,qc),(sa,sn,sc),(la,ln,lc)⟩ s s.qs ((S.places (S.liveL s.bk)).take i) []/\Own1 wr w.heap.size 3 (.slice (some ⟨bb,off,none⟩) nn nc) (icells (S.places (S.liveL s.bk)))/\OwnSp wr w.heap.size (.slice sa sn sc) Q/\All2 (SpIs wr w.heap.size s.bk) Q ((S.places (S.liveL s.bk)).take i)/\(S.places (S.liveL s.bk)).take (i+1)=(S.places (S.liveL s.bk)).take i++[o]/\Q.length<=1000):=⟨hP,hOn,oQ,aQ,htk,by rw [aQ.len,List.length_take]; have:=HN1.out.2; omega⟩
      have HI63:Hid (i<9223372036854775807):=by have:=HN1.out.2; show i<_; omega
      have HCE:Hid (∀ V',Below wr.heap.size wr V'->V'.cell? ⟨p,8,none⟩=some (.pointer (some ⟨bp,0,none⟩))/\V'.cell? ⟨g1,5,none⟩=some (.slice sa sn sc)):=fun V' b=>⟨(HR.out.cells V' (keptW hP.bel b)).2.2.2,box_at (hP.go b).blk rfl⟩
      skip
      clear HI hP hOn oQ aQ htk hy hcs hc1 hc2 hil
      go_wp2
      clear hc
      refine wp_region_noPanic ?_
      refine wp_region_held_drew (S:=fun w'=>w'.cell? ⟨p,8,none⟩=some (.pointer (some ⟨bp,0,none⟩))) (by kernel_rfl) (HCE.out wr.drew (drew_below wr)).1 (fun hHeld=>?_)
      refine wpAnyH_take (i:=0) (v:=.pointer (some ⟨g1,5,none⟩)) (by simp only [yyG,yyE]; rfl) (by kernel_rfl) (by kernel_rfl) (by kernel_rfl) (fun _ _ _ h=>h) (Or.inl ⟨by rfl,?_⟩) (by assumption) ?_
      ·(intro wq hSq; clear hSq; go_simp; try with_reducible rfl)
      try simp only [Act.put,yyA,yyB,yyC]
      refine wpAnyH_take (i:=2) (v:=.int .i64 o) (by simp only [yyG,yyF,yyE]; rfl) (by kernel_rfl) (by kernel_rfl) (by kernel_rfl) (fun _ _ _ h=>h) (Or.inl ⟨by rfl,?_⟩) (by assumption) ?_
      ·(intro wq hSq; clear hSq; go_simp; try with_reducible rfl)
      try simp only [Act.put,yyA,yyB,yyC]
      refine wpAnyH_take (i:=3) (v:=.pointer (some ⟨p,0,none⟩)) (by simp only [yyG,yyF,yyE]; rfl) (by kernel_rfl) (by kernel_rfl) (by kernel_rfl) (fun _ _ _ h=>h) (Or.inl ⟨by rfl,?_⟩) (by assumption) ?_
      ·(intro wq hSq; clear hSq; go_simp; try with_reducible rfl)
      try simp only [Act.put,yyA,yyB,yyC]
      refine wpAnyH_take (i:=4) (v:=.pointer (some ⟨p,0,none⟩)) (by simp only [yyG,yyF,yyE]; rfl) (by kernel_rfl) (by kernel_rfl) (by kernel_rfl) (fun _ _ _ h=>h) (Or.inl ⟨by rfl,?_⟩) (by assumption) ?_
      ·(intro wq hSq; clear hSq; go_simp; try with_reducible rfl)
      try simp only [Act.put,yyA,yyB,yyC]
      refine wpAnyH_take (i:=5) (v:=.pointer (some ⟨p,8,none⟩)) (by simp only [yyG,yyF,yyE]; rfl) (by kernel_rfl) (by kernel_rfl) (by kernel_rfl) (fun _ _ _ h=>h) (Or.inl ⟨by rfl,?_⟩) (by assumption) ?_
      ·(intro wq hSq; clear hSq; go_simp; try with_reducible rfl)
      try simp only [Act.put,yyA,yyB,yyC]
      refine wpAnyH_take (i:=6) (v:=.pointer (some ⟨bp,0,none⟩)) (by simp only [yyG,yyF,yyE]; rfl) (by kernel_rfl) (by kernel_rfl) (by kernel_rfl) (fun _ _ _ h=>h) (Or.inl ⟨by rfl,?_⟩) (by assumption) ?_
      ·(intro wq hSq; go_simp; try with_reducible rfl)
      try simp only [Act.put,yyA,yyB,yyC]
      refine wpAnyH_take (i:=7) (v:=.int .i64 o) (by simp only [yyG,yyF,yyE]; rfl) (by kernel_rfl) (by kernel_rfl) (by kernel_rfl) (fun _ _ _ h=>h) (Or.inl ⟨by rfl,?_⟩) (by assumption) ?_
      ·(intro wq hSq; clear hSq; go_simp; try with_reducible rfl)
      try simp only [Act.put,yyA,yyB,yyC]
      obtain ⟨V0,fV0⟩ : ∃ X,wr.drew=X:=⟨_,rfl⟩
      have B0:Below wr.heap.size wr V0:=by rw [<- fV0]; exact drew_below wr
      rw [fV0] at hHeld ⊢
      clear fV0
      refine wpAnyH_ready (rs:=[1,8]) (by kernel_rfl) (by simp) ?_
      refine AllReadyH.cons rfl (fun KK hK=>?_) ?_
      ·skip
       have cl:=(HCE.out V0 B0).2
       go_simp
       refine hK.out _ _ (HCE.out V0 B0).1 (fun hHeld=>?_)
       clear hK KK
       try simp only [Act.put,yyA,yyB,yyC]
       clear cl
       refine wpAnyH_ready (rs:=[8]) (by kernel_rfl) (by simp) ?_
       refine AllReadyH.cons rfl (fun KK hK=>?_) AllReadyH.nil
       go_simp
       go_at_call 30
       refine (HR.out.rs V0 o (keptW HI2.out.1.bel B0)).mono ?_
       rintro e V2 ⟨v2,rfl,o2,B2⟩
       obtain ⟨ra,rc,hvr⟩:=o2.rng.slice
       obtain ⟨rn,hrn⟩ : ∃ z,(S.ofF s.bk o).length=z:=⟨_,rfl⟩
       rw [hrn] at hvr
       subst hvr
       clear hrn
       dsimp only
       refine hK.out _ _ (HCE.out V2 (keptW B0 B2)).1 (fun hHeld=>?_)
       clear hK KK
       try simp only [Act.put,yyA,yyB,yyC]
       refine wpAnyH_ready (rs:=[9]) (by kernel_rfl) (by simp) ?_
       refine AllReadyH.cons rfl (fun KK hK=>?_) AllReadyH.nil
       go_simp
       refine hK.out _ _ (HCE.out V2 (keptW B0 B2)).1 (fun hHeld=>?_)
       clear hK KK
       try simp only [Act.put,yyA,yyB,yyC]
       refine wpAnyH_ready (rs:=[10]) (by kernel_rfl) (by simp) ?_
       refine AllReadyH.cons rfl (fun KK hK=>?_) AllReadyH.nil
       go_simp
       obtain ⟨V5,f5⟩ : ∃ X,V2.alloc (.cells #[.int .i64 o,.slice ra rn rc] 99)=X:=⟨_,rfl⟩
       have B5:Below V2.heap.size V2 V5:=by rw [<- f5]; exact box_below V2 _
       have r5:K.RowOf spcells V5 (.slice (some ⟨V2.heap.size,0,none⟩) 1 1) [(o,(ra,rn,rc))]:=by rw [<- f5]; exact K.rowK_one V2 (o,(ra,rn,rc)) _ rfl
       try rw [f5]
       clear f5
       refine hK.out _ _ (HCE.out V5 (keptW (keptW B0 B2) B5)).1 (fun hHeld=>?_)
       clear hK KK
       try simp only [Act.put,yyA,yyB,yyC]
       have b15:=(keptW (keptW B0 B2) B5)
       have hP5:=HI2.out.1.go b15
       have hx5:SpIs V5 w.heap.size s.bk (o,(ra,rn,rc)) o:=⟨rfl,owns_same (owns_lower o2 (by have:=HI2.out.1.bel.size; have:=B0.size; omega)) fun g _ hg=>B5.block g hg⟩
       have HB:Hid (PIn w V5 g1 ⟨sq,bt,(xa,xn,xc),(ba,bn,bc),(qa,qn,qc),(sa,sn,sc),(la,ln,lc)⟩ s s.qs ((S.places (S.liveL s.bk)).take i) []/\Own1 V5 w.heap.size 3 (.slice (some ⟨bb,off,none⟩) nn nc) (icells (S.places (S.liveL s.bk)))/\OwnSp V5 w.heap.size (.slice sa sn sc) Q/\All2 (SpIs V5 w.heap.size s.bk) Q ((S.places (S.liveL s.bk)).take i)/\SpIs V5 w.heap.size s.bk (o,(ra,rn,rc)) o/\w.heap.size<=V5.heap.size):=⟨hP5,own1_same HI2.out.2.1 (fun g hg=>b15.block g (World.ownsRow.lt HI2.out.2.1 g hg).2),HI2.out.2.2.1.kept b15 (yyH _),HI2.out.2.2.2.1.imp fun _ _ z=>⟨z.1,owns_same z.2 fun g _ hg=>b15.block g hg⟩,hx5,hP5.bel.size⟩
       obtain ⟨ii,hii,hzz,hss,hbb⟩:=infoSP
       clear b15 hP5 hx5 o2
       refine wpAnyH_ready (rs:=[11]) (by kernel_rfl) (by simp) ?_
       refine AllReadyH.cons rfl (fun KK hK=>?_) AllReadyH.nil
       refine K.step_append_rows (enc:=spcells) rfl (.tmp 66) (.tmp 75) 46 rfl Tryz.underlying46 ii (.agg #[.int .i64 0,.slice none 0 0]) 32 hii hzz hss hbb rfl w.heap.size (.slice sa sn sc) (.slice (some ⟨V2.heap.size,0,none⟩) 1 1) Q [(o,(ra,rn,rc))] (by first | rfl | simp [Act.eval]) (by first | rfl | simp [Act.eval]) HB.out.2.2.1 r5 (by have:=HI2.out.2.2.2.2.2; unfold maxLen; show Q.length+1<=_; omega) (by have:=HI2.out.2.2.2.2.2; show (Q.length+1)*32<=_; omega) HB.out.2.2.2.2.2 ?_
       intro v6 w6 o6 g6 n6
       have bu6:=but_grown HB.out.2.2.1 g6 HB.out.2.2.2.2.2
       obtain ⟨va6,vc6,hv6⟩:=o6.rng.slice
       obtain ⟨nv6,hnv6⟩ : ∃ z,(Q++[(o,((ra,rn,rc):Sl))]).length=z:=⟨_,rfl⟩
       rw [hnv6] at hv6
       subst hv6
       clear hnv6
       have hi6:=HB.out.1.is.addS bu6 (v:=(va6,nv6,vc6)) (o:=o) HB.out.2.2.2.1 o6 HB.out.2.2.2.2.1
       have bl6:=(bu6.keep _ _ _ _ HB.out.1.blk (by decide)).trans HB.out.1.blk
       have fz6:w6.frozen? ⟨g1,5,none⟩=false:=frozen_of_row w6 g1 5 _ _ bl6
       have c6:w6.cell? ⟨g1,5,none⟩=some (.slice sa sn sc):=box_at bl6 rfl
       have P6:Hid (PIn w (w6.setCell ⟨g1,5,none⟩ (.slice va6 nv6 vc6)) g1 ⟨sq,bt,(xa,xn,xc),(ba,bn,bc),(qa,qn,qc),(va6,nv6,vc6),(la,ln,lc)⟩ s s.qs ((S.places (S.liveL s.bk)).take i++[o]) []):=HB.out.1.put bu6 (by decide) hi6 (j:=5) rfl
       have N6:Hid (Own1 (w6.setCell ⟨g1,5,none⟩ (.slice va6 nv6 vc6)) w.heap.size 3 (.slice (some ⟨bb,off,none⟩) nn nc) (icells (S.places (S.liveL s.bk)))):=owns_but (owns_but HB.out.2.1 bu6 (by decide)) (but_setCell (B:=w.heap.size) bl6 (Nat.le_of_lt HB.out.1.ne) _) (by decide)
       have C6:=(HR.out.cells w6 (HB.out.1.bel.trans bu6.bel)).2.2.2
       clear bu6 hi6 bl6 o6 g6 n6 r5 hii hzz hss hbb
       refine hK.out _ _ C6 (fun hHeld=>?_)
       clear hK KK
       try simp only [Act.put,yyA]
       refine wpAnyH_take (i:=12) (v:=.pointer (some ⟨g1,5,none⟩)) (by simp only [yyG,yyF,yyE]; rfl) (by kernel_rfl) (by kernel_rfl) (by kernel_rfl) (fun _ _ _ h=>h) (Or.inl ⟨by rfl,?_⟩) (by assumption) ?_
       ·(intro wq hSq; clear hSq; go_simp; try with_reducible rfl)
       try simp only [Act.put]
       refine wpAnyH_ready (rs:=[13]) (by kernel_rfl) (by simp) ?_
       refine AllReadyH.cons rfl (fun KK hK=>?_) AllReadyH.nil
       go_simp
       refine hK.out _ _ (HR.out.cells _ P6.out.bel).2.2.2 (fun hHeld=>?_)
       clear hK KK
       try simp only [Act.put,yyA]
       refine wpAnyH_done (by kernel_rfl) ?_ _
       refine NoPanic.normal ?_
       clear hHeld
       clear C6 c6 fz6
       go_wp2
       go_roundg (nn-(i+1))
       case measure=>omega
       case rel=>exact ⟨i+1,congrArg (Value.int IntKind.i64) (by have:=HI63.out; unfold wrap64; omega),by omega,rfl,_,by rw [HI2.out.2.2.2.2.1]; exact P6.out,N6.out⟩
      refine AllReadyH.cons rfl (fun KK hK=>?_) AllReadyH.nil
      go_simp
      go_at_call 30
      refine (HR.out.rs V0 o (keptW HI2.out.1.bel B0)).mono ?_
      rintro e V2 ⟨v2,rfl,o2,B2⟩
      obtain ⟨ra,rc,hvr⟩:=o2.rng.slice
      obtain ⟨rn,hrn⟩ : ∃ z,(S.ofF s.bk o).length=z:=⟨_,rfl⟩
      rw [hrn] at hvr
      subst hvr
      clear hrn
      dsimp only
      refine hK.out _ _ (HCE.out V2 (keptW B0 B2)).1 (fun hHeld=>?_)
      clear hK KK
      try simp only [Act.put,yyA,yyB,yyC]
      refine wpAnyH_ready (rs:=[1,9]) (by kernel_rfl) (by simp) ?_
      refine AllReadyH.cons rfl (fun KK hK=>?_) ?_
      ·skip
       have cl:=(HCE.out V2 (keptW B0 B2)).2
       go_simp
       refine hK.out _ _ (HCE.out V2 (keptW B0 B2)).1 (fun hHeld=>?_)
       clear hK KK
       try simp only [Act.put,yyA,yyB,yyC]
       clear cl
       refine wpAnyH_ready (rs:=[9]) (by kernel_rfl) (by simp) ?_
       refine AllReadyH.cons rfl (fun KK hK=>?_) AllReadyH.nil
       go_simp
       refine hK.out _ _ (HCE.out V2 (keptW B0 B2)).1 (fun hHeld=>?_)
       clear hK KK
       try simp only [Act.put,yyA,yyB,yyC]
       refine wpAnyH_ready (rs:=[10]) (by kernel_rfl) (by simp) ?_
       refine AllReadyH.cons rfl (fun KK hK=>?_) AllReadyH.nil
       go_simp
       obtain ⟨V5,f5⟩ : ∃ X,V2.alloc (.cells #[.int .i64 o,.slice ra rn rc] 99)=X:=⟨_,rfl⟩
       have B5:Below V2.heap.size V2 V5:=by rw [<- f5]; exact box_below V2 _
       have r5:K.RowOf spcells V5 (.slice (some ⟨V2.heap.size,0,none⟩) 1 1) [(o,(ra,rn,rc))]:=by rw [<- f5]; exact K.rowK_one V2 (o,(ra,rn,rc)) _ rfl
       try rw [f5]
       clear f5
       refine hK.out _ _ (HCE.out V5 (keptW (keptW B0 B2) B5)).1 (fun hHeld=>?_)
       clear hK KK
       try simp only [Act.put,yyA,yyB,yyC]
       have b15:=(keptW (keptW B0 B2) B5)
       have hP5:=HI2.out.1.go b15
       have hx5:SpIs V5 w.heap.size s.bk (o,(ra,rn,rc)) o:=⟨rfl,owns_same (owns_lower o2 (by have:=HI2.out.1.bel.size; have:=B0.size; omega)) fun g _ hg=>B5.block g hg⟩
       have HB:Hid (PIn w V5 g1 ⟨sq,bt,(xa,xn,xc),(ba,bn,bc),(qa,qn,qc),(sa,sn,sc),(la,ln,lc)⟩ s s.qs ((S.places (S.liveL s.bk)).take i) []/\Own1 V5 w.heap.size 3 (.slice (some ⟨bb,off,none⟩) nn nc) (icells (S.places (S.liveL s.bk)))/\OwnSp V5 w.heap.size (.slice sa sn sc) Q/\All2 (SpIs V5 w.heap.size s.bk) Q ((S.places (S.liveL s.bk)).take i)/\SpIs V5 w.heap.size s.bk (o,(ra,rn,rc)) o/\w.heap.size<=V5.heap.size):=⟨hP5,own1_same HI2.out.2.1 (fun g hg=>b15.block g (World.ownsRow.lt HI2.out.2.1 g hg).2),HI2.out.2.2.1.kept b15 (yyH _),HI2.out.2.2.2.1.imp fun _ _ z=>⟨z.1,owns_same z.2 fun g _ hg=>b15.block g hg⟩,hx5,hP5.bel.size⟩
       obtain ⟨ii,hii,hzz,hss,hbb⟩:=infoSP
       clear b15 hP5 hx5 o2
       refine wpAnyH_ready (rs:=[11]) (by kernel_rfl) (by simp) ?_
       refine AllReadyH.cons rfl (fun KK hK=>?_) AllReadyH.nil
       refine K.step_append_rows (enc:=spcells) rfl (.tmp 66) (.tmp 75) 46 rfl Tryz.underlying46 ii (.agg #[.int .i64 0,.slice none 0 0]) 32 hii hzz hss hbb rfl w.heap.size (.slice sa sn sc) (.slice (some ⟨V2.heap.size,0,none⟩) 1 1) Q [(o,(ra,rn,rc))] (by first | rfl | simp [Act.eval]) (by first | rfl | simp [Act.eval]) HB.out.2.2.1 r5 (by have:=HI2.out.2.2.2.2.2; unfold maxLen; show Q.length+1<=_; omega) (by have:=HI2.out.2.2.2.2.2; show (Q.length+1)*32<=_; omega) HB.out.2.2.2.2.2 ?_
       intro v6 w6 o6 g6 n6
       have bu6:=but_grown HB.out.2.2.1 g6 HB.out.2.2.2.2.2
       obtain ⟨va6,vc6,hv6⟩:=o6.rng.slice
       obtain ⟨nv6,hnv6⟩ : ∃ z,(Q++[(o,((ra,rn,rc):Sl))]).length=z:=⟨_,rfl⟩
       rw [hnv6] at hv6
       subst hv6
       clear hnv6
       have hi6:=HB.out.1.is.addS bu6 (v:=(va6,nv6,vc6)) (o:=o) HB.out.2.2.2.1 o6 HB.out.2.2.2.2.1
       have bl6:=(bu6.keep _ _ _ _ HB.out.1.blk (by decide)).trans HB.out.1.blk
       have fz6:w6.frozen? ⟨g1,5,none⟩=false:=frozen_of_row w6 g1 5 _ _ bl6
       have c6:w6.cell? ⟨g1,5,none⟩=some (.slice sa sn sc):=box_at bl6 rfl
       have P6:Hid (PIn w (w6.setCell ⟨g1,5,none⟩ (.slice va6 nv6 vc6)) g1 ⟨sq,bt,(xa,xn,xc),(ba,bn,bc),(qa,qn,qc),(va6,nv6,vc6),(la,ln,lc)⟩ s s.qs ((S.places (S.liveL s.bk)).take i++[o]) []):=HB.out.1.put bu6 (by decide) hi6 (j:=5) rfl
       have N6:Hid (Own1 (w6.setCell ⟨g1,5,none⟩ (.slice va6 nv6 vc6)) w.heap.size 3 (.slice (some ⟨bb,off,none⟩) nn nc) (icells (S.places (S.liveL s.bk)))):=owns_but (owns_but HB.out.2.1 bu6 (by decide)) (but_setCell (B:=w.heap.size) bl6 (Nat.le_of_lt HB.out.1.ne) _) (by decide)
       have C6:=(HR.out.cells w6 (HB.out.1.bel.trans bu6.bel)).2.2.2
       clear bu6 hi6 bl6 o6 g6 n6 r5 hii hzz hss hbb
       refine hK.out _ _ C6 (fun hHeld=>?_)
       clear hK KK
       try simp only [Act.put,yyA]
       refine wpAnyH_take (i:=12) (v:=.pointer (some ⟨g1,5,none⟩)) (by simp only [yyG,yyF,yyE]; rfl) (by kernel_rfl) (by kernel_rfl) (by kernel_rfl) (fun _ _ _ h=>h) (Or.inl ⟨by rfl,?_⟩) (by assumption) ?_
       ·(intro wq hSq; clear hSq; go_simp; try with_reducible rfl)
       try simp only [Act.put]
       refine wpAnyH_ready (rs:=[13]) (by kernel_rfl) (by simp) ?_
       refine AllReadyH.cons rfl (fun KK hK=>?_) AllReadyH.nil
       go_simp
       refine hK.out _ _ (HR.out.cells _ P6.out.bel).2.2.2 (fun hHeld=>?_)
       clear hK KK
       try simp only [Act.put,yyA]
       refine wpAnyH_done (by kernel_rfl) ?_ _
       refine NoPanic.normal ?_
       clear hHeld
       clear C6 c6 fz6
       go_wp2
       go_roundg (nn-(i+1))
       case measure=>omega
       case rel=>exact ⟨i+1,congrArg (Value.int IntKind.i64) (by have:=HI63.out; unfold wrap64; omega),by omega,rfl,_,by rw [HI2.out.2.2.2.2.1]; exact P6.out,N6.out⟩
      refine AllReadyH.cons rfl (fun KK hK=>?_) AllReadyH.nil
      go_simp
      refine hK.out _ _ (HCE.out V2 (keptW B0 B2)).1 (fun hHeld=>?_)
      clear hK KK
      try simp only [Act.put,yyA,yyB,yyC]
      refine wpAnyH_ready (rs:=[1,10]) (by kernel_rfl) (by simp) ?_
      refine AllReadyH.cons rfl (fun KK hK=>?_) ?_
      ·skip
       have cl:=(HCE.out V2 (keptW B0 B2)).2
       go_simp
       refine hK.out _ _ (HCE.out V2 (keptW B0 B2)).1 (fun hHeld=>?_)
       clear hK KK
       try simp only [Act.put,yyA,yyB,yyC]
       clear cl
       refine wpAnyH_ready (rs:=[10]) (by kernel_rfl) (by simp) ?_
       refine AllReadyH.cons rfl (fun KK hK=>?_) AllReadyH.nil
       go_simp
       obtain ⟨V5,f5⟩ : ∃ X,V2.alloc (.cells #[.int .i64 o,.slice ra rn rc] 99)=X:=⟨_,rfl⟩
       have B5:Below V2.heap.size V2 V5:=by rw [<- f5]; exact box_below V2 _
       have r5:K.RowOf spcells V5 (.slice (some ⟨V2.heap.size,0,none⟩) 1 1) [(o,(ra,rn,rc))]:=by rw [<- f5]; exact K.rowK_one V2 (o,(ra,rn,rc)) _ rfl
       try rw [f5]
       clear f5
       refine hK.out _ _ (HCE.out V5 (keptW (keptW B0 B2) B5)).1 (fun hHeld=>?_)
       clear hK KK
       try simp only [Act.put,yyA,yyB,yyC]
       have b15:=(keptW (keptW B0 B2) B5)
       have hP5:=HI2.out.1.go b15
       have hx5:SpIs V5 w.heap.size s.bk (o,(ra,rn,rc)) o:=⟨rfl,owns_same (owns_lower o2 (by have:=HI2.out.1.bel.size; have:=B0.size; omega)) fun g _ hg=>B5.block g hg⟩
       have HB:Hid (PIn w V5 g1 ⟨sq,bt,(xa,xn,xc),(ba,bn,bc),(qa,qn,qc),(sa,sn,sc),(la,ln,lc)⟩ s s.qs ((S.places (S.liveL s.bk)).take i) []/\Own1 V5 w.heap.size 3 (.slice (some ⟨bb,off,none⟩) nn nc) (icells (S.places (S.liveL s.bk)))/\OwnSp V5 w.heap.size (.slice sa sn sc) Q/\All2 (SpIs V5 w.heap.size s.bk) Q ((S.places (S.liveL s.bk)).take i)/\SpIs V5 w.heap.size s.bk (o,(ra,rn,rc)) o/\w.heap.size<=V5.heap.size):=⟨hP5,own1_same HI2.out.2.1 (fun g hg=>b15.block g (World.ownsRow.lt HI2.out.2.1 g hg).2),HI2.out.2.2.1.kept b15 (yyH _),HI2.out.2.2.2.1.imp fun _ _ z=>⟨z.1,owns_same z.2 fun g _ hg=>b15.block g hg⟩,hx5,hP5.bel.size⟩
       obtain ⟨ii,hii,hzz,hss,hbb⟩:=infoSP
       clear b15 hP5 hx5 o2
       refine wpAnyH_ready (rs:=[11]) (by kernel_rfl) (by simp) ?_
       refine AllReadyH.cons rfl (fun KK hK=>?_) AllReadyH.nil
       refine K.step_append_rows (enc:=spcells) rfl (.tmp 66) (.tmp 75) 46 rfl Tryz.underlying46 ii (.agg #[.int .i64 0,.slice none 0 0]) 32 hii hzz hss hbb rfl w.heap.size (.slice sa sn sc) (.slice (some ⟨V2.heap.size,0,none⟩) 1 1) Q [(o,(ra,rn,rc))] (by first | rfl | simp [Act.eval]) (by first | rfl | simp [Act.eval]) HB.out.2.2.1 r5 (by have:=HI2.out.2.2.2.2.2; unfold maxLen; show Q.length+1<=_; omega) (by have:=HI2.out.2.2.2.2.2; show (Q.length+1)*32<=_; omega) HB.out.2.2.2.2.2 ?_
       intro v6 w6 o6 g6 n6
       have bu6:=but_grown HB.out.2.2.1 g6 HB.out.2.2.2.2.2
       obtain ⟨va6,vc6,hv6⟩:=o6.rng.slice
       obtain ⟨nv6,hnv6⟩ : ∃ z,(Q++[(o,((ra,rn,rc):Sl))]).length=z:=⟨_,rfl⟩
       rw [hnv6] at hv6
       subst hv6
       clear hnv6
       have hi6:=HB.out.1.is.addS bu6 (v:=(va6,nv6,vc6)) (o:=o) HB.out.2.2.2.1 o6 HB.out.2.2.2.2.1
       have bl6:=(bu6.keep _ _ _ _ HB.out.1.blk (by decide)).trans HB.out.1.blk
       have fz6:w6.frozen? ⟨g1,5,none⟩=false:=frozen_of_row w6 g1 5 _ _ bl6
       have c6:w6.cell? ⟨g1,5,none⟩=some (.slice sa sn sc):=box_at bl6 rfl
       have P6:Hid (PIn w (w6.setCell ⟨g1,5,none⟩ (.slice va6 nv6 vc6)) g1 ⟨sq,bt,(xa,xn,xc),(ba,bn,bc),(qa,qn,qc),(va6,nv6,vc6),(la,ln,lc)⟩ s s.qs ((S.places (S.liveL s.bk)).take i++[o]) []):=HB.out.1.put bu6 (by decide) hi6 (j:=5) rfl
       have N6:Hid (Own1 (w6.setCell ⟨g1,5,none⟩ (.slice va6 nv6 vc6)) w.heap.size 3 (.slice (some ⟨bb,off,none⟩) nn nc) (icells (S.places (S.liveL s.bk)))):=owns_but (owns_but HB.out.2.1 bu6 (by decide)) (but_setCell (B:=w.heap.size) bl6 (Nat.le_of_lt HB.out.1.ne) _) (by decide)
       have C6:=(HR.out.cells w6 (HB.out.1.bel.trans bu6.bel)).2.2.2
       clear bu6 hi6 bl6 o6 g6 n6 r5 hii hzz hss hbb
       refine hK.out _ _ C6 (fun hHeld=>?_)
       clear hK KK
       try simp only [Act.put,yyA]
       refine wpAnyH_take (i:=12) (v:=.pointer (some ⟨g1,5,none⟩)) (by simp only [yyG,yyF,yyE]; rfl) (by kernel_rfl) (by kernel_rfl) (by kernel_rfl) (fun _ _ _ h=>h) (Or.inl ⟨by rfl,?_⟩) (by assumption) ?_
       ·(intro wq hSq; clear hSq; go_simp; try with_reducible rfl)
       try simp only [Act.put]
       refine wpAnyH_ready (rs:=[13]) (by kernel_rfl) (by simp) ?_
       refine AllReadyH.cons rfl (fun KK hK=>?_) AllReadyH.nil
       go_simp
       refine hK.out _ _ (HR.out.cells _ P6.out.bel).2.2.2 (fun hHeld=>?_)
       clear hK KK
       try simp only [Act.put,yyA]
       refine wpAnyH_done (by kernel_rfl) ?_ _
       refine NoPanic.normal ?_
       clear hHeld
       clear C6 c6 fz6
       go_wp2
       go_roundg (nn-(i+1))
       case measure=>omega
       case rel=>exact ⟨i+1,congrArg (Value.int IntKind.i64) (by have:=HI63.out; unfold wrap64; omega),by omega,rfl,_,by rw [HI2.out.2.2.2.2.1]; exact P6.out,N6.out⟩
      refine AllReadyH.cons rfl (fun KK hK=>?_) AllReadyH.nil
      go_simp
      obtain ⟨V5,f5⟩ : ∃ X,V2.alloc (.cells #[.int .i64 o,.slice ra rn rc] 99)=X:=⟨_,rfl⟩
      have B5:Below V2.heap.size V2 V5:=by rw [<- f5]; exact box_below V2 _
      have r5:K.RowOf spcells V5 (.slice (some ⟨V2.heap.size,0,none⟩) 1 1) [(o,(ra,rn,rc))]:=by rw [<- f5]; exact K.rowK_one V2 (o,(ra,rn,rc)) _ rfl
      try rw [f5]
      clear f5
      refine hK.out _ _ (HCE.out V5 (keptW (keptW B0 B2) B5)).1 (fun hHeld=>?_)
      clear hK KK
      try simp only [Act.put,yyA,yyB,yyC]
      refine wpAnyH_ready (rs:=[1]) (by kernel_rfl) (by simp) ?_
      refine AllReadyH.cons rfl (fun KK hK=>?_) AllReadyH.nil
      have cl:=(HCE.out V5 (keptW (keptW B0 B2) B5)).2
      go_simp
      refine hK.out _ _ (HCE.out V5 (keptW (keptW B0 B2) B5)).1 (fun hHeld=>?_)
      clear hK KK
      try simp only [Act.put,yyA,yyB,yyC]
      clear cl
      have b15:=(keptW (keptW B0 B2) B5)
      have hP5:=HI2.out.1.go b15
      have hx5:SpIs V5 w.heap.size s.bk (o,(ra,rn,rc)) o:=⟨rfl,owns_same (owns_lower o2 (by have:=HI2.out.1.bel.size; have:=B0.size; omega)) fun g _ hg=>B5.block g hg⟩
      have HB:Hid (PIn w V5 g1 ⟨sq,bt,(xa,xn,xc),(ba,bn,bc),(qa,qn,qc),(sa,sn,sc),(la,ln,lc)⟩ s s.qs ((S.places (S.liveL s.bk)).take i) []/\Own1 V5 w.heap.size 3 (.slice (some ⟨bb,off,none⟩) nn nc) (icells (S.places (S.liveL s.bk)))/\OwnSp V5 w.heap.size (.slice sa sn sc) Q/\All2 (SpIs V5 w.heap.size s.bk) Q ((S.places (S.liveL s.bk)).take i)/\SpIs V5 w.heap.size s.bk (o,(ra,rn,rc)) o/\w.heap.size<=V5.heap.size):=⟨hP5,own1_same HI2.out.2.1 (fun g hg=>b15.block g (World.ownsRow.lt HI2.out.2.1 g hg).2),HI2.out.2.2.1.kept b15 (yyH _),HI2.out.2.2.2.1.imp fun _ _ z=>⟨z.1,owns_same z.2 fun g _ hg=>b15.block g hg⟩,hx5,hP5.bel.size⟩
      obtain ⟨ii,hii,hzz,hss,hbb⟩:=infoSP
      clear b15 hP5 hx5 o2
      refine wpAnyH_ready (rs:=[11]) (by kernel_rfl) (by simp) ?_
      refine AllReadyH.cons rfl (fun KK hK=>?_) AllReadyH.nil
      refine K.step_append_rows (enc:=spcells) rfl (.tmp 66) (.tmp 75) 46 rfl Tryz.underlying46 ii (.agg #[.int .i64 0,.slice none 0 0]) 32 hii hzz hss hbb rfl w.heap.size (.slice sa sn sc) (.slice (some ⟨V2.heap.size,0,none⟩) 1 1) Q [(o,(ra,rn,rc))] (by first | rfl | simp [Act.eval]) (by first | rfl | simp [Act.eval]) HB.out.2.2.1 r5 (by have:=HI2.out.2.2.2.2.2; unfold maxLen; show Q.length+1<=_; omega) (by have:=HI2.out.2.2.2.2.2; show (Q.length+1)*32<=_; omega) HB.out.2.2.2.2.2 ?_
      intro v6 w6 o6 g6 n6
      have bu6:=but_grown HB.out.2.2.1 g6 HB.out.2.2.2.2.2
      obtain ⟨va6,vc6,hv6⟩:=o6.rng.slice
      obtain ⟨nv6,hnv6⟩ : ∃ z,(Q++[(o,((ra,rn,rc):Sl))]).length=z:=⟨_,rfl⟩
      rw [hnv6] at hv6
      subst hv6
      clear hnv6
      have hi6:=HB.out.1.is.addS bu6 (v:=(va6,nv6,vc6)) (o:=o) HB.out.2.2.2.1 o6 HB.out.2.2.2.2.1
      have bl6:=(bu6.keep _ _ _ _ HB.out.1.blk (by decide)).trans HB.out.1.blk
      have fz6:w6.frozen? ⟨g1,5,none⟩=false:=frozen_of_row w6 g1 5 _ _ bl6
      have c6:w6.cell? ⟨g1,5,none⟩=some (.slice sa sn sc):=box_at bl6 rfl
      have P6:Hid (PIn w (w6.setCell ⟨g1,5,none⟩ (.slice va6 nv6 vc6)) g1 ⟨sq,bt,(xa,xn,xc),(ba,bn,bc),(qa,qn,qc),(va6,nv6,vc6),(la,ln,lc)⟩ s s.qs ((S.places (S.liveL s.bk)).take i++[o]) []):=HB.out.1.put bu6 (by decide) hi6 (j:=5) rfl
      have N6:Hid (Own1 (w6.setCell ⟨g1,5,none⟩ (.slice va6 nv6 vc6)) w.heap.size 3 (.slice (some ⟨bb,off,none⟩) nn nc) (icells (S.places (S.liveL s.bk)))):=owns_but (owns_but HB.out.2.1 bu6 (by decide)) (but_setCell (B:=w.heap.size) bl6 (Nat.le_of_lt HB.out.1.ne) _) (by decide)
      have C6:=(HR.out.cells w6 (HB.out.1.bel.trans bu6.bel)).2.2.2
      clear bu6 hi6 bl6 o6 g6 n6 r5 hii hzz hss hbb
      refine hK.out _ _ C6 (fun hHeld=>?_)
      clear hK KK
      try simp only [Act.put,yyA]
      refine wpAnyH_take (i:=12) (v:=.pointer (some ⟨g1,5,none⟩)) (by simp only [yyG,yyF,yyE]; rfl) (by kernel_rfl) (by kernel_rfl) (by kernel_rfl) (fun _ _ _ h=>h) (Or.inl ⟨by rfl,?_⟩) (by assumption) ?_
      ·(intro wq hSq; clear hSq; go_simp; try with_reducible rfl)
      try simp only [Act.put]
      refine wpAnyH_ready (rs:=[13]) (by kernel_rfl) (by simp) ?_
      refine AllReadyH.cons rfl (fun KK hK=>?_) AllReadyH.nil
      go_simp
      refine hK.out _ _ (HR.out.cells _ P6.out.bel).2.2.2 (fun hHeld=>?_)
      clear hK KK
      try simp only [Act.put,yyA]
      refine wpAnyH_done (by kernel_rfl) ?_ _
      refine NoPanic.normal ?_
      clear hHeld
      clear C6 c6 fz6
      go_wp2
      go_roundg (nn-(i+1))
      case measure=>omega
      case rel=>exact ⟨i+1,congrArg (Value.int IntKind.i64) (by have:=HI63.out; unfold wrap64; omega),by omega,rfl,_,by rw [HI2.out.2.2.2.2.1]; exact P6.out,N6.out⟩
     ·have hlt' : ¬ (i:Int)<(nn:Int):=by omega
      obtain rfl:i=nn:=by omega
      obtain ⟨P2,hP2,_⟩:=HI.out
      rw [List.take_of_length_le (by rw [HN1.out.1]; exact yyH _)] at hP2
      have HP2:Hid (PIn w wr g1 P2 s s.qs (S.places (S.liveL s.bk)) []):=hP2
      have hO:=wanting14_any p G s wr (HR.out.st wr hP2.bel) H0.out.1.up (by have:=H0.out.1.nlk; omega)
      clear hP2 HI HL1 HN1 hi hlt hlt'
      go_wp2_with fail
      refine hO.mono ?_
      rintro e V1 ⟨vn,rfl,on,b1⟩
      clear hO
      obtain ⟨na,nc,hvn⟩:=on.row.slice
      obtain ⟨nn,hnn⟩ : ∃ z,(s.lk.map Prod.fst).length=z:=⟨_,rfl⟩
      rw [icells_length,hnn] at hvn
      subst hvn
      have HL1:Hid (PIn w V1 g1 P2 s s.qs (S.places (S.liveL s.bk)) []/\Own1 V1 w.heap.size 3 (.slice na nn nc) (icells (s.lk.map Prod.fst))):=⟨HP2.out.go b1,own1_lower on HP2.out.bel.size⟩
      have HN1:Hid ((s.lk.map Prod.fst).length=nn/\nn<=1000):=⟨hnn,by rw [<- hnn,List.length_map]; have:=H0.out.1.nlk; omega⟩
      clear on b1 HP2 hnn
      go_wp2
      go_loopg [11,82] nn (fun g u11 u82 wr => ∃ i:Nat,u82=.int .i64 (i:Int)/\i<=nn/\g=nn-i/\Hid (∃ P,PIn w wr g1 P s s.qs (S.places (S.liveL s.bk)) (s.lk.take i)/\Own1 wr w.heap.size 3 (.slice na nn nc) (icells (s.lk.map Prod.fst))))
      case atStart=>exact ⟨0,rfl,Nat.zero_le _,rfl,P2,HL1.out.1,HL1.out.2⟩
      case round =>
       obtain ⟨i,rfl,hi,rfl,HI⟩:=hrel
       by_cases hlt:i<nn
       ·have hlt':(i:Int)<(nn:Int):=by omega
        have hil:i<(s.lk.map Prod.fst).length:=by rw [HN1.out.1]; exact hlt
        have hil':i<s.lk.length:=by simpa using hil
        obtain ⟨⟨o,ms⟩,hy'⟩ : ∃ y,s.lk[i]=y:=⟨_,rfl⟩
        have hy:(s.lk.map Prod.fst)[i]=o:=by rw [List.getElem_map,hy']
        have htk:s.lk.take (i+1)=s.lk.take i++[(o,ms)]:=by rw [List.take_succ_eq_append_getElem hil',hy']
        have hm:(o,ms)∈s.lk:=by rw [<- hy']; exact List.getElem_mem hil'
        obtain ⟨P,hP,hOn⟩:=HI.out
        obtain ⟨bb,off,cap',hv,hc1,hc2,hcs⟩:=hOn.row.at (by rw [icells_length]; omega)
        have hc:wr.cell? ⟨bb,off+i,none⟩=some (.int .i64 o):=by
         rw [hcs i (by rw [icells_length]; exact hil)]
         simp [icells,hy']
        rw [icells_length,HN1.out.1] at hv hc1
        injection hv with hv1 _ hv2
        subst hv1 hv2
        obtain ⟨sq,bt,⟨xa,xn,xc⟩,⟨ba,bn,bc⟩,⟨qa,qn,qc⟩,⟨sa,sn,sc⟩,⟨la,ln,lc⟩⟩:=P
        obtain ⟨Q,oQ,aQ⟩:=hP.is.l
        have HI2:Hid (PIn w wr g1 ⟨sq,bt,(xa,xn,xc),(ba,bn,bc),(qa,qn,qc),(sa,sn,sc),(la,ln,lc)⟩ s s.qs (S.places (S.liveL s.bk)) (s.lk.take i)/\Own1 wr w.heap.size 3 (.slice (some ⟨bb,off,none⟩) nn nc) (icells (s.lk.map Prod.fst))/\OwnLp wr w.heap.size (.slice la ln lc) Q/\All2 (LpIs wr w.heap.size) Q (s.lk.take i)/\s.lk.take (i+1)=s.lk.take i++[(o,ms)]/\Q.length<=1000):=⟨hP,hOn,oQ,aQ,htk,by rw [aQ.len,List.length_take]; have:=HN1.out.2; omega⟩
        have HI63:Hid (i<9223372036854775807):=by have:=HN1.out.2; show i<_; omega
        have HCE:Hid (∀ V',Below wr.heap.size wr V'->V'.cell? ⟨p,8,none⟩=some (.pointer (some ⟨bp,0,none⟩))/\V'.cell? ⟨g1,6,none⟩=some (.slice la ln lc)):=fun V' b=>⟨(HR.out.cells V' (keptW hP.bel b)).2.2.2,box_at (hP.go b).blk rfl⟩
        have HLk:Hid (∀ V',Below wr.heap.size wr V'->Calls Tryz.prog 14 #[.pointer (some ⟨p,0,none⟩),.int .i64 o] V' fun e w' => ∃ v',e=.returned v'/\OwnM w' V'.heap.size v' ms/\Below V'.heap.size V' w'):=fun V' b=>by
         have:=link_any p G s o V' (HR.out.st V' (keptW hP.bel b)) H0.out.1.fit (H0.out.1.fit.small _ hm)
         rw [linkOf_in H0.out.1.fit.tos hm] at this
         exact this
        clear hm hy' hil'
        clear HI hP hOn oQ aQ htk hy hcs hc1 hc2 hil
        go_wp2
        clear hc
        refine wp_region_noPanic ?_
        refine wp_region_held_drew (S:=fun w'=>w'.cell? ⟨p,8,none⟩=some (.pointer (some ⟨bp,0,none⟩))) (by kernel_rfl) (HCE.out wr.drew (drew_below wr)).1 (fun hHeld=>?_)
        refine wpAnyH_take (i:=0) (v:=.pointer (some ⟨g1,6,none⟩)) (by simp only [yyG,yyE]; rfl) (by kernel_rfl) (by kernel_rfl) (by kernel_rfl) (fun _ _ _ h=>h) (Or.inl ⟨by rfl,?_⟩) (by assumption) ?_
        ·(intro wq hSq; clear hSq; go_simp; try with_reducible rfl)
        try simp only [Act.put,yyA,yyB,yyC]
        refine wpAnyH_take (i:=2) (v:=.int .i64 o) (by simp only [yyG,yyF,yyE]; rfl) (by kernel_rfl) (by kernel_rfl) (by kernel_rfl) (fun _ _ _ h=>h) (Or.inl ⟨by rfl,?_⟩) (by assumption) ?_
        ·(intro wq hSq; clear hSq; go_simp; try with_reducible rfl)
        try simp only [Act.put,yyA,yyB,yyC]
        refine wpAnyH_take (i:=3) (v:=.pointer (some ⟨p,0,none⟩)) (by simp only [yyG,yyF,yyE]; rfl) (by kernel_rfl) (by kernel_rfl) (by kernel_rfl) (fun _ _ _ h=>h) (Or.inl ⟨by rfl,?_⟩) (by assumption) ?_
        ·(intro wq hSq; clear hSq; go_simp; try with_reducible rfl)
        try simp only [Act.put,yyA,yyB,yyC]
        refine wpAnyH_take (i:=4) (v:=.int .i64 o) (by simp only [yyG,yyF,yyE]; rfl) (by kernel_rfl) (by kernel_rfl) (by kernel_rfl) (fun _ _ _ h=>h) (Or.inl ⟨by rfl,?_⟩) (by assumption) ?_
        ·(intro wq hSq; clear hSq; go_simp; try with_reducible rfl)
        try simp only [Act.put,yyA,yyB,yyC]
        obtain ⟨V0,fV0⟩ : ∃ X,wr.drew=X:=⟨_,rfl⟩
        have B0:Below wr.heap.size wr V0:=by rw [<- fV0]; exact drew_below wr
        rw [fV0] at hHeld ⊢
        clear fV0
        refine wpAnyH_ready (rs:=[1,5]) (by kernel_rfl) (by simp) ?_
        refine AllReadyH.cons rfl (fun KK hK=>?_) ?_
        ·skip
         have cl:=(HCE.out V0 B0).2
         go_simp
         refine hK.out _ _ (HCE.out V0 B0).1 (fun hHeld=>?_)
         clear hK KK
         try simp only [Act.put,yyA,yyB,yyC]
         clear cl
         refine wpAnyH_ready (rs:=[5]) (by kernel_rfl) (by simp) ?_
         refine AllReadyH.cons rfl (fun KK hK=>?_) AllReadyH.nil
         go_simp
         go_at_call 14
         refine (HLk.out V0 B0).mono ?_
         rintro e V2 ⟨v2,rfl,o2,B2⟩
         obtain ⟨ra,rc,hvr⟩:=o2.rng.slice
         obtain ⟨rn,hrn⟩ : ∃ z,ms.length=z:=⟨_,rfl⟩
         rw [hrn] at hvr
         subst hvr
         clear hrn
         dsimp only
         refine hK.out _ _ (HCE.out V2 (keptW B0 B2)).1 (fun hHeld=>?_)
         clear hK KK
         try simp only [Act.put,yyA,yyB,yyC]
         refine wpAnyH_ready (rs:=[6]) (by kernel_rfl) (by simp) ?_
         refine AllReadyH.cons rfl (fun KK hK=>?_) AllReadyH.nil
         go_simp
         refine hK.out _ _ (HCE.out V2 (keptW B0 B2)).1 (fun hHeld=>?_)
         clear hK KK
         try simp only [Act.put,yyA,yyB,yyC]
         refine wpAnyH_ready (rs:=[7]) (by kernel_rfl) (by simp) ?_
         refine AllReadyH.cons rfl (fun KK hK=>?_) AllReadyH.nil
         go_simp
         obtain ⟨V5,f5⟩ : ∃ X,V2.alloc (.cells #[.int .i64 o,.slice ra rn rc] 101)=X:=⟨_,rfl⟩
         have B5:Below V2.heap.size V2 V5:=by rw [<- f5]; exact box_below V2 _
         have r5:K.RowOf spcells V5 (.slice (some ⟨V2.heap.size,0,none⟩) 1 1) [(o,(ra,rn,rc))]:=by rw [<- f5]; exact K.rowK_one V2 (o,(ra,rn,rc)) _ rfl
         try rw [f5]
         clear f5
         refine hK.out _ _ (HCE.out V5 (keptW (keptW B0 B2) B5)).1 (fun hHeld=>?_)
         clear hK KK
         try simp only [Act.put,yyA,yyB,yyC]
         have b15:=(keptW (keptW B0 B2) B5)
         have hP5:=HI2.out.1.go b15
         have hx5:LpIs V5 w.heap.size (o,(ra,rn,rc)) (o,ms):=⟨rfl,owns_same (owns_lower o2 (by have:=HI2.out.1.bel.size; have:=B0.size; omega)) fun g _ hg=>B5.block g hg⟩
         have HB:Hid (PIn w V5 g1 ⟨sq,bt,(xa,xn,xc),(ba,bn,bc),(qa,qn,qc),(sa,sn,sc),(la,ln,lc)⟩ s s.qs (S.places (S.liveL s.bk)) (s.lk.take i)/\Own1 V5 w.heap.size 3 (.slice (some ⟨bb,off,none⟩) nn nc) (icells (s.lk.map Prod.fst))/\OwnLp V5 w.heap.size (.slice la ln lc) Q/\All2 (LpIs V5 w.heap.size) Q (s.lk.take i)/\LpIs V5 w.heap.size (o,(ra,rn,rc)) (o,ms)/\w.heap.size<=V5.heap.size):=⟨hP5,own1_same HI2.out.2.1 (fun g hg=>b15.block g (World.ownsRow.lt HI2.out.2.1 g hg).2),HI2.out.2.2.1.kept b15 (yyH _),HI2.out.2.2.2.1.imp fun _ _ z=>⟨z.1,owns_same z.2 fun g _ hg=>b15.block g hg⟩,hx5,hP5.bel.size⟩
         obtain ⟨ii,hii,hzz,hss,hbb⟩:=infoLP
         clear b15 hP5 hx5 o2
         refine wpAnyH_ready (rs:=[8]) (by kernel_rfl) (by simp) ?_
         refine AllReadyH.cons rfl (fun KK hK=>?_) AllReadyH.nil
         refine K.step_append_rows (enc:=spcells) rfl (.tmp 87) (.tmp 93) 47 rfl Tryz.underlying47 ii (.agg #[.int .i64 0,.slice none 0 0]) 32 hii hzz hss hbb rfl w.heap.size (.slice la ln lc) (.slice (some ⟨V2.heap.size,0,none⟩) 1 1) Q [(o,(ra,rn,rc))] (by first | rfl | simp [Act.eval]) (by first | rfl | simp [Act.eval]) HB.out.2.2.1 r5 (by have:=HI2.out.2.2.2.2.2; unfold maxLen; show Q.length+1<=_; omega) (by have:=HI2.out.2.2.2.2.2; show (Q.length+1)*32<=_; omega) HB.out.2.2.2.2.2 ?_
         intro v6 w6 o6 g6 n6
         have bu6:=but_grown HB.out.2.2.1 g6 HB.out.2.2.2.2.2
         obtain ⟨va6,vc6,hv6⟩:=o6.rng.slice
         obtain ⟨nv6,hnv6⟩ : ∃ z,(Q++[(o,((ra,rn,rc):Sl))]).length=z:=⟨_,rfl⟩
         rw [hnv6] at hv6
         subst hv6
         clear hnv6
         have hi6:=HB.out.1.is.addL bu6 (v:=(va6,nv6,vc6)) (y:=(o,ms)) HB.out.2.2.2.1 o6 HB.out.2.2.2.2.1
         have bl6:=(bu6.keep _ _ _ _ HB.out.1.blk (by decide)).trans HB.out.1.blk
         have fz6:w6.frozen? ⟨g1,6,none⟩=false:=frozen_of_row w6 g1 6 _ _ bl6
         have c6:w6.cell? ⟨g1,6,none⟩=some (.slice la ln lc):=box_at bl6 rfl
         have P6:Hid (PIn w (w6.setCell ⟨g1,6,none⟩ (.slice va6 nv6 vc6)) g1 ⟨sq,bt,(xa,xn,xc),(ba,bn,bc),(qa,qn,qc),(sa,sn,sc),(va6,nv6,vc6)⟩ s s.qs (S.places (S.liveL s.bk)) (s.lk.take i++[(o,ms)])):=HB.out.1.put bu6 (by decide) hi6 (j:=6) rfl
         have N6:Hid (Own1 (w6.setCell ⟨g1,6,none⟩ (.slice va6 nv6 vc6)) w.heap.size 3 (.slice (some ⟨bb,off,none⟩) nn nc) (icells (s.lk.map Prod.fst))):=owns_but (owns_but HB.out.2.1 bu6 (by decide)) (but_setCell (B:=w.heap.size) bl6 (Nat.le_of_lt HB.out.1.ne) _) (by decide)
         have C6:=(HR.out.cells w6 (HB.out.1.bel.trans bu6.bel)).2.2.2
         clear bu6 hi6 bl6 o6 g6 n6 r5 hii hzz hss hbb
         refine hK.out _ _ C6 (fun hHeld=>?_)
         clear hK KK
         try simp only [Act.put,yyA]
         refine wpAnyH_take (i:=9) (v:=.pointer (some ⟨g1,6,none⟩)) (by simp only [yyG,yyF,yyE]; rfl) (by kernel_rfl) (by kernel_rfl) (by kernel_rfl) (fun _ _ _ h=>h) (Or.inl ⟨by rfl,?_⟩) (by assumption) ?_
         ·(intro wq hSq; clear hSq; go_simp; try with_reducible rfl)
         try simp only [Act.put]
         refine wpAnyH_ready (rs:=[10]) (by kernel_rfl) (by simp) ?_
         refine AllReadyH.cons rfl (fun KK hK=>?_) AllReadyH.nil
         go_simp
         refine hK.out _ _ (HR.out.cells _ P6.out.bel).2.2.2 (fun hHeld=>?_)
         clear hK KK
         try simp only [Act.put,yyA]
         refine wpAnyH_done (by kernel_rfl) ?_ _
         refine NoPanic.normal ?_
         clear hHeld
         clear C6 c6 fz6
         go_wp2
         go_roundg (nn-(i+1))
         case measure=>omega
         case rel=>exact ⟨i+1,congrArg (Value.int IntKind.i64) (by have:=HI63.out; unfold wrap64; omega),by omega,rfl,_,by rw [HI2.out.2.2.2.2.1]; exact P6.out,N6.out⟩
        refine AllReadyH.cons rfl (fun KK hK=>?_) AllReadyH.nil
        go_simp
        go_at_call 14
        refine (HLk.out V0 B0).mono ?_
        rintro e V2 ⟨v2,rfl,o2,B2⟩
        obtain ⟨ra,rc,hvr⟩:=o2.rng.slice
        obtain ⟨rn,hrn⟩ : ∃ z,ms.length=z:=⟨_,rfl⟩
        rw [hrn] at hvr
        subst hvr
        clear hrn
        dsimp only
        refine hK.out _ _ (HCE.out V2 (keptW B0 B2)).1 (fun hHeld=>?_)
        clear hK KK
        try simp only [Act.put,yyA,yyB,yyC]
        refine wpAnyH_ready (rs:=[1,6]) (by kernel_rfl) (by simp) ?_
        refine AllReadyH.cons rfl (fun KK hK=>?_) ?_
        ·skip
         have cl:=(HCE.out V2 (keptW B0 B2)).2
         go_simp
         refine hK.out _ _ (HCE.out V2 (keptW B0 B2)).1 (fun hHeld=>?_)
         clear hK KK
         try simp only [Act.put,yyA,yyB,yyC]
         clear cl
         refine wpAnyH_ready (rs:=[6]) (by kernel_rfl) (by simp) ?_
         refine AllReadyH.cons rfl (fun KK hK=>?_) AllReadyH.nil
         go_simp
         refine hK.out _ _ (HCE.out V2 (keptW B0 B2)).1 (fun hHeld=>?_)
         clear hK KK
         try simp only [Act.put,yyA,yyB,yyC]
         refine wpAnyH_ready (rs:=[7]) (by kernel_rfl) (by simp) ?_
         refine AllReadyH.cons rfl (fun KK hK=>?_) AllReadyH.nil
         go_simp
         obtain ⟨V5,f5⟩ : ∃ X,V2.alloc (.cells #[.int .i64 o,.slice ra rn rc] 101)=X:=⟨_,rfl⟩
         have B5:Below V2.heap.size V2 V5:=by rw [<- f5]; exact box_below V2 _
         have r5:K.RowOf spcells V5 (.slice (some ⟨V2.heap.size,0,none⟩) 1 1) [(o,(ra,rn,rc))]:=by rw [<- f5]; exact K.rowK_one V2 (o,(ra,rn,rc)) _ rfl
         try rw [f5]
         clear f5
         refine hK.out _ _ (HCE.out V5 (keptW (keptW B0 B2) B5)).1 (fun hHeld=>?_)
         clear hK KK
         try simp only [Act.put,yyA,yyB,yyC]
         have b15:=(keptW (keptW B0 B2) B5)
         have hP5:=HI2.out.1.go b15
         have hx5:LpIs V5 w.heap.size (o,(ra,rn,rc)) (o,ms):=⟨rfl,owns_same (owns_lower o2 (by have:=HI2.out.1.bel.size; have:=B0.size; omega)) fun g _ hg=>B5.block g hg⟩
         have HB:Hid (PIn w V5 g1 ⟨sq,bt,(xa,xn,xc),(ba,bn,bc),(qa,qn,qc),(sa,sn,sc),(la,ln,lc)⟩ s s.qs (S.places (S.liveL s.bk)) (s.lk.take i)/\Own1 V5 w.heap.size 3 (.slice (some ⟨bb,off,none⟩) nn nc) (icells (s.lk.map Prod.fst))/\OwnLp V5 w.heap.size (.slice la ln lc) Q/\All2 (LpIs V5 w.heap.size) Q (s.lk.take i)/\LpIs V5 w.heap.size (o,(ra,rn,rc)) (o,ms)/\w.heap.size<=V5.heap.size):=⟨hP5,own1_same HI2.out.2.1 (fun g hg=>b15.block g (World.ownsRow.lt HI2.out.2.1 g hg).2),HI2.out.2.2.1.kept b15 (yyH _),HI2.out.2.2.2.1.imp fun _ _ z=>⟨z.1,owns_same z.2 fun g _ hg=>b15.block g hg⟩,hx5,hP5.bel.size⟩
         obtain ⟨ii,hii,hzz,hss,hbb⟩:=infoLP
         clear b15 hP5 hx5 o2
         refine wpAnyH_ready (rs:=[8]) (by kernel_rfl) (by simp) ?_
         refine AllReadyH.cons rfl (fun KK hK=>?_) AllReadyH.nil
         refine K.step_append_rows (enc:=spcells) rfl (.tmp 87) (.tmp 93) 47 rfl Tryz.underlying47 ii (.agg #[.int .i64 0,.slice none 0 0]) 32 hii hzz hss hbb rfl w.heap.size (.slice la ln lc) (.slice (some ⟨V2.heap.size,0,none⟩) 1 1) Q [(o,(ra,rn,rc))] (by first | rfl | simp [Act.eval]) (by first | rfl | simp [Act.eval]) HB.out.2.2.1 r5 (by have:=HI2.out.2.2.2.2.2; unfold maxLen; show Q.length+1<=_; omega) (by have:=HI2.out.2.2.2.2.2; show (Q.length+1)*32<=_; omega) HB.out.2.2.2.2.2 ?_
         intro v6 w6 o6 g6 n6
         have bu6:=but_grown HB.out.2.2.1 g6 HB.out.2.2.2.2.2
         obtain ⟨va6,vc6,hv6⟩:=o6.rng.slice
         obtain ⟨nv6,hnv6⟩ : ∃ z,(Q++[(o,((ra,rn,rc):Sl))]).length=z:=⟨_,rfl⟩
         rw [hnv6] at hv6
         subst hv6
         clear hnv6
         have hi6:=HB.out.1.is.addL bu6 (v:=(va6,nv6,vc6)) (y:=(o,ms)) HB.out.2.2.2.1 o6 HB.out.2.2.2.2.1
         have bl6:=(bu6.keep _ _ _ _ HB.out.1.blk (by decide)).trans HB.out.1.blk
         have fz6:w6.frozen? ⟨g1,6,none⟩=false:=frozen_of_row w6 g1 6 _ _ bl6
         have c6:w6.cell? ⟨g1,6,none⟩=some (.slice la ln lc):=box_at bl6 rfl
         have P6:Hid (PIn w (w6.setCell ⟨g1,6,none⟩ (.slice va6 nv6 vc6)) g1 ⟨sq,bt,(xa,xn,xc),(ba,bn,bc),(qa,qn,qc),(sa,sn,sc),(va6,nv6,vc6)⟩ s s.qs (S.places (S.liveL s.bk)) (s.lk.take i++[(o,ms)])):=HB.out.1.put bu6 (by decide) hi6 (j:=6) rfl
         have N6:Hid (Own1 (w6.setCell ⟨g1,6,none⟩ (.slice va6 nv6 vc6)) w.heap.size 3 (.slice (some ⟨bb,off,none⟩) nn nc) (icells (s.lk.map Prod.fst))):=owns_but (owns_but HB.out.2.1 bu6 (by decide)) (but_setCell (B:=w.heap.size) bl6 (Nat.le_of_lt HB.out.1.ne) _) (by decide)
         have C6:=(HR.out.cells w6 (HB.out.1.bel.trans bu6.bel)).2.2.2
         clear bu6 hi6 bl6 o6 g6 n6 r5 hii hzz hss hbb
         refine hK.out _ _ C6 (fun hHeld=>?_)
         clear hK KK
         try simp only [Act.put,yyA]
         refine wpAnyH_take (i:=9) (v:=.pointer (some ⟨g1,6,none⟩)) (by simp only [yyG,yyF,yyE]; rfl) (by kernel_rfl) (by kernel_rfl) (by kernel_rfl) (fun _ _ _ h=>h) (Or.inl ⟨by rfl,?_⟩) (by assumption) ?_
         ·(intro wq hSq; clear hSq; go_simp; try with_reducible rfl)
         try simp only [Act.put]
         refine wpAnyH_ready (rs:=[10]) (by kernel_rfl) (by simp) ?_
         refine AllReadyH.cons rfl (fun KK hK=>?_) AllReadyH.nil
         go_simp
         refine hK.out _ _ (HR.out.cells _ P6.out.bel).2.2.2 (fun hHeld=>?_)
         clear hK KK
         try simp only [Act.put,yyA]
         refine wpAnyH_done (by kernel_rfl) ?_ _
         refine NoPanic.normal ?_
         clear hHeld
         clear C6 c6 fz6
         go_wp2
         go_roundg (nn-(i+1))
         case measure=>omega
         case rel=>exact ⟨i+1,congrArg (Value.int IntKind.i64) (by have:=HI63.out; unfold wrap64; omega),by omega,rfl,_,by rw [HI2.out.2.2.2.2.1]; exact P6.out,N6.out⟩
        refine AllReadyH.cons rfl (fun KK hK=>?_) AllReadyH.nil
        go_simp
        refine hK.out _ _ (HCE.out V2 (keptW B0 B2)).1 (fun hHeld=>?_)
        clear hK KK
        try simp only [Act.put,yyA,yyB,yyC]
        refine wpAnyH_ready (rs:=[1,7]) (by kernel_rfl) (by simp) ?_
        refine AllReadyH.cons rfl (fun KK hK=>?_) ?_
        ·skip
         have cl:=(HCE.out V2 (keptW B0 B2)).2
         go_simp
         refine hK.out _ _ (HCE.out V2 (keptW B0 B2)).1 (fun hHeld=>?_)
         clear hK KK
         try simp only [Act.put,yyA,yyB,yyC]
         clear cl
         refine wpAnyH_ready (rs:=[7]) (by kernel_rfl) (by simp) ?_
         refine AllReadyH.cons rfl (fun KK hK=>?_) AllReadyH.nil
         go_simp
         obtain ⟨V5,f5⟩ : ∃ X,V2.alloc (.cells #[.int .i64 o,.slice ra rn rc] 101)=X:=⟨_,rfl⟩
         have B5:Below V2.heap.size V2 V5:=by rw [<- f5]; exact box_below V2 _
         have r5:K.RowOf spcells V5 (.slice (some ⟨V2.heap.size,0,none⟩) 1 1) [(o,(ra,rn,rc))]:=by rw [<- f5]; exact K.rowK_one V2 (o,(ra,rn,rc)) _ rfl
         try rw [f5]
         clear f5
         refine hK.out _ _ (HCE.out V5 (keptW (keptW B0 B2) B5)).1 (fun hHeld=>?_)
         clear hK KK
         try simp only [Act.put,yyA,yyB,yyC]
         have b15:=(keptW (keptW B0 B2) B5)
         have hP5:=HI2.out.1.go b15
         have hx5:LpIs V5 w.heap.size (o,(ra,rn,rc)) (o,ms):=⟨rfl,owns_same (owns_lower o2 (by have:=HI2.out.1.bel.size; have:=B0.size; omega)) fun g _ hg=>B5.block g hg⟩
         have HB:Hid (PIn w V5 g1 ⟨sq,bt,(xa,xn,xc),(ba,bn,bc),(qa,qn,qc),(sa,sn,sc),(la,ln,lc)⟩ s s.qs (S.places (S.liveL s.bk)) (s.lk.take i)/\Own1 V5 w.heap.size 3 (.slice (some ⟨bb,off,none⟩) nn nc) (icells (s.lk.map Prod.fst))/\OwnLp V5 w.heap.size (.slice la ln lc) Q/\All2 (LpIs V5 w.heap.size) Q (s.lk.take i)/\LpIs V5 w.heap.size (o,(ra,rn,rc)) (o,ms)/\w.heap.size<=V5.heap.size):=⟨hP5,own1_same HI2.out.2.1 (fun g hg=>b15.block g (World.ownsRow.lt HI2.out.2.1 g hg).2),HI2.out.2.2.1.kept b15 (yyH _),HI2.out.2.2.2.1.imp fun _ _ z=>⟨z.1,owns_same z.2 fun g _ hg=>b15.block g hg⟩,hx5,hP5.bel.size⟩
         obtain ⟨ii,hii,hzz,hss,hbb⟩:=infoLP
         clear b15 hP5 hx5 o2
         refine wpAnyH_ready (rs:=[8]) (by kernel_rfl) (by simp) ?_
         refine AllReadyH.cons rfl (fun KK hK=>?_) AllReadyH.nil
         refine K.step_append_rows (enc:=spcells) rfl (.tmp 87) (.tmp 93) 47 rfl Tryz.underlying47 ii (.agg #[.int .i64 0,.slice none 0 0]) 32 hii hzz hss hbb rfl w.heap.size (.slice la ln lc) (.slice (some ⟨V2.heap.size,0,none⟩) 1 1) Q [(o,(ra,rn,rc))] (by first | rfl | simp [Act.eval]) (by first | rfl | simp [Act.eval]) HB.out.2.2.1 r5 (by have:=HI2.out.2.2.2.2.2; unfold maxLen; show Q.length+1<=_; omega) (by have:=HI2.out.2.2.2.2.2; show (Q.length+1)*32<=_; omega) HB.out.2.2.2.2.2 ?_
         intro v6 w6 o6 g6 n6
         have bu6:=but_grown HB.out.2.2.1 g6 HB.out.2.2.2.2.2
         obtain ⟨va6,vc6,hv6⟩:=o6.rng.slice
         obtain ⟨nv6,hnv6⟩ : ∃ z,(Q++[(o,((ra,rn,rc):Sl))]).length=z:=⟨_,rfl⟩
         rw [hnv6] at hv6
         subst hv6
         clear hnv6
         have hi6:=HB.out.1.is.addL bu6 (v:=(va6,nv6,vc6)) (y:=(o,ms)) HB.out.2.2.2.1 o6 HB.out.2.2.2.2.1
         have bl6:=(bu6.keep _ _ _ _ HB.out.1.blk (by decide)).trans HB.out.1.blk
         have fz6:w6.frozen? ⟨g1,6,none⟩=false:=frozen_of_row w6 g1 6 _ _ bl6
         have c6:w6.cell? ⟨g1,6,none⟩=some (.slice la ln lc):=box_at bl6 rfl
         have P6:Hid (PIn w (w6.setCell ⟨g1,6,none⟩ (.slice va6 nv6 vc6)) g1 ⟨sq,bt,(xa,xn,xc),(ba,bn,bc),(qa,qn,qc),(sa,sn,sc),(va6,nv6,vc6)⟩ s s.qs (S.places (S.liveL s.bk)) (s.lk.take i++[(o,ms)])):=HB.out.1.put bu6 (by decide) hi6 (j:=6) rfl
         have N6:Hid (Own1 (w6.setCell ⟨g1,6,none⟩ (.slice va6 nv6 vc6)) w.heap.size 3 (.slice (some ⟨bb,off,none⟩) nn nc) (icells (s.lk.map Prod.fst))):=owns_but (owns_but HB.out.2.1 bu6 (by decide)) (but_setCell (B:=w.heap.size) bl6 (Nat.le_of_lt HB.out.1.ne) _) (by decide)
         have C6:=(HR.out.cells w6 (HB.out.1.bel.trans bu6.bel)).2.2.2
         clear bu6 hi6 bl6 o6 g6 n6 r5 hii hzz hss hbb
         refine hK.out _ _ C6 (fun hHeld=>?_)
         clear hK KK
         try simp only [Act.put,yyA]
         refine wpAnyH_take (i:=9) (v:=.pointer (some ⟨g1,6,none⟩)) (by simp only [yyG,yyF,yyE]; rfl) (by kernel_rfl) (by kernel_rfl) (by kernel_rfl) (fun _ _ _ h=>h) (Or.inl ⟨by rfl,?_⟩) (by assumption) ?_
         ·(intro wq hSq; clear hSq; go_simp; try with_reducible rfl)
         try simp only [Act.put]
         refine wpAnyH_ready (rs:=[10]) (by kernel_rfl) (by simp) ?_
         refine AllReadyH.cons rfl (fun KK hK=>?_) AllReadyH.nil
         go_simp
         refine hK.out _ _ (HR.out.cells _ P6.out.bel).2.2.2 (fun hHeld=>?_)
         clear hK KK
         try simp only [Act.put,yyA]
         refine wpAnyH_done (by kernel_rfl) ?_ _
         refine NoPanic.normal ?_
         clear hHeld
         clear C6 c6 fz6
         go_wp2
         go_roundg (nn-(i+1))
         case measure=>omega
         case rel=>exact ⟨i+1,congrArg (Value.int IntKind.i64) (by have:=HI63.out; unfold wrap64; omega),by omega,rfl,_,by rw [HI2.out.2.2.2.2.1]; exact P6.out,N6.out⟩
        refine AllReadyH.cons rfl (fun KK hK=>?_) AllReadyH.nil
        go_simp
        obtain ⟨V5,f5⟩ : ∃ X,V2.alloc (.cells #[.int .i64 o,.slice ra rn rc] 101)=X:=⟨_,rfl⟩
        have B5:Below V2.heap.size V2 V5:=by rw [<- f5]; exact box_below V2 _
        have r5:K.RowOf spcells V5 (.slice (some ⟨V2.heap.size,0,none⟩) 1 1) [(o,(ra,rn,rc))]:=by rw [<- f5]; exact K.rowK_one V2 (o,(ra,rn,rc)) _ rfl
        try rw [f5]
        clear f5
        refine hK.out _ _ (HCE.out V5 (keptW (keptW B0 B2) B5)).1 (fun hHeld=>?_)
        clear hK KK
        try simp only [Act.put,yyA,yyB,yyC]
        refine wpAnyH_ready (rs:=[1]) (by kernel_rfl) (by simp) ?_
        refine AllReadyH.cons rfl (fun KK hK=>?_) AllReadyH.nil
        have cl:=(HCE.out V5 (keptW (keptW B0 B2) B5)).2
        go_simp
        refine hK.out _ _ (HCE.out V5 (keptW (keptW B0 B2) B5)).1 (fun hHeld=>?_)
        clear hK KK
        try simp only [Act.put,yyA,yyB,yyC]
        clear cl
        have b15:=(keptW (keptW B0 B2) B5)
        have hP5:=HI2.out.1.go b15
        have hx5:LpIs V5 w.heap.size (o,(ra,rn,rc)) (o,ms):=⟨rfl,owns_same (owns_lower o2 (by have:=HI2.out.1.bel.size; have:=B0.size; omega)) fun g _ hg=>B5.block g hg⟩
        have HB:Hid (PIn w V5 g1 ⟨sq,bt,(xa,xn,xc),(ba,bn,bc),(qa,qn,qc),(sa,sn,sc),(la,ln,lc)⟩ s s.qs (S.places (S.liveL s.bk)) (s.lk.take i)/\Own1 V5 w.heap.size 3 (.slice (some ⟨bb,off,none⟩) nn nc) (icells (s.lk.map Prod.fst))/\OwnLp V5 w.heap.size (.slice la ln lc) Q/\All2 (LpIs V5 w.heap.size) Q (s.lk.take i)/\LpIs V5 w.heap.size (o,(ra,rn,rc)) (o,ms)/\w.heap.size<=V5.heap.size):=⟨hP5,own1_same HI2.out.2.1 (fun g hg=>b15.block g (World.ownsRow.lt HI2.out.2.1 g hg).2),HI2.out.2.2.1.kept b15 (yyH _),HI2.out.2.2.2.1.imp fun _ _ z=>⟨z.1,owns_same z.2 fun g _ hg=>b15.block g hg⟩,hx5,hP5.bel.size⟩
        obtain ⟨ii,hii,hzz,hss,hbb⟩:=infoLP
        clear b15 hP5 hx5 o2
        refine wpAnyH_ready (rs:=[8]) (by kernel_rfl) (by simp) ?_
        refine AllReadyH.cons rfl (fun KK hK=>?_) AllReadyH.nil
        refine K.step_append_rows (enc:=spcells) rfl (.tmp 87) (.tmp 93) 47 rfl Tryz.underlying47 ii (.agg #[.int .i64 0,.slice none 0 0]) 32 hii hzz hss hbb rfl w.heap.size (.slice la ln lc) (.slice (some ⟨V2.heap.size,0,none⟩) 1 1) Q [(o,(ra,rn,rc))] (by first | rfl | simp [Act.eval]) (by first | rfl | simp [Act.eval]) HB.out.2.2.1 r5 (by have:=HI2.out.2.2.2.2.2; unfold maxLen; show Q.length+1<=_; omega) (by have:=HI2.out.2.2.2.2.2; show (Q.length+1)*32<=_; omega) HB.out.2.2.2.2.2 ?_
        intro v6 w6 o6 g6 n6
        have bu6:=but_grown HB.out.2.2.1 g6 HB.out.2.2.2.2.2
        obtain ⟨va6,vc6,hv6⟩:=o6.rng.slice
        obtain ⟨nv6,hnv6⟩ : ∃ z,(Q++[(o,((ra,rn,rc):Sl))]).length=z:=⟨_,rfl⟩
        rw [hnv6] at hv6
        subst hv6
        clear hnv6
        have hi6:=HB.out.1.is.addL bu6 (v:=(va6,nv6,vc6)) (y:=(o,ms)) HB.out.2.2.2.1 o6 HB.out.2.2.2.2.1
        have bl6:=(bu6.keep _ _ _ _ HB.out.1.blk (by decide)).trans HB.out.1.blk
        have fz6:w6.frozen? ⟨g1,6,none⟩=false:=frozen_of_row w6 g1 6 _ _ bl6
        have c6:w6.cell? ⟨g1,6,none⟩=some (.slice la ln lc):=box_at bl6 rfl
        have P6:Hid (PIn w (w6.setCell ⟨g1,6,none⟩ (.slice va6 nv6 vc6)) g1 ⟨sq,bt,(xa,xn,xc),(ba,bn,bc),(qa,qn,qc),(sa,sn,sc),(va6,nv6,vc6)⟩ s s.qs (S.places (S.liveL s.bk)) (s.lk.take i++[(o,ms)])):=HB.out.1.put bu6 (by decide) hi6 (j:=6) rfl
        have N6:Hid (Own1 (w6.setCell ⟨g1,6,none⟩ (.slice va6 nv6 vc6)) w.heap.size 3 (.slice (some ⟨bb,off,none⟩) nn nc) (icells (s.lk.map Prod.fst))):=owns_but (owns_but HB.out.2.1 bu6 (by decide)) (but_setCell (B:=w.heap.size) bl6 (Nat.le_of_lt HB.out.1.ne) _) (by decide)
        have C6:=(HR.out.cells w6 (HB.out.1.bel.trans bu6.bel)).2.2.2
        clear bu6 hi6 bl6 o6 g6 n6 r5 hii hzz hss hbb
        refine hK.out _ _ C6 (fun hHeld=>?_)
        clear hK KK
        try simp only [Act.put,yyA]
        refine wpAnyH_take (i:=9) (v:=.pointer (some ⟨g1,6,none⟩)) (by simp only [yyG,yyF,yyE]; rfl) (by kernel_rfl) (by kernel_rfl) (by kernel_rfl) (fun _ _ _ h=>h) (Or.inl ⟨by rfl,?_⟩) (by assumption) ?_
        ·(intro wq hSq; clear hSq; go_simp; try with_reducible rfl)
        try simp only [Act.put]
        refine wpAnyH_ready (rs:=[10]) (by kernel_rfl) (by simp) ?_
        refine AllReadyH.cons rfl (fun KK hK=>?_) AllReadyH.nil
        go_simp
        refine hK.out _ _ (HR.out.cells _ P6.out.bel).2.2.2 (fun hHeld=>?_)
        clear hK KK
        try simp only [Act.put,yyA]
        refine wpAnyH_done (by kernel_rfl) ?_ _
        refine NoPanic.normal ?_
        clear hHeld
        clear C6 c6 fz6
        go_wp2
        go_roundg (nn-(i+1))
        case measure=>omega
        case rel=>exact ⟨i+1,congrArg (Value.int IntKind.i64) (by have:=HI63.out; unfold wrap64; omega),by omega,rfl,_,by rw [HI2.out.2.2.2.2.1]; exact P6.out,N6.out⟩
       ·have hlt' : ¬ (i:Int)<(nn:Int):=by omega
        obtain rfl:i=nn:=by omega
        obtain ⟨P2,hP2,_⟩:=HI.out
        rw [List.take_of_length_le (by have:=HN1.out.1; rw [List.length_map] at this; rw [this]; exact yyH _)] at hP2
        have HP2:Hid (PIn w wr g1 P2 s s.qs (S.places (S.liveL s.bk)) s.lk):=hP2
        obtain ⟨sq,bt,⟨xa,xn,xc⟩,⟨ba,bn,bc⟩,⟨qa,qn,qc⟩,⟨sa,sn,sc⟩,⟨la,ln,lc⟩⟩:=P2
        clear hP2 HI HL1 HN1 hi hlt hlt'
        go_wp2_with (first
         |refine wpList_load_row rfl 49 _ rfl g1 rfl 49 #[.int .u64 sq,.int .u64 bt,.slice xa xn xc,.slice ba bn bc,.slice qa qn qc,.slice sa sn sc,.slice la ln lc] (0,0) _ HP2.out.blk Tryz.underlying49 rfl infoPt ?_
         |refine wpList_store_row rfl 49 _ _ rfl w.heap.size (ptcells ⟨sq,bt,(xa,xn,xc),(ba,bn,bc),(qa,qn,qc),(sa,sn,sc),(la,ln,lc)⟩).toArray rfl rfl 49 (ptcells zPt).toArray HP2.out.box infoPt rfl (onePt _) ?_)
        refine bodyPost_ret (results_cell_row rfl _ _ w.heap.size 49 (ptcells ⟨sq,bt,(xa,xn,xc),(ba,bn,bc),(qa,qn,qc),(sa,sn,sc),(la,ln,lc)⟩).toArray (0,0) _ rfl (setRow_heap _ _ _ _ _ _ HP2.out.box) Tryz.underlying49 rfl infoPt) rfl ?_
        exact ⟨⟨sq,bt,(xa,xn,xc),(ba,bn,bc),(qa,qn,qc),(sa,sn,sc),(la,ln,lc)⟩,rfl,HP2.out.is.butPt (but_setRow (B:=w.heap.size) HP2.out.box (yyH _) _),below_setRow HP2.out.bel (yyH _) _⟩
end Go.Proofs.YtnhnpnafchkhiaaGreatDoor
