import Derived.Test.YtnhnpnafchkhiaaGreatDoorQwA
import Derived.Test.YtnhnpnafchkhiaaGreatDoorQw30
import Derived.Test.YtnhnpnafchkhiaaGreatDoorQw28
set_option maxHeartbeats 1000000
set_option maxRecDepth 20000
namespace Go.Proofs.YtnhnpnafchkhiaaGreatDoor
open Go.RowKit
def AppPost (p:Nat) (G:Nat->Prop) (w:World) (ns:List ByteArray) (er:Int) (s':Sm) (e:Ending) (w':World):Prop := ∃ v',e=.returned (.tuple #[v',.int .i64 er])/\(Row w' v' (scells ns)/\Newer w.heap.size v' ns.length) /\ ∃ G',SS w' p G' s'/\Moved w w' G G'
theorem app_none {p:Nat} {G:Nat->Prop} {w V V':World} {er:Int} {s':Sm} (b:Below w.heap.size w V) (h:DeedPost p G V er s' (.returned (.int .i64 er)) V'):AppPost p G w [] er s' (.returned (.tuple #[.slice none 0 0,.int .i64 er])) V':=by
 obtain ⟨_,G',h1,h2⟩:=h
 exact ⟨_,rfl,⟨.inl ⟨rfl,rfl⟩,.inl rfl⟩,G',h1,Moved.from_below b h2⟩
theorem deed1_any (w:World):Calls Tryz.prog 37 #[.int .i64 1] w fun e w'=>e=.returned (.func (.func 81) #[] #[])/\w'=w:=by
 go_enter Tryz.func37,Tryz.ntmps37
 go_wp2
 go_ret
 exact ⟨rfl,rfl⟩
theorem deed2_any (w:World):Calls Tryz.prog 37 #[.int .i64 2] w fun e w'=>e=.returned (.func (.func 82) #[] #[])/\w'=w:=by
 go_enter Tryz.func37,Tryz.ntmps37
 go_wp2
 go_ret
 exact ⟨rfl,rfl⟩
theorem deed3_any (w:World):Calls Tryz.prog 37 #[.int .i64 3] w fun e w'=>e=.returned (.func (.func 83) #[] #[])/\w'=w:=by
 go_enter Tryz.func37,Tryz.ntmps37
 go_wp2
 go_ret
 exact ⟨rfl,rfl⟩
theorem deed4_any (w:World):Calls Tryz.prog 37 #[.int .i64 4] w fun e w'=>e=.returned (.func (.func 84) #[] #[])/\w'=w:=by
 go_enter Tryz.func37,Tryz.ntmps37
 go_wp2
 go_ret
 exact ⟨rfl,rfl⟩
theorem deed5_any (w:World):Calls Tryz.prog 37 #[.int .i64 5] w fun e w'=>e=.returned (.func (.func 85) #[] #[])/\w'=w:=by
 go_enter Tryz.func37,Tryz.ntmps37
 go_wp2
 go_ret
 exact ⟨rfl,rfl⟩
theorem deed6_any (w:World):Calls Tryz.prog 37 #[.int .i64 6] w fun e w'=>e=.returned (.func (.func 86) #[] #[])/\w'=w:=by
 go_enter Tryz.func37,Tryz.ntmps37
 go_wp2
 go_ret
 exact ⟨rfl,rfl⟩
theorem deed7_any (w:World):Calls Tryz.prog 37 #[.int .i64 7] w fun e w'=>e=.returned (.func (.func 87) #[] #[])/\w'=w:=by
 go_enter Tryz.func37,Tryz.ntmps37
 go_wp2
 go_ret
 exact ⟨rfl,rfl⟩
theorem deed8_any (w:World):Calls Tryz.prog 37 #[.int .i64 8] w fun e w'=>e=.returned (.func (.func 88) #[] #[])/\w'=w:=by
 go_enter Tryz.func37,Tryz.ntmps37
 go_wp2
 go_ret
 exact ⟨rfl,rfl⟩
theorem deed9_any (w:World):Calls Tryz.prog 37 #[.int .i64 9] w fun e w'=>e=.returned (.func (.func 89) #[] #[])/\w'=w:=by
 go_enter Tryz.func37,Tryz.ntmps37
 go_wp2
 go_ret
 exact ⟨rfl,rfl⟩
theorem deed10_any (w:World):Calls Tryz.prog 37 #[.int .i64 10] w fun e w'=>e=.returned (.func (.func 90) #[] #[])/\w'=w:=by
 go_enter Tryz.func37,Tryz.ntmps37
 go_wp2
 go_ret
 exact ⟨rfl,rfl⟩
theorem deed11_any (w:World):Calls Tryz.prog 37 #[.int .i64 11] w fun e w'=>e=.returned (.func (.func 91) #[] #[])/\w'=w:=by
 go_enter Tryz.func37,Tryz.ntmps37
 go_wp2
 go_ret
 exact ⟨rfl,rfl⟩
theorem deed12_any (w:World):Calls Tryz.prog 37 #[.int .i64 12] w fun e w'=>e=.returned (.func (.func 92) #[] #[])/\w'=w:=by
 go_enter Tryz.func37,Tryz.ntmps37
 go_wp2
 go_ret
 exact ⟨rfl,rfl⟩
theorem apply_bad (p:Nat) (G:Nat->Prop) (s:Sm) (a:Ax) (w:World) (h:SS w p G s) (hK:Kinds w) (ha:a.Fits) (hg:goodA a=false) :
  Calls Tryz.prog 11 #[.pointer (some ⟨p,0,none⟩),av a] w (AppPost p G w [] 2 s):=by
 obtain ⟨W,fold⟩ : ∃ W,w.alloc (.cells #[.int .i64 a.kind,.string a.name,.int .i64 a.n,.int .u64 a.tag,.int .i64 a.to,.string a.xn,.int .i64 a.xk,.bool a.xf,.string a.be,.string a.bq,.string a.bp,.int .i64 a.m.origin,.int .u64 a.m.seq,.int .i64 a.m.hop,.string a.m.ex,.string a.m.key,.string a.m.body] 42)=W:=⟨_,rfl⟩
 have hB:Boxd w W a:=by rw [<- fold]; exact boxd_new w a
 have hM:=made14_any p G s W (h.kept hB.bel)
 have hG:=goodA_any a W (hK.below hB.bel) ha
 have H0:Hid (SS w p G s/\Boxd w W a):=⟨h,hB⟩
 clear h hB hK ha
 rw [hg] at hG
 go_enter Tryz.func11,Tryz.ntmps11
 go_wp2_with fail
 try rw [fold]
 refine hM.mono ?_
 rintro e W ⟨rfl,rfl⟩
 clear hM
 go_wp2_with (refine wpList_load_row rfl 42 _ rfl w.heap.size rfl 42 (xcells a).toArray (0,0) _ H0.out.2.box Tryz.underlying42 rfl info17 ?_)
 refine hG.mono ?_
 rintro e V1 ⟨rfl,b1⟩
 have HB:Hid (Below w.heap.size w V1):=keptW H0.out.2.bel b1
 clear hG b1
 go_wp2
 go_ret2
 exact app_none (Below.refl _ _) (deed_none H0.out.1 HB.out 2)
theorem apply1_any (p:Nat) (G:Nat->Prop) (s:Sm) (a:Ax) (w:World) (h:SS w p G s) (hK:Kinds w) (ha:a.Fits) (hg:goodA a=true) (hk:a.kind=1) (er:Int) (s':Sm) (hD : ∀ V,Below w.heap.size w V->Calls Tryz.prog 81 #[.pointer (some ⟨p,0,none⟩),av a] V (DeedPost p G V er s')) :
  Calls Tryz.prog 11 #[.pointer (some ⟨p,0,none⟩),av a] w (AppPost p G w [] er s'):=by
 obtain ⟨W,fold⟩ : ∃ W,w.alloc (.cells #[.int .i64 a.kind,.string a.name,.int .i64 a.n,.int .u64 a.tag,.int .i64 a.to,.string a.xn,.int .i64 a.xk,.bool a.xf,.string a.be,.string a.bq,.string a.bp,.int .i64 a.m.origin,.int .u64 a.m.seq,.int .i64 a.m.hop,.string a.m.ex,.string a.m.key,.string a.m.body] 42)=W:=⟨_,rfl⟩
 have hB:Boxd w W a:=by rw [<- fold]; exact boxd_new w a
 have hM:=made14_any p G s W (h.kept hB.bel)
 have hG:=goodA_any a W (hK.below hB.bel) ha
 have H0:Hid (SS w p G s/\Boxd w W a):=⟨h,hB⟩
 clear h hB hK ha
 rw [hg] at hG
 have HD:Hid (∀ V,Below w.heap.size w V->Calls Tryz.prog 81 #[.pointer (some ⟨p,0,none⟩),av a] V (DeedPost p G V er s')):=hD
 have HKi:Hid (a.kind=1):=hk
 clear hD hk
 go_enter Tryz.func11,Tryz.ntmps11
 go_wp2_with fail
 try rw [fold]
 refine hM.mono ?_
 rintro e W ⟨rfl,rfl⟩
 clear hM
 go_wp2_with (refine wpList_load_row rfl 42 _ rfl w.heap.size rfl 42 (xcells a).toArray (0,0) _ H0.out.2.box Tryz.underlying42 rfl info17 ?_)
 refine hG.mono ?_
 rintro e V1 ⟨rfl,b1⟩
 have HB:Hid (Below w.heap.size w V1/\V1.heap[w.heap.size]? = some (.cells (xcells a).toArray 42 (0,0))):=⟨keptW H0.out.2.bel b1,(b1.block _ (yyD H0.out.2.box).1).trans H0.out.2.box⟩
 have x0:V1.cell? ⟨w.heap.size,0,none⟩=some (.int .i64 1):=by rw [(cells17 HB.out.2).1,HKi.out]
 have hE:=deed1_any V1
 clear hG b1 fold
 go_wp2_with fail
 refine hE.mono ?_
 rintro e V1 ⟨rfl,rfl⟩
 have hD:=HD.out V1 HB.out.1
 clear hE HD
 go_wp2_with (refine wpList_load_row rfl 42 _ rfl w.heap.size rfl 42 (xcells a).toArray (0,0) _ HB.out.2 Tryz.underlying42 rfl info17 ?_)
 refine hD.mono ?_
 rintro e V2 hP
 obtain ⟨rfl,G2,hS2,m2⟩:=hP
 have HP:Hid (DeedPost p G V1 er s' (.returned (.int .i64 er)) V2):=⟨rfl,G2,hS2,m2⟩
 have hbl:=(yyD HB.out.2).1
 have y0:V2.cell? ⟨w.heap.size,0,none⟩=some (.int .i64 1):=(World.cell?_of_block (w:=V1) (a:=⟨w.heap.size,0,none⟩) (m2.block w.heap.size hbl (fun hk=>by have:=H0.out.1.lts _ hk; omega))).trans x0
 clear hD hS2 m2 hbl
 by_cases he:er=0
 ·subst he
  go_wp2
  go_ret2
  exact app_none HB.out.1 HP.out
 ·go_wp2
  go_ret2
  exact app_none HB.out.1 HP.out
theorem apply2_any (p:Nat) (G:Nat->Prop) (s:Sm) (a:Ax) (w:World) (h:SS w p G s) (hK:Kinds w) (ha:a.Fits) (hg:goodA a=true) (hk:a.kind=2) (er:Int) (s':Sm) (hD : ∀ V,Below w.heap.size w V->Calls Tryz.prog 82 #[.pointer (some ⟨p,0,none⟩),av a] V (DeedPost p G V er s')) :
  Calls Tryz.prog 11 #[.pointer (some ⟨p,0,none⟩),av a] w (AppPost p G w [] er s'):=by
 obtain ⟨W,fold⟩ : ∃ W,w.alloc (.cells #[.int .i64 a.kind,.string a.name,.int .i64 a.n,.int .u64 a.tag,.int .i64 a.to,.string a.xn,.int .i64 a.xk,.bool a.xf,.string a.be,.string a.bq,.string a.bp,.int .i64 a.m.origin,.int .u64 a.m.seq,.int .i64 a.m.hop,.string a.m.ex,.string a.m.key,.string a.m.body] 42)=W:=⟨_,rfl⟩
 have hB:Boxd w W a:=by rw [<- fold]; exact boxd_new w a
 have hM:=made14_any p G s W (h.kept hB.bel)
 have hG:=goodA_any a W (hK.below hB.bel) ha
 have H0:Hid (SS w p G s/\Boxd w W a):=⟨h,hB⟩
 clear h hB hK ha
 rw [hg] at hG
 have HD:Hid (∀ V,Below w.heap.size w V->Calls Tryz.prog 82 #[.pointer (some ⟨p,0,none⟩),av a] V (DeedPost p G V er s')):=hD
 have HKi:Hid (a.kind=2):=hk
 clear hD hk
 go_enter Tryz.func11,Tryz.ntmps11
 go_wp2_with fail
 try rw [fold]
 refine hM.mono ?_
 rintro e W ⟨rfl,rfl⟩
 clear hM
 go_wp2_with (refine wpList_load_row rfl 42 _ rfl w.heap.size rfl 42 (xcells a).toArray (0,0) _ H0.out.2.box Tryz.underlying42 rfl info17 ?_)
 refine hG.mono ?_
 rintro e V1 ⟨rfl,b1⟩
 have HB:Hid (Below w.heap.size w V1/\V1.heap[w.heap.size]? = some (.cells (xcells a).toArray 42 (0,0))):=⟨keptW H0.out.2.bel b1,(b1.block _ (yyD H0.out.2.box).1).trans H0.out.2.box⟩
 have x0:V1.cell? ⟨w.heap.size,0,none⟩=some (.int .i64 2):=by rw [(cells17 HB.out.2).1,HKi.out]
 have hE:=deed2_any V1
 clear hG b1 fold
 go_wp2_with fail
 refine hE.mono ?_
 rintro e V1 ⟨rfl,rfl⟩
 have hD:=HD.out V1 HB.out.1
 clear hE HD
 go_wp2_with (refine wpList_load_row rfl 42 _ rfl w.heap.size rfl 42 (xcells a).toArray (0,0) _ HB.out.2 Tryz.underlying42 rfl info17 ?_)
 refine hD.mono ?_
 rintro e V2 hP
 obtain ⟨rfl,G2,hS2,m2⟩:=hP
 have HP:Hid (DeedPost p G V1 er s' (.returned (.int .i64 er)) V2):=⟨rfl,G2,hS2,m2⟩
 have hbl:=(yyD HB.out.2).1
 have y0:V2.cell? ⟨w.heap.size,0,none⟩=some (.int .i64 2):=(World.cell?_of_block (w:=V1) (a:=⟨w.heap.size,0,none⟩) (m2.block w.heap.size hbl (fun hk=>by have:=H0.out.1.lts _ hk; omega))).trans x0
 clear hD hS2 m2 hbl
 by_cases he:er=0
 ·subst he
  go_wp2
  go_ret2
  exact app_none HB.out.1 HP.out
 ·go_wp2
  go_ret2
  exact app_none HB.out.1 HP.out
theorem apply3_any (p:Nat) (G:Nat->Prop) (s:Sm) (a:Ax) (w:World) (h:SS w p G s) (hK:Kinds w) (ha:a.Fits) (hg:goodA a=true) (hk:a.kind=3) (er:Int) (s':Sm) (hD : ∀ V,Below w.heap.size w V->Calls Tryz.prog 83 #[.pointer (some ⟨p,0,none⟩),av a] V (DeedPost p G V er s')) :
  Calls Tryz.prog 11 #[.pointer (some ⟨p,0,none⟩),av a] w (AppPost p G w [] er s'):=by
 obtain ⟨W,fold⟩ : ∃ W,w.alloc (.cells #[.int .i64 a.kind,.string a.name,.int .i64 a.n,.int .u64 a.tag,.int .i64 a.to,.string a.xn,.int .i64 a.xk,.bool a.xf,.string a.be,.string a.bq,.string a.bp,.int .i64 a.m.origin,.int .u64 a.m.seq,.int .i64 a.m.hop,.string a.m.ex,.string a.m.key,.string a.m.body] 42)=W:=⟨_,rfl⟩
 have hB:Boxd w W a:=by rw [<- fold]; exact boxd_new w a
 have hM:=made14_any p G s W (h.kept hB.bel)
 have hG:=goodA_any a W (hK.below hB.bel) ha
 have H0:Hid (SS w p G s/\Boxd w W a):=⟨h,hB⟩
 clear h hB hK ha
 rw [hg] at hG
 have HD:Hid (∀ V,Below w.heap.size w V->Calls Tryz.prog 83 #[.pointer (some ⟨p,0,none⟩),av a] V (DeedPost p G V er s')):=hD
 have HKi:Hid (a.kind=3):=hk
 clear hD hk
 go_enter Tryz.func11,Tryz.ntmps11
 go_wp2_with fail
 try rw [fold]
 refine hM.mono ?_
 rintro e W ⟨rfl,rfl⟩
 clear hM
 go_wp2_with (refine wpList_load_row rfl 42 _ rfl w.heap.size rfl 42 (xcells a).toArray (0,0) _ H0.out.2.box Tryz.underlying42 rfl info17 ?_)
 refine hG.mono ?_
 rintro e V1 ⟨rfl,b1⟩
 have HB:Hid (Below w.heap.size w V1/\V1.heap[w.heap.size]? = some (.cells (xcells a).toArray 42 (0,0))):=⟨keptW H0.out.2.bel b1,(b1.block _ (yyD H0.out.2.box).1).trans H0.out.2.box⟩
 have x0:V1.cell? ⟨w.heap.size,0,none⟩=some (.int .i64 3):=by rw [(cells17 HB.out.2).1,HKi.out]
 have hE:=deed3_any V1
 clear hG b1 fold
 go_wp2_with fail
 refine hE.mono ?_
 rintro e V1 ⟨rfl,rfl⟩
 have hD:=HD.out V1 HB.out.1
 clear hE HD
 go_wp2_with (refine wpList_load_row rfl 42 _ rfl w.heap.size rfl 42 (xcells a).toArray (0,0) _ HB.out.2 Tryz.underlying42 rfl info17 ?_)
 refine hD.mono ?_
 rintro e V2 hP
 obtain ⟨rfl,G2,hS2,m2⟩:=hP
 have HP:Hid (DeedPost p G V1 er s' (.returned (.int .i64 er)) V2):=⟨rfl,G2,hS2,m2⟩
 have hbl:=(yyD HB.out.2).1
 have y0:V2.cell? ⟨w.heap.size,0,none⟩=some (.int .i64 3):=(World.cell?_of_block (w:=V1) (a:=⟨w.heap.size,0,none⟩) (m2.block w.heap.size hbl (fun hk=>by have:=H0.out.1.lts _ hk; omega))).trans x0
 clear hD hS2 m2 hbl
 by_cases he:er=0
 ·subst he
  go_wp2
  go_ret2
  exact app_none HB.out.1 HP.out
 ·go_wp2
  go_ret2
  exact app_none HB.out.1 HP.out
theorem apply4_any (p:Nat) (G:Nat->Prop) (s:Sm) (a:Ax) (w:World) (h:SS w p G s) (hK:Kinds w) (ha:a.Fits) (hg:goodA a=true) (hk:a.kind=4) (er:Int) (s':Sm) (hD : ∀ V,Below w.heap.size w V->Calls Tryz.prog 84 #[.pointer (some ⟨p,0,none⟩),av a] V (DeedPost p G V er s')) :
  Calls Tryz.prog 11 #[.pointer (some ⟨p,0,none⟩),av a] w (AppPost p G w [] er s'):=by
 obtain ⟨W,fold⟩ : ∃ W,w.alloc (.cells #[.int .i64 a.kind,.string a.name,.int .i64 a.n,.int .u64 a.tag,.int .i64 a.to,.string a.xn,.int .i64 a.xk,.bool a.xf,.string a.be,.string a.bq,.string a.bp,.int .i64 a.m.origin,.int .u64 a.m.seq,.int .i64 a.m.hop,.string a.m.ex,.string a.m.key,.string a.m.body] 42)=W:=⟨_,rfl⟩
 have hB:Boxd w W a:=by rw [<- fold]; exact boxd_new w a
 have hM:=made14_any p G s W (h.kept hB.bel)
 have hG:=goodA_any a W (hK.below hB.bel) ha
 have H0:Hid (SS w p G s/\Boxd w W a):=⟨h,hB⟩
 clear h hB hK ha
 rw [hg] at hG
 have HD:Hid (∀ V,Below w.heap.size w V->Calls Tryz.prog 84 #[.pointer (some ⟨p,0,none⟩),av a] V (DeedPost p G V er s')):=hD
 have HKi:Hid (a.kind=4):=hk
 clear hD hk
 go_enter Tryz.func11,Tryz.ntmps11
 go_wp2_with fail
 try rw [fold]
 refine hM.mono ?_
 rintro e W ⟨rfl,rfl⟩
 clear hM
 go_wp2_with (refine wpList_load_row rfl 42 _ rfl w.heap.size rfl 42 (xcells a).toArray (0,0) _ H0.out.2.box Tryz.underlying42 rfl info17 ?_)
 refine hG.mono ?_
 rintro e V1 ⟨rfl,b1⟩
 have HB:Hid (Below w.heap.size w V1/\V1.heap[w.heap.size]? = some (.cells (xcells a).toArray 42 (0,0))):=⟨keptW H0.out.2.bel b1,(b1.block _ (yyD H0.out.2.box).1).trans H0.out.2.box⟩
 have x0:V1.cell? ⟨w.heap.size,0,none⟩=some (.int .i64 4):=by rw [(cells17 HB.out.2).1,HKi.out]
 have hE:=deed4_any V1
 clear hG b1 fold
 go_wp2_with fail
 refine hE.mono ?_
 rintro e V1 ⟨rfl,rfl⟩
 have hD:=HD.out V1 HB.out.1
 clear hE HD
 go_wp2_with (refine wpList_load_row rfl 42 _ rfl w.heap.size rfl 42 (xcells a).toArray (0,0) _ HB.out.2 Tryz.underlying42 rfl info17 ?_)
 refine hD.mono ?_
 rintro e V2 hP
 obtain ⟨rfl,G2,hS2,m2⟩:=hP
 have HP:Hid (DeedPost p G V1 er s' (.returned (.int .i64 er)) V2):=⟨rfl,G2,hS2,m2⟩
 have hbl:=(yyD HB.out.2).1
 have y0:V2.cell? ⟨w.heap.size,0,none⟩=some (.int .i64 4):=(World.cell?_of_block (w:=V1) (a:=⟨w.heap.size,0,none⟩) (m2.block w.heap.size hbl (fun hk=>by have:=H0.out.1.lts _ hk; omega))).trans x0
 clear hD hS2 m2 hbl
 by_cases he:er=0
 ·subst he
  go_wp2
  go_ret2
  exact app_none HB.out.1 HP.out
 ·go_wp2
  go_ret2
  exact app_none HB.out.1 HP.out
theorem apply5_any (p:Nat) (G:Nat->Prop) (s:Sm) (a:Ax) (w:World) (h:SS w p G s) (hK:Kinds w) (ha:a.Fits) (hg:goodA a=true) (hk:a.kind=5) (er:Int) (s':Sm) (hD : ∀ V,Below w.heap.size w V->Calls Tryz.prog 85 #[.pointer (some ⟨p,0,none⟩),av a] V (DeedPost p G V er s')) :
  Calls Tryz.prog 11 #[.pointer (some ⟨p,0,none⟩),av a] w (AppPost p G w [] er s'):=by
 obtain ⟨W,fold⟩ : ∃ W,w.alloc (.cells #[.int .i64 a.kind,.string a.name,.int .i64 a.n,.int .u64 a.tag,.int .i64 a.to,.string a.xn,.int .i64 a.xk,.bool a.xf,.string a.be,.string a.bq,.string a.bp,.int .i64 a.m.origin,.int .u64 a.m.seq,.int .i64 a.m.hop,.string a.m.ex,.string a.m.key,.string a.m.body] 42)=W:=⟨_,rfl⟩
 have hB:Boxd w W a:=by rw [<- fold]; exact boxd_new w a
 have hM:=made14_any p G s W (h.kept hB.bel)
 have hG:=goodA_any a W (hK.below hB.bel) ha
 have H0:Hid (SS w p G s/\Boxd w W a):=⟨h,hB⟩
 clear h hB hK ha
 rw [hg] at hG
 have HD:Hid (∀ V,Below w.heap.size w V->Calls Tryz.prog 85 #[.pointer (some ⟨p,0,none⟩),av a] V (DeedPost p G V er s')):=hD
 have HKi:Hid (a.kind=5):=hk
 clear hD hk
 go_enter Tryz.func11,Tryz.ntmps11
 go_wp2_with fail
 try rw [fold]
 refine hM.mono ?_
 rintro e W ⟨rfl,rfl⟩
 clear hM
 go_wp2_with (refine wpList_load_row rfl 42 _ rfl w.heap.size rfl 42 (xcells a).toArray (0,0) _ H0.out.2.box Tryz.underlying42 rfl info17 ?_)
 refine hG.mono ?_
 rintro e V1 ⟨rfl,b1⟩
 have HB:Hid (Below w.heap.size w V1/\V1.heap[w.heap.size]? = some (.cells (xcells a).toArray 42 (0,0))):=⟨keptW H0.out.2.bel b1,(b1.block _ (yyD H0.out.2.box).1).trans H0.out.2.box⟩
 have x0:V1.cell? ⟨w.heap.size,0,none⟩=some (.int .i64 5):=by rw [(cells17 HB.out.2).1,HKi.out]
 have hE:=deed5_any V1
 clear hG b1 fold
 go_wp2_with fail
 refine hE.mono ?_
 rintro e V1 ⟨rfl,rfl⟩
 have hD:=HD.out V1 HB.out.1
 clear hE HD
 go_wp2_with (refine wpList_load_row rfl 42 _ rfl w.heap.size rfl 42 (xcells a).toArray (0,0) _ HB.out.2 Tryz.underlying42 rfl info17 ?_)
 refine hD.mono ?_
 rintro e V2 hP
 obtain ⟨rfl,G2,hS2,m2⟩:=hP
 have HP:Hid (DeedPost p G V1 er s' (.returned (.int .i64 er)) V2):=⟨rfl,G2,hS2,m2⟩
 have hbl:=(yyD HB.out.2).1
 have y0:V2.cell? ⟨w.heap.size,0,none⟩=some (.int .i64 5):=(World.cell?_of_block (w:=V1) (a:=⟨w.heap.size,0,none⟩) (m2.block w.heap.size hbl (fun hk=>by have:=H0.out.1.lts _ hk; omega))).trans x0
 clear hD hS2 m2 hbl
 by_cases he:er=0
 ·subst he
  go_wp2
  go_ret2
  exact app_none HB.out.1 HP.out
 ·go_wp2
  go_ret2
  exact app_none HB.out.1 HP.out
theorem apply6_any (p:Nat) (G:Nat->Prop) (s:Sm) (a:Ax) (w:World) (h:SS w p G s) (hK:Kinds w) (ha:a.Fits) (hg:goodA a=true) (hk:a.kind=6) (er:Int) (s':Sm) (hD : ∀ V,Below w.heap.size w V->Calls Tryz.prog 86 #[.pointer (some ⟨p,0,none⟩),av a] V (DeedPost p G V er s')) :
  Calls Tryz.prog 11 #[.pointer (some ⟨p,0,none⟩),av a] w (AppPost p G w [] er s'):=by
 obtain ⟨W,fold⟩ : ∃ W,w.alloc (.cells #[.int .i64 a.kind,.string a.name,.int .i64 a.n,.int .u64 a.tag,.int .i64 a.to,.string a.xn,.int .i64 a.xk,.bool a.xf,.string a.be,.string a.bq,.string a.bp,.int .i64 a.m.origin,.int .u64 a.m.seq,.int .i64 a.m.hop,.string a.m.ex,.string a.m.key,.string a.m.body] 42)=W:=⟨_,rfl⟩
 have hB:Boxd w W a:=by rw [<- fold]; exact boxd_new w a
 have hM:=made14_any p G s W (h.kept hB.bel)
 have hG:=goodA_any a W (hK.below hB.bel) ha
 have H0:Hid (SS w p G s/\Boxd w W a):=⟨h,hB⟩
 clear h hB hK ha
 rw [hg] at hG
 have HD:Hid (∀ V,Below w.heap.size w V->Calls Tryz.prog 86 #[.pointer (some ⟨p,0,none⟩),av a] V (DeedPost p G V er s')):=hD
 have HKi:Hid (a.kind=6):=hk
 clear hD hk
 go_enter Tryz.func11,Tryz.ntmps11
 go_wp2_with fail
 try rw [fold]
 refine hM.mono ?_
 rintro e W ⟨rfl,rfl⟩
 clear hM
 go_wp2_with (refine wpList_load_row rfl 42 _ rfl w.heap.size rfl 42 (xcells a).toArray (0,0) _ H0.out.2.box Tryz.underlying42 rfl info17 ?_)
 refine hG.mono ?_
 rintro e V1 ⟨rfl,b1⟩
 have HB:Hid (Below w.heap.size w V1/\V1.heap[w.heap.size]? = some (.cells (xcells a).toArray 42 (0,0))):=⟨keptW H0.out.2.bel b1,(b1.block _ (yyD H0.out.2.box).1).trans H0.out.2.box⟩
 have x0:V1.cell? ⟨w.heap.size,0,none⟩=some (.int .i64 6):=by rw [(cells17 HB.out.2).1,HKi.out]
 have hE:=deed6_any V1
 clear hG b1 fold
 go_wp2_with fail
 refine hE.mono ?_
 rintro e V1 ⟨rfl,rfl⟩
 have hD:=HD.out V1 HB.out.1
 clear hE HD
 go_wp2_with (refine wpList_load_row rfl 42 _ rfl w.heap.size rfl 42 (xcells a).toArray (0,0) _ HB.out.2 Tryz.underlying42 rfl info17 ?_)
 refine hD.mono ?_
 rintro e V2 hP
 obtain ⟨rfl,G2,hS2,m2⟩:=hP
 have HP:Hid (DeedPost p G V1 er s' (.returned (.int .i64 er)) V2):=⟨rfl,G2,hS2,m2⟩
 have hbl:=(yyD HB.out.2).1
 have y0:V2.cell? ⟨w.heap.size,0,none⟩=some (.int .i64 6):=(World.cell?_of_block (w:=V1) (a:=⟨w.heap.size,0,none⟩) (m2.block w.heap.size hbl (fun hk=>by have:=H0.out.1.lts _ hk; omega))).trans x0
 clear hD hS2 m2 hbl
 by_cases he:er=0
 ·subst he
  go_wp2
  go_ret2
  exact app_none HB.out.1 HP.out
 ·go_wp2
  go_ret2
  exact app_none HB.out.1 HP.out
theorem apply8_any (p:Nat) (G:Nat->Prop) (s:Sm) (a:Ax) (w:World) (h:SS w p G s) (hK:Kinds w) (ha:a.Fits) (hg:goodA a=true) (hk:a.kind=8) (er:Int) (s':Sm) (hD : ∀ V,Below w.heap.size w V->Calls Tryz.prog 88 #[.pointer (some ⟨p,0,none⟩),av a] V (DeedPost p G V er s')) :
  Calls Tryz.prog 11 #[.pointer (some ⟨p,0,none⟩),av a] w (AppPost p G w [] er s'):=by
 obtain ⟨W,fold⟩ : ∃ W,w.alloc (.cells #[.int .i64 a.kind,.string a.name,.int .i64 a.n,.int .u64 a.tag,.int .i64 a.to,.string a.xn,.int .i64 a.xk,.bool a.xf,.string a.be,.string a.bq,.string a.bp,.int .i64 a.m.origin,.int .u64 a.m.seq,.int .i64 a.m.hop,.string a.m.ex,.string a.m.key,.string a.m.body] 42)=W:=⟨_,rfl⟩
 have hB:Boxd w W a:=by rw [<- fold]; exact boxd_new w a
 have hM:=made14_any p G s W (h.kept hB.bel)
 have hG:=goodA_any a W (hK.below hB.bel) ha
 have H0:Hid (SS w p G s/\Boxd w W a):=⟨h,hB⟩
 clear h hB hK ha
 rw [hg] at hG
 have HD:Hid (∀ V,Below w.heap.size w V->Calls Tryz.prog 88 #[.pointer (some ⟨p,0,none⟩),av a] V (DeedPost p G V er s')):=hD
 have HKi:Hid (a.kind=8):=hk
 clear hD hk
 go_enter Tryz.func11,Tryz.ntmps11
 go_wp2_with fail
 try rw [fold]
 refine hM.mono ?_
 rintro e W ⟨rfl,rfl⟩
 clear hM
 go_wp2_with (refine wpList_load_row rfl 42 _ rfl w.heap.size rfl 42 (xcells a).toArray (0,0) _ H0.out.2.box Tryz.underlying42 rfl info17 ?_)
 refine hG.mono ?_
 rintro e V1 ⟨rfl,b1⟩
 have HB:Hid (Below w.heap.size w V1/\V1.heap[w.heap.size]? = some (.cells (xcells a).toArray 42 (0,0))):=⟨keptW H0.out.2.bel b1,(b1.block _ (yyD H0.out.2.box).1).trans H0.out.2.box⟩
 have x0:V1.cell? ⟨w.heap.size,0,none⟩=some (.int .i64 8):=by rw [(cells17 HB.out.2).1,HKi.out]
 have hE:=deed8_any V1
 clear hG b1 fold
 go_wp2_with fail
 refine hE.mono ?_
 rintro e V1 ⟨rfl,rfl⟩
 have hD:=HD.out V1 HB.out.1
 clear hE HD
 go_wp2_with (refine wpList_load_row rfl 42 _ rfl w.heap.size rfl 42 (xcells a).toArray (0,0) _ HB.out.2 Tryz.underlying42 rfl info17 ?_)
 refine hD.mono ?_
 rintro e V2 hP
 obtain ⟨rfl,G2,hS2,m2⟩:=hP
 have HP:Hid (DeedPost p G V1 er s' (.returned (.int .i64 er)) V2):=⟨rfl,G2,hS2,m2⟩
 have hbl:=(yyD HB.out.2).1
 have y0:V2.cell? ⟨w.heap.size,0,none⟩=some (.int .i64 8):=(World.cell?_of_block (w:=V1) (a:=⟨w.heap.size,0,none⟩) (m2.block w.heap.size hbl (fun hk=>by have:=H0.out.1.lts _ hk; omega))).trans x0
 clear hD hS2 m2 hbl
 by_cases he:er=0
 ·subst he
  go_wp2
  go_ret2
  exact app_none HB.out.1 HP.out
 ·go_wp2
  go_ret2
  exact app_none HB.out.1 HP.out
theorem apply9_any (p:Nat) (G:Nat->Prop) (s:Sm) (a:Ax) (w:World) (h:SS w p G s) (hK:Kinds w) (ha:a.Fits) (hg:goodA a=true) (hk:a.kind=9) (er:Int) (s':Sm) (hD : ∀ V,Below w.heap.size w V->Calls Tryz.prog 89 #[.pointer (some ⟨p,0,none⟩),av a] V (DeedPost p G V er s')) :
  Calls Tryz.prog 11 #[.pointer (some ⟨p,0,none⟩),av a] w (AppPost p G w [] er s'):=by
 obtain ⟨W,fold⟩ : ∃ W,w.alloc (.cells #[.int .i64 a.kind,.string a.name,.int .i64 a.n,.int .u64 a.tag,.int .i64 a.to,.string a.xn,.int .i64 a.xk,.bool a.xf,.string a.be,.string a.bq,.string a.bp,.int .i64 a.m.origin,.int .u64 a.m.seq,.int .i64 a.m.hop,.string a.m.ex,.string a.m.key,.string a.m.body] 42)=W:=⟨_,rfl⟩
 have hB:Boxd w W a:=by rw [<- fold]; exact boxd_new w a
 have hM:=made14_any p G s W (h.kept hB.bel)
 have hG:=goodA_any a W (hK.below hB.bel) ha
 have H0:Hid (SS w p G s/\Boxd w W a):=⟨h,hB⟩
 clear h hB hK ha
 rw [hg] at hG
 have HD:Hid (∀ V,Below w.heap.size w V->Calls Tryz.prog 89 #[.pointer (some ⟨p,0,none⟩),av a] V (DeedPost p G V er s')):=hD
 have HKi:Hid (a.kind=9):=hk
 clear hD hk
 go_enter Tryz.func11,Tryz.ntmps11
 go_wp2_with fail
 try rw [fold]
 refine hM.mono ?_
 rintro e W ⟨rfl,rfl⟩
 clear hM
 go_wp2_with (refine wpList_load_row rfl 42 _ rfl w.heap.size rfl 42 (xcells a).toArray (0,0) _ H0.out.2.box Tryz.underlying42 rfl info17 ?_)
 refine hG.mono ?_
 rintro e V1 ⟨rfl,b1⟩
 have HB:Hid (Below w.heap.size w V1/\V1.heap[w.heap.size]? = some (.cells (xcells a).toArray 42 (0,0))):=⟨keptW H0.out.2.bel b1,(b1.block _ (yyD H0.out.2.box).1).trans H0.out.2.box⟩
 have x0:V1.cell? ⟨w.heap.size,0,none⟩=some (.int .i64 9):=by rw [(cells17 HB.out.2).1,HKi.out]
 have hE:=deed9_any V1
 clear hG b1 fold
 go_wp2_with fail
 refine hE.mono ?_
 rintro e V1 ⟨rfl,rfl⟩
 have hD:=HD.out V1 HB.out.1
 clear hE HD
 go_wp2_with (refine wpList_load_row rfl 42 _ rfl w.heap.size rfl 42 (xcells a).toArray (0,0) _ HB.out.2 Tryz.underlying42 rfl info17 ?_)
 refine hD.mono ?_
 rintro e V2 hP
 obtain ⟨rfl,G2,hS2,m2⟩:=hP
 have HP:Hid (DeedPost p G V1 er s' (.returned (.int .i64 er)) V2):=⟨rfl,G2,hS2,m2⟩
 have hbl:=(yyD HB.out.2).1
 have y0:V2.cell? ⟨w.heap.size,0,none⟩=some (.int .i64 9):=(World.cell?_of_block (w:=V1) (a:=⟨w.heap.size,0,none⟩) (m2.block w.heap.size hbl (fun hk=>by have:=H0.out.1.lts _ hk; omega))).trans x0
 clear hD hS2 m2 hbl
 by_cases he:er=0
 ·subst he
  go_wp2
  go_ret2
  exact app_none HB.out.1 HP.out
 ·go_wp2
  go_ret2
  exact app_none HB.out.1 HP.out
theorem apply10_any (p:Nat) (G:Nat->Prop) (s:Sm) (a:Ax) (w:World) (h:SS w p G s) (hK:Kinds w) (ha:a.Fits) (hg:goodA a=true) (hk:a.kind=10) (er:Int) (s':Sm) (hD : ∀ V,Below w.heap.size w V->Calls Tryz.prog 90 #[.pointer (some ⟨p,0,none⟩),av a] V (DeedPost p G V er s')) :
  Calls Tryz.prog 11 #[.pointer (some ⟨p,0,none⟩),av a] w (AppPost p G w [] er s'):=by
 obtain ⟨W,fold⟩ : ∃ W,w.alloc (.cells #[.int .i64 a.kind,.string a.name,.int .i64 a.n,.int .u64 a.tag,.int .i64 a.to,.string a.xn,.int .i64 a.xk,.bool a.xf,.string a.be,.string a.bq,.string a.bp,.int .i64 a.m.origin,.int .u64 a.m.seq,.int .i64 a.m.hop,.string a.m.ex,.string a.m.key,.string a.m.body] 42)=W:=⟨_,rfl⟩
 have hB:Boxd w W a:=by rw [<- fold]; exact boxd_new w a
 have hM:=made14_any p G s W (h.kept hB.bel)
 have hG:=goodA_any a W (hK.below hB.bel) ha
 have H0:Hid (SS w p G s/\Boxd w W a):=⟨h,hB⟩
 clear h hB hK ha
 rw [hg] at hG
 have HD:Hid (∀ V,Below w.heap.size w V->Calls Tryz.prog 90 #[.pointer (some ⟨p,0,none⟩),av a] V (DeedPost p G V er s')):=hD
 have HKi:Hid (a.kind=10):=hk
 clear hD hk
 go_enter Tryz.func11,Tryz.ntmps11
 go_wp2_with fail
 try rw [fold]
 refine hM.mono ?_
 rintro e W ⟨rfl,rfl⟩
 clear hM
 go_wp2_with (refine wpList_load_row rfl 42 _ rfl w.heap.size rfl 42 (xcells a).toArray (0,0) _ H0.out.2.box Tryz.underlying42 rfl info17 ?_)
 refine hG.mono ?_
 rintro e V1 ⟨rfl,b1⟩
 have HB:Hid (Below w.heap.size w V1/\V1.heap[w.heap.size]? = some (.cells (xcells a).toArray 42 (0,0))):=⟨keptW H0.out.2.bel b1,(b1.block _ (yyD H0.out.2.box).1).trans H0.out.2.box⟩
 have x0:V1.cell? ⟨w.heap.size,0,none⟩=some (.int .i64 10):=by rw [(cells17 HB.out.2).1,HKi.out]
 have hE:=deed10_any V1
 clear hG b1 fold
 go_wp2_with fail
 refine hE.mono ?_
 rintro e V1 ⟨rfl,rfl⟩
 have hD:=HD.out V1 HB.out.1
 clear hE HD
 go_wp2_with (refine wpList_load_row rfl 42 _ rfl w.heap.size rfl 42 (xcells a).toArray (0,0) _ HB.out.2 Tryz.underlying42 rfl info17 ?_)
 refine hD.mono ?_
 rintro e V2 hP
 obtain ⟨rfl,G2,hS2,m2⟩:=hP
 have HP:Hid (DeedPost p G V1 er s' (.returned (.int .i64 er)) V2):=⟨rfl,G2,hS2,m2⟩
 have hbl:=(yyD HB.out.2).1
 have y0:V2.cell? ⟨w.heap.size,0,none⟩=some (.int .i64 10):=(World.cell?_of_block (w:=V1) (a:=⟨w.heap.size,0,none⟩) (m2.block w.heap.size hbl (fun hk=>by have:=H0.out.1.lts _ hk; omega))).trans x0
 clear hD hS2 m2 hbl
 by_cases he:er=0
 ·subst he
  go_wp2
  go_ret2
  exact app_none HB.out.1 HP.out
 ·go_wp2
  go_ret2
  exact app_none HB.out.1 HP.out
theorem apply11_any (p:Nat) (G:Nat->Prop) (s:Sm) (a:Ax) (w:World) (h:SS w p G s) (hK:Kinds w) (ha:a.Fits) (hg:goodA a=true) (hk:a.kind=11) (er:Int) (s':Sm) (hD : ∀ V,Below w.heap.size w V->Calls Tryz.prog 91 #[.pointer (some ⟨p,0,none⟩),av a] V (DeedPost p G V er s')) :
  Calls Tryz.prog 11 #[.pointer (some ⟨p,0,none⟩),av a] w (AppPost p G w [] er s'):=by
 obtain ⟨W,fold⟩ : ∃ W,w.alloc (.cells #[.int .i64 a.kind,.string a.name,.int .i64 a.n,.int .u64 a.tag,.int .i64 a.to,.string a.xn,.int .i64 a.xk,.bool a.xf,.string a.be,.string a.bq,.string a.bp,.int .i64 a.m.origin,.int .u64 a.m.seq,.int .i64 a.m.hop,.string a.m.ex,.string a.m.key,.string a.m.body] 42)=W:=⟨_,rfl⟩
 have hB:Boxd w W a:=by rw [<- fold]; exact boxd_new w a
 have hM:=made14_any p G s W (h.kept hB.bel)
 have hG:=goodA_any a W (hK.below hB.bel) ha
 have H0:Hid (SS w p G s/\Boxd w W a):=⟨h,hB⟩
 clear h hB hK ha
 rw [hg] at hG
 have HD:Hid (∀ V,Below w.heap.size w V->Calls Tryz.prog 91 #[.pointer (some ⟨p,0,none⟩),av a] V (DeedPost p G V er s')):=hD
 have HKi:Hid (a.kind=11):=hk
 clear hD hk
 go_enter Tryz.func11,Tryz.ntmps11
 go_wp2_with fail
 try rw [fold]
 refine hM.mono ?_
 rintro e W ⟨rfl,rfl⟩
 clear hM
 go_wp2_with (refine wpList_load_row rfl 42 _ rfl w.heap.size rfl 42 (xcells a).toArray (0,0) _ H0.out.2.box Tryz.underlying42 rfl info17 ?_)
 refine hG.mono ?_
 rintro e V1 ⟨rfl,b1⟩
 have HB:Hid (Below w.heap.size w V1/\V1.heap[w.heap.size]? = some (.cells (xcells a).toArray 42 (0,0))):=⟨keptW H0.out.2.bel b1,(b1.block _ (yyD H0.out.2.box).1).trans H0.out.2.box⟩
 have x0:V1.cell? ⟨w.heap.size,0,none⟩=some (.int .i64 11):=by rw [(cells17 HB.out.2).1,HKi.out]
 have hE:=deed11_any V1
 clear hG b1 fold
 go_wp2_with fail
 refine hE.mono ?_
 rintro e V1 ⟨rfl,rfl⟩
 have hD:=HD.out V1 HB.out.1
 clear hE HD
 go_wp2_with (refine wpList_load_row rfl 42 _ rfl w.heap.size rfl 42 (xcells a).toArray (0,0) _ HB.out.2 Tryz.underlying42 rfl info17 ?_)
 refine hD.mono ?_
 rintro e V2 hP
 obtain ⟨rfl,G2,hS2,m2⟩:=hP
 have HP:Hid (DeedPost p G V1 er s' (.returned (.int .i64 er)) V2):=⟨rfl,G2,hS2,m2⟩
 have hbl:=(yyD HB.out.2).1
 have y0:V2.cell? ⟨w.heap.size,0,none⟩=some (.int .i64 11):=(World.cell?_of_block (w:=V1) (a:=⟨w.heap.size,0,none⟩) (m2.block w.heap.size hbl (fun hk=>by have:=H0.out.1.lts _ hk; omega))).trans x0
 clear hD hS2 m2 hbl
 by_cases he:er=0
 ·subst he
  go_wp2
  go_ret2
  exact app_none HB.out.1 HP.out
 ·go_wp2
  go_ret2
  exact app_none HB.out.1 HP.out
theorem apply12_any (p:Nat) (G:Nat->Prop) (s:Sm) (a:Ax) (w:World) (h:SS w p G s) (hK:Kinds w) (ha:a.Fits) (hg:goodA a=true) (hk:a.kind=12) (er:Int) (s':Sm) (hD : ∀ V,Below w.heap.size w V->Calls Tryz.prog 92 #[.pointer (some ⟨p,0,none⟩),av a] V (DeedPost p G V er s')) :
  Calls Tryz.prog 11 #[.pointer (some ⟨p,0,none⟩),av a] w (AppPost p G w [] er s'):=by
 obtain ⟨W,fold⟩ : ∃ W,w.alloc (.cells #[.int .i64 a.kind,.string a.name,.int .i64 a.n,.int .u64 a.tag,.int .i64 a.to,.string a.xn,.int .i64 a.xk,.bool a.xf,.string a.be,.string a.bq,.string a.bp,.int .i64 a.m.origin,.int .u64 a.m.seq,.int .i64 a.m.hop,.string a.m.ex,.string a.m.key,.string a.m.body] 42)=W:=⟨_,rfl⟩
 have hB:Boxd w W a:=by rw [<- fold]; exact boxd_new w a
 have hM:=made14_any p G s W (h.kept hB.bel)
 have hG:=goodA_any a W (hK.below hB.bel) ha
 have H0:Hid (SS w p G s/\Boxd w W a):=⟨h,hB⟩
 clear h hB hK ha
 rw [hg] at hG
 have HD:Hid (∀ V,Below w.heap.size w V->Calls Tryz.prog 92 #[.pointer (some ⟨p,0,none⟩),av a] V (DeedPost p G V er s')):=hD
 have HKi:Hid (a.kind=12):=hk
 clear hD hk
 go_enter Tryz.func11,Tryz.ntmps11
 go_wp2_with fail
 try rw [fold]
 refine hM.mono ?_
 rintro e W ⟨rfl,rfl⟩
 clear hM
 go_wp2_with (refine wpList_load_row rfl 42 _ rfl w.heap.size rfl 42 (xcells a).toArray (0,0) _ H0.out.2.box Tryz.underlying42 rfl info17 ?_)
 refine hG.mono ?_
 rintro e V1 ⟨rfl,b1⟩
 have HB:Hid (Below w.heap.size w V1/\V1.heap[w.heap.size]? = some (.cells (xcells a).toArray 42 (0,0))):=⟨keptW H0.out.2.bel b1,(b1.block _ (yyD H0.out.2.box).1).trans H0.out.2.box⟩
 have x0:V1.cell? ⟨w.heap.size,0,none⟩=some (.int .i64 12):=by rw [(cells17 HB.out.2).1,HKi.out]
 have hE:=deed12_any V1
 clear hG b1 fold
 go_wp2_with fail
 refine hE.mono ?_
 rintro e V1 ⟨rfl,rfl⟩
 have hD:=HD.out V1 HB.out.1
 clear hE HD
 go_wp2_with (refine wpList_load_row rfl 42 _ rfl w.heap.size rfl 42 (xcells a).toArray (0,0) _ HB.out.2 Tryz.underlying42 rfl info17 ?_)
 refine hD.mono ?_
 rintro e V2 hP
 obtain ⟨rfl,G2,hS2,m2⟩:=hP
 have HP:Hid (DeedPost p G V1 er s' (.returned (.int .i64 er)) V2):=⟨rfl,G2,hS2,m2⟩
 have hbl:=(yyD HB.out.2).1
 have y0:V2.cell? ⟨w.heap.size,0,none⟩=some (.int .i64 12):=(World.cell?_of_block (w:=V1) (a:=⟨w.heap.size,0,none⟩) (m2.block w.heap.size hbl (fun hk=>by have:=H0.out.1.lts _ hk; omega))).trans x0
 clear hD hS2 m2 hbl
 by_cases he:er=0
 ·subst he
  go_wp2
  go_ret2
  exact app_none HB.out.1 HP.out
 ·go_wp2
  go_ret2
  exact app_none HB.out.1 HP.out
end Go.Proofs.YtnhnpnafchkhiaaGreatDoor
