import Derived.Test.YtnhnpnafchkhiaaGreatDoorQwA
import Derived.Test.YtnhnpnafchkhiaaGreatDoorQw27
import Derived.Test.YtnhnpnafchkhiaaGreatDoorQw5
import Derived.Test.YtnhnpnafchkhiaaGreatDoorQw18
import Derived.Deep.RegionHeld3
import Derived.Test.YtnhnpnafchkhiaaGreatDoorQw17
import Derived.Test.YtnhnpnafchkhiaaGreatDoorQw25
import Derived.Test.YtnhnpnafchkhiaaGreatDoorQw24
set_option maxHeartbeats 1000000
set_option maxRecDepth 20000
namespace Go.Proofs.YtnhnpnafchkhiaaGreatDoor
open Go.RowKit
def DeedPost (p:Nat) (F:Nat->Prop) (w:World) (er:Int) (s':Sm) (e:Ending) (w':World):Prop:=e=.returned (.int .i64 er) /\ ∃ F',SS w' p F' s'/\Moved w w' F F'
structure Boxd (w W:World) (a:Ax):Prop where
 bel:Below w.heap.size w W
 box:W.heap[w.heap.size]? = some (.cells (xcells a).toArray 42 (0,0))
theorem boxd_new (w:World) (a:Ax):Boxd w (w.alloc (.cells (xcells a).toArray 42)) a:=⟨box_below w _,heap_alloc_new w _⟩
theorem Moved.from_below {w W w':World} {F F':Nat->Prop} (b:Below w.heap.size w W) (m:Moved W w' F F'):Moved w w' F F' :=
 ⟨m.os.trans b.os,m.tape.trans b.tape,m.output.trans b.output,Nat.le_trans b.size m.size,fun k hk hn=>(m.block k (Nat.lt_of_lt_of_le hk b.size) hn).trans (b.block k hk),fun k hk=>(m.sub k hk).imp id fun h=>Nat.le_trans b.size h⟩
theorem keepP {w V w2:World} {p:Nat} {ft:Ix->Nat->Prop} {d:Ad} {s:Sm} {F:Nat->Prop} {c:Ix} (hs:SAt V p ft d s) (hF : ∀ k,F k ↔ ∃ a,ft a k) (hlt : ∀ k,F k->k<w.heap.size) (hg:w.heap.size<V.heap.size) (hc:Ix.main≠c) {F2:Nat->Prop} (m:Moved V w2 (ft c) F2) :
  (∀ j u,V.cell? ⟨p,j,none⟩=some u->w2.cell? ⟨p,j,none⟩=some u)/\(∀ j u,V.cell? ⟨w.heap.size,j,none⟩=some u->w2.cell? ⟨w.heap.size,j,none⟩=some u):=by
 have h1:w2.heap[p]? = V.heap[p]? := hs.others m .main hc p ((hs.fm p).2 rfl)
 have h2:w2.heap[w.heap.size]? = V.heap[w.heap.size]? := m.block _ hg fun hk=>by have:=hlt _ ((hF _).2 ⟨c,hk⟩); omega
 exact ⟨fun j u hu=>(World.cell?_of_block (w:=V) (a:=⟨p,j,none⟩) h1).trans hu,fun j u hu=>(World.cell?_of_block (w:=V) (a:=⟨w.heap.size,j,none⟩) h2).trans hu⟩
theorem deed_table {w W w2:World} {p:Nat} {ft:Ix->Nat->Prop} {d:Ad} {s:Sm} {F:Nat->Prop} (hs:SAt W.drew p ft d s) (hF : ∀ k,F k ↔ ∃ a,ft a k) (hb:Below w.heap.size w W) {er:Int} {tb':B.Tb} {F2:Nat->Prop} (t2:B.T w2 d.tp F2 tb') (m2:Moved W.drew w2 (ft .table) F2):DeedPost p F w er { s with tb:=tb' } (.returned (.int .i64 er)) w2:=by
 have e:F=fun k => ∃ a,ft a k:=funext fun k=>propext (hF k)
 subst e
 exact ⟨rfl,_,⟨_,d,hs.turnTable m2 t2,fun k=>Iff.rfl⟩,Moved.from_below (keptW hb (drew_below W)) (moved_upd m2)⟩
theorem makeEx_any (p:Nat) (F:Nat->Prop) (s:Sm) (a:Ax) (w:World) (h:SS w p F s) (ok:s.tb.Ok) (hs:a.xn.size<=maxLen) :
  Calls Tryz.prog 83 #[.pointer (some ⟨p,0,none⟩),av a] w (DeedPost p F w (s.tb.declare ⟨a.xn,a.xk,a.xf⟩).1 { s with tb:=(s.tb.declare ⟨a.xn,a.xk,a.xf⟩).2 }):=by
 obtain ⟨W,fold⟩ : ∃ W,w.alloc (.cells #[.int .i64 a.kind,.string a.name,.int .i64 a.n,.int .u64 a.tag,.int .i64 a.to,.string a.xn,.int .i64 a.xk,.bool a.xf,.string a.be,.string a.bq,.string a.bp,.int .i64 a.m.origin,.int .u64 a.m.seq,.int .i64 a.m.hop,.string a.m.ex,.string a.m.key,.string a.m.body] 42)=W:=⟨_,rfl⟩
 have hB:Boxd w W a:=by rw [<- fold]; exact boxd_new w a
 have hW:=(h.kept hB.bel).kept (drew_below W)
 have hlt:=h.lts
 obtain ⟨ft,d,hs',hF⟩:=hW
 have hD:=B.declare_any d.tp (ft .table) s.tb ⟨a.xn,a.xk,a.xf⟩ W.drew hs'.table ok hs
 have HS:Hid (SAt W.drew p ft d s/\(∀ k,F k ↔ ∃ a,ft a k)/\Boxd w W a /\ ∀ k,F k->k<w.heap.size):=⟨hs',hF,hB,hlt⟩
 have HK:Hid (∀ w2 F2,Moved W.drew w2 (ft .table) F2->(∀ j u,W.drew.cell? ⟨p,j,none⟩=some u->w2.cell? ⟨p,j,none⟩=some u)/\(∀ j u,W.drew.cell? ⟨w.heap.size,j,none⟩=some u->w2.cell? ⟨w.heap.size,j,none⟩=some u)):=fun w2 F2 m=>keepP hs' hF hlt (yyD hB.box).1 (by simp) m
 obtain ⟨c0,c1,c2,c3,c4,c5,c6,c7,c8,c9⟩:=cells10 hs'.blk
 obtain ⟨x0,x1,x2,x3,x4,x5,x6,x7,x8,x9,x10,x11,x12,x13,x14,x15,x16⟩:=cells17 hB.box
 obtain ⟨dd,hdd⟩ : ∃ z,s.tb.declare ⟨a.xn,a.xk,a.xf⟩=z:=⟨_,rfl⟩
 rw [hdd] at hD ⊢
 have c6':W.cell? ⟨p,6,none⟩=some (.pointer (some ⟨d.tp,0,none⟩)):=c6
 clear hs' hF hB hlt c0 c1 c2 c3 c4 c5 c6 c7 c8 c9 x0 x1 x2 x3 x4 x8 x9 x10 x11 x12 x13 x14 x15 x16 h hdd
 go_enter Tryz.func83,Tryz.ntmps83
 go_wp2
 try rw [fold]
 (go_region_held3 (fun w'=>w'.cell? ⟨p,6,none⟩=some (.pointer (some ⟨d.tp,0,none⟩))/\w'.cell? ⟨w.heap.size,5,none⟩=some (.string a.xn)/\w'.cell? ⟨w.heap.size,6,none⟩=some (.int .i64 a.xk)/\w'.cell? ⟨w.heap.size,7,none⟩=some (.bool a.xf)) (go_keep) (first
  |(go_at_call 133; refine hD.mono ?_; rintro e w2 ⟨rfl,F2,t2,m2⟩; have H2:Hid _:=And.intro t2 m2; have f:=(HK.out w2 F2 m2).1 6 _ c6'; have f5:=(HK.out w2 F2 m2).2 5 _ x5; have f6:=(HK.out w2 F2 m2).2 6 _ x6; have f7:=(HK.out w2 F2 m2).2 7 _ x7; clear t2 m2 hD)))
 all_goals go_wp2
 all_goals go_ret
 all_goals exact deed_table HS.out.1 HS.out.2.1 HS.out.2.2.1.bel H2.out.1 H2.out.2
theorem dropEx_any (p:Nat) (F:Nat->Prop) (s:Sm) (a:Ax) (w:World) (h:SS w p F s) (ok:s.tb.Ok) (hs:a.name.size<=maxLen) :
  Calls Tryz.prog 84 #[.pointer (some ⟨p,0,none⟩),av a] w (DeedPost p F w (s.tb.drop a.name).1 { s with tb:=(s.tb.drop a.name).2 }):=by
 obtain ⟨W,fold⟩ : ∃ W,w.alloc (.cells #[.int .i64 a.kind,.string a.name,.int .i64 a.n,.int .u64 a.tag,.int .i64 a.to,.string a.xn,.int .i64 a.xk,.bool a.xf,.string a.be,.string a.bq,.string a.bp,.int .i64 a.m.origin,.int .u64 a.m.seq,.int .i64 a.m.hop,.string a.m.ex,.string a.m.key,.string a.m.body] 42)=W:=⟨_,rfl⟩
 have hB:Boxd w W a:=by rw [<- fold]; exact boxd_new w a
 have hW:=(h.kept hB.bel).kept (drew_below W)
 have hlt:=h.lts
 obtain ⟨ft,d,hs',hF⟩:=hW
 have hD:=B.drop_any d.tp (ft .table) s.tb a.name W.drew hs'.table ok hs
 have HS:Hid (SAt W.drew p ft d s/\(∀ k,F k ↔ ∃ a,ft a k)/\Boxd w W a /\ ∀ k,F k->k<w.heap.size):=⟨hs',hF,hB,hlt⟩
 have HK:Hid (∀ w2 F2,Moved W.drew w2 (ft .table) F2->(∀ j u,W.drew.cell? ⟨p,j,none⟩=some u->w2.cell? ⟨p,j,none⟩=some u)/\(∀ j u,W.drew.cell? ⟨w.heap.size,j,none⟩=some u->w2.cell? ⟨w.heap.size,j,none⟩=some u)):=fun w2 F2 m=>keepP hs' hF hlt (yyD hB.box).1 (by simp) m
 obtain ⟨c0,c1,c2,c3,c4,c5,c6,c7,c8,c9⟩:=cells10 hs'.blk
 obtain ⟨x0,x1,x2,x3,x4,x5,x6,x7,x8,x9,x10,x11,x12,x13,x14,x15,x16⟩:=cells17 hB.box
 obtain ⟨dd,hdd⟩ : ∃ z,s.tb.drop a.name=z:=⟨_,rfl⟩
 rw [hdd] at hD ⊢
 have c6':W.cell? ⟨p,6,none⟩=some (.pointer (some ⟨d.tp,0,none⟩)):=c6
 clear hs' hF hB hlt c0 c1 c2 c3 c4 c5 c6 c7 c8 c9 x0 x2 x3 x4 x5 x6 x7 x8 x9 x10 x11 x12 x13 x14 x15 x16 h hdd
 go_enter Tryz.func84,Tryz.ntmps84
 go_wp2
 try rw [fold]
 (go_region_held3 (fun w'=>w'.cell? ⟨p,6,none⟩=some (.pointer (some ⟨d.tp,0,none⟩))/\w'.cell? ⟨w.heap.size,1,none⟩=some (.string a.name)) (go_keep) (first
  |(go_at_call 134; refine hD.mono ?_; rintro e w2 ⟨rfl,F2,t2,m2⟩; have H2:Hid _:=And.intro t2 m2; have f:=(HK.out w2 F2 m2).1 6 _ c6'; have f1:=(HK.out w2 F2 m2).2 1 _ x1; clear t2 m2 hD)))
 all_goals go_wp2
 all_goals go_ret
 all_goals exact deed_table HS.out.1 HS.out.2.1 HS.out.2.2.1.bel H2.out.1 H2.out.2
theorem dropBd_any (p:Nat) (F:Nat->Prop) (s:Sm) (a:Ax) (w:World) (h:SS w p F s) (ok:s.tb.Ok) (hs:B.Bd.Fit ⟨a.be,a.bq,a.bp⟩) :
  Calls Tryz.prog 86 #[.pointer (some ⟨p,0,none⟩),av a] w (DeedPost p F w (s.tb.unbind ⟨a.be,a.bq,a.bp⟩).1 { s with tb:=(s.tb.unbind ⟨a.be,a.bq,a.bp⟩).2 }):=by
 obtain ⟨W,fold⟩ : ∃ W,w.alloc (.cells #[.int .i64 a.kind,.string a.name,.int .i64 a.n,.int .u64 a.tag,.int .i64 a.to,.string a.xn,.int .i64 a.xk,.bool a.xf,.string a.be,.string a.bq,.string a.bp,.int .i64 a.m.origin,.int .u64 a.m.seq,.int .i64 a.m.hop,.string a.m.ex,.string a.m.key,.string a.m.body] 42)=W:=⟨_,rfl⟩
 have hB:Boxd w W a:=by rw [<- fold]; exact boxd_new w a
 have hW:=(h.kept hB.bel).kept (drew_below W)
 have hlt:=h.lts
 obtain ⟨ft,d,hs',hF⟩:=hW
 have hD:=B.unbind_any d.tp (ft .table) s.tb ⟨a.be,a.bq,a.bp⟩ W.drew hs'.table ok hs
 have HS:Hid (SAt W.drew p ft d s/\(∀ k,F k ↔ ∃ a,ft a k)/\Boxd w W a /\ ∀ k,F k->k<w.heap.size):=⟨hs',hF,hB,hlt⟩
 have HK:Hid (∀ w2 F2,Moved W.drew w2 (ft .table) F2->(∀ j u,W.drew.cell? ⟨p,j,none⟩=some u->w2.cell? ⟨p,j,none⟩=some u)/\(∀ j u,W.drew.cell? ⟨w.heap.size,j,none⟩=some u->w2.cell? ⟨w.heap.size,j,none⟩=some u)):=fun w2 F2 m=>keepP hs' hF hlt (yyD hB.box).1 (by simp) m
 obtain ⟨c0,c1,c2,c3,c4,c5,c6,c7,c8,c9⟩:=cells10 hs'.blk
 obtain ⟨x0,x1,x2,x3,x4,x5,x6,x7,x8,x9,x10,x11,x12,x13,x14,x15,x16⟩:=cells17 hB.box
 obtain ⟨dd,hdd⟩ : ∃ z,s.tb.unbind ⟨a.be,a.bq,a.bp⟩=z:=⟨_,rfl⟩
 rw [hdd] at hD ⊢
 have c6':W.cell? ⟨p,6,none⟩=some (.pointer (some ⟨d.tp,0,none⟩)):=c6
 clear hs' hF hB hlt c0 c1 c2 c3 c4 c5 c6 c7 c8 c9 x0 x1 x2 x3 x4 x5 x6 x7 x11 x12 x13 x14 x15 x16 h hdd
 go_enter Tryz.func86,Tryz.ntmps86
 go_wp2
 try rw [fold]
 (go_region_held3 (fun w'=>w'.cell? ⟨p,6,none⟩=some (.pointer (some ⟨d.tp,0,none⟩))/\w'.cell? ⟨w.heap.size,8,none⟩=some (.string a.be)/\w'.cell? ⟨w.heap.size,9,none⟩=some (.string a.bq)/\w'.cell? ⟨w.heap.size,10,none⟩=some (.string a.bp)) (go_keep) (first
  |(go_at_call 136; refine hD.mono ?_; rintro e w2 ⟨rfl,F2,t2,m2⟩; have H2:Hid _:=And.intro t2 m2; have f:=(HK.out w2 F2 m2).1 6 _ c6'; have f8:=(HK.out w2 F2 m2).2 8 _ x8; have f9:=(HK.out w2 F2 m2).2 9 _ x9; have f10:=(HK.out w2 F2 m2).2 10 _ x10; clear t2 m2 hD)))
 all_goals go_wp2
 all_goals go_ret
 all_goals exact deed_table HS.out.1 HS.out.2.1 HS.out.2.2.1.bel H2.out.1 H2.out.2
def findQ (l:List (ByteArray × F.St)) (n:ByteArray):Option F.St:=(l.find? fun x=>decide (x.1=n)).map Prod.snd
theorem findQ_some {l:List (ByteArray × F.St)} {n:ByteArray} {q:F.St} (h:findQ l n=some q):(n,q)∈l:=by
 unfold findQ at h
 cases hf:l.find? fun x=>decide (x.1=n) with
 |none=>rw [hf] at h; cases h
 |some x =>
  rw [hf] at h
  have h1:=List.mem_of_find?_eq_some hf
  have h2:x.1=n:=by simpa using List.find?_some hf
  injection h with h
  rw [<- h2,<- h]
  exact h1
theorem findQ_none {l:List (ByteArray × F.St)} {n:ByteArray} (h:findQ l n=none):n∉l.map Prod.fst:=by
 unfold findQ at h
 intro hn
 obtain ⟨x,hx,e⟩:=List.mem_map.1 hn
 cases hf:l.find? fun x=>decide (x.1=n) with
 |none=>exact absurd e (by simpa using List.find?_eq_none.1 hf x hx)
 |some y=>rw [hf] at h; cases h
theorem SAt.queueAt {w:World} {p:Nat} {ft:Ix->Nat->Prop} {d:Ad} {s:Sm} (h:SAt w p ft d s) (ok:s.Fit) (n:ByteArray) :
  (findQ s.qs n=none/\findP d.ps n=none) \/ ∃ q b,findQ s.qs n=some q/\findP d.ps n=some (n,b)/\(n,b)∈d.ps/\F.Q w b (ft (.queue n)) q:=by
 cases hq:findQ s.qs n with
 |none =>
  refine .inl ⟨rfl,?_⟩
  unfold findP
  rw [List.find?_eq_none]
  intro x hx he
  refine findQ_none hq ?_
  rw [<- h.names]
  exact List.mem_map.2 ⟨x,hx,by simpa using he⟩
 |some q =>
  obtain ⟨b,h1,h2⟩:=h.queue n q (findQ_some hq)
  refine .inr ⟨q,b,rfl,?_,h1,h2⟩
  cases hf:findP d.ps n with
  |none=>exact absurd rfl (findP_none hf (n,b) h1)
  |some z =>
   obtain ⟨hz,e⟩:=findP_some hf
   obtain ⟨n',b'⟩:=z
   obtain rfl:n'=n:=e
   obtain rfl:=nodup_pair (by rw [h.names]; exact ok.names) h1 hz
   rfl
theorem deed_none {w W:World} {p:Nat} {s:Sm} {F:Nat->Prop} (h:SS w p F s) (hb:Below w.heap.size w W) (er:Int):DeedPost p F w er s (.returned (.int .i64 er)) W :=
 ⟨rfl,F,h.kept hb,.of_below hb⟩
def bindM (s:Sm) (x:B.Bd):Int × B.Tb:=if (findQ s.qs x.que).isSome then s.tb.bind x else (3,s.tb)
theorem makeBd_any (p:Nat) (F:Nat->Prop) (s:Sm) (a:Ax) (w:World) (h:SS w p F s) (fit:s.Fit) (ok:s.tb.Ok) (hs:B.Bd.Fit ⟨a.be,a.bq,a.bp⟩) :
  Calls Tryz.prog 85 #[.pointer (some ⟨p,0,none⟩),av a] w (DeedPost p F w (bindM s ⟨a.be,a.bq,a.bp⟩).1 { s with tb:=(bindM s ⟨a.be,a.bq,a.bp⟩).2 }):=by
 obtain ⟨W,fold⟩ : ∃ W,w.alloc (.cells #[.int .i64 a.kind,.string a.name,.int .i64 a.n,.int .u64 a.tag,.int .i64 a.to,.string a.xn,.int .i64 a.xk,.bool a.xf,.string a.be,.string a.bq,.string a.bp,.int .i64 a.m.origin,.int .u64 a.m.seq,.int .i64 a.m.hop,.string a.m.ex,.string a.m.key,.string a.m.body] 42)=W:=⟨_,rfl⟩
 have hB:Boxd w W a:=by rw [<- fold]; exact boxd_new w a
 have hW:=((h.kept hB.bel).kept (drew_below W)).kept (drew_below W.drew)
 have hlt:=h.lts
 have H0:Hid (SS w p F s/\Below w.heap.size w W):=⟨h,hB.bel⟩
 obtain ⟨ft,d,hs',hF⟩:=hW
 have hD:=B.bind_any d.tp (ft .table) s.tb ⟨a.be,a.bq,a.bp⟩ W.drew.drew hs'.table ok hs
 have HS:Hid (SAt W.drew.drew p ft d s/\(∀ k,F k ↔ ∃ a,ft a k)/\Boxd w W a /\ ∀ k,F k->k<w.heap.size):=⟨hs',hF,hB,hlt⟩
 have HK:Hid (∀ w2 F2,Moved W.drew.drew w2 (ft .table) F2->(∀ j u,W.drew.drew.cell? ⟨p,j,none⟩=some u->w2.cell? ⟨p,j,none⟩=some u)/\(∀ j u,W.drew.drew.cell? ⟨w.heap.size,j,none⟩=some u->w2.cell? ⟨w.heap.size,j,none⟩=some u)):=fun w2 F2 m=>keepP hs' hF hlt (yyD hB.box).1 (by simp) m
 have hl:(Instr.lookup 83 (.map (some d.qm)) (.string a.bq) false).run Tryz.prog W.drew=.ok (ptrO ((findP d.ps a.bq).map Prod.snd)) W.drew:=DAt.look (w:=W.drew) (hs'.qmap) (hs'.dl fit) hs.2.1
 obtain ⟨c0,c1,c2,c3,c4,c5,c6,c7,c8,c9⟩:=cells10 hs'.blk
 obtain ⟨x0,x1,x2,x3,x4,x5,x6,x7,x8,x9,x10,x11,x12,x13,x14,x15,x16⟩:=cells17 hB.box
 have c6':W.cell? ⟨p,6,none⟩=some (.pointer (some ⟨d.tp,0,none⟩)):=c6
 have c7':W.cell? ⟨p,7,none⟩=some (.map (some d.qm)):=c7
 have hq:=hs'.queueAt fit a.bq
 clear hs' hF hB hlt c0 c1 c2 c3 c4 c5 c6 c7 c8 c9 x0 x1 x2 x3 x4 x5 x6 x7 x11 x12 x13 x14 x15 x16 h
 rcases hq with ⟨q1,q2⟩ | ⟨q,b,q1,q2,q3,q4⟩
 ·rw [q2] at hl
  replace hl:(Instr.lookup 83 (.map (some d.qm)) (.string a.bq) false).run Tryz.prog W.drew=.ok (.pointer none) W.drew:=hl
  have HM:Hid (bindM s ⟨a.be,a.bq,a.bp⟩=(3,s.tb)):=by show bindM s _=_; unfold bindM; rw [q1]; rfl
  rw [HM.out]
  clear q1 q2 hD
  go_enter Tryz.func85,Tryz.ntmps85
  go_wp2
  try rw [fold]
  (go_region_held3 (fun w'=>w'.cell? ⟨p,7,none⟩=some (.map (some d.qm))/\w'.cell? ⟨w.heap.size,9,none⟩=some (.string a.bq)/\(Instr.lookup 83 (.map (some d.qm)) (.string a.bq) false).run Tryz.prog w'=.ok (.pointer none) w') (first | exact ⟨c7',x9,hl⟩ | go_keep) (first | fail))
  all_goals go_wp2
  all_goals go_ret
  all_goals exact deed_none H0.out.1 (keptW H0.out.2 (drew_below W)) 3
 ·rw [q2] at hl
  replace hl:(Instr.lookup 83 (.map (some d.qm)) (.string a.bq) false).run Tryz.prog W.drew=.ok (.pointer (some ⟨b,0,none⟩)) W.drew:=hl
  have HM:Hid (bindM s ⟨a.be,a.bq,a.bp⟩=s.tb.bind ⟨a.be,a.bq,a.bp⟩):=by show bindM s _=_; unfold bindM; rw [q1]; rfl
  rw [HM.out]
  obtain ⟨dd,hdd⟩ : ∃ z,s.tb.bind ⟨a.be,a.bq,a.bp⟩=z:=⟨_,rfl⟩
  rw [hdd] at hD ⊢
  clear q1 q2 q3 q4 hdd HM
  go_enter Tryz.func85,Tryz.ntmps85
  go_wp2
  try rw [fold]
  (go_region_held3 (fun w'=>w'.cell? ⟨p,7,none⟩=some (.map (some d.qm))/\w'.cell? ⟨w.heap.size,9,none⟩=some (.string a.bq)/\(Instr.lookup 83 (.map (some d.qm)) (.string a.bq) false).run Tryz.prog w'=.ok (.pointer (some ⟨b,0,none⟩)) w') (first | exact ⟨c7',x9,hl⟩ | go_keep) (first | fail))
  all_goals go_wp2
  (go_region_held3 (fun w'=>w'.cell? ⟨p,6,none⟩=some (.pointer (some ⟨d.tp,0,none⟩))/\w'.cell? ⟨w.heap.size,8,none⟩=some (.string a.be)/\w'.cell? ⟨w.heap.size,9,none⟩=some (.string a.bq)/\w'.cell? ⟨w.heap.size,10,none⟩=some (.string a.bp)) (go_keep) (first
   |(go_at_call 135; refine hD.mono ?_; rintro e w2 ⟨rfl,F2,t2,m2⟩; have H2:Hid _:=And.intro t2 m2; have f:=(HK.out w2 F2 m2).1 6 _ c6'; have f8:=(HK.out w2 F2 m2).2 8 _ x8; have f9:=(HK.out w2 F2 m2).2 9 _ x9; have f10:=(HK.out w2 F2 m2).2 10 _ x10; clear t2 m2 hD)))
  all_goals go_wp2
  all_goals go_ret
  all_goals exact deed_table (W:=W.drew) HS.out.1 HS.out.2.1 (keptW H0.out.2 (drew_below W)) H2.out.1 H2.out.2
def onQ (s:Sm) (n:ByteArray) (f:F.St->Int × F.St):Int × Sm:=match findQ s.qs n with
 |none=>(3,s)
 |some q=>((f q).1,{ s with qs:=setQ s.qs n (f q).2 })
theorem onQ_none {s:Sm} {n:ByteArray} {f:F.St->Int × F.St} (h:findQ s.qs n=none):onQ s n f=(3,s):=by unfold onQ; rw [h]
theorem onQ_some {s:Sm} {n:ByteArray} {f:F.St->Int × F.St} {q:F.St} (h:findQ s.qs n=some q):onQ s n f=((f q).1,{ s with qs:=setQ s.qs n (f q).2 }):=by unfold onQ; rw [h]
theorem info8:(Tryz.prog.info? 74).map (·.size)=some 8:=by kernel_rfl
theorem one8 (x:F.It):(F.icells x).toArray.all (·.oneCell')=true:=by simp [F.icells,Value.oneCell']
def giveM (q:F.St):Int × F.St:=(if q.give.2.1 then 0 else 10,q.give.2.2)
theorem deed_queue {w V w2:World} {p:Nat} {ft:Ix->Nat->Prop} {d:Ad} {s:Sm} {G:Nat->Prop} (hs:SAt V p ft d s) (hF : ∀ k,G k ↔ ∃ a,ft a k) (hb:Below w.heap.size w V) {er:Int} {n:ByteArray} {b:Nat} {q':F.St} {F2:Nat->Prop} (hn:(n,b)∈d.ps) (t2:F.Q w2 b F2 q') (m2:Moved V w2 (ft (.queue n)) F2):DeedPost p G w er { s with qs:=setQ s.qs n q' } (.returned (.int .i64 er)) w2:=by
 have e:G=fun k => ∃ a,ft a k:=funext fun k=>propext (hF k)
 subst e
 exact ⟨rfl,_,⟨_,d,hs.turnQueue hn m2 t2,fun k=>Iff.rfl⟩,Moved.from_below hb (moved_upd m2)⟩
theorem DeedPost.more {p:Nat} {G:Nat->Prop} {w:World} {er:Int} {s':Sm} {e:Ending} {w' w'':World} (h:DeedPost p G w er s' e w') (b:Below w'.heap.size w' w''):DeedPost p G w er s' e w'':=by
 obtain ⟨h1,F',h2,h3⟩:=h
 exact ⟨h1,F',h2.kept b,h3.trans (.of_below b)⟩
theorem ack14_any (p:Nat) (G:Nat->Prop) (s:Sm) (a:Ax) (w:World) (h:SS w p G s) (fit:s.Fit) (ok : ∀ x∈s.qs,x.2.Ok) (hs:a.name.size<=maxLen) (ht:0<=a.tag/\a.tag<18446744073709551616) :
  Calls Tryz.prog 89 #[.pointer (some ⟨p,0,none⟩),av a] w (DeedPost p G w (onQ s a.name (fun q=>q.done a.tag.toNat)).1 (onQ s a.name (fun q=>q.done a.tag.toNat)).2):=by
 obtain ⟨W,fold⟩ : ∃ W,w.alloc (.cells #[.int .i64 a.kind,.string a.name,.int .i64 a.n,.int .u64 a.tag,.int .i64 a.to,.string a.xn,.int .i64 a.xk,.bool a.xf,.string a.be,.string a.bq,.string a.bp,.int .i64 a.m.origin,.int .u64 a.m.seq,.int .i64 a.m.hop,.string a.m.ex,.string a.m.key,.string a.m.body] 42)=W:=⟨_,rfl⟩
 have hB:Boxd w W a:=by rw [<- fold]; exact boxd_new w a
 have hW:=(h.kept hB.bel).kept (drew_below W)
 have H0:Hid (SS w p G s/\Below w.heap.size w W):=⟨h,hB.bel⟩
 obtain ⟨ft,d,hs',hF⟩:=hW
 have HS:Hid (SAt W.drew p ft d s/\(∀ k,G k ↔ ∃ a,ft a k)):=⟨hs',hF⟩
 have hl:(Instr.lookup 83 (.map (some d.qm)) (.string a.name) true).run Tryz.prog W.drew=.ok (.tuple #[ptrO ((findP d.ps a.name).map Prod.snd),.bool (findP d.ps a.name).isSome]) W.drew:=DAt.look2 (w:=W.drew) (hs'.qmap) (hs'.dl fit) hs
 obtain ⟨c0,c1,c2,c3,c4,c5,c6,c7,c8,c9⟩:=cells10 hs'.blk
 obtain ⟨x0,x1,x2,x3,x4,x5,x6,x7,x8,x9,x10,x11,x12,x13,x14,x15,x16⟩:=cells17 hB.box
 have c7':W.cell? ⟨p,7,none⟩=some (.map (some d.qm)):=c7
 have hq:=hs'.queueAt fit a.name
 clear hs' hF hB c0 c1 c2 c3 c4 c5 c6 c7 c8 c9 x0 x2 x4 x5 x6 x7 x8 x9 x10 x11 x12 x13 x14 x15 x16 h
 rcases hq with ⟨q1,q2⟩ | ⟨q,b,q1,q2,q3,q4⟩
 ·rw [q2] at hl
  replace hl:(Instr.lookup 83 (.map (some d.qm)) (.string a.name) true).run Tryz.prog W.drew=.ok (.tuple #[.pointer none,.bool false]) W.drew:=hl
  rw [onQ_none q1]
  clear q1 q2
  go_enter Tryz.func89,Tryz.ntmps89
  go_wp2
  try rw [fold]
  (go_region_held3 (fun w'=>w'.cell? ⟨p,7,none⟩=some (.map (some d.qm))/\w'.cell? ⟨w.heap.size,1,none⟩=some (.string a.name)/\(Instr.lookup 83 (.map (some d.qm)) (.string a.name) true).run Tryz.prog w'=.ok (.tuple #[.pointer none,.bool false]) w') (first | exact ⟨c7',x1,hl⟩ | go_keep) (first | fail))
  all_goals go_wp2
  all_goals go_ret
  all_goals exact deed_none H0.out.1 (keptW H0.out.2 (drew_below W)) 3
 ·rw [q2] at hl
  replace hl:(Instr.lookup 83 (.map (some d.qm)) (.string a.name) true).run Tryz.prog W.drew=.ok (.tuple #[.pointer (some ⟨b,0,none⟩),.bool true]) W.drew:=hl
  have hok:q.Ok:=ok _ (findQ_some q1)
  rw [onQ_some q1]
  have H3:Hid ((a.name,b)∈d.ps):=q3
  have hD:=F.done_any b (ft (.queue a.name)) q a.tag.toNat W.drew q4 hok (by omega)
  rw [show ((a.tag.toNat:Nat):Int)=a.tag by omega] at hD
  obtain ⟨dd,hdd⟩ : ∃ z,q.done a.tag.toNat=z:=⟨_,rfl⟩
  show Calls _ _ _ _ (DeedPost p G w (q.done a.tag.toNat).1 { s with qs:=setQ s.qs a.name (q.done a.tag.toNat).2 })
  rw [hdd] at hD ⊢
  clear q1 q2 q3 q4 hdd hok
  go_enter Tryz.func89,Tryz.ntmps89
  go_wp2
  try rw [fold]
  (go_region_held3 (fun w'=>w'.cell? ⟨p,7,none⟩=some (.map (some d.qm))/\w'.cell? ⟨w.heap.size,1,none⟩=some (.string a.name)/\w'.cell? ⟨w.heap.size,3,none⟩=some (.int .u64 a.tag)/\(Instr.lookup 83 (.map (some d.qm)) (.string a.name) true).run Tryz.prog w'=.ok (.tuple #[.pointer (some ⟨b,0,none⟩),.bool true]) w') (first | exact ⟨c7',x1,x3,hl⟩ | go_keep) (first | fail))
  all_goals go_wp2_with fail
  refine hD.mono ?_
  rintro e w2 ⟨rfl,F2,t2,m2⟩
  have H2:Hid (F.Q w2 b F2 dd.2/\Moved W.drew w2 (ft (.queue a.name)) F2):=⟨t2,m2⟩
  clear t2 m2 hD
  go_wp2
  go_ret
  exact deed_queue HS.out.1 HS.out.2 (keptW H0.out.2 (drew_below W)) H3.out H2.out.1 H2.out.2
theorem back14_any (p:Nat) (G:Nat->Prop) (s:Sm) (a:Ax) (w:World) (h:SS w p G s) (fit:s.Fit) (ok : ∀ x∈s.qs,x.2.Ok) (hs:a.name.size<=maxLen) (ht:0<=a.tag/\a.tag<18446744073709551616) :
  Calls Tryz.prog 90 #[.pointer (some ⟨p,0,none⟩),av a] w (DeedPost p G w (onQ s a.name (fun q=>q.back a.tag.toNat)).1 (onQ s a.name (fun q=>q.back a.tag.toNat)).2):=by
 obtain ⟨W,fold⟩ : ∃ W,w.alloc (.cells #[.int .i64 a.kind,.string a.name,.int .i64 a.n,.int .u64 a.tag,.int .i64 a.to,.string a.xn,.int .i64 a.xk,.bool a.xf,.string a.be,.string a.bq,.string a.bp,.int .i64 a.m.origin,.int .u64 a.m.seq,.int .i64 a.m.hop,.string a.m.ex,.string a.m.key,.string a.m.body] 42)=W:=⟨_,rfl⟩
 have hB:Boxd w W a:=by rw [<- fold]; exact boxd_new w a
 have hW:=(h.kept hB.bel).kept (drew_below W)
 have H0:Hid (SS w p G s/\Below w.heap.size w W):=⟨h,hB.bel⟩
 obtain ⟨ft,d,hs',hF⟩:=hW
 have HS:Hid (SAt W.drew p ft d s/\(∀ k,G k ↔ ∃ a,ft a k)):=⟨hs',hF⟩
 have hl:(Instr.lookup 83 (.map (some d.qm)) (.string a.name) true).run Tryz.prog W.drew=.ok (.tuple #[ptrO ((findP d.ps a.name).map Prod.snd),.bool (findP d.ps a.name).isSome]) W.drew:=DAt.look2 (w:=W.drew) (hs'.qmap) (hs'.dl fit) hs
 obtain ⟨c0,c1,c2,c3,c4,c5,c6,c7,c8,c9⟩:=cells10 hs'.blk
 obtain ⟨x0,x1,x2,x3,x4,x5,x6,x7,x8,x9,x10,x11,x12,x13,x14,x15,x16⟩:=cells17 hB.box
 have c7':W.cell? ⟨p,7,none⟩=some (.map (some d.qm)):=c7
 have hq:=hs'.queueAt fit a.name
 clear hs' hF hB c0 c1 c2 c3 c4 c5 c6 c7 c8 c9 x0 x2 x4 x5 x6 x7 x8 x9 x10 x11 x12 x13 x14 x15 x16 h
 rcases hq with ⟨q1,q2⟩ | ⟨q,b,q1,q2,q3,q4⟩
 ·rw [q2] at hl
  replace hl:(Instr.lookup 83 (.map (some d.qm)) (.string a.name) true).run Tryz.prog W.drew=.ok (.tuple #[.pointer none,.bool false]) W.drew:=hl
  rw [onQ_none q1]
  clear q1 q2
  go_enter Tryz.func90,Tryz.ntmps90
  go_wp2
  try rw [fold]
  (go_region_held3 (fun w'=>w'.cell? ⟨p,7,none⟩=some (.map (some d.qm))/\w'.cell? ⟨w.heap.size,1,none⟩=some (.string a.name)/\(Instr.lookup 83 (.map (some d.qm)) (.string a.name) true).run Tryz.prog w'=.ok (.tuple #[.pointer none,.bool false]) w') (first | exact ⟨c7',x1,hl⟩ | go_keep) (first | fail))
  all_goals go_wp2
  all_goals go_ret
  all_goals exact deed_none H0.out.1 (keptW H0.out.2 (drew_below W)) 3
 ·rw [q2] at hl
  replace hl:(Instr.lookup 83 (.map (some d.qm)) (.string a.name) true).run Tryz.prog W.drew=.ok (.tuple #[.pointer (some ⟨b,0,none⟩),.bool true]) W.drew:=hl
  have hok:q.Ok:=ok _ (findQ_some q1)
  rw [onQ_some q1]
  have H3:Hid ((a.name,b)∈d.ps):=q3
  have hD:=F.back_any b (ft (.queue a.name)) q a.tag.toNat W.drew q4 hok (by omega)
  rw [show ((a.tag.toNat:Nat):Int)=a.tag by omega] at hD
  obtain ⟨dd,hdd⟩ : ∃ z,q.back a.tag.toNat=z:=⟨_,rfl⟩
  show Calls _ _ _ _ (DeedPost p G w (q.back a.tag.toNat).1 { s with qs:=setQ s.qs a.name (q.back a.tag.toNat).2 })
  rw [hdd] at hD ⊢
  clear q1 q2 q3 q4 hdd hok
  go_enter Tryz.func90,Tryz.ntmps90
  go_wp2
  try rw [fold]
  (go_region_held3 (fun w'=>w'.cell? ⟨p,7,none⟩=some (.map (some d.qm))/\w'.cell? ⟨w.heap.size,1,none⟩=some (.string a.name)/\w'.cell? ⟨w.heap.size,3,none⟩=some (.int .u64 a.tag)/\(Instr.lookup 83 (.map (some d.qm)) (.string a.name) true).run Tryz.prog w'=.ok (.tuple #[.pointer (some ⟨b,0,none⟩),.bool true]) w') (first | exact ⟨c7',x1,x3,hl⟩ | go_keep) (first | fail))
  all_goals go_wp2_with fail
  refine hD.mono ?_
  rintro e w2 ⟨rfl,F2,t2,m2⟩
  have H2:Hid (F.Q w2 b F2 dd.2/\Moved W.drew w2 (ft (.queue a.name)) F2):=⟨t2,m2⟩
  clear t2 m2 hD
  go_wp2
  go_ret
  exact deed_queue HS.out.1 HS.out.2 (keptW H0.out.2 (drew_below W)) H3.out H2.out.1 H2.out.2
theorem give14_any (p:Nat) (G:Nat->Prop) (s:Sm) (a:Ax) (w:World) (h:SS w p G s) (fit:s.Fit) (ok : ∀ x∈s.qs,x.2.Ok) (hs:a.name.size<=maxLen) :
  Calls Tryz.prog 88 #[.pointer (some ⟨p,0,none⟩),av a] w (DeedPost p G w (onQ s a.name giveM).1 (onQ s a.name giveM).2):=by
 obtain ⟨W,fold⟩ : ∃ W,w.alloc (.cells #[.int .i64 a.kind,.string a.name,.int .i64 a.n,.int .u64 a.tag,.int .i64 a.to,.string a.xn,.int .i64 a.xk,.bool a.xf,.string a.be,.string a.bq,.string a.bp,.int .i64 a.m.origin,.int .u64 a.m.seq,.int .i64 a.m.hop,.string a.m.ex,.string a.m.key,.string a.m.body] 42)=W:=⟨_,rfl⟩
 have hB:Boxd w W a:=by rw [<- fold]; exact boxd_new w a
 have hW:=(h.kept hB.bel).kept (drew_below W)
 have H0:Hid (SS w p G s/\Below w.heap.size w W):=⟨h,hB.bel⟩
 obtain ⟨ft,d,hs',hF⟩:=hW
 have HS:Hid (SAt W.drew p ft d s/\(∀ k,G k ↔ ∃ a,ft a k)):=⟨hs',hF⟩
 have hl:(Instr.lookup 83 (.map (some d.qm)) (.string a.name) true).run Tryz.prog W.drew=.ok (.tuple #[ptrO ((findP d.ps a.name).map Prod.snd),.bool (findP d.ps a.name).isSome]) W.drew:=DAt.look2 (w:=W.drew) (hs'.qmap) (hs'.dl fit) hs
 obtain ⟨c0,c1,c2,c3,c4,c5,c6,c7,c8,c9⟩:=cells10 hs'.blk
 obtain ⟨x0,x1,x2,x3,x4,x5,x6,x7,x8,x9,x10,x11,x12,x13,x14,x15,x16⟩:=cells17 hB.box
 have c7':W.cell? ⟨p,7,none⟩=some (.map (some d.qm)):=c7
 have hq:=hs'.queueAt fit a.name
 clear hs' hF hB c0 c1 c2 c3 c4 c5 c6 c7 c8 c9 x0 x2 x4 x5 x6 x7 x8 x9 x10 x11 x12 x13 x14 x15 x16 h
 rcases hq with ⟨q1,q2⟩ | ⟨q,b,q1,q2,q3,q4⟩
 ·rw [q2] at hl
  replace hl:(Instr.lookup 83 (.map (some d.qm)) (.string a.name) true).run Tryz.prog W.drew=.ok (.tuple #[.pointer none,.bool false]) W.drew:=hl
  rw [onQ_none q1]
  clear q1 q2
  go_enter Tryz.func88,Tryz.ntmps88
  go_wp2
  try rw [fold]
  (go_region_held3 (fun w'=>w'.cell? ⟨p,7,none⟩=some (.map (some d.qm))/\w'.cell? ⟨w.heap.size,1,none⟩=some (.string a.name)/\(Instr.lookup 83 (.map (some d.qm)) (.string a.name) true).run Tryz.prog w'=.ok (.tuple #[.pointer none,.bool false]) w') (first | exact ⟨c7',x1,hl⟩ | go_keep) (first | fail))
  all_goals go_wp2
  all_goals go_ret
  all_goals exact deed_none H0.out.1 (keptW H0.out.2 (drew_below W)) 3
 ·rw [q2] at hl
  replace hl:(Instr.lookup 83 (.map (some d.qm)) (.string a.name) true).run Tryz.prog W.drew=.ok (.tuple #[.pointer (some ⟨b,0,none⟩),.bool true]) W.drew:=hl
  have hok:q.Ok:=ok _ (findQ_some q1)
  rw [onQ_some q1]
  have H3:Hid ((a.name,b)∈d.ps):=q3
  have hD:=F.give_any b (ft (.queue a.name)) q W.drew q4 hok
  obtain ⟨dd,hdd⟩ : ∃ z,q.give=z:=⟨_,rfl⟩
  show Calls _ _ _ _ (DeedPost p G w (if q.give.2.1 then 0 else 10) { s with qs:=setQ s.qs a.name q.give.2.2 })
  rw [hdd] at hD ⊢
  obtain ⟨it0,gv,q'⟩:=dd
  obtain ⟨er,her⟩ : ∃ er:Int,(if gv then 0 else 10)=er:=⟨_,rfl⟩
  show Calls _ _ _ _ (DeedPost p G w (if gv then 0 else 10) { s with qs:=setQ s.qs a.name q' })
  rw [her]
  have HE:Hid ((if gv then 0 else 10)=er):=her
  clear her
  clear q1 q2 q3 q4 hdd hok x3
  go_enter Tryz.func88,Tryz.ntmps88
  go_wp2
  try rw [fold]
  (go_region_held3 (fun w'=>w'.cell? ⟨p,7,none⟩=some (.map (some d.qm))/\w'.cell? ⟨w.heap.size,1,none⟩=some (.string a.name)/\(Instr.lookup 83 (.map (some d.qm)) (.string a.name) true).run Tryz.prog w'=.ok (.tuple #[.pointer (some ⟨b,0,none⟩),.bool true]) w') (first | exact ⟨c7',x1,hl⟩ | go_keep) (first | fail))
  all_goals go_wp2_with fail
  refine hD.mono ?_
  rintro e w2 ⟨rfl,F2,t2,m2⟩
  have H2:Hid (∀ er,DeedPost p G w er { s with qs:=setQ s.qs a.name q' } (.returned (.int .i64 er)) w2):=fun er=>deed_queue HS.out.1 HS.out.2 (keptW H0.out.2 (drew_below W)) H3.out t2 m2
  clear t2 m2 hD
  obtain ⟨X0,foldX⟩ : ∃ X,w2.alloc (.cells #[.int .u64 0,.int .i64 0,.int .u64 0,.int .i64 0,.string ⟨#[]⟩,.string ⟨#[]⟩,.string ⟨#[]⟩,.bool false] 74)=X:=⟨_,rfl⟩
  have zX:X0.heap[w2.heap.size]? = some (.cells (F.icells F.zeroIt).toArray 74 (0,0)):=by rw [<- foldX]; exact heap_alloc_new w2 _
  have bX:Below w2.heap.size w2 (X0.setRow w2.heap.size (F.icells it0).toArray):=below_setRow (by rw [<- foldX]; exact box_below w2 _) (yyH _) _
  have HX:Hid (X0.heap[w2.heap.size]? = some (.cells (F.icells F.zeroIt).toArray 74 (0,0))/\Below w2.heap.size w2 (X0.setRow w2.heap.size (F.icells it0).toArray)):=⟨zX,bX⟩
  clear zX bX
  cases gv
  all_goals go_wp2_with (refine wpList_store_row rfl 74 _ _ rfl w2.heap.size (F.icells it0).toArray rfl rfl 74 (F.icells F.zeroIt).toArray HX.out.1 info8 rfl (one8 _) ?_)
  ·obtain rfl:(10:Int)=er:=HE.out
   go_ret
   exact (H2.out _).more HX.out.2
  ·obtain rfl:(0:Int)=er:=HE.out
   go_ret
   exact (H2.out _).more HX.out.2
theorem setRow_other14 (w:World) (g:Nat) (cs:Array Value) (k:Nat) (h:k≠g):(w.setRow g cs).heap[k]? = w.heap[k]? := by
 simp only [World.setRow,Array.getElem?_modify]
 rw [if_neg (fun e=>h e.symm)]
abbrev Sl:=Option Addr × Nat × Nat
abbrev slv (x:Sl):Value:=.slice x.1 x.2.1 x.2.2
theorem sl_of {v:Value} {n:Nat} (h : ∃ a c,v=.slice a n c) : ∃ x:Sl,v=slv x:=by
 obtain ⟨a,c,rfl⟩:=h
 exact ⟨(a,n,c),rfl⟩
structure Qp where
 name:ByteArray
 most:Int
 next:Int
 r:Sl
 o:Sl
def qpcells (x:Qp):List Value:=[.string x.name,.int .i64 x.most,.int .u64 x.next,slv x.r,slv x.o]
abbrev qpv (x:Qp):Value:=.agg #[.string x.name,.int .i64 x.most,.int .u64 x.next,slv x.r,slv x.o]
instance encQp:K.Enc qpcells 5:=⟨fun _=>rfl,fun m u hu=>by simp [qpcells] at hu; rcases hu with rfl | rfl | rfl | rfl | rfl <;> rfl,by decide⟩
def zQp:Qp:=⟨⟨#[]⟩,0,0,(none,0,0),(none,0,0)⟩
theorem infoQp:(Tryz.prog.info? 59).map (·.size)=some 5:=by kernel_rfl
theorem oneQp (x:Qp):(qpcells x).toArray.all (·.oneCell')=true:=by simp [qpcells,Value.oneCell']
theorem results_qp_tmp {fn:Func} {p u:Tmp} (h:fn.results = #[.cell p 59,.tmp u]) (tmps:Array Value) (w:World) (g:Nat) (x:Qp) (hp:tmps.getD p undef=.pointer (some ⟨g,0,none⟩)) (hg:w.heap[g]? = some (.cells (qpcells x).toArray 59 (0,0))) :
  (results fn tmps).run Tryz.prog w=.ok (.tuple #[qpv x,tmps.getD u undef]) w:=by
 rw [results_cell_tmp h,hp]
 simp [asAddr,run_loadVar_row w g _ _ _ _ _ hg Tryz.underlying59 rfl infoQp,Result.andThen]
 rfl
structure QpIs (w:World) (base:Nat) (x:Qp) (n:ByteArray) (q:F.St):Prop where
 name:x.name=n
 most:x.most=q.most
 next:x.next=q.next
 r:F.Own8 w base (slv x.r) q.rdy
 o:F.Own8 w base (slv x.o) q.out
theorem queue14_some (p:Nat) (G:Nat->Prop) (s:Sm) (n:ByteArray) (q:F.St) (w:World) (h:SS w p G s) (fit:s.Fit) (hn:n.size<=maxLen) (hq:findQ s.qs n=some q) (ok:q.Ok) :
  Calls Tryz.prog 18 #[.pointer (some ⟨p,0,none⟩),.string n] w fun e w' => ∃ x,e=.returned (.tuple #[qpv x,.bool true])/\QpIs w' w.heap.size x n q/\Below w.heap.size w w':=by
 obtain ⟨W,fold⟩ : ∃ W,w.alloc (.cells #[.string ⟨#[]⟩,.int .i64 0,.int .u64 0,.slice none 0 0,.slice none 0 0] 59)=W:=⟨_,rfl⟩
 have bW:Below w.heap.size w W:=by rw [<- fold]; exact box_below w _
 have kW:W.heap[w.heap.size]? = some (.cells (qpcells zQp).toArray 59 (0,0)):=by rw [<- fold]; exact heap_alloc_new w _
 have hS:=h.kept bW
 have hM:=made14_any p G s W hS
 obtain ⟨ft,d,hs',hF⟩:=hS
 obtain ⟨c0,c1,c2,c3,c4,c5,c6,c7,c8,c9⟩:=cells10 hs'.blk
 have hl:=hs'.qmap.look (hs'.dl fit) hn
 rcases hs'.queueAt fit n with ⟨h1,_⟩ | ⟨q',b,h1,h2,h3,h4⟩
 ·rw [hq] at h1; cases h1
 obtain rfl:q=q':=by rw [hq] at h1; injection h1
 rw [h2] at hl
 simp only [Option.map_some,ptrO] at hl
 have hA:=F.most_any b _ q W h4
 have hB:=F.next_any b _ q W h4
 have hC:=F.ready_any b _ q W h4 ok
 have HO:Hid (∀ V,Below W.heap.size W V->Calls Tryz.prog 54 #[.pointer (some ⟨b,0,none⟩)] V fun e w' => ∃ v',e=.returned v'/\F.Own8 w' V.heap.size v' q.out/\Below V.heap.size V w'):=fun V bV=>F.out_any b _ q V (h4.same fun k hk=>bV.block k (h4.lts k hk)) ok
 have H0:Hid (Below w.heap.size w W/\W.heap[w.heap.size]? = some (.cells (qpcells zQp).toArray 59 (0,0))):=⟨bW,kW⟩
 clear hs' hF h fit hn hq ok h1 h2 h3 h4 bW kW c0 c1 c2 c3 c4 c5 c6 c8 c9
 go_enter Tryz.func18,Tryz.ntmps18
 go_wp2_with fail
 try rw [fold]
 refine hM.mono ?_
 rintro e W ⟨rfl,rfl⟩
 clear hM
 go_wp2_with fail
 refine hA.mono ?_
 rintro e W ⟨rfl,rfl⟩
 clear hA
 go_wp2_with fail
 refine hB.mono ?_
 rintro e W ⟨rfl,rfl⟩
 clear hB
 go_wp2_with fail
 refine hC.mono ?_
 rintro e w1 ⟨v1,rfl,o1,b1⟩
 clear hC
 obtain ⟨x1,rfl⟩:=sl_of o1.rng.slice
 have H1:Hid (F.Own8 w1 W.heap.size (slv x1) q.rdy/\Below W.heap.size W w1):=⟨o1,b1⟩
 have hO:=HO.out w1 b1
 clear o1 b1 HO
 obtain ⟨a1,n1,k1⟩:=x1
 go_wp2_with fail
 refine hO.mono ?_
 rintro e w2 ⟨v2,rfl,o2,b2⟩
 clear hO
 obtain ⟨x2,rfl⟩:=sl_of o2.rng.slice
 have H2:Hid (F.Own8 w2 w1.heap.size (slv x2) q.out/\Below w1.heap.size w1 w2):=⟨o2,b2⟩
 clear o2 b2
 obtain ⟨a2,n2,k2⟩:=x2
 have HB:Hid (w2.heap[w.heap.size]? = some (.cells (qpcells zQp).toArray 59 (0,0))):=(H2.out.2.block _ (Nat.lt_of_lt_of_le (yyD H0.out.2).1 H1.out.2.size)).trans ((H1.out.2.block _ (yyD H0.out.2).1).trans H0.out.2)
 go_wp2_with (refine wpList_store_row rfl 59 _ _ rfl w.heap.size (qpcells ⟨n,q.most,q.next,(a1,n1,k1),(a2,n2,k2)⟩).toArray rfl rfl 59 (qpcells zQp).toArray HB.out infoQp rfl (oneQp _) ?_)
 refine bodyPost_ret (results_qp_tmp rfl _ _ w.heap.size ⟨n,q.most,q.next,(a1,n1,k1),(a2,n2,k2)⟩ rfl (setRow_heap _ _ _ _ _ _ HB.out)) rfl ⟨_,rfl,⟨rfl,rfl,rfl,?_,?_⟩,below_setRow (keptW (keptW H0.out.1 H1.out.2) H2.out.2) (yyH _) _⟩
 ·have h1:=H1.out.1.kept H2.out.2 (yyH _)
  refine (h1.mono H0.out.1.size).same fun g hg=>?_
  have:=(h1.lt hg).1
  have:=(yyD H0.out.2).1
  exact setRow_other14 _ _ _ _ (by omega)
 ·refine (H2.out.1.mono (Nat.le_trans H0.out.1.size H1.out.2.size)).same fun g hg=>?_
  have:=(H2.out.1.lt hg).1
  have:=(yyD H0.out.2).1
  have:=H1.out.2.size
  exact setRow_other14 _ _ _ _ (by omega)
end Go.Proofs.YtnhnpnafchkhiaaGreatDoor
