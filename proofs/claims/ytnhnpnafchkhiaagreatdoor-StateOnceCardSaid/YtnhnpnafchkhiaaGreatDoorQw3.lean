import Derived.Shelf.SlSorted.Search
import Derived.Test.YtnhnpnafchkhiaaGreatDoorProg
import Derived.Test.YtnhnpnafchkhiaaGreatDoorQw2
import Derived.Test.YtnhnpnafchkhiaaGreatDoorQw0
import Derived.Lib.LaidTab
import Derived.Deep.Light
import Derived.Outline
set_option maxHeartbeats 4000000
set_option maxRecDepth 20000
namespace Go.Proofs
open Go.Shelf
def Tryz.searchS_ren:Go.Shelf.Ren:=⟨fun | 16=>209 | n=>n,fun | 3=>3 | 35=>116 | 4=>4 | 38=>226 | n=>n,fun | n=>n⟩
theorem Tryz.searchS:Go.Proofs.SlLaysO.n16 Tryz.prog Tryz.searchS_ren:={
 mixed:=by kernel_rfl
 f16:=Tryz.func209.trans (congrArg some (by kernel_rfl))
 t3:=Tryz.underlying3
 a3:=Tryz.isAgg3
 z3:=Tryz.sizeOf3
 v3:=Tryz.zeroValue3
 t4:=Tryz.underlying4
 a4:=Tryz.isAgg4
 z4:=Tryz.sizeOf4
 v4:=Tryz.zeroValue4
 t35:=Tryz.underlying116
 a35:=Tryz.isAgg116
 z35:=Tryz.sizeOf116
 v35:=Tryz.zeroValue116
 t38:=Tryz.underlying226
 a38:=Tryz.isAgg226
 z38:=Tryz.sizeOf226
 v38:=Tryz.zeroValue226 }
end Go.Proofs
namespace Go.Proofs.YtnhnpnafchkhiaaGreatDoor
open Go.RowKit
theorem run_load_cells {P:Program} (w:World) (g:Nat) (ty:TypeId) (cs:List Value) (d:TypeDesc) (hc : ∀ j u,cs[j]? = some u->w.cell? ⟨g,j,none⟩=some u)
  (hu:P.underlying ty=some d) (hd:(match d with | .struct _ | .array _ _=>true | _=>false)=true) (hi:(P.info? ty).map (·.size)=some cs.length) :
  (loadVar ty ⟨g,0,none⟩).run P w=.ok (.agg cs.toArray) w:=by
 have hl:(loadCells ⟨g,0,none⟩ cs.length).run P w=.ok cs.toArray w :=
  run_loadCells_list (P:=P) w ⟨g,0,none⟩ cs (fun j v hv=>by
   have hadd:(⟨g,0,none⟩:Addr).add j=⟨g,j,none⟩:=by unfold Addr.add; split <;> simp_all
   rw [hadd]
   exact hc j v hv)
 cases hq:P.info? ty with
 |none=>simp [hq] at hi
 |some i =>
  have hs:i.size=cs.length:=by simpa [hq] using hi
  have hagg:(isAgg ty).run P w=.ok true w:=by
   unfold isAgg
   rw [Sem.run_bind,run_underlying hu w]
   cases d <;> simp_all
  simp [loadVar,Sem.run_bind,hagg,sizeOf,typeInfo,hq,hs,hl]
theorem wpList_load_cells {P:Program} {ops:Array Oper} {rest:List Oper} {o:Oper} {a:Act} {w:World} {Q:Exit->Act->World->Prop} (hgd:o.guard=none) (ty:TypeId) (x:Operand) (ho:o.op=.load ty x)
  (g:Nat) (hx:a.eval x=.pointer (some ⟨g,0,none⟩)) (cs:List Value) (d:TypeDesc) (hc : ∀ j u,cs[j]? = some u->w.cell? ⟨g,j,none⟩=some u)
  (hu:P.underlying ty=some d) (hd:(match d with | .struct _ | .array _ _=>true | _=>false)=true) (hi:(P.info? ty).map (·.size)=some cs.length)
  (h:wpList P ops Q rest (a.put o.dst (.agg cs.toArray)) w):wpList P ops Q (o::rest) a w :=
 wpList_plain hgd fun _ hK=>by
  unfold Oper.wp execOp
  simp only [ho,hx,Instr.loadAt,Instr.sureAddr,Sem.run_bind,Sem.run_pure,Result.andThen_ok,run_load_cells w g ty cs d hc hu hd hi]
  exact hK _ _ h
def goodB (n:Int):Bool:=n==1 || n==2 || n==4 || n==8
def cutI (v n:Int):Int:=if n=1 then v % 256 else if n=2 then v % 65536 else if n=4 then v % 4294967296 else if n=8 then v else 0
def signedI (v n:Int):Int:=if n=1 then (v+128) % 256-128 else if n=2 then (v+32768) % 65536-32768 else if n=4 then (v+2147483648) % 4294967296-2147483648 else if n=8 then (v+9223372036854775808) % 18446744073709551616-9223372036854775808 else 0
def fitsB (n k:Int):Bool:=goodB k && (signedI (n % 18446744073709551616) k==n)
def farI (a b:Int):Int:=(b-a+32768) % 65536-32768
def moveI (a n:Int):Int:=(a+n) % 65536
def lessB (a b:Int):Bool:=decide (0<farI a b)
def putL (n v:Nat):List UInt8:=(List.range n).map fun i=>UInt8.ofNat (v >>> (8*(n-1-i)))
def putI (n:Int) (v:Nat):List UInt8:=if goodB n then putL n.toNat v else []
def getN (bs:List UInt8):Nat:=bs.foldl (fun a b=>a*256+b.toNat) 0
structure Ms where
 origin:Int
 seq:Int
 hop:Int
 ex:ByteArray
 key:ByteArray
 body:ByteArray
 deriving DecidableEq
structure Ax where
 kind:Int
 name:ByteArray
 n:Int
 tag:Int
 to:Int
 xn:ByteArray
 xk:Int
 xf:Bool
 be:ByteArray
 bq:ByteArray
 bp:ByteArray
 m:Ms
 deriving DecidableEq
def mcells (m:Ms):List Value:=[.int .i64 m.origin,.int .u64 m.seq,.int .i64 m.hop,.string m.ex,.string m.key,.string m.body]
abbrev mv (m:Ms):Value:=.agg #[.int .i64 m.origin,.int .u64 m.seq,.int .i64 m.hop,.string m.ex,.string m.key,.string m.body]
def xcells (a:Ax):List Value:=[.int .i64 a.kind,.string a.name,.int .i64 a.n,.int .u64 a.tag,.int .i64 a.to,.string a.xn,.int .i64 a.xk,.bool a.xf,.string a.be,.string a.bq,.string a.bp,.int .i64 a.m.origin,.int .u64 a.m.seq,.int .i64 a.m.hop,.string a.m.ex,.string a.m.key,.string a.m.body]
abbrev av (a:Ax):Value:=.agg #[.int .i64 a.kind,.string a.name,.int .i64 a.n,.int .u64 a.tag,.int .i64 a.to,.string a.xn,.int .i64 a.xk,.bool a.xf,.string a.be,.string a.bq,.string a.bp,.int .i64 a.m.origin,.int .u64 a.m.seq,.int .i64 a.m.hop,.string a.m.ex,.string a.m.key,.string a.m.body]
def zM:Ms:=⟨0,0,0,⟨#[]⟩,⟨#[]⟩,⟨#[]⟩⟩
def zA (k:Int):Ax:=⟨k,⟨#[]⟩,0,0,0,⟨#[]⟩,0,false,⟨#[]⟩,⟨#[]⟩,⟨#[]⟩,zM⟩
structure Ms.Fits (m:Ms):Prop where
 o : -9223372036854775808<=m.origin/\m.origin<9223372036854775808
 s:0<=m.seq/\m.seq<18446744073709551616
 h : -9223372036854775808<=m.hop/\m.hop<9223372036854775808
 e:m.ex.size<=maxLen
 k:m.key.size<=maxLen
 b:m.body.size<=maxLen
structure Ax.Fits (a:Ax):Prop where
 k : -9223372036854775808<=a.kind/\a.kind<9223372036854775808
 nm:a.name.size<=maxLen
 n : -9223372036854775808<=a.n/\a.n<9223372036854775808
 t:0<=a.tag/\a.tag<18446744073709551616
 to : -9223372036854775808<=a.to/\a.to<9223372036854775808
 xn:a.xn.size<=maxLen
 xk : -9223372036854775808<=a.xk/\a.xk<9223372036854775808
 be:a.be.size<=maxLen
 bq:a.bq.size<=maxLen
 bp:a.bp.size<=maxLen
 m:a.m.Fits
def inB (n lo hi:Int):Bool:=decide (lo<=n) && decide (n<=hi)
def goodM (m:Ms):Bool:=inB m.origin 1 8 && decide (1<=m.seq) && inB m.hop 0 8 && nameB (txt m.ex) && keyB (txt m.key) && decide ((m.body.size:Int)<=200)
def goodX (n:ByteArray) (k:Int):Bool:=inB k 1 3 && nameB (txt n)
def goodBd (e q p:ByteArray):Bool:=nameB (txt e) && nameB (txt q) && decide ((p.size:Int)<=60)
def lettersL (k:Int):Option (List UInt8) :=
 if k=1 then some [110,100] else if k=2 then some [110] else if k=3 then some [120] else if k=4 then some [110] else if k=5 then some [98] else if k=6 then some [98] else if k=7 then some [109] else if k=8 then some [110] else if k=9 then some [110,116] else if k=10 then some [110,116] else if k=11 then some [115,99] else if k=12 then some [] else none
def fitsA (a:Ax) (c:UInt8):Bool :=
 if c=110 then nameB (txt a.name) else if c=100 then inB a.n 1 1000 else if c=99 then inB a.n 1 200 else if c=116 then decide (1<=a.tag) else if c=115 then inB a.to 1 8 else if c=120 then goodX a.xn a.xk else if c=98 then goodBd a.be a.bq a.bp else if c=109 then goodM a.m else false
def onlyS (a z:Ax) (c:UInt8):Ax :=
 if c=110 then { z with name:=a.name } else if c=100\/c=99 then { z with n:=a.n } else if c=116 then { z with tag:=a.tag } else if c=115 then { z with to:=a.to } else if c=120 then { z with xn:=a.xn,xk:=a.xk,xf:=a.xf } else if c=98 then { z with be:=a.be,bq:=a.bq,bp:=a.bp } else if c=109 then { z with m:=a.m } else z
def onlyL (a:Ax) (l:List UInt8):Ax:=l.foldl (onlyS a) (zA a.kind)
def goodA (a:Ax):Bool:=match lettersL a.kind with
 |none=>false
 |some l=>l.all (fitsA a) && decide (a=onlyL a l)
def textL (s:ByteArray):List UInt8:=putL 2 (min s.size 65535)++(txt s).take 65535
def u64 (n:Int):Nat:=(n % 18446744073709551616).toNat
def bytesM (m:Ms):List UInt8:=putL 1 (u64 m.origin)++putL 8 m.seq.toNat++putL 1 (u64 m.hop)++textL m.ex++textL m.key++textL m.body
def exL (n:ByteArray) (k:Int) (f:Bool):List UInt8:=textL n++putL 1 (u64 k)++putL 1 (if f then 1 else 0)
def bdL (e q p:ByteArray):List UInt8:=textL e++textL q++textL p
def putS (a:Ax) (c:UInt8):List UInt8 :=
 if c=110 then textL a.name else if c=100\/c=99 then putL 2 (u64 a.n) else if c=116 then putL 8 a.tag.toNat else if c=115 then putL 1 (u64 a.to) else if c=120 then exL a.xn a.xk a.xf else if c=98 then bdL a.be a.bq a.bp else if c=109 then bytesM a.m else []
def bytesA (a:Ax):List UInt8:=if goodA a then (match lettersL a.kind with
 |none=>[]
 |some l=>putL 1 (u64 a.kind)++l.flatMap (putS a)) else []
theorem keptW {w W w':World} (h:Below w.heap.size w W) (b:Below W.heap.size W w'):Below w.heap.size w w':=h.trans (b.mono h.size)
theorem cell_on {w w':World} {b j:Nat} {v:Value} (hb:Below w.heap.size w w') (h:w.cell? ⟨b,j,none⟩=some v):w'.cell? ⟨b,j,none⟩=some v:=(hb.cell (p:=⟨b,j,none⟩) (World.block_lt_of_cell? w _ h)).trans h
theorem box_below (w:World) (o:Obj):Below w.heap.size w (w.alloc o):=(Below.refl _ _).alloc (Nat.le_refl _) _
theorem box_cell (w:World) (cs:Array Value) (t:TypeId) (j:Nat) (v:Value) (h:cs[j]? = some v):(w.alloc (.cells cs t)).cell? ⟨w.heap.size,j,none⟩=some v:=by
 have:=heap_alloc_new w (.cells cs t)
 simp only [World.cell?]
 rw [this]
 exact h
theorem within_any (n lo hi:Int) (w:World):Calls Tryz.prog 127 #[.int .i64 n,.int .i64 lo,.int .i64 hi] w fun e w'=>e=.returned (.bool (inB n lo hi))/\w'=w:=by
 unfold inB
 by_cases h1:lo<=n
 ·have e1:decide (lo<=n)=true:=by simpa using h1
  go_enter Tryz.func127,Tryz.ntmps127
  go_wp2
  go_ret
  exact ⟨by rw [e1]; simp,rfl⟩
 ·have e1:decide (lo<=n)=false:=by simpa using h1
  go_enter Tryz.func127,Tryz.ntmps127
  go_wp2
  go_ret
  exact ⟨by first | (rw [e1]; simp) | simp,rfl⟩
theorem goodX_any (n:ByteArray) (k:Int) (f:Bool) (w:World) (hn:n.size<=maxLen):Calls Tryz.prog 128 #[.agg #[.string n,.int .i64 k,.bool f]] w fun e w'=>e=.returned (.bool (goodX n k))/\Below w.heap.size w w':=by
 have hB:=box_below w (.cells #[.string n,.int .i64 k,.bool f] 34)
 have hN:=name_any n (w.alloc (.cells #[.string n,.int .i64 k,.bool f] 34)) hn
 unfold goodX inB
 by_cases h1:k=1
 ·subst h1
  go_enter Tryz.func128,Tryz.ntmps128
  go_wp2_with (go_at_call 126; refine hN.mono ?_; rintro e w2 ⟨rfl,b2⟩)
  go_ret
  exact ⟨by simp,keptW hB b2⟩
 by_cases h2:k=2
 ·subst h2
  go_enter Tryz.func128,Tryz.ntmps128
  go_wp2_with (go_at_call 126; refine hN.mono ?_; rintro e w2 ⟨rfl,b2⟩)
  go_ret
  exact ⟨by simp,keptW hB b2⟩
 by_cases h3:k=3
 ·subst h3
  go_enter Tryz.func128,Tryz.ntmps128
  go_wp2_with (go_at_call 126; refine hN.mono ?_; rintro e w2 ⟨rfl,b2⟩)
  go_ret
  exact ⟨by simp,keptW hB b2⟩
 have e1:(k==1)=false:=by simpa using h1
 have e2:(k==2)=false:=by simpa using h2
 have e3:(k==3)=false:=by simpa using h3
 clear hN
 go_enter Tryz.func128,Tryz.ntmps128
 go_wp2
 go_ret
 refine ⟨?_,hB⟩
 have:(decide (1<=k) && decide (k<=3))=false:=by
  rw [Bool.and_eq_false_iff,decide_eq_false_iff_not,decide_eq_false_iff_not]
  omega
 rw [this]
 rfl
theorem goodBd_any (x q p:ByteArray) (w:World) (hx:x.size<=maxLen) (hq:q.size<=maxLen):Calls Tryz.prog 129 #[.agg #[.string x,.string q,.string p]] w fun e w'=>e=.returned (.bool (goodBd x q p))/\Below w.heap.size w w':=by
 obtain ⟨W,fold⟩ : ∃ W,w.alloc (.cells #[.string x,.string q,.string p] 36)=W:=⟨_,rfl⟩
 have b0:Below w.heap.size w W:=by rw [<- fold]; exact box_below w _
 have y0:W.cell? ⟨w.heap.size,0,none⟩=some (.string x):=by rw [<- fold]; exact box_cell w _ _ _ _ rfl
 have y1:W.cell? ⟨w.heap.size,1,none⟩=some (.string q):=by rw [<- fold]; exact box_cell w _ _ _ _ rfl
 have y2:W.cell? ⟨w.heap.size,2,none⟩=some (.string p):=by rw [<- fold]; exact box_cell w _ _ _ _ rfl
 unfold goodBd
 go_enter Tryz.func129,Tryz.ntmps129
 have hc:=name_any x W hx
 go_wp2_with fail
 try rw [fold]
 refine hc.mono ?_
 rintro e V1 ⟨rfl,b1⟩
 have y0:=cell_on b1 y0
 have y1:=cell_on b1 y1
 have y2:=cell_on b1 y2
 clear hc
 cases e0:nameB (txt x)
 ·go_wp2
  go_ret
  exact ⟨by (try rw [e0]); first | rfl | simp,keptW b0 b1⟩
 have hc:=name_any q V1 hq
 go_wp2_with fail
 refine hc.mono ?_
 rintro e V2 ⟨rfl,b2⟩
 have y0:=cell_on b2 y0
 have y1:=cell_on b2 y1
 have y2:=cell_on b2 y2
 clear hc
 cases e1:nameB (txt q)
 ·go_wp2
  go_ret
  exact ⟨by (try rw [e0]); (try rw [e1]); first | rfl | simp,keptW (keptW b0 b1) b2⟩
 go_wp2
 go_ret
 exact ⟨by (try rw [e0]); (try rw [e1]); first | rfl | simp,keptW (keptW b0 b1) b2⟩
theorem goodM_any (m:Ms) (w:World) (hm:m.Fits):Calls Tryz.prog 130 #[mv m] w fun e w'=>e=.returned (.bool (goodM m))/\Below w.heap.size w w':=by
 obtain ⟨W,fold⟩ : ∃ W,w.alloc (.cells #[.int .i64 m.origin,.int .u64 m.seq,.int .i64 m.hop,.string m.ex,.string m.key,.string m.body] 40)=W:=⟨_,rfl⟩
 have b0:Below w.heap.size w W:=by rw [<- fold]; exact box_below w _
 have y0:W.cell? ⟨w.heap.size,0,none⟩=some (.int .i64 m.origin):=by rw [<- fold]; exact box_cell w _ _ _ _ rfl
 have y1:W.cell? ⟨w.heap.size,1,none⟩=some (.int .u64 m.seq):=by rw [<- fold]; exact box_cell w _ _ _ _ rfl
 have y2:W.cell? ⟨w.heap.size,2,none⟩=some (.int .i64 m.hop):=by rw [<- fold]; exact box_cell w _ _ _ _ rfl
 have y3:W.cell? ⟨w.heap.size,3,none⟩=some (.string m.ex):=by rw [<- fold]; exact box_cell w _ _ _ _ rfl
 have y4:W.cell? ⟨w.heap.size,4,none⟩=some (.string m.key):=by rw [<- fold]; exact box_cell w _ _ _ _ rfl
 have y5:W.cell? ⟨w.heap.size,5,none⟩=some (.string m.body):=by rw [<- fold]; exact box_cell w _ _ _ _ rfl
 unfold goodM
 go_enter Tryz.func130,Tryz.ntmps130
 have hc:=within_any m.origin 1 8 W
 go_wp2_with fail
 try rw [fold]
 refine hc.mono ?_
 rintro e V1 ⟨rfl,rfl⟩
 clear hc
 cases e0:inB m.origin 1 8
 ·go_wp2
  go_ret
  exact ⟨by (try rw [e0]); first | rfl | simp,b0⟩
 cases e1:decide (1<=m.seq)
 ·go_wp2
  go_ret
  exact ⟨by (try rw [e0]); (try rw [e1]); first | rfl | simp,b0⟩
 have hc:=within_any m.hop 0 8 V1
 go_wp2_with fail
 refine hc.mono ?_
 rintro e V3 ⟨rfl,rfl⟩
 clear hc
 cases e2:inB m.hop 0 8
 ·go_wp2
  go_ret
  exact ⟨by (try rw [e0]); (try rw [e1]); (try rw [e2]); first | rfl | simp,b0⟩
 have hc:=name_any m.ex V3 hm.e
 go_wp2_with fail
 refine hc.mono ?_
 rintro e V4 ⟨rfl,b4⟩
 have y0:=cell_on b4 y0
 have y1:=cell_on b4 y1
 have y2:=cell_on b4 y2
 have y3:=cell_on b4 y3
 have y4:=cell_on b4 y4
 have y5:=cell_on b4 y5
 clear hc
 cases e3:nameB (txt m.ex)
 ·go_wp2
  go_ret
  exact ⟨by (try rw [e0]); (try rw [e1]); (try rw [e2]); (try rw [e3]); first | rfl | simp,keptW b0 b4⟩
 have hc:=key_any m.key V4 hm.k
 go_wp2_with fail
 refine hc.mono ?_
 rintro e V5 ⟨rfl,b5⟩
 have y0:=cell_on b5 y0
 have y1:=cell_on b5 y1
 have y2:=cell_on b5 y2
 have y3:=cell_on b5 y3
 have y4:=cell_on b5 y4
 have y5:=cell_on b5 y5
 clear hc
 cases e4:keyB (txt m.key)
 ·go_wp2
  go_ret
  exact ⟨by (try rw [e0]); (try rw [e1]); (try rw [e2]); (try rw [e3]); (try rw [e4]); first | rfl | simp,keptW (keptW b0 b4) b5⟩
 go_wp2
 go_ret
 exact ⟨by (try rw [e0]); (try rw [e1]); (try rw [e2]); (try rw [e3]); (try rw [e4]); first | rfl | simp,keptW (keptW b0 b4) b5⟩
def Kinds (w:World):Prop := ∀ j u,[Value.int .i64 1,.string ⟨#[110,100]⟩,.int .i64 2,.string ⟨#[110]⟩,.int .i64 3,.string ⟨#[120]⟩,.int .i64 4,.string ⟨#[110]⟩,.int .i64 5,.string ⟨#[98]⟩,.int .i64 6,.string ⟨#[98]⟩,.int .i64 7,.string ⟨#[109]⟩,.int .i64 8,.string ⟨#[110]⟩,.int .i64 9,.string ⟨#[110,116]⟩,.int .i64 10,.string ⟨#[110,116]⟩,.int .i64 11,.string ⟨#[115,99]⟩,.int .i64 12,.string ⟨#[]⟩][j]? = some u->w.cell? ⟨0,j,none⟩=some u
theorem Kinds.below {w w':World} (h:Kinds w) (hb:Below w.heap.size w w'):Kinds w':=fun j u hj=>cell_on hb (h j u hj)
def lettersS (k:Int):ByteArray:=⟨((lettersL k).getD []).toArray⟩
theorem lettersOf_any (k:Int) (w:World) (ht:Kinds w) :
  Calls Tryz.prog 78 #[.int .i64 k] w fun e w'=>e=.returned (.tuple #[.string (lettersS k),.bool (lettersL k).isSome])/\Below w.heap.size w w':=by
 have i0 : ∀ w:World,(Instr.index 202 (.agg #[.int .i64 1,.string ⟨#[110,100]⟩,.int .i64 2,.string ⟨#[110]⟩,.int .i64 3,.string ⟨#[120]⟩,.int .i64 4,.string ⟨#[110]⟩,.int .i64 5,.string ⟨#[98]⟩,.int .i64 6,.string ⟨#[98]⟩,.int .i64 7,.string ⟨#[109]⟩,.int .i64 8,.string ⟨#[110]⟩,.int .i64 9,.string ⟨#[110,116]⟩,.int .i64 10,.string ⟨#[110,116]⟩,.int .i64 11,.string ⟨#[115,99]⟩,.int .i64 12,.string ⟨#[]⟩]) (.int .i64 0)).run Tryz.prog w=.ok (.agg #[.int .i64 1,.string ⟨#[110,100]⟩]) w:=fun _=>by kernel_rfl
 have i1 : ∀ w:World,(Instr.index 202 (.agg #[.int .i64 1,.string ⟨#[110,100]⟩,.int .i64 2,.string ⟨#[110]⟩,.int .i64 3,.string ⟨#[120]⟩,.int .i64 4,.string ⟨#[110]⟩,.int .i64 5,.string ⟨#[98]⟩,.int .i64 6,.string ⟨#[98]⟩,.int .i64 7,.string ⟨#[109]⟩,.int .i64 8,.string ⟨#[110]⟩,.int .i64 9,.string ⟨#[110,116]⟩,.int .i64 10,.string ⟨#[110,116]⟩,.int .i64 11,.string ⟨#[115,99]⟩,.int .i64 12,.string ⟨#[]⟩]) (.int .i64 1)).run Tryz.prog w=.ok (.agg #[.int .i64 2,.string ⟨#[110]⟩]) w:=fun _=>by kernel_rfl
 have i2 : ∀ w:World,(Instr.index 202 (.agg #[.int .i64 1,.string ⟨#[110,100]⟩,.int .i64 2,.string ⟨#[110]⟩,.int .i64 3,.string ⟨#[120]⟩,.int .i64 4,.string ⟨#[110]⟩,.int .i64 5,.string ⟨#[98]⟩,.int .i64 6,.string ⟨#[98]⟩,.int .i64 7,.string ⟨#[109]⟩,.int .i64 8,.string ⟨#[110]⟩,.int .i64 9,.string ⟨#[110,116]⟩,.int .i64 10,.string ⟨#[110,116]⟩,.int .i64 11,.string ⟨#[115,99]⟩,.int .i64 12,.string ⟨#[]⟩]) (.int .i64 2)).run Tryz.prog w=.ok (.agg #[.int .i64 3,.string ⟨#[120]⟩]) w:=fun _=>by kernel_rfl
 have i3 : ∀ w:World,(Instr.index 202 (.agg #[.int .i64 1,.string ⟨#[110,100]⟩,.int .i64 2,.string ⟨#[110]⟩,.int .i64 3,.string ⟨#[120]⟩,.int .i64 4,.string ⟨#[110]⟩,.int .i64 5,.string ⟨#[98]⟩,.int .i64 6,.string ⟨#[98]⟩,.int .i64 7,.string ⟨#[109]⟩,.int .i64 8,.string ⟨#[110]⟩,.int .i64 9,.string ⟨#[110,116]⟩,.int .i64 10,.string ⟨#[110,116]⟩,.int .i64 11,.string ⟨#[115,99]⟩,.int .i64 12,.string ⟨#[]⟩]) (.int .i64 3)).run Tryz.prog w=.ok (.agg #[.int .i64 4,.string ⟨#[110]⟩]) w:=fun _=>by kernel_rfl
 have i4 : ∀ w:World,(Instr.index 202 (.agg #[.int .i64 1,.string ⟨#[110,100]⟩,.int .i64 2,.string ⟨#[110]⟩,.int .i64 3,.string ⟨#[120]⟩,.int .i64 4,.string ⟨#[110]⟩,.int .i64 5,.string ⟨#[98]⟩,.int .i64 6,.string ⟨#[98]⟩,.int .i64 7,.string ⟨#[109]⟩,.int .i64 8,.string ⟨#[110]⟩,.int .i64 9,.string ⟨#[110,116]⟩,.int .i64 10,.string ⟨#[110,116]⟩,.int .i64 11,.string ⟨#[115,99]⟩,.int .i64 12,.string ⟨#[]⟩]) (.int .i64 4)).run Tryz.prog w=.ok (.agg #[.int .i64 5,.string ⟨#[98]⟩]) w:=fun _=>by kernel_rfl
 have i5 : ∀ w:World,(Instr.index 202 (.agg #[.int .i64 1,.string ⟨#[110,100]⟩,.int .i64 2,.string ⟨#[110]⟩,.int .i64 3,.string ⟨#[120]⟩,.int .i64 4,.string ⟨#[110]⟩,.int .i64 5,.string ⟨#[98]⟩,.int .i64 6,.string ⟨#[98]⟩,.int .i64 7,.string ⟨#[109]⟩,.int .i64 8,.string ⟨#[110]⟩,.int .i64 9,.string ⟨#[110,116]⟩,.int .i64 10,.string ⟨#[110,116]⟩,.int .i64 11,.string ⟨#[115,99]⟩,.int .i64 12,.string ⟨#[]⟩]) (.int .i64 5)).run Tryz.prog w=.ok (.agg #[.int .i64 6,.string ⟨#[98]⟩]) w:=fun _=>by kernel_rfl
 have i6 : ∀ w:World,(Instr.index 202 (.agg #[.int .i64 1,.string ⟨#[110,100]⟩,.int .i64 2,.string ⟨#[110]⟩,.int .i64 3,.string ⟨#[120]⟩,.int .i64 4,.string ⟨#[110]⟩,.int .i64 5,.string ⟨#[98]⟩,.int .i64 6,.string ⟨#[98]⟩,.int .i64 7,.string ⟨#[109]⟩,.int .i64 8,.string ⟨#[110]⟩,.int .i64 9,.string ⟨#[110,116]⟩,.int .i64 10,.string ⟨#[110,116]⟩,.int .i64 11,.string ⟨#[115,99]⟩,.int .i64 12,.string ⟨#[]⟩]) (.int .i64 6)).run Tryz.prog w=.ok (.agg #[.int .i64 7,.string ⟨#[109]⟩]) w:=fun _=>by kernel_rfl
 have i7 : ∀ w:World,(Instr.index 202 (.agg #[.int .i64 1,.string ⟨#[110,100]⟩,.int .i64 2,.string ⟨#[110]⟩,.int .i64 3,.string ⟨#[120]⟩,.int .i64 4,.string ⟨#[110]⟩,.int .i64 5,.string ⟨#[98]⟩,.int .i64 6,.string ⟨#[98]⟩,.int .i64 7,.string ⟨#[109]⟩,.int .i64 8,.string ⟨#[110]⟩,.int .i64 9,.string ⟨#[110,116]⟩,.int .i64 10,.string ⟨#[110,116]⟩,.int .i64 11,.string ⟨#[115,99]⟩,.int .i64 12,.string ⟨#[]⟩]) (.int .i64 7)).run Tryz.prog w=.ok (.agg #[.int .i64 8,.string ⟨#[110]⟩]) w:=fun _=>by kernel_rfl
 have i8 : ∀ w:World,(Instr.index 202 (.agg #[.int .i64 1,.string ⟨#[110,100]⟩,.int .i64 2,.string ⟨#[110]⟩,.int .i64 3,.string ⟨#[120]⟩,.int .i64 4,.string ⟨#[110]⟩,.int .i64 5,.string ⟨#[98]⟩,.int .i64 6,.string ⟨#[98]⟩,.int .i64 7,.string ⟨#[109]⟩,.int .i64 8,.string ⟨#[110]⟩,.int .i64 9,.string ⟨#[110,116]⟩,.int .i64 10,.string ⟨#[110,116]⟩,.int .i64 11,.string ⟨#[115,99]⟩,.int .i64 12,.string ⟨#[]⟩]) (.int .i64 8)).run Tryz.prog w=.ok (.agg #[.int .i64 9,.string ⟨#[110,116]⟩]) w:=fun _=>by kernel_rfl
 have i9 : ∀ w:World,(Instr.index 202 (.agg #[.int .i64 1,.string ⟨#[110,100]⟩,.int .i64 2,.string ⟨#[110]⟩,.int .i64 3,.string ⟨#[120]⟩,.int .i64 4,.string ⟨#[110]⟩,.int .i64 5,.string ⟨#[98]⟩,.int .i64 6,.string ⟨#[98]⟩,.int .i64 7,.string ⟨#[109]⟩,.int .i64 8,.string ⟨#[110]⟩,.int .i64 9,.string ⟨#[110,116]⟩,.int .i64 10,.string ⟨#[110,116]⟩,.int .i64 11,.string ⟨#[115,99]⟩,.int .i64 12,.string ⟨#[]⟩]) (.int .i64 9)).run Tryz.prog w=.ok (.agg #[.int .i64 10,.string ⟨#[110,116]⟩]) w:=fun _=>by kernel_rfl
 have i10 : ∀ w:World,(Instr.index 202 (.agg #[.int .i64 1,.string ⟨#[110,100]⟩,.int .i64 2,.string ⟨#[110]⟩,.int .i64 3,.string ⟨#[120]⟩,.int .i64 4,.string ⟨#[110]⟩,.int .i64 5,.string ⟨#[98]⟩,.int .i64 6,.string ⟨#[98]⟩,.int .i64 7,.string ⟨#[109]⟩,.int .i64 8,.string ⟨#[110]⟩,.int .i64 9,.string ⟨#[110,116]⟩,.int .i64 10,.string ⟨#[110,116]⟩,.int .i64 11,.string ⟨#[115,99]⟩,.int .i64 12,.string ⟨#[]⟩]) (.int .i64 10)).run Tryz.prog w=.ok (.agg #[.int .i64 11,.string ⟨#[115,99]⟩]) w:=fun _=>by kernel_rfl
 have i11 : ∀ w:World,(Instr.index 202 (.agg #[.int .i64 1,.string ⟨#[110,100]⟩,.int .i64 2,.string ⟨#[110]⟩,.int .i64 3,.string ⟨#[120]⟩,.int .i64 4,.string ⟨#[110]⟩,.int .i64 5,.string ⟨#[98]⟩,.int .i64 6,.string ⟨#[98]⟩,.int .i64 7,.string ⟨#[109]⟩,.int .i64 8,.string ⟨#[110]⟩,.int .i64 9,.string ⟨#[110,116]⟩,.int .i64 10,.string ⟨#[110,116]⟩,.int .i64 11,.string ⟨#[115,99]⟩,.int .i64 12,.string ⟨#[]⟩]) (.int .i64 11)).run Tryz.prog w=.ok (.agg #[.int .i64 12,.string ⟨#[]⟩]) w:=fun _=>by kernel_rfl
 have HT:Hid (Kinds w):=ht
 go_enter Tryz.func78,Tryz.ntmps78
 go_wp2_with (refine wpList_load_cells rfl 202 _ rfl 0 rfl _ _ ht Tryz.underlying202 rfl (by kernel_rfl) ?_)
 clear ht
 go_loopg [7] 12 (fun g u7 wr => ∃ i:Nat,u7=.int .i64 i/\i<=12/\g=12-i/\Hid ((∀ j:Nat,j<i->k≠(j:Int)+1)/\Below w.heap.size w wr))
 case atStart=>exact ⟨0,rfl,by omega,rfl,fun j hj=>by omega,Below.refl _ _⟩
 case round =>
  obtain ⟨i,rfl,hi,rfl,HI⟩:=hrel
  have hB:=fun o=>HI.out.2.alloc HI.out.2.size o
  have HB:Hid _:=hB
  clear hB
  rcases (show i=0\/i=1\/i=2\/i=3\/i=4\/i=5\/i=6\/i=7\/i=8\/i=9\/i=10\/i=11\/i=12 by omega) with rfl | rfl | rfl | rfl | rfl | rfl | rfl | rfl | rfl | rfl | rfl | rfl | rfl
  ·by_cases hk:k=1
   ·subst hk
    go_wp2
    go_ret2
    exact ⟨rfl,HB.out _⟩
   ·have hk':((1:Int)==k)=false:=by rw [beq_eq_false_iff_ne]; omega
    have HN:Hid (∀ j:Nat,j<1->k≠(j:Int)+1):=fun j hj=>by
     by_cases e:j=0
     ·subst e; show k≠_; omega
     ·exact HI.out.1 j (by omega)
    clear hk HI
    go_wp2
    go_roundg (12-1)
    case measure=>omega
    case rel=>exact ⟨1,by go_num,by omega,rfl,HN.out,HB.out _⟩
  ·by_cases hk:k=2
   ·subst hk
    go_wp2
    go_ret2
    exact ⟨rfl,HB.out _⟩
   ·have hk':((2:Int)==k)=false:=by rw [beq_eq_false_iff_ne]; omega
    have HN:Hid (∀ j:Nat,j<2->k≠(j:Int)+1):=fun j hj=>by
     by_cases e:j=1
     ·subst e; show k≠_; omega
     ·exact HI.out.1 j (by omega)
    clear hk HI
    go_wp2
    go_roundg (12-2)
    case measure=>omega
    case rel=>exact ⟨2,by go_num,by omega,rfl,HN.out,HB.out _⟩
  ·by_cases hk:k=3
   ·subst hk
    go_wp2
    go_ret2
    exact ⟨rfl,HB.out _⟩
   ·have hk':((3:Int)==k)=false:=by rw [beq_eq_false_iff_ne]; omega
    have HN:Hid (∀ j:Nat,j<3->k≠(j:Int)+1):=fun j hj=>by
     by_cases e:j=2
     ·subst e; show k≠_; omega
     ·exact HI.out.1 j (by omega)
    clear hk HI
    go_wp2
    go_roundg (12-3)
    case measure=>omega
    case rel=>exact ⟨3,by go_num,by omega,rfl,HN.out,HB.out _⟩
  ·by_cases hk:k=4
   ·subst hk
    go_wp2
    go_ret2
    exact ⟨rfl,HB.out _⟩
   ·have hk':((4:Int)==k)=false:=by rw [beq_eq_false_iff_ne]; omega
    have HN:Hid (∀ j:Nat,j<4->k≠(j:Int)+1):=fun j hj=>by
     by_cases e:j=3
     ·subst e; show k≠_; omega
     ·exact HI.out.1 j (by omega)
    clear hk HI
    go_wp2
    go_roundg (12-4)
    case measure=>omega
    case rel=>exact ⟨4,by go_num,by omega,rfl,HN.out,HB.out _⟩
  ·by_cases hk:k=5
   ·subst hk
    go_wp2
    go_ret2
    exact ⟨rfl,HB.out _⟩
   ·have hk':((5:Int)==k)=false:=by rw [beq_eq_false_iff_ne]; omega
    have HN:Hid (∀ j:Nat,j<5->k≠(j:Int)+1):=fun j hj=>by
     by_cases e:j=4
     ·subst e; show k≠_; omega
     ·exact HI.out.1 j (by omega)
    clear hk HI
    go_wp2
    go_roundg (12-5)
    case measure=>omega
    case rel=>exact ⟨5,by go_num,by omega,rfl,HN.out,HB.out _⟩
  ·by_cases hk:k=6
   ·subst hk
    go_wp2
    go_ret2
    exact ⟨rfl,HB.out _⟩
   ·have hk':((6:Int)==k)=false:=by rw [beq_eq_false_iff_ne]; omega
    have HN:Hid (∀ j:Nat,j<6->k≠(j:Int)+1):=fun j hj=>by
     by_cases e:j=5
     ·subst e; show k≠_; omega
     ·exact HI.out.1 j (by omega)
    clear hk HI
    go_wp2
    go_roundg (12-6)
    case measure=>omega
    case rel=>exact ⟨6,by go_num,by omega,rfl,HN.out,HB.out _⟩
  ·by_cases hk:k=7
   ·subst hk
    go_wp2
    go_ret2
    exact ⟨rfl,HB.out _⟩
   ·have hk':((7:Int)==k)=false:=by rw [beq_eq_false_iff_ne]; omega
    have HN:Hid (∀ j:Nat,j<7->k≠(j:Int)+1):=fun j hj=>by
     by_cases e:j=6
     ·subst e; show k≠_; omega
     ·exact HI.out.1 j (by omega)
    clear hk HI
    go_wp2
    go_roundg (12-7)
    case measure=>omega
    case rel=>exact ⟨7,by go_num,by omega,rfl,HN.out,HB.out _⟩
  ·by_cases hk:k=8
   ·subst hk
    go_wp2
    go_ret2
    exact ⟨rfl,HB.out _⟩
   ·have hk':((8:Int)==k)=false:=by rw [beq_eq_false_iff_ne]; omega
    have HN:Hid (∀ j:Nat,j<8->k≠(j:Int)+1):=fun j hj=>by
     by_cases e:j=7
     ·subst e; show k≠_; omega
     ·exact HI.out.1 j (by omega)
    clear hk HI
    go_wp2
    go_roundg (12-8)
    case measure=>omega
    case rel=>exact ⟨8,by go_num,by omega,rfl,HN.out,HB.out _⟩
  ·by_cases hk:k=9
   ·subst hk
    go_wp2
    go_ret2
    exact ⟨rfl,HB.out _⟩
   ·have hk':((9:Int)==k)=false:=by rw [beq_eq_false_iff_ne]; omega
    have HN:Hid (∀ j:Nat,j<9->k≠(j:Int)+1):=fun j hj=>by
     by_cases e:j=8
     ·subst e; show k≠_; omega
     ·exact HI.out.1 j (by omega)
    clear hk HI
    go_wp2
    go_roundg (12-9)
    case measure=>omega
    case rel=>exact ⟨9,by go_num,by omega,rfl,HN.out,HB.out _⟩
  ·by_cases hk:k=10
   ·subst hk
    go_wp2
    go_ret2
    exact ⟨rfl,HB.out _⟩
   ·have hk':((10:Int)==k)=false:=by rw [beq_eq_false_iff_ne]; omega
    have HN:Hid (∀ j:Nat,j<10->k≠(j:Int)+1):=fun j hj=>by
     by_cases e:j=9
     ·subst e; show k≠_; omega
     ·exact HI.out.1 j (by omega)
    clear hk HI
    go_wp2
    go_roundg (12-10)
    case measure=>omega
    case rel=>exact ⟨10,by go_num,by omega,rfl,HN.out,HB.out _⟩
  ·by_cases hk:k=11
   ·subst hk
    go_wp2
    go_ret2
    exact ⟨rfl,HB.out _⟩
   ·have hk':((11:Int)==k)=false:=by rw [beq_eq_false_iff_ne]; omega
    have HN:Hid (∀ j:Nat,j<11->k≠(j:Int)+1):=fun j hj=>by
     by_cases e:j=10
     ·subst e; show k≠_; omega
     ·exact HI.out.1 j (by omega)
    clear hk HI
    go_wp2
    go_roundg (12-11)
    case measure=>omega
    case rel=>exact ⟨11,by go_num,by omega,rfl,HN.out,HB.out _⟩
  ·by_cases hk:k=12
   ·subst hk
    go_wp2
    go_ret2
    exact ⟨rfl,HB.out _⟩
   ·have hk':((12:Int)==k)=false:=by rw [beq_eq_false_iff_ne]; omega
    have HN:Hid (∀ j:Nat,j<12->k≠(j:Int)+1):=fun j hj=>by
     by_cases e:j=11
     ·subst e; show k≠_; omega
     ·exact HI.out.1 j (by omega)
    clear hk HI
    go_wp2
    go_roundg (12-12)
    case measure=>omega
    case rel=>exact ⟨12,by go_num,by omega,rfl,HN.out,HB.out _⟩
  ·have hn:lettersL k=none:=by
    have h:=HI.out.1
    have h1:=h 0 (by omega); have h2:=h 1 (by omega); have h3:=h 2 (by omega); have h4:=h 3 (by omega); have h5:=h 4 (by omega); have h6:=h 5 (by omega); have h7:=h 6 (by omega); have h8:=h 7 (by omega); have h9:=h 8 (by omega); have h10:=h 9 (by omega); have h11:=h 10 (by omega); have h12:=h 11 (by omega)
    unfold lettersL
    rw [if_neg (by omega),if_neg (by omega),if_neg (by omega),if_neg (by omega),if_neg (by omega),if_neg (by omega),if_neg (by omega),if_neg (by omega),if_neg (by omega),if_neg (by omega),if_neg (by omega),if_neg (by omega)]
   have hS:lettersS k=⟨#[]⟩:=by unfold lettersS; rw [hn]; rfl
   have HSn:Hid (lettersS k=⟨#[]⟩/\lettersL k=none):=⟨hS,hn⟩
   clear hS hn
   go_wp2
   go_ret2
   exact ⟨by rw [HSn.out.1,HSn.out.2]; rfl,HI.out.2⟩
end Go.Proofs.YtnhnpnafchkhiaaGreatDoor
