import Derived.Test.YtjagaankkcbjmaaGreatDoorQrA
import Derived.Test.YtjagaankkcbjmaaGreatDoorQr3
import Derived.Lib.OthersKept
import Derived.Laws.CopyOwn
import Derived.Laws.Tables
import Derived.Laws.Rows
set_option maxHeartbeats 4000000
set_option maxRecDepth 20000
namespace Go.Proofs.YtjagaankkcbjmaaGreatDoor
open Go.RowKit
structure Ms where
 origin : Int
 seq : Int
 hop : Int
 ex : ByteArray
 key : ByteArray
 body : ByteArray
 deriving DecidableEq
structure Ax where
 kind : Int
 name : ByteArray
 n : Int
 tag : Int
 to : Int
 xn : ByteArray
 xk : Int
 xf : Bool
 be : ByteArray
 bq : ByteArray
 bp : ByteArray
 m : Ms
 deriving DecidableEq
def mcells (m : Ms) : List Value := [.int .i64 m.origin,.int .u64 m.seq,.int .i64 m.hop,.string m.ex,.string m.key,.string m.body]
abbrev mv (m : Ms) : Value := .agg #[.int .i64 m.origin,.int .u64 m.seq,.int .i64 m.hop,.string m.ex,.string m.key,.string m.body]
def xcells (a : Ax) : List Value := [.int .i64 a.kind,.string a.name,.int .i64 a.n,.int .u64 a.tag,.int .i64 a.to,.string a.xn,.int .i64 a.xk,.bool a.xf,.string a.be,.string a.bq,.string a.bp,.int .i64 a.m.origin,.int .u64 a.m.seq,.int .i64 a.m.hop,.string a.m.ex,.string a.m.key,.string a.m.body]
abbrev av (a : Ax) : Value := .agg #[.int .i64 a.kind,.string a.name,.int .i64 a.n,.int .u64 a.tag,.int .i64 a.to,.string a.xn,.int .i64 a.xk,.bool a.xf,.string a.be,.string a.bq,.string a.bp,.int .i64 a.m.origin,.int .u64 a.m.seq,.int .i64 a.m.hop,.string a.m.ex,.string a.m.key,.string a.m.body]
def zM : Ms := ⟨0,0,0,⟨#[]⟩,⟨#[]⟩,⟨#[]⟩⟩
def zA (k : Int) : Ax := ⟨k,⟨#[]⟩,0,0,0,⟨#[]⟩,0,false,⟨#[]⟩,⟨#[]⟩,⟨#[]⟩,zM⟩
structure Ms.Fits (m : Ms) : Prop where
 o : -9223372036854775808 <= m.origin /\ m.origin < 9223372036854775808
 s : 0 <= m.seq /\ m.seq < 18446744073709551616
 h : -9223372036854775808 <= m.hop /\ m.hop < 9223372036854775808
 e : m.ex.size <= maxLen
 k : m.key.size <= maxLen
 b : m.body.size <= maxLen
structure Ax.Fits (a : Ax) : Prop where
 k : -9223372036854775808 <= a.kind /\ a.kind < 9223372036854775808
 nm : a.name.size <= maxLen
 n : -9223372036854775808 <= a.n /\ a.n < 9223372036854775808
 t : 0 <= a.tag /\ a.tag < 18446744073709551616
 to : -9223372036854775808 <= a.to /\ a.to < 9223372036854775808
 xn : a.xn.size <= maxLen
 xk : -9223372036854775808 <= a.xk /\ a.xk < 9223372036854775808
 be : a.be.size <= maxLen
 bq : a.bq.size <= maxLen
 bp : a.bp.size <= maxLen
 m : a.m.Fits
def inB (n lo hi : Int) : Bool := decide (lo <= n) && decide (n <= hi)
def goodM (m : Ms) : Bool := inB m.origin 1 8 && decide (1 <= m.seq) && inB m.hop 0 8 && nameB (txt m.ex) && keyB (txt m.key) && decide ((m.body.size : Int) <= 200)
def goodX (n : ByteArray) (k : Int) : Bool := inB k 1 3 && nameB (txt n)
def goodBd (e q p : ByteArray) : Bool := nameB (txt e) && nameB (txt q) && decide ((p.size : Int) <= 60)
def lettersL (k : Int) : Option (List UInt8) :=
 if k = 1 then some [110,100] else if k = 2 then some [110] else if k = 3 then some [120] else if k = 4 then some [110] else if k = 5 then some [98] else if k = 6 then some [98] else if k = 7 then some [109] else if k = 8 then some [110] else if k = 9 then some [110,116] else if k = 10 then some [110,116] else if k = 11 then some [115,99] else if k = 12 then some [] else none
def fitsA (a : Ax) (c : UInt8) : Bool :=
 if c = 110 then nameB (txt a.name) else if c = 100 then inB a.n 1 1000 else if c = 99 then inB a.n 1 200 else if c = 116 then decide (1 <= a.tag) else if c = 115 then inB a.to 1 8 else if c = 120 then goodX a.xn a.xk else if c = 98 then goodBd a.be a.bq a.bp else if c = 109 then goodM a.m else false
def onlyS (a z : Ax) (c : UInt8) : Ax :=
 if c = 110 then { z with name := a.name } else if c = 100 \/ c = 99 then { z with n := a.n } else if c = 116 then { z with tag := a.tag } else if c = 115 then { z with to := a.to } else if c = 120 then { z with xn := a.xn,xk := a.xk,xf := a.xf } else if c = 98 then { z with be := a.be,bq := a.bq,bp := a.bp } else if c = 109 then { z with m := a.m } else z
def onlyL (a : Ax) (l : List UInt8) : Ax := l.foldl (onlyS a) (zA a.kind)
def goodA (a : Ax) : Bool := match lettersL a.kind with
 |none => false
 |some l => l.all (fitsA a) && decide (a = onlyL a l)
def textL (s : ByteArray) : List UInt8 := putL 2 (min s.size 65535) ++ (txt s).take 65535
def u64 (n : Int) : Nat := (n % 18446744073709551616).toNat
def bytesM (m : Ms) : List UInt8 := putL 1 (u64 m.origin) ++ putL 8 m.seq.toNat ++ putL 1 (u64 m.hop) ++ textL m.ex ++ textL m.key ++ textL m.body
def exL (n : ByteArray) (k : Int) (f : Bool) : List UInt8 := textL n ++ putL 1 (u64 k) ++ putL 1 (if f then 1 else 0)
def bdL (e q p : ByteArray) : List UInt8 := textL e ++ textL q ++ textL p
def putS (a : Ax) (c : UInt8) : List UInt8 :=
 if c = 110 then textL a.name else if c = 100 \/ c = 99 then putL 2 (u64 a.n) else if c = 116 then putL 8 a.tag.toNat else if c = 115 then putL 1 (u64 a.to) else if c = 120 then exL a.xn a.xk a.xf else if c = 98 then bdL a.be a.bq a.bp else if c = 109 then bytesM a.m else []
def bytesA (a : Ax) : List UInt8 := if goodA a then (match lettersL a.kind with
 |none => []
 |some l => putL 1 (u64 a.kind) ++ l.flatMap (putS a)) else []
theorem keptW {w W w' : World} (h : Below w.heap.size w W) (b : Below W.heap.size W w') : Below w.heap.size w w' := h.trans (b.mono h.size)
theorem cell_on {w w' : World} {b j : Nat} {v : Value} (hb : Below w.heap.size w w') (h : w.cell? ⟨b,j,none⟩ = some v) : w'.cell? ⟨b,j,none⟩ = some v := (hb.cell (p := ⟨b,j,none⟩) (World.block_lt_of_cell? w _ h)).trans h
theorem box_below (w : World) (o : Obj) : Below w.heap.size w (w.alloc o) := (Below.refl _ _).alloc (yyH _) _
theorem box_cell (w : World) (cs : Array Value) (t : TypeId) (j : Nat) (v : Value) (h : cs[j]? = some v) : (w.alloc (.cells cs t)).cell? ⟨w.heap.size,j,none⟩ = some v := by
 have := heap_alloc_new w (.cells cs t)
 simp only [World.cell?]
 rw [this]
 exact h
theorem within_any (n lo hi : Int) (w : World) : Calls Tryz.prog 171 #[.int .i64 n,.int .i64 lo,.int .i64 hi] w fun e w' => e = .returned (.bool (inB n lo hi)) /\ w' = w := by
 unfold inB
 by_cases h1 : lo <= n
 ·have e1 : decide (lo <= n) = true := by simpa using h1
  go_enter Tryz.func171,Tryz.ntmps171
  go_wp2
  go_ret
  exact ⟨by rw [e1]; simp,rfl⟩
 ·have e1 : decide (lo <= n) = false := by simpa using h1
  go_enter Tryz.func171,Tryz.ntmps171
  go_wp2
  go_ret
  exact ⟨by first | (rw [e1]; simp) | simp,rfl⟩
theorem goodX_any (n : ByteArray) (k : Int) (f : Bool) (w : World) (hn : n.size <= maxLen) : Calls Tryz.prog 172 #[.agg #[.string n,.int .i64 k,.bool f]] w fun e w' => e = .returned (.bool (goodX n k)) /\ Below w.heap.size w w' := by
 have hB := box_below w (.cells #[.string n,.int .i64 k,.bool f] 34)
 have hN := name_any n (w.alloc (.cells #[.string n,.int .i64 k,.bool f] 34)) hn
 unfold goodX inB
 by_cases h1 : k = 1
 ·subst h1
  go_enter Tryz.func172,Tryz.ntmps172
  go_wp2_with (go_at_call 144; refine hN.mono ?_; rintro e w2 ⟨rfl,b2⟩)
  go_ret
  exact ⟨by simp,keptW hB b2⟩
 by_cases h2 : k = 2
 ·subst h2
  go_enter Tryz.func172,Tryz.ntmps172
  go_wp2_with (go_at_call 144; refine hN.mono ?_; rintro e w2 ⟨rfl,b2⟩)
  go_ret
  exact ⟨by simp,keptW hB b2⟩
 by_cases h3 : k = 3
 ·subst h3
  go_enter Tryz.func172,Tryz.ntmps172
  go_wp2_with (go_at_call 144; refine hN.mono ?_; rintro e w2 ⟨rfl,b2⟩)
  go_ret
  exact ⟨by simp,keptW hB b2⟩
 have e1 : (k == 1) = false := by simpa using h1
 have e2 : (k == 2) = false := by simpa using h2
 have e3 : (k == 3) = false := by simpa using h3
 clear hN
 go_enter Tryz.func172,Tryz.ntmps172
 go_wp2
 go_ret
 refine ⟨?_,hB⟩
 have : (decide (1 <= k) && decide (k <= 3)) = false := by
  rw [Bool.and_eq_false_iff,decide_eq_false_iff_not,decide_eq_false_iff_not]
  omega
 rw [this]
 rfl
theorem goodBd_any (x q p : ByteArray) (w : World) (hx : x.size <= maxLen) (hq : q.size <= maxLen) : Calls Tryz.prog 173 #[.agg #[.string x,.string q,.string p]] w fun e w' => e = .returned (.bool (goodBd x q p)) /\ Below w.heap.size w w' := by
 obtain ⟨W,fold⟩ : ∃ W,w.alloc (.cells #[.string x,.string q,.string p] 36) = W := ⟨_,rfl⟩
 have b0 : Below w.heap.size w W := by rw [<- fold]; exact box_below w _
 have y0 : W.cell? ⟨w.heap.size,0,none⟩ = some (.string x) := by rw [<- fold]; exact box_cell w _ _ _ _ rfl
 have y1 : W.cell? ⟨w.heap.size,1,none⟩ = some (.string q) := by rw [<- fold]; exact box_cell w _ _ _ _ rfl
 have y2 : W.cell? ⟨w.heap.size,2,none⟩ = some (.string p) := by rw [<- fold]; exact box_cell w _ _ _ _ rfl
 unfold goodBd
 go_enter Tryz.func173,Tryz.ntmps173
 have hc := name_any x W hx
 go_wp2_with fail
 try rw [fold]
 refine hc.mono ?_
 rintro e V1 ⟨rfl,b1⟩
 have y0 := cell_on b1 y0
 have y1 := cell_on b1 y1
 have y2 := cell_on b1 y2
 clear hc
 cases e0 : nameB (txt x)
 ·go_wp2
  go_ret
  exact ⟨by (try rw [e0]); first | rfl | simp,keptW b0 b1⟩
 have hc := name_any q V1 hq
 go_wp2_with fail
 refine hc.mono ?_
 rintro e V2 ⟨rfl,b2⟩
 have y0 := cell_on b2 y0
 have y1 := cell_on b2 y1
 have y2 := cell_on b2 y2
 clear hc
 cases e1 : nameB (txt q)
 ·go_wp2
  go_ret
  exact ⟨by (try rw [e0]); (try rw [e1]); first | rfl | simp,keptW (keptW b0 b1) b2⟩
 go_wp2
 go_ret
 exact ⟨by (try rw [e0]); (try rw [e1]); first | rfl | simp,keptW (keptW b0 b1) b2⟩
theorem goodM_any (m : Ms) (w : World) (hm : m.Fits) : Calls Tryz.prog 174 #[mv m] w fun e w' => e = .returned (.bool (goodM m)) /\ Below w.heap.size w w' := by
 obtain ⟨W,fold⟩ : ∃ W,w.alloc (.cells #[.int .i64 m.origin,.int .u64 m.seq,.int .i64 m.hop,.string m.ex,.string m.key,.string m.body] 40) = W := ⟨_,rfl⟩
 have b0 : Below w.heap.size w W := by rw [<- fold]; exact box_below w _
 have y0 : W.cell? ⟨w.heap.size,0,none⟩ = some (.int .i64 m.origin) := by rw [<- fold]; exact box_cell w _ _ _ _ rfl
 have y1 : W.cell? ⟨w.heap.size,1,none⟩ = some (.int .u64 m.seq) := by rw [<- fold]; exact box_cell w _ _ _ _ rfl
 have y2 : W.cell? ⟨w.heap.size,2,none⟩ = some (.int .i64 m.hop) := by rw [<- fold]; exact box_cell w _ _ _ _ rfl
 have y3 : W.cell? ⟨w.heap.size,3,none⟩ = some (.string m.ex) := by rw [<- fold]; exact box_cell w _ _ _ _ rfl
 have y4 : W.cell? ⟨w.heap.size,4,none⟩ = some (.string m.key) := by rw [<- fold]; exact box_cell w _ _ _ _ rfl
 have y5 : W.cell? ⟨w.heap.size,5,none⟩ = some (.string m.body) := by rw [<- fold]; exact box_cell w _ _ _ _ rfl
 unfold goodM
 go_enter Tryz.func174,Tryz.ntmps174
 have hc := within_any m.origin 1 8 W
 go_wp2_with fail
 try rw [fold]
 refine hc.mono ?_
 rintro e V1 ⟨rfl,rfl⟩
 clear hc
 cases e0 : inB m.origin 1 8
 ·go_wp2
  go_ret
  exact ⟨by (try rw [e0]); first | rfl | simp,b0⟩
 cases e1 : decide (1 <= m.seq)
 ·go_wp2
  go_ret
  exact ⟨by (try rw [e0]); (try rw [e1]); first | rfl | simp,b0⟩
 have hc := within_any m.hop 0 8 V1
 go_wp2_with fail
 refine hc.mono ?_
 rintro e V3 ⟨rfl,rfl⟩
 clear hc
 cases e2 : inB m.hop 0 8
 ·go_wp2
  go_ret
  exact ⟨by (try rw [e0]); (try rw [e1]); (try rw [e2]); first | rfl | simp,b0⟩
 have hc := name_any m.ex V3 hm.e
 go_wp2_with fail
 refine hc.mono ?_
 rintro e V4 ⟨rfl,b4⟩
 have y0 := cell_on b4 y0
 have y1 := cell_on b4 y1
 have y2 := cell_on b4 y2
 have y3 := cell_on b4 y3
 have y4 := cell_on b4 y4
 have y5 := cell_on b4 y5
 clear hc
 cases e3 : nameB (txt m.ex)
 ·go_wp2
  go_ret
  exact ⟨by (try rw [e0]); (try rw [e1]); (try rw [e2]); (try rw [e3]); first | rfl | simp,keptW b0 b4⟩
 have hc := key_any m.key V4 hm.k
 go_wp2_with fail
 refine hc.mono ?_
 rintro e V5 ⟨rfl,b5⟩
 have y0 := cell_on b5 y0
 have y1 := cell_on b5 y1
 have y2 := cell_on b5 y2
 have y3 := cell_on b5 y3
 have y4 := cell_on b5 y4
 have y5 := cell_on b5 y5
 clear hc
 cases e4 : keyB (txt m.key)
 ·go_wp2
  go_ret
  exact ⟨by (try rw [e0]); (try rw [e1]); (try rw [e2]); (try rw [e3]); (try rw [e4]); first | rfl | simp,keptW (keptW b0 b4) b5⟩
 go_wp2
 go_ret
 exact ⟨by (try rw [e0]); (try rw [e1]); (try rw [e2]); (try rw [e3]); (try rw [e4]); first | rfl | simp,keptW (keptW b0 b4) b5⟩
def Kinds (w : World) : Prop := ∀ j u,[Value.int .i64 1,.string ⟨#[110,100]⟩,.int .i64 2,.string ⟨#[110]⟩,.int .i64 3,.string ⟨#[120]⟩,.int .i64 4,.string ⟨#[110]⟩,.int .i64 5,.string ⟨#[98]⟩,.int .i64 6,.string ⟨#[98]⟩,.int .i64 7,.string ⟨#[109]⟩,.int .i64 8,.string ⟨#[110]⟩,.int .i64 9,.string ⟨#[110,116]⟩,.int .i64 10,.string ⟨#[110,116]⟩,.int .i64 11,.string ⟨#[115,99]⟩,.int .i64 12,.string ⟨#[]⟩][j]? = some u -> w.cell? ⟨0,j,none⟩ = some u
theorem Kinds.below {w w' : World} (h : Kinds w) (hb : Below w.heap.size w w') : Kinds w' := fun j u hj => cell_on hb (h j u hj)
def lettersS (k : Int) : ByteArray := ⟨((lettersL k).getD []).toArray⟩
theorem lettersOf_any (k : Int) (w : World) (ht : Kinds w) :
  Calls Tryz.prog 91 #[.int .i64 k] w fun e w' => e = .returned (.tuple #[.string (lettersS k),.bool (lettersL k).isSome]) /\ Below w.heap.size w w' := by
 have i0 : ∀ w : World,(Instr.index 256 (.agg #[.int .i64 1,.string ⟨#[110,100]⟩,.int .i64 2,.string ⟨#[110]⟩,.int .i64 3,.string ⟨#[120]⟩,.int .i64 4,.string ⟨#[110]⟩,.int .i64 5,.string ⟨#[98]⟩,.int .i64 6,.string ⟨#[98]⟩,.int .i64 7,.string ⟨#[109]⟩,.int .i64 8,.string ⟨#[110]⟩,.int .i64 9,.string ⟨#[110,116]⟩,.int .i64 10,.string ⟨#[110,116]⟩,.int .i64 11,.string ⟨#[115,99]⟩,.int .i64 12,.string ⟨#[]⟩]) (.int .i64 0)).run Tryz.prog w = .ok (.agg #[.int .i64 1,.string ⟨#[110,100]⟩]) w := fun _ => by kernel_rfl
 have i1 : ∀ w : World,(Instr.index 256 (.agg #[.int .i64 1,.string ⟨#[110,100]⟩,.int .i64 2,.string ⟨#[110]⟩,.int .i64 3,.string ⟨#[120]⟩,.int .i64 4,.string ⟨#[110]⟩,.int .i64 5,.string ⟨#[98]⟩,.int .i64 6,.string ⟨#[98]⟩,.int .i64 7,.string ⟨#[109]⟩,.int .i64 8,.string ⟨#[110]⟩,.int .i64 9,.string ⟨#[110,116]⟩,.int .i64 10,.string ⟨#[110,116]⟩,.int .i64 11,.string ⟨#[115,99]⟩,.int .i64 12,.string ⟨#[]⟩]) (.int .i64 1)).run Tryz.prog w = .ok (.agg #[.int .i64 2,.string ⟨#[110]⟩]) w := fun _ => by kernel_rfl
 have i2 : ∀ w : World,(Instr.index 256 (.agg #[.int .i64 1,.string ⟨#[110,100]⟩,.int .i64 2,.string ⟨#[110]⟩,.int .i64 3,.string ⟨#[120]⟩,.int .i64 4,.string ⟨#[110]⟩,.int .i64 5,.string ⟨#[98]⟩,.int .i64 6,.string ⟨#[98]⟩,.int .i64 7,.string ⟨#[109]⟩,.int .i64 8,.string ⟨#[110]⟩,.int .i64 9,.string ⟨#[110,116]⟩,.int .i64 10,.string ⟨#[110,116]⟩,.int .i64 11,.string ⟨#[115,99]⟩,.int .i64 12,.string ⟨#[]⟩]) (.int .i64 2)).run Tryz.prog w = .ok (.agg #[.int .i64 3,.string ⟨#[120]⟩]) w := fun _ => by kernel_rfl
 have i3 : ∀ w : World,(Instr.index 256 (.agg #[.int .i64 1,.string ⟨#[110,100]⟩,.int .i64 2,.string ⟨#[110]⟩,.int .i64 3,.string ⟨#[120]⟩,.int .i64 4,.string ⟨#[110]⟩,.int .i64 5,.string ⟨#[98]⟩,.int .i64 6,.string ⟨#[98]⟩,.int .i64 7,.string ⟨#[109]⟩,.int .i64 8,.string ⟨#[110]⟩,.int .i64 9,.string ⟨#[110,116]⟩,.int .i64 10,.string ⟨#[110,116]⟩,.int .i64 11,.string ⟨#[115,99]⟩,.int .i64 12,.string ⟨#[]⟩]) (.int .i64 3)).run Tryz.prog w = .ok (.agg #[.int .i64 4,.string ⟨#[110]⟩]) w := fun _ => by kernel_rfl
 have i4 : ∀ w : World,(Instr.index 256 (.agg #[.int .i64 1,.string ⟨#[110,100]⟩,.int .i64 2,.string ⟨#[110]⟩,.int .i64 3,.string ⟨#[120]⟩,.int .i64 4,.string ⟨#[110]⟩,.int .i64 5,.string ⟨#[98]⟩,.int .i64 6,.string ⟨#[98]⟩,.int .i64 7,.string ⟨#[109]⟩,.int .i64 8,.string ⟨#[110]⟩,.int .i64 9,.string ⟨#[110,116]⟩,.int .i64 10,.string ⟨#[110,116]⟩,.int .i64 11,.string ⟨#[115,99]⟩,.int .i64 12,.string ⟨#[]⟩]) (.int .i64 4)).run Tryz.prog w = .ok (.agg #[.int .i64 5,.string ⟨#[98]⟩]) w := fun _ => by kernel_rfl
 have i5 : ∀ w : World,(Instr.index 256 (.agg #[.int .i64 1,.string ⟨#[110,100]⟩,.int .i64 2,.string ⟨#[110]⟩,.int .i64 3,.string ⟨#[120]⟩,.int .i64 4,.string ⟨#[110]⟩,.int .i64 5,.string ⟨#[98]⟩,.int .i64 6,.string ⟨#[98]⟩,.int .i64 7,.string ⟨#[109]⟩,.int .i64 8,.string ⟨#[110]⟩,.int .i64 9,.string ⟨#[110,116]⟩,.int .i64 10,.string ⟨#[110,116]⟩,.int .i64 11,.string ⟨#[115,99]⟩,.int .i64 12,.string ⟨#[]⟩]) (.int .i64 5)).run Tryz.prog w = .ok (.agg #[.int .i64 6,.string ⟨#[98]⟩]) w := fun _ => by kernel_rfl
 have i6 : ∀ w : World,(Instr.index 256 (.agg #[.int .i64 1,.string ⟨#[110,100]⟩,.int .i64 2,.string ⟨#[110]⟩,.int .i64 3,.string ⟨#[120]⟩,.int .i64 4,.string ⟨#[110]⟩,.int .i64 5,.string ⟨#[98]⟩,.int .i64 6,.string ⟨#[98]⟩,.int .i64 7,.string ⟨#[109]⟩,.int .i64 8,.string ⟨#[110]⟩,.int .i64 9,.string ⟨#[110,116]⟩,.int .i64 10,.string ⟨#[110,116]⟩,.int .i64 11,.string ⟨#[115,99]⟩,.int .i64 12,.string ⟨#[]⟩]) (.int .i64 6)).run Tryz.prog w = .ok (.agg #[.int .i64 7,.string ⟨#[109]⟩]) w := fun _ => by kernel_rfl
 have i7 : ∀ w : World,(Instr.index 256 (.agg #[.int .i64 1,.string ⟨#[110,100]⟩,.int .i64 2,.string ⟨#[110]⟩,.int .i64 3,.string ⟨#[120]⟩,.int .i64 4,.string ⟨#[110]⟩,.int .i64 5,.string ⟨#[98]⟩,.int .i64 6,.string ⟨#[98]⟩,.int .i64 7,.string ⟨#[109]⟩,.int .i64 8,.string ⟨#[110]⟩,.int .i64 9,.string ⟨#[110,116]⟩,.int .i64 10,.string ⟨#[110,116]⟩,.int .i64 11,.string ⟨#[115,99]⟩,.int .i64 12,.string ⟨#[]⟩]) (.int .i64 7)).run Tryz.prog w = .ok (.agg #[.int .i64 8,.string ⟨#[110]⟩]) w := fun _ => by kernel_rfl
 have i8 : ∀ w : World,(Instr.index 256 (.agg #[.int .i64 1,.string ⟨#[110,100]⟩,.int .i64 2,.string ⟨#[110]⟩,.int .i64 3,.string ⟨#[120]⟩,.int .i64 4,.string ⟨#[110]⟩,.int .i64 5,.string ⟨#[98]⟩,.int .i64 6,.string ⟨#[98]⟩,.int .i64 7,.string ⟨#[109]⟩,.int .i64 8,.string ⟨#[110]⟩,.int .i64 9,.string ⟨#[110,116]⟩,.int .i64 10,.string ⟨#[110,116]⟩,.int .i64 11,.string ⟨#[115,99]⟩,.int .i64 12,.string ⟨#[]⟩]) (.int .i64 8)).run Tryz.prog w = .ok (.agg #[.int .i64 9,.string ⟨#[110,116]⟩]) w := fun _ => by kernel_rfl
 have i9 : ∀ w : World,(Instr.index 256 (.agg #[.int .i64 1,.string ⟨#[110,100]⟩,.int .i64 2,.string ⟨#[110]⟩,.int .i64 3,.string ⟨#[120]⟩,.int .i64 4,.string ⟨#[110]⟩,.int .i64 5,.string ⟨#[98]⟩,.int .i64 6,.string ⟨#[98]⟩,.int .i64 7,.string ⟨#[109]⟩,.int .i64 8,.string ⟨#[110]⟩,.int .i64 9,.string ⟨#[110,116]⟩,.int .i64 10,.string ⟨#[110,116]⟩,.int .i64 11,.string ⟨#[115,99]⟩,.int .i64 12,.string ⟨#[]⟩]) (.int .i64 9)).run Tryz.prog w = .ok (.agg #[.int .i64 10,.string ⟨#[110,116]⟩]) w := fun _ => by kernel_rfl
 have i10 : ∀ w : World,(Instr.index 256 (.agg #[.int .i64 1,.string ⟨#[110,100]⟩,.int .i64 2,.string ⟨#[110]⟩,.int .i64 3,.string ⟨#[120]⟩,.int .i64 4,.string ⟨#[110]⟩,.int .i64 5,.string ⟨#[98]⟩,.int .i64 6,.string ⟨#[98]⟩,.int .i64 7,.string ⟨#[109]⟩,.int .i64 8,.string ⟨#[110]⟩,.int .i64 9,.string ⟨#[110,116]⟩,.int .i64 10,.string ⟨#[110,116]⟩,.int .i64 11,.string ⟨#[115,99]⟩,.int .i64 12,.string ⟨#[]⟩]) (.int .i64 10)).run Tryz.prog w = .ok (.agg #[.int .i64 11,.string ⟨#[115,99]⟩]) w := fun _ => by kernel_rfl
 have i11 : ∀ w : World,(Instr.index 256 (.agg #[.int .i64 1,.string ⟨#[110,100]⟩,.int .i64 2,.string ⟨#[110]⟩,.int .i64 3,.string ⟨#[120]⟩,.int .i64 4,.string ⟨#[110]⟩,.int .i64 5,.string ⟨#[98]⟩,.int .i64 6,.string ⟨#[98]⟩,.int .i64 7,.string ⟨#[109]⟩,.int .i64 8,.string ⟨#[110]⟩,.int .i64 9,.string ⟨#[110,116]⟩,.int .i64 10,.string ⟨#[110,116]⟩,.int .i64 11,.string ⟨#[115,99]⟩,.int .i64 12,.string ⟨#[]⟩]) (.int .i64 11)).run Tryz.prog w = .ok (.agg #[.int .i64 12,.string ⟨#[]⟩]) w := fun _ => by kernel_rfl
 have HT : Hid (Kinds w) := ht
 go_enter Tryz.func91,Tryz.ntmps91
 go_wp2_with (refine wpList_load_cells rfl 256 _ rfl 0 rfl _ _ ht Tryz.underlying256 rfl (by kernel_rfl) ?_)
 clear ht
 go_loopg [7] 12 (fun g u7 wr => ∃ i : Nat,u7 = .int .i64 i /\ i <= 12 /\ g = 12 - i /\ Hid ((∀ j : Nat,j < i -> k ≠ (j : Int) + 1) /\ Below w.heap.size w wr))
 case atStart => exact ⟨0,rfl,by omega,rfl,fun j hj => by omega,Below.refl _ _⟩
 case round =>
  obtain ⟨i,rfl,hi,rfl,HI⟩ := hrel
  have hB := fun o => HI.out.2.alloc HI.out.2.size o
  have HB : Hid _ := hB
  clear hB
  rcases (show i = 0 \/ i = 1 \/ i = 2 \/ i = 3 \/ i = 4 \/ i = 5 \/ i = 6 \/ i = 7 \/ i = 8 \/ i = 9 \/ i = 10 \/ i = 11 \/ i = 12 by omega) with rfl | rfl | rfl | rfl | rfl | rfl | rfl | rfl | rfl | rfl | rfl | rfl | rfl
  ·by_cases hk : k = 1
   ·subst hk
    go_wp2
    go_ret2
    exact ⟨rfl,HB.out _⟩
   ·have hk' : ((1 : Int) == k) = false := by rw [beq_eq_false_iff_ne]; omega
    have HN : Hid (∀ j : Nat,j < 1 -> k ≠ (j : Int) + 1) := fun j hj => by
     by_cases e : j = 0
     ·subst e; show k ≠ _; omega
     ·exact HI.out.1 j (by omega)
    clear hk HI
    go_wp2
    go_roundg (12 - 1)
    case measure => omega
    case rel => exact ⟨1,by go_num,by omega,rfl,HN.out,HB.out _⟩
  ·by_cases hk : k = 2
   ·subst hk
    go_wp2
    go_ret2
    exact ⟨rfl,HB.out _⟩
   ·have hk' : ((2 : Int) == k) = false := by rw [beq_eq_false_iff_ne]; omega
    have HN : Hid (∀ j : Nat,j < 2 -> k ≠ (j : Int) + 1) := fun j hj => by
     by_cases e : j = 1
     ·subst e; show k ≠ _; omega
     ·exact HI.out.1 j (by omega)
    clear hk HI
    go_wp2
    go_roundg (12 - 2)
    case measure => omega
    case rel => exact ⟨2,by go_num,by omega,rfl,HN.out,HB.out _⟩
  ·by_cases hk : k = 3
   ·subst hk
    go_wp2
    go_ret2
    exact ⟨rfl,HB.out _⟩
   ·have hk' : ((3 : Int) == k) = false := by rw [beq_eq_false_iff_ne]; omega
    have HN : Hid (∀ j : Nat,j < 3 -> k ≠ (j : Int) + 1) := fun j hj => by
     by_cases e : j = 2
     ·subst e; show k ≠ _; omega
     ·exact HI.out.1 j (by omega)
    clear hk HI
    go_wp2
    go_roundg (12 - 3)
    case measure => omega
    case rel => exact ⟨3,by go_num,by omega,rfl,HN.out,HB.out _⟩
  ·by_cases hk : k = 4
   ·subst hk
    go_wp2
    go_ret2
    exact ⟨rfl,HB.out _⟩
   ·have hk' : ((4 : Int) == k) = false := by rw [beq_eq_false_iff_ne]; omega
    have HN : Hid (∀ j : Nat,j < 4 -> k ≠ (j : Int) + 1) := fun j hj => by
     by_cases e : j = 3
     ·subst e; show k ≠ _; omega
     ·exact HI.out.1 j (by omega)
    clear hk HI
    go_wp2
    go_roundg (12 - 4)
    case measure => omega
    case rel => exact ⟨4,by go_num,by omega,rfl,HN.out,HB.out _⟩
  ·by_cases hk : k = 5
   ·subst hk
    go_wp2
    go_ret2
    exact ⟨rfl,HB.out _⟩
   ·have hk' : ((5 : Int) == k) = false := by rw [beq_eq_false_iff_ne]; omega
    have HN : Hid (∀ j : Nat,j < 5 -> k ≠ (j : Int) + 1) := fun j hj => by
     by_cases e : j = 4
     ·subst e; show k ≠ _; omega
     ·exact HI.out.1 j (by omega)
    clear hk HI
    go_wp2
    go_roundg (12 - 5)
    case measure => omega
    case rel => exact ⟨5,by go_num,by omega,rfl,HN.out,HB.out _⟩
  ·by_cases hk : k = 6
   ·subst hk
    go_wp2
    go_ret2
    exact ⟨rfl,HB.out _⟩
   ·have hk' : ((6 : Int) == k) = false := by rw [beq_eq_false_iff_ne]; omega
    have HN : Hid (∀ j : Nat,j < 6 -> k ≠ (j : Int) + 1) := fun j hj => by
     by_cases e : j = 5
     ·subst e; show k ≠ _; omega
     ·exact HI.out.1 j (by omega)
    clear hk HI
    go_wp2
    go_roundg (12 - 6)
    case measure => omega
    case rel => exact ⟨6,by go_num,by omega,rfl,HN.out,HB.out _⟩
  ·by_cases hk : k = 7
   ·subst hk
    go_wp2
    go_ret2
    exact ⟨rfl,HB.out _⟩
   ·have hk' : ((7 : Int) == k) = false := by rw [beq_eq_false_iff_ne]; omega
    have HN : Hid (∀ j : Nat,j < 7 -> k ≠ (j : Int) + 1) := fun j hj => by
     by_cases e : j = 6
     ·subst e; show k ≠ _; omega
     ·exact HI.out.1 j (by omega)
    clear hk HI
    go_wp2
    go_roundg (12 - 7)
    case measure => omega
    case rel => exact ⟨7,by go_num,by omega,rfl,HN.out,HB.out _⟩
  ·by_cases hk : k = 8
   ·subst hk
    go_wp2
    go_ret2
    exact ⟨rfl,HB.out _⟩
   ·have hk' : ((8 : Int) == k) = false := by rw [beq_eq_false_iff_ne]; omega
    have HN : Hid (∀ j : Nat,j < 8 -> k ≠ (j : Int) + 1) := fun j hj => by
     by_cases e : j = 7
     ·subst e; show k ≠ _; omega
     ·exact HI.out.1 j (by omega)
    clear hk HI
    go_wp2
    go_roundg (12 - 8)
    case measure => omega
    case rel => exact ⟨8,by go_num,by omega,rfl,HN.out,HB.out _⟩
  ·by_cases hk : k = 9
   ·subst hk
    go_wp2
    go_ret2
    exact ⟨rfl,HB.out _⟩
   ·have hk' : ((9 : Int) == k) = false := by rw [beq_eq_false_iff_ne]; omega
    have HN : Hid (∀ j : Nat,j < 9 -> k ≠ (j : Int) + 1) := fun j hj => by
     by_cases e : j = 8
     ·subst e; show k ≠ _; omega
     ·exact HI.out.1 j (by omega)
    clear hk HI
    go_wp2
    go_roundg (12 - 9)
    case measure => omega
    case rel => exact ⟨9,by go_num,by omega,rfl,HN.out,HB.out _⟩
  ·by_cases hk : k = 10
   ·subst hk
    go_wp2
    go_ret2
    exact ⟨rfl,HB.out _⟩
   ·have hk' : ((10 : Int) == k) = false := by rw [beq_eq_false_iff_ne]; omega
    have HN : Hid (∀ j : Nat,j < 10 -> k ≠ (j : Int) + 1) := fun j hj => by
     by_cases e : j = 9
     ·subst e; show k ≠ _; omega
     ·exact HI.out.1 j (by omega)
    clear hk HI
    go_wp2
    go_roundg (12 - 10)
    case measure => omega
    case rel => exact ⟨10,by go_num,by omega,rfl,HN.out,HB.out _⟩
  ·by_cases hk : k = 11
   ·subst hk
    go_wp2
    go_ret2
    exact ⟨rfl,HB.out _⟩
   ·have hk' : ((11 : Int) == k) = false := by rw [beq_eq_false_iff_ne]; omega
    have HN : Hid (∀ j : Nat,j < 11 -> k ≠ (j : Int) + 1) := fun j hj => by
     by_cases e : j = 10
     ·subst e; show k ≠ _; omega
     ·exact HI.out.1 j (by omega)
    clear hk HI
    go_wp2
    go_roundg (12 - 11)
    case measure => omega
    case rel => exact ⟨11,by go_num,by omega,rfl,HN.out,HB.out _⟩
  ·by_cases hk : k = 12
   ·subst hk
    go_wp2
    go_ret2
    exact ⟨rfl,HB.out _⟩
   ·have hk' : ((12 : Int) == k) = false := by rw [beq_eq_false_iff_ne]; omega
    have HN : Hid (∀ j : Nat,j < 12 -> k ≠ (j : Int) + 1) := fun j hj => by
     by_cases e : j = 11
     ·subst e; show k ≠ _; omega
     ·exact HI.out.1 j (by omega)
    clear hk HI
    go_wp2
    go_roundg (12 - 12)
    case measure => omega
    case rel => exact ⟨12,by go_num,by omega,rfl,HN.out,HB.out _⟩
  ·have hn : lettersL k = none := by
    have h := HI.out.1
    have h1 := h 0 (by omega); have h2 := h 1 (by omega); have h3 := h 2 (by omega); have h4 := h 3 (by omega); have h5 := h 4 (by omega); have h6 := h 5 (by omega); have h7 := h 6 (by omega); have h8 := h 7 (by omega); have h9 := h 8 (by omega); have h10 := h 9 (by omega); have h11 := h 10 (by omega); have h12 := h 11 (by omega)
    unfold lettersL
    rw [if_neg (by omega),if_neg (by omega),if_neg (by omega),if_neg (by omega),if_neg (by omega),if_neg (by omega),if_neg (by omega),if_neg (by omega),if_neg (by omega),if_neg (by omega),if_neg (by omega),if_neg (by omega)]
   have hS : lettersS k = ⟨#[]⟩ := by unfold lettersS; rw [hn]; rfl
   have HSn : Hid (lettersS k = ⟨#[]⟩ /\ lettersL k = none) := ⟨hS,hn⟩
   clear hS hn
   go_wp2
   go_ret2
   exact ⟨by rw [HSn.out.1,HSn.out.2]; rfl,HI.out.2⟩
theorem fitsA_any (a : Ax) (c : UInt8) (w : World) (ha : a.Fits) : Calls Tryz.prog 92 #[av a,.int .i32 (c.toNat : Int)] w fun e w' => e = .returned (.bool (fitsA a c)) /\ Below w.heap.size w w' := by
 obtain ⟨W,fold⟩ : ∃ W,w.alloc (.cells #[.int .i64 a.kind,.string a.name,.int .i64 a.n,.int .u64 a.tag,.int .i64 a.to,.string a.xn,.int .i64 a.xk,.bool a.xf,.string a.be,.string a.bq,.string a.bp,.int .i64 a.m.origin,.int .u64 a.m.seq,.int .i64 a.m.hop,.string a.m.ex,.string a.m.key,.string a.m.body] 42) = W := ⟨_,rfl⟩
 have b0 : Below w.heap.size w W := by rw [<- fold]; exact box_below w _
 have y0 : W.cell? ⟨w.heap.size,0,none⟩ = some (.int .i64 a.kind) := by rw [<- fold]; exact box_cell w _ _ _ _ rfl
 have y1 : W.cell? ⟨w.heap.size,1,none⟩ = some (.string a.name) := by rw [<- fold]; exact box_cell w _ _ _ _ rfl
 have y2 : W.cell? ⟨w.heap.size,2,none⟩ = some (.int .i64 a.n) := by rw [<- fold]; exact box_cell w _ _ _ _ rfl
 have y3 : W.cell? ⟨w.heap.size,3,none⟩ = some (.int .u64 a.tag) := by rw [<- fold]; exact box_cell w _ _ _ _ rfl
 have y4 : W.cell? ⟨w.heap.size,4,none⟩ = some (.int .i64 a.to) := by rw [<- fold]; exact box_cell w _ _ _ _ rfl
 have y5 : W.cell? ⟨w.heap.size,5,none⟩ = some (.string a.xn) := by rw [<- fold]; exact box_cell w _ _ _ _ rfl
 have y6 : W.cell? ⟨w.heap.size,6,none⟩ = some (.int .i64 a.xk) := by rw [<- fold]; exact box_cell w _ _ _ _ rfl
 have y7 : W.cell? ⟨w.heap.size,7,none⟩ = some (.bool a.xf) := by rw [<- fold]; exact box_cell w _ _ _ _ rfl
 have y8 : W.cell? ⟨w.heap.size,8,none⟩ = some (.string a.be) := by rw [<- fold]; exact box_cell w _ _ _ _ rfl
 have y9 : W.cell? ⟨w.heap.size,9,none⟩ = some (.string a.bq) := by rw [<- fold]; exact box_cell w _ _ _ _ rfl
 have y10 : W.cell? ⟨w.heap.size,10,none⟩ = some (.string a.bp) := by rw [<- fold]; exact box_cell w _ _ _ _ rfl
 have y11 : W.cell? ⟨w.heap.size,11,none⟩ = some (.int .i64 a.m.origin) := by rw [<- fold]; exact box_cell w _ _ _ _ rfl
 have y12 : W.cell? ⟨w.heap.size,12,none⟩ = some (.int .u64 a.m.seq) := by rw [<- fold]; exact box_cell w _ _ _ _ rfl
 have y13 : W.cell? ⟨w.heap.size,13,none⟩ = some (.int .i64 a.m.hop) := by rw [<- fold]; exact box_cell w _ _ _ _ rfl
 have y14 : W.cell? ⟨w.heap.size,14,none⟩ = some (.string a.m.ex) := by rw [<- fold]; exact box_cell w _ _ _ _ rfl
 have y15 : W.cell? ⟨w.heap.size,15,none⟩ = some (.string a.m.key) := by rw [<- fold]; exact box_cell w _ _ _ _ rfl
 have y16 : W.cell? ⟨w.heap.size,16,none⟩ = some (.string a.m.body) := by rw [<- fold]; exact box_cell w _ _ _ _ rfl
 unfold fitsA
 by_cases h110 : c = 110
 ·subst h110
  go_enter Tryz.func92,Tryz.ntmps92
  have hc := name_any a.name W ha.nm
  go_wp2_with fail
  try rw [fold]
  refine hc.mono ?_
  rintro e V ⟨rfl,b1⟩
  clear hc
  go_wp2
  go_ret
  exact ⟨rfl,keptW b0 b1⟩
 by_cases h100 : c = 100
 ·subst h100
  go_enter Tryz.func92,Tryz.ntmps92
  have hc := within_any a.n 1 1000 W
  go_wp2_with fail
  try rw [fold]
  refine hc.mono ?_
  rintro e V ⟨rfl,rfl⟩
  clear hc
  go_wp2
  go_ret
  exact ⟨rfl,b0⟩
 by_cases h99 : c = 99
 ·subst h99
  go_enter Tryz.func92,Tryz.ntmps92
  have hc := within_any a.n 1 200 W
  go_wp2_with fail
  try rw [fold]
  refine hc.mono ?_
  rintro e V ⟨rfl,rfl⟩
  clear hc
  go_wp2
  go_ret
  exact ⟨rfl,b0⟩
 by_cases h116 : c = 116
 ·subst h116
  go_enter Tryz.func92,Tryz.ntmps92
  go_wp2
  try rw [fold]
  go_ret
  exact ⟨rfl,b0⟩
 by_cases h115 : c = 115
 ·subst h115
  go_enter Tryz.func92,Tryz.ntmps92
  have hc := within_any a.to 1 8 W
  go_wp2_with fail
  try rw [fold]
  refine hc.mono ?_
  rintro e V ⟨rfl,rfl⟩
  clear hc
  go_wp2
  go_ret
  exact ⟨rfl,b0⟩
 by_cases h120 : c = 120
 ·subst h120
  go_enter Tryz.func92,Tryz.ntmps92
  have hc := goodX_any a.xn a.xk a.xf W ha.xn
  go_wp2_with fail
  try rw [fold]
  refine hc.mono ?_
  rintro e V ⟨rfl,b1⟩
  clear hc
  go_wp2
  go_ret
  exact ⟨rfl,keptW b0 b1⟩
 by_cases h98 : c = 98
 ·subst h98
  go_enter Tryz.func92,Tryz.ntmps92
  have hc := goodBd_any a.be a.bq a.bp W ha.be ha.bq
  go_wp2_with fail
  try rw [fold]
  refine hc.mono ?_
  rintro e V ⟨rfl,b1⟩
  clear hc
  go_wp2
  go_ret
  exact ⟨rfl,keptW b0 b1⟩
 by_cases h109 : c = 109
 ·subst h109
  go_enter Tryz.func92,Tryz.ntmps92
  have hc := goodM_any a.m W ha.m
  go_wp2_with fail
  try rw [fold]
  refine hc.mono ?_
  rintro e V ⟨rfl,b1⟩
  clear hc
  go_wp2
  go_ret
  exact ⟨rfl,keptW b0 b1⟩
 have e110 : ((c.toNat : Int) == 110) = false := by rw [beq_eq_false_iff_ne]; intro h; exact h110 (UInt8.toNat_inj.1 (by show c.toNat = 110; omega))
 have e100 : ((c.toNat : Int) == 100) = false := by rw [beq_eq_false_iff_ne]; intro h; exact h100 (UInt8.toNat_inj.1 (by show c.toNat = 100; omega))
 have e99 : ((c.toNat : Int) == 99) = false := by rw [beq_eq_false_iff_ne]; intro h; exact h99 (UInt8.toNat_inj.1 (by show c.toNat = 99; omega))
 have e116 : ((c.toNat : Int) == 116) = false := by rw [beq_eq_false_iff_ne]; intro h; exact h116 (UInt8.toNat_inj.1 (by show c.toNat = 116; omega))
 have e115 : ((c.toNat : Int) == 115) = false := by rw [beq_eq_false_iff_ne]; intro h; exact h115 (UInt8.toNat_inj.1 (by show c.toNat = 115; omega))
 have e120 : ((c.toNat : Int) == 120) = false := by rw [beq_eq_false_iff_ne]; intro h; exact h120 (UInt8.toNat_inj.1 (by show c.toNat = 120; omega))
 have e98 : ((c.toNat : Int) == 98) = false := by rw [beq_eq_false_iff_ne]; intro h; exact h98 (UInt8.toNat_inj.1 (by show c.toNat = 98; omega))
 have e109 : ((c.toNat : Int) == 109) = false := by rw [beq_eq_false_iff_ne]; intro h; exact h109 (UInt8.toNat_inj.1 (by show c.toNat = 109; omega))
 go_enter Tryz.func92,Tryz.ntmps92
 go_wp2
 go_ret
 exact ⟨by first | rfl | (simp [h110,h100,h99,h116,h115,h120,h98,h109]),by first | exact b0 | (rw [fold]; exact b0)⟩
theorem set_list {w : World} {p i : Nat} {C : List Value} {t : TypeId} (h : w.heap[p]? = some (.cells C.toArray t (0,0))) (v : Value) : (w.setCell ⟨p,i,none⟩ v).heap[p]? = some (.cells (C.set i v).toArray t (0,0)) := by
 have := heap_setCell_same w p i _ _ v h
 simpa using this
structure OnlyIn (w wr : World) (a : Ax) (L : List Value) (s : ByteArray) (pos : Nat) : Prop where
 x : wr.heap[w.heap.size]? = some (.cells (xcells a).toArray 42 (0,0))
 r : wr.heap[w.heap.size + 1]? = some (.cells (xcells (zA 0)).toArray 42 (0,0))
 n : wr.heap[w.heap.size + 2]? = some (.cells L.toArray 42 (0,0))
 it : wr.heap[w.heap.size + 3]? = some (.stringIter s pos)
 bel : Below w.heap.size w wr
theorem only_start (a : Ax) (s : ByteArray) (w : World) : OnlyIn w ((((w.alloc (.cells (xcells a).toArray 42)).alloc (.cells (xcells (zA 0)).toArray 42)).alloc (.cells (xcells (zA a.kind)).toArray 42)).iter s 0) a (xcells (zA a.kind)) s 0 := by
 obtain ⟨A1,h1⟩ : ∃ z,w.alloc (.cells (xcells a).toArray 42) = z := ⟨_,rfl⟩
 obtain ⟨A2,h2⟩ : ∃ z,A1.alloc (.cells (xcells (zA 0)).toArray 42) = z := ⟨_,rfl⟩
 obtain ⟨A3,h3⟩ : ∃ z,A2.alloc (.cells (xcells (zA a.kind)).toArray 42) = z := ⟨_,rfl⟩
 obtain ⟨A4,h4⟩ : ∃ z,A3.alloc (.stringIter s 0) = z := ⟨_,rfl⟩
 have s1 : A1.heap.size = w.heap.size + 1 := by rw [<- h1,World.size_alloc]
 have s2 : A2.heap.size = w.heap.size + 2 := by rw [<- h2,World.size_alloc,s1]
 have s3 : A3.heap.size = w.heap.size + 3 := by rw [<- h3,World.size_alloc,s2]
 have x1 := heap_alloc_new w (.cells (xcells a).toArray 42)
 have x2 := heap_alloc_new A1 (.cells (xcells (zA 0)).toArray 42)
 have x3 := heap_alloc_new A2 (.cells (xcells (zA a.kind)).toArray 42)
 have x4 := heap_alloc_new A3 (.stringIter s 0)
 rw [h1] at x1
 rw [h2,s1] at x2
 rw [h3,s2] at x3
 rw [h4,s3] at x4
 have k2 : ∀ k,k < w.heap.size + 1 -> A2.heap[k]? = A1.heap[k]? := fun k hk => by rw [<- h2]; exact Below.heap_alloc _ _ _ (by rw [s1]; exact hk)
 have k3 : ∀ k,k < w.heap.size + 2 -> A3.heap[k]? = A2.heap[k]? := fun k hk => by rw [<- h3]; exact Below.heap_alloc _ _ _ (by rw [s2]; exact hk)
 have k4 : ∀ k,k < w.heap.size + 3 -> A4.heap[k]? = A3.heap[k]? := fun k hk => by rw [<- h4]; exact Below.heap_alloc _ _ _ (by rw [s3]; exact hk)
 have hW : (((w.alloc (.cells (xcells a).toArray 42)).alloc (.cells (xcells (zA 0)).toArray 42)).alloc (.cells (xcells (zA a.kind)).toArray 42)).iter s 0 = A4 := by rw [h1,h2,h3]; exact h4
 rw [hW]
 refine ⟨?_,?_,?_,x4,?_⟩
 ·rw [k4 _ (by omega),k3 _ (by omega),k2 _ (by omega)]; exact x1
 ·rw [k4 _ (by omega),k3 _ (by omega)]; exact x2
 ·rw [k4 _ (by omega)]; exact x3
 ·have b1 : Below w.heap.size w A1 := by rw [<- h1]; exact box_below w _
  have b2 : Below w.heap.size w A2 := by rw [<- h2]; exact b1.alloc b1.size _
  have b3 : Below w.heap.size w A3 := by rw [<- h3]; exact b2.alloc b2.size _
  rw [<- h4]
  exact b3.alloc b3.size _
theorem OnlyIn.set {w wr : World} {a : Ax} {L : List Value} {s : ByteArray} {pos : Nat} (h : OnlyIn w wr a L s pos) (j : Nat) (v : Value) : OnlyIn w (wr.setCell ⟨w.heap.size + 2,j,none⟩ v) a (L.set j v) s pos := by
 have hne : ∀ k,k ≠ w.heap.size + 2 -> (wr.setCell ⟨w.heap.size + 2,j,none⟩ v).heap[k]? = wr.heap[k]? := fun k hk => Below.heap_setCell _ _ _ _ hk
 refine ⟨(hne _ (by omega)).trans h.x,(hne _ (by omega)).trans h.r,set_list h.n v,(hne _ (by omega)).trans h.it,?_⟩
 exact h.bel.setCell (by show w.heap.size <= w.heap.size + 2; omega) _
theorem OnlyIn.next {w wr : World} {a : Ax} {L : List Value} {s : ByteArray} {pos : Nat} (h : OnlyIn w wr a L s pos) : OnlyIn w (wr.iterAt (w.heap.size + 3) s (pos + 1)) a L s (pos + 1) := by
 have hne : ∀ k,k ≠ w.heap.size + 3 -> (wr.iterAt (w.heap.size + 3) s (pos + 1)).heap[k]? = wr.heap[k]? := fun k hk => by
  unfold World.iterAt
  simp only
  rw [Array.getElem?_setIfInBounds_ne (fun e => hk e.symm)]
 refine ⟨(hne _ (by omega)).trans h.x,(hne _ (by omega)).trans h.r,(hne _ (by omega)).trans h.n,Lib.iterAt_heap _ _ _ _ _ h.it,⟨h.bel.os,h.bel.tape,h.bel.output,by simp [World.iterAt]; exact h.bel.size,fun k hk => (hne k (by omega)).trans (h.bel.block k hk)⟩⟩
theorem box_at {w : World} {b j : Nat} {L : List Value} {t : TypeId} {v : Value} (h : w.heap[b]? = some (.cells L.toArray t (0,0))) (hj : L[j]? = some v) : w.cell? ⟨b,j,none⟩ = some v := by
 simp only [World.cell?]
 rw [h]
 simpa using hj
theorem box_free {w : World} {b : Nat} {L : List Value} {t : TypeId} (h : w.heap[b]? = some (.cells L.toArray t (0,0))) (j : Nat) : w.frozen? ⟨b,j,none⟩ = false := by
 simp only [World.frozen?]
 rw [h]
 simp
theorem info17 : (Tryz.prog.info? 42).map (·.size) = some 17 := by kernel_rfl
theorem one17 (z : Ax) : (xcells z).toArray.all (·.oneCell') = true := by simp [xcells,Value.oneCell']
theorem only_any (a : Ax) (s : ByteArray) (w : World) (hasc : ∀ c ∈ txt s,c.toNat < 128) : Calls Tryz.prog 93 #[av a,.string s] w fun e w' => e = .returned (av (onlyL a (txt s))) /\ Below w.heap.size w w' := by
 have HS : Hid _ := only_start a s w
 have HA : Hid (∀ c ∈ txt s,c.toNat < 128) := hasc
 clear hasc
 go_enter Tryz.func93,Tryz.ntmps93
 go_wp2
 go_loopg [7] s.size (fun g u7 wr => ∃ (pos : Nat) (z : Ax),pos <= s.size /\ g = s.size - pos /\ Hid (OnlyIn w wr a (xcells z) s pos /\ z = ((txt s).take pos).foldl (onlyS a) (zA a.kind)))
 case atStart => exact ⟨0,zA a.kind,Nat.zero_le _,rfl,HS.out,rfl⟩
 case round =>
  obtain ⟨pos,z,hpos,rfl,HI⟩ := hrel
  clear HS
  by_cases hlt : pos < s.size
  ·have hlt2 : pos < (txt s).length := by rw [txt_length]; exact hlt
   obtain ⟨c,hc⟩ : ∃ z,s[pos]'hlt = z := ⟨_,rfl⟩
   have hget : (txt s)[pos]'hlt2 = c := by rw [<- hc]; exact Array.getElem_toList (xs := s.data) hlt
   have hc8 : (s[pos]'hlt).toNat < 128 := by rw [hc,<- hget]; exact HA.out _ (List.getElem_mem hlt2)
   have hnx := fun ty => Lib.run_next_ascii_at (P := Tryz.prog) wr (w.heap.size + 3) s pos ty HI.out.1.it hlt hc8
   obtain ⟨W1,hW1⟩ : ∃ z,wr.iterAt (w.heap.size + 3) s (pos + 1) = z := ⟨_,rfl⟩
   have H1 := HI.out.1.next
   rw [hW1] at H1 hnx
   rw [hc] at hnx
   have HZ : Hid (onlyS a z c = ((txt s).take (pos + 1)).foldl (onlyS a) (zA a.kind)) := by
    show onlyS a z c = _
    rw [List.take_succ_eq_append_getElem hlt2,List.foldl_append,hget,<- HI.out.2]
    rfl
   have x0 : W1.cell? ⟨w.heap.size,0,none⟩ = some (.int .i64 a.kind) := box_at H1.x rfl
   have x1 : W1.cell? ⟨w.heap.size,1,none⟩ = some (.string a.name) := box_at H1.x rfl
   have x2 : W1.cell? ⟨w.heap.size,2,none⟩ = some (.int .i64 a.n) := box_at H1.x rfl
   have x3 : W1.cell? ⟨w.heap.size,3,none⟩ = some (.int .u64 a.tag) := box_at H1.x rfl
   have x4 : W1.cell? ⟨w.heap.size,4,none⟩ = some (.int .i64 a.to) := box_at H1.x rfl
   have x5 : W1.cell? ⟨w.heap.size,5,none⟩ = some (.string a.xn) := box_at H1.x rfl
   have x6 : W1.cell? ⟨w.heap.size,6,none⟩ = some (.int .i64 a.xk) := box_at H1.x rfl
   have x7 : W1.cell? ⟨w.heap.size,7,none⟩ = some (.bool a.xf) := box_at H1.x rfl
   have x8 : W1.cell? ⟨w.heap.size,8,none⟩ = some (.string a.be) := box_at H1.x rfl
   have x9 : W1.cell? ⟨w.heap.size,9,none⟩ = some (.string a.bq) := box_at H1.x rfl
   have x10 : W1.cell? ⟨w.heap.size,10,none⟩ = some (.string a.bp) := box_at H1.x rfl
   have x11 : W1.cell? ⟨w.heap.size,11,none⟩ = some (.int .i64 a.m.origin) := box_at H1.x rfl
   have x12 : W1.cell? ⟨w.heap.size,12,none⟩ = some (.int .u64 a.m.seq) := box_at H1.x rfl
   have x13 : W1.cell? ⟨w.heap.size,13,none⟩ = some (.int .i64 a.m.hop) := box_at H1.x rfl
   have x14 : W1.cell? ⟨w.heap.size,14,none⟩ = some (.string a.m.ex) := box_at H1.x rfl
   have x15 : W1.cell? ⟨w.heap.size,15,none⟩ = some (.string a.m.key) := box_at H1.x rfl
   have x16 : W1.cell? ⟨w.heap.size,16,none⟩ = some (.string a.m.body) := box_at H1.x rfl
   have d0 : W1.cell? ⟨w.heap.size + 2,0,none⟩ = some (.int .i64 z.kind) := box_at H1.n rfl
   have d1 : W1.cell? ⟨w.heap.size + 2,1,none⟩ = some (.string z.name) := box_at H1.n rfl
   have d2 : W1.cell? ⟨w.heap.size + 2,2,none⟩ = some (.int .i64 z.n) := box_at H1.n rfl
   have d3 : W1.cell? ⟨w.heap.size + 2,3,none⟩ = some (.int .u64 z.tag) := box_at H1.n rfl
   have d4 : W1.cell? ⟨w.heap.size + 2,4,none⟩ = some (.int .i64 z.to) := box_at H1.n rfl
   have d5 : W1.cell? ⟨w.heap.size + 2,5,none⟩ = some (.string z.xn) := box_at H1.n rfl
   have d6 : W1.cell? ⟨w.heap.size + 2,6,none⟩ = some (.int .i64 z.xk) := box_at H1.n rfl
   have d7 : W1.cell? ⟨w.heap.size + 2,7,none⟩ = some (.bool z.xf) := box_at H1.n rfl
   have d8 : W1.cell? ⟨w.heap.size + 2,8,none⟩ = some (.string z.be) := box_at H1.n rfl
   have d9 : W1.cell? ⟨w.heap.size + 2,9,none⟩ = some (.string z.bq) := box_at H1.n rfl
   have d10 : W1.cell? ⟨w.heap.size + 2,10,none⟩ = some (.string z.bp) := box_at H1.n rfl
   have d11 : W1.cell? ⟨w.heap.size + 2,11,none⟩ = some (.int .i64 z.m.origin) := box_at H1.n rfl
   have d12 : W1.cell? ⟨w.heap.size + 2,12,none⟩ = some (.int .u64 z.m.seq) := box_at H1.n rfl
   have d13 : W1.cell? ⟨w.heap.size + 2,13,none⟩ = some (.int .i64 z.m.hop) := box_at H1.n rfl
   have d14 : W1.cell? ⟨w.heap.size + 2,14,none⟩ = some (.string z.m.ex) := box_at H1.n rfl
   have d15 : W1.cell? ⟨w.heap.size + 2,15,none⟩ = some (.string z.m.key) := box_at H1.n rfl
   have d16 : W1.cell? ⟨w.heap.size + 2,16,none⟩ = some (.string z.m.body) := box_at H1.n rfl
   have hfz := fun j => box_free H1.n j
   have HN : Hid (OnlyIn w W1 a (xcells z) s (pos + 1)) := H1
   clear H1 HI hW1 hc hget hc8 hlt2
   by_cases h110 : c = 110
   ·subst h110
    go_wp2
    go_roundg (s.size - (pos + 1))
    case measure => omega
    case rel => exact ⟨pos + 1,onlyS a z 110,by omega,rfl,HN.out.set 1 _,HZ.out⟩
   by_cases h100 : c = 100
   ·subst h100
    go_wp2
    go_roundg (s.size - (pos + 1))
    case measure => omega
    case rel => exact ⟨pos + 1,onlyS a z 100,by omega,rfl,HN.out.set 2 _,HZ.out⟩
   by_cases h99 : c = 99
   ·subst h99
    go_wp2
    go_roundg (s.size - (pos + 1))
    case measure => omega
    case rel => exact ⟨pos + 1,onlyS a z 99,by omega,rfl,HN.out.set 2 _,HZ.out⟩
   by_cases h116 : c = 116
   ·subst h116
    go_wp2
    go_roundg (s.size - (pos + 1))
    case measure => omega
    case rel => exact ⟨pos + 1,onlyS a z 116,by omega,rfl,HN.out.set 3 _,HZ.out⟩
   by_cases h115 : c = 115
   ·subst h115
    go_wp2
    go_roundg (s.size - (pos + 1))
    case measure => omega
    case rel => exact ⟨pos + 1,onlyS a z 115,by omega,rfl,HN.out.set 4 _,HZ.out⟩
   by_cases h120 : c = 120
   ·subst h120
    go_wp2
    go_roundg (s.size - (pos + 1))
    case measure => omega
    case rel => exact ⟨pos + 1,onlyS a z 120,by omega,rfl,((HN.out.set 5 _).set 6 _).set 7 _,HZ.out⟩
   by_cases h98 : c = 98
   ·subst h98
    go_wp2
    go_roundg (s.size - (pos + 1))
    case measure => omega
    case rel => exact ⟨pos + 1,onlyS a z 98,by omega,rfl,((HN.out.set 8 _).set 9 _).set 10 _,HZ.out⟩
   by_cases h109 : c = 109
   ·subst h109
    go_wp2
    go_roundg (s.size - (pos + 1))
    case measure => omega
    case rel => exact ⟨pos + 1,onlyS a z 109,by omega,rfl,(((((HN.out.set 11 _).set 12 _).set 13 _).set 14 _).set 15 _).set 16 _,HZ.out⟩
   have e110 : ((c.toNat : Int) == 110) = false := by rw [beq_eq_false_iff_ne]; intro h; exact h110 (UInt8.toNat_inj.1 (by show c.toNat = 110; omega))
   have e100 : ((c.toNat : Int) == 100) = false := by rw [beq_eq_false_iff_ne]; intro h; exact h100 (UInt8.toNat_inj.1 (by show c.toNat = 100; omega))
   have e99 : ((c.toNat : Int) == 99) = false := by rw [beq_eq_false_iff_ne]; intro h; exact h99 (UInt8.toNat_inj.1 (by show c.toNat = 99; omega))
   have e116 : ((c.toNat : Int) == 116) = false := by rw [beq_eq_false_iff_ne]; intro h; exact h116 (UInt8.toNat_inj.1 (by show c.toNat = 116; omega))
   have e115 : ((c.toNat : Int) == 115) = false := by rw [beq_eq_false_iff_ne]; intro h; exact h115 (UInt8.toNat_inj.1 (by show c.toNat = 115; omega))
   have e120 : ((c.toNat : Int) == 120) = false := by rw [beq_eq_false_iff_ne]; intro h; exact h120 (UInt8.toNat_inj.1 (by show c.toNat = 120; omega))
   have e98 : ((c.toNat : Int) == 98) = false := by rw [beq_eq_false_iff_ne]; intro h; exact h98 (UInt8.toNat_inj.1 (by show c.toNat = 98; omega))
   have e109 : ((c.toNat : Int) == 109) = false := by rw [beq_eq_false_iff_ne]; intro h; exact h109 (UInt8.toNat_inj.1 (by show c.toNat = 109; omega))
   have hz : onlyS a z c = z := by
    unfold onlyS
    rw [if_neg h110,if_neg (by simp [h100,h99]),if_neg h116,if_neg h115,if_neg h120,if_neg h98,if_neg h109]
   have HZ2 : Hid (z = ((txt s).take (pos + 1)).foldl (onlyS a) (zA a.kind)) := by have := HZ.out; rw [hz] at this; exact this
   clear hz
   go_wp2
   go_roundg (s.size - (pos + 1))
   case measure => omega
   case rel => exact ⟨pos + 1,z,by omega,rfl,HN.out,HZ2.out⟩
  ·have hnx := fun ty => Lib.run_next_end_at (P := Tryz.prog) wr (w.heap.size + 3) s pos ty HI.out.1.it hlt
   have hze : z = onlyL a (txt s) := by
    have h1 := HI.out.2
    rw [List.take_of_length_le (by rw [txt_length]; omega)] at h1
    exact h1
   have HZ : Hid (z = onlyL a (txt s)) := hze
   have HN : Hid (OnlyIn w wr a (xcells z) s pos) := HI.out.1
   clear hze HI
   go_wp2_with (first | refine wpList_load_row rfl 42 _ rfl (w.heap.size + 2) rfl 42 (xcells z).toArray (0,0) _ HN.out.n Tryz.underlying42 rfl info17 ?_ | refine wpList_store_row rfl 42 _ _ rfl (w.heap.size + 1) (xcells z).toArray rfl rfl 42 (xcells (zA 0)).toArray HN.out.r info17 rfl (one17 z) ?_)
   refine bodyPost_ret (results_cell_row rfl _ _ (w.heap.size + 1) 42 (xcells z).toArray (0,0) _ rfl (setRow_heap _ _ _ _ _ _ HN.out.r) Tryz.underlying42 rfl info17) rfl ⟨?_,below_setRow HN.out.bel (by omega) _⟩
   rw [<- HZ.out]
   rfl
end Go.Proofs.YtjagaankkcbjmaaGreatDoor
