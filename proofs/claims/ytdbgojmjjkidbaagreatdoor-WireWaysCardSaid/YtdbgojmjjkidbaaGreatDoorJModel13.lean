/-
  ACTS AND MESSAGES, told plainly: which are good, their bytes. Of no program but for the words of layers 1 and 5.
-/
import Derived.Test.YtdbgojmjjkidbaaGreatDoorJSplits
import Derived.Test.YtdbgojmjjkidbaaGreatDoorJWalks
namespace Go.Proofs.YtdbgojmjjkidbaaGreatDoor
open Go.RowKit


/-- A message. -/
structure Ms where
  origin : Int
  seq : Int
  hop : Int
  ex : ByteArray
  key : ByteArray
  body : ByteArray
  deriving DecidableEq

/-- An act. -/
structure Ax where
  kind : Int
  name : ByteArray
  n : Int
  tag : Int
  to : Int
  xn : ByteArray
  xk : Int
  xf : Bool
  be : ByteArray
  bq : ByteArray
  bp : ByteArray
  m : Ms
  deriving DecidableEq

def mcells (m : Ms) : List Value := [.int .i64 m.origin, .int .u64 m.seq, .int .i64 m.hop, .string m.ex, .string m.key, .string m.body]

abbrev mv (m : Ms) : Value := .agg #[.int .i64 m.origin, .int .u64 m.seq, .int .i64 m.hop, .string m.ex, .string m.key, .string m.body]

def xcells (a : Ax) : List Value := [.int .i64 a.kind, .string a.name, .int .i64 a.n, .int .u64 a.tag, .int .i64 a.to, .string a.xn, .int .i64 a.xk, .bool a.xf, .string a.be, .string a.bq, .string a.bp, .int .i64 a.m.origin, .int .u64 a.m.seq, .int .i64 a.m.hop, .string a.m.ex, .string a.m.key, .string a.m.body]

abbrev av (a : Ax) : Value := .agg #[.int .i64 a.kind, .string a.name, .int .i64 a.n, .int .u64 a.tag, .int .i64 a.to, .string a.xn, .int .i64 a.xk, .bool a.xf, .string a.be, .string a.bq, .string a.bp, .int .i64 a.m.origin, .int .u64 a.m.seq, .int .i64 a.m.hop, .string a.m.ex, .string a.m.key, .string a.m.body]

def zM : Ms := ⟨0, 0, 0, ⟨#[]⟩, ⟨#[]⟩, ⟨#[]⟩⟩

def zA (k : Int) : Ax := ⟨k, ⟨#[]⟩, 0, 0, 0, ⟨#[]⟩, 0, false, ⟨#[]⟩, ⟨#[]⟩, ⟨#[]⟩, zM⟩

/-- How long its texts can be, and its numbers. -/
structure Ms.Fits (m : Ms) : Prop where
  o : -9223372036854775808 ≤ m.origin ∧ m.origin < 9223372036854775808
  s : 0 ≤ m.seq ∧ m.seq < 18446744073709551616
  h : -9223372036854775808 ≤ m.hop ∧ m.hop < 9223372036854775808
  e : m.ex.size ≤ maxLen
  k : m.key.size ≤ maxLen
  b : m.body.size ≤ maxLen

structure Ax.Fits (a : Ax) : Prop where
  k : -9223372036854775808 ≤ a.kind ∧ a.kind < 9223372036854775808
  nm : a.name.size ≤ maxLen
  n : -9223372036854775808 ≤ a.n ∧ a.n < 9223372036854775808
  t : 0 ≤ a.tag ∧ a.tag < 18446744073709551616
  to : -9223372036854775808 ≤ a.to ∧ a.to < 9223372036854775808
  xn : a.xn.size ≤ maxLen
  xk : -9223372036854775808 ≤ a.xk ∧ a.xk < 9223372036854775808
  be : a.be.size ≤ maxLen
  bq : a.bq.size ≤ maxLen
  bp : a.bp.size ≤ maxLen
  m : a.m.Fits

def inB (n lo hi : Int) : Bool := decide (lo ≤ n) && decide (n ≤ hi)

def goodM (m : Ms) : Bool := inB m.origin 1 8 && decide (1 ≤ m.seq) && inB m.hop 0 8 && nameB (txt m.ex) && keyB (txt m.key) && decide ((m.body.size : Int) ≤ 200)

def goodX (n : ByteArray) (k : Int) : Bool := inB k 1 3 && nameB (txt n)

def goodBd (e q p : ByteArray) : Bool := nameB (txt e) && nameB (txt q) && decide ((p.size : Int) ≤ 60)

/-- The letters that a kind names. -/
def lettersL (k : Int) : Option (List UInt8) :=
  if k = 1 then some [110, 100] else if k = 2 then some [110] else if k = 3 then some [120] else if k = 4 then some [110] else if k = 5 then some [98] else if k = 6 then some [98] else if k = 7 then some [109] else if k = 8 then some [110] else if k = 9 then some [110, 116] else if k = 10 then some [110, 116] else if k = 11 then some [115, 99] else if k = 12 then some [] else none

/-- May that which a letter stands for be so? -/
def fitsA (a : Ax) (c : UInt8) : Bool :=
  if c = 110 then nameB (txt a.name) else if c = 100 then inB a.n 1 1000 else if c = 99 then inB a.n 1 200 else if c = 116 then decide (1 ≤ a.tag) else if c = 115 then inB a.to 1 8 else if c = 120 then goodX a.xn a.xk else if c = 98 then goodBd a.be a.bq a.bp else if c = 109 then goodM a.m else false

/-- One letter more of an act. -/
def onlyS (a z : Ax) (c : UInt8) : Ax :=
  if c = 110 then { z with name := a.name } else if c = 100 ∨ c = 99 then { z with n := a.n } else if c = 116 then { z with tag := a.tag } else if c = 115 then { z with to := a.to } else if c = 120 then { z with xn := a.xn, xk := a.xk, xf := a.xf } else if c = 98 then { z with be := a.be, bq := a.bq, bp := a.bp } else if c = 109 then { z with m := a.m } else z

def onlyL (a : Ax) (l : List UInt8) : Ax := l.foldl (onlyS a) (zA a.kind)

def goodA (a : Ax) : Bool := match lettersL a.kind with
  | none => false
  | some l => l.all (fitsA a) && decide (a = onlyL a l)

/-- A text's bytes. -/
def textL (s : ByteArray) : List UInt8 := putL 2 (min s.size 65535) ++ (txt s).take 65535

/-- A number as its 64 bits. -/
def u64 (n : Int) : Nat := (n % 18446744073709551616).toNat

def bytesM (m : Ms) : List UInt8 := putL 1 (u64 m.origin) ++ putL 8 m.seq.toNat ++ putL 1 (u64 m.hop) ++ textL m.ex ++ textL m.key ++ textL m.body

def exL (n : ByteArray) (k : Int) (f : Bool) : List UInt8 := textL n ++ putL 1 (u64 k) ++ putL 1 (if f then 1 else 0)

def bdL (e q p : ByteArray) : List UInt8 := textL e ++ textL q ++ textL p

/-- The bytes of that which a letter stands for. -/
def putS (a : Ax) (c : UInt8) : List UInt8 :=
  if c = 110 then textL a.name else if c = 100 ∨ c = 99 then putL 2 (u64 a.n) else if c = 116 then putL 8 a.tag.toNat else if c = 115 then putL 1 (u64 a.to) else if c = 120 then exL a.xn a.xk a.xf else if c = 98 then bdL a.be a.bq a.bp else if c = 109 then bytesM a.m else []

def bytesA (a : Ax) : List UInt8 := if goodA a then (match lettersL a.kind with
  | none => []
  | some l => putL 1 (u64 a.kind) ++ l.flatMap (putS a)) else []

end Go.Proofs.YtdbgojmjjkidbaaGreatDoor

/-
  within, bind's Good, goodBinding, GoodMessage, and the document's, by their contracts.
-/
namespace Go.Proofs.YtdbgojmjjkidbaaGreatDoor
open Go.RowKit


theorem keptW {w W w' : World} (h : Below w.heap.size w W) (b : Below W.heap.size W w') : Below w.heap.size w w' := h.trans (b.mono h.size)

theorem cell_on {w w' : World} {b j : Nat} {v : Value} (hb : Below w.heap.size w w') (h : w.cell? ⟨b, j, none⟩ = some v) : w'.cell? ⟨b, j, none⟩ = some v := (hb.cell (p := ⟨b, j, none⟩) (World.block_lt_of_cell? w _ h)).trans h

theorem box_below (w : World) (o : Obj) : Below w.heap.size w (w.alloc o) := (Below.refl _ _).alloc (Nat.le_refl _) _

theorem box_cell (w : World) (cs : Array Value) (t : TypeId) (j : Nat) (v : Value) (h : cs[j]? = some v) : (w.alloc (.cells cs t)).cell? ⟨w.heap.size, j, none⟩ = some v := by
  have := heap_alloc_new w (.cells cs t)
  simp only [World.cell?]
  rw [this]
  exact h

theorem within_any (n lo hi : Int) (w : World) : Calls Tryz.prog 78 #[.int .i64 n, .int .i64 lo, .int .i64 hi] w fun e w' => e = .returned (.bool (inB n lo hi)) ∧ w' = w := by
  unfold inB
  by_cases h1 : lo ≤ n
  · have e1 : decide (lo ≤ n) = true := by simpa using h1
    go_enter Tryz.func78, Tryz.ntmps78
    go_wp2
    go_ret
    exact ⟨by rw [e1]; simp, rfl⟩
  · have e1 : decide (lo ≤ n) = false := by simpa using h1
    go_enter Tryz.func78, Tryz.ntmps78
    go_wp2
    go_ret
    exact ⟨by first | (rw [e1]; simp) | simp, rfl⟩

set_option maxRecDepth 20000 in
theorem goodM_any (m : Ms) (w : World) (hm : m.Fits) : Calls Tryz.prog 59 #[mv m] w fun e w' => e = .returned (.bool (goodM m)) ∧ Below w.heap.size w w' := by
  obtain ⟨W, fold⟩ : ∃ W, w.alloc (.cells #[.int .i64 m.origin, .int .u64 m.seq, .int .i64 m.hop, .string m.ex, .string m.key, .string m.body] 33) = W := ⟨_, rfl⟩
  have b0 : Below w.heap.size w W := by rw [← fold]; exact box_below w _
  have y0 : W.cell? ⟨w.heap.size, 0, none⟩ = some (.int .i64 m.origin) := by rw [← fold]; exact box_cell w _ _ _ _ rfl
  have y1 : W.cell? ⟨w.heap.size, 1, none⟩ = some (.int .u64 m.seq) := by rw [← fold]; exact box_cell w _ _ _ _ rfl
  have y2 : W.cell? ⟨w.heap.size, 2, none⟩ = some (.int .i64 m.hop) := by rw [← fold]; exact box_cell w _ _ _ _ rfl
  have y3 : W.cell? ⟨w.heap.size, 3, none⟩ = some (.string m.ex) := by rw [← fold]; exact box_cell w _ _ _ _ rfl
  have y4 : W.cell? ⟨w.heap.size, 4, none⟩ = some (.string m.key) := by rw [← fold]; exact box_cell w _ _ _ _ rfl
  have y5 : W.cell? ⟨w.heap.size, 5, none⟩ = some (.string m.body) := by rw [← fold]; exact box_cell w _ _ _ _ rfl
  unfold goodM
  go_enter Tryz.func59, Tryz.ntmps59
  have hc := within_any m.origin 1 8 W
  go_wp2_with fail
  try rw [fold]
  refine hc.mono ?_
  rintro e V1 ⟨rfl, rfl⟩
  clear hc
  cases e0 : inB m.origin 1 8
  · go_wp2
    go_ret
    exact ⟨by (try rw [e0]); first | rfl | simp, b0⟩
  cases e1 : decide (1 ≤ m.seq)
  · go_wp2
    go_ret
    exact ⟨by (try rw [e0]); (try rw [e1]); first | rfl | simp, b0⟩
  have hc := within_any m.hop 0 8 V1
  go_wp2_with fail
  refine hc.mono ?_
  rintro e V3 ⟨rfl, rfl⟩
  clear hc
  cases e2 : inB m.hop 0 8
  · go_wp2
    go_ret
    exact ⟨by (try rw [e0]); (try rw [e1]); (try rw [e2]); first | rfl | simp, b0⟩
  have hc := name_any m.ex V3 hm.e
  go_wp2_with fail
  refine hc.mono ?_
  rintro e V4 ⟨rfl, b4⟩
  have y0 := cell_on b4 y0
  have y1 := cell_on b4 y1
  have y2 := cell_on b4 y2
  have y3 := cell_on b4 y3
  have y4 := cell_on b4 y4
  have y5 := cell_on b4 y5
  clear hc
  cases e3 : nameB (txt m.ex)
  · go_wp2
    go_ret
    exact ⟨by (try rw [e0]); (try rw [e1]); (try rw [e2]); (try rw [e3]); first | rfl | simp, keptW b0 b4⟩
  have hc := key_any m.key V4 hm.k
  go_wp2_with fail
  refine hc.mono ?_
  rintro e V5 ⟨rfl, b5⟩
  have y0 := cell_on b5 y0
  have y1 := cell_on b5 y1
  have y2 := cell_on b5 y2
  have y3 := cell_on b5 y3
  have y4 := cell_on b5 y4
  have y5 := cell_on b5 y5
  clear hc
  cases e4 : keyB (txt m.key)
  · go_wp2
    go_ret
    exact ⟨by (try rw [e0]); (try rw [e1]); (try rw [e2]); (try rw [e3]); (try rw [e4]); first | rfl | simp, keptW (keptW b0 b4) b5⟩
  go_wp2
  go_ret
  exact ⟨by (try rw [e0]); (try rw [e1]); (try rw [e2]); (try rw [e3]); (try rw [e4]); first | rfl | simp, keptW (keptW b0 b4) b5⟩

end Go.Proofs.YtdbgojmjjkidbaaGreatDoor

/-
  THE TABLE OF KINDS in memory; lettersOf, by its contract.
-/
namespace Go.Proofs.YtdbgojmjjkidbaaGreatDoor
open Go.RowKit

def lettersS (k : Int) : ByteArray := ⟨((lettersL k).getD []).toArray⟩

end Go.Proofs.YtdbgojmjjkidbaaGreatDoor

/-
  fits, by its contract.
-/
namespace Go.Proofs.YtdbgojmjjkidbaaGreatDoor
open Go.RowKit

end Go.Proofs.YtdbgojmjjkidbaaGreatDoor
