/-
  ACTS AND MESSAGES, told plainly: which are good, their bytes. Of no program but for the words of layers 1 and 5.
-/
import Derived.Test.YtopacoghnofliaaDoorKeys
import Derived.Test.YtopacoghnofliaaDoorGet
namespace Go.Proofs.YtopacoghnofliaaDoor
open Go.RowKit


/-- A message. -/
structure Ms where
  origin : Int
  seq : Int
  hop : Int
  ex : ByteArray
  key : ByteArray
  body : ByteArray
  deriving DecidableEq

/-- An act. -/
structure Ax where
  kind : Int
  name : ByteArray
  n : Int
  tag : Int
  to : Int
  xn : ByteArray
  xk : Int
  xf : Bool
  be : ByteArray
  bq : ByteArray
  bp : ByteArray
  m : Ms
  deriving DecidableEq

def mcells (m : Ms) : List Value := [.int .i64 m.origin, .int .u64 m.seq, .int .i64 m.hop, .string m.ex, .string m.key, .string m.body]

abbrev mv (m : Ms) : Value := .agg #[.int .i64 m.origin, .int .u64 m.seq, .int .i64 m.hop, .string m.ex, .string m.key, .string m.body]

def xcells (a : Ax) : List Value := [.int .i64 a.kind, .string a.name, .int .i64 a.n, .int .u64 a.tag, .int .i64 a.to, .string a.xn, .int .i64 a.xk, .bool a.xf, .string a.be, .string a.bq, .string a.bp, .int .i64 a.m.origin, .int .u64 a.m.seq, .int .i64 a.m.hop, .string a.m.ex, .string a.m.key, .string a.m.body]

abbrev av (a : Ax) : Value := .agg #[.int .i64 a.kind, .string a.name, .int .i64 a.n, .int .u64 a.tag, .int .i64 a.to, .string a.xn, .int .i64 a.xk, .bool a.xf, .string a.be, .string a.bq, .string a.bp, .int .i64 a.m.origin, .int .u64 a.m.seq, .int .i64 a.m.hop, .string a.m.ex, .string a.m.key, .string a.m.body]

def zM : Ms := ⟨0, 0, 0, ⟨#[]⟩, ⟨#[]⟩, ⟨#[]⟩⟩

def zA (k : Int) : Ax := ⟨k, ⟨#[]⟩, 0, 0, 0, ⟨#[]⟩, 0, false, ⟨#[]⟩, ⟨#[]⟩, ⟨#[]⟩, zM⟩

/-- How long its texts can be, and its numbers. -/
structure Ms.Fits (m : Ms) : Prop where
  o : -9223372036854775808 ≤ m.origin ∧ m.origin < 9223372036854775808
  s : 0 ≤ m.seq ∧ m.seq < 18446744073709551616
  h : -9223372036854775808 ≤ m.hop ∧ m.hop < 9223372036854775808
  e : m.ex.size ≤ maxLen
  k : m.key.size ≤ maxLen
  b : m.body.size ≤ maxLen

structure Ax.Fits (a : Ax) : Prop where
  k : -9223372036854775808 ≤ a.kind ∧ a.kind < 9223372036854775808
  nm : a.name.size ≤ maxLen
  n : -9223372036854775808 ≤ a.n ∧ a.n < 9223372036854775808
  t : 0 ≤ a.tag ∧ a.tag < 18446744073709551616
  to : -9223372036854775808 ≤ a.to ∧ a.to < 9223372036854775808
  xn : a.xn.size ≤ maxLen
  xk : -9223372036854775808 ≤ a.xk ∧ a.xk < 9223372036854775808
  be : a.be.size ≤ maxLen
  bq : a.bq.size ≤ maxLen
  bp : a.bp.size ≤ maxLen
  m : a.m.Fits

def inB (n lo hi : Int) : Bool := decide (lo ≤ n) && decide (n ≤ hi)

def goodM (m : Ms) : Bool := inB m.origin 1 8 && decide (1 ≤ m.seq) && inB m.hop 0 8 && nameB (txt m.ex) && keyB (txt m.key) && decide ((m.body.size : Int) ≤ 200)

def goodX (n : ByteArray) (k : Int) : Bool := inB k 1 3 && nameB (txt n)

def goodBd (e q p : ByteArray) : Bool := nameB (txt e) && nameB (txt q) && decide ((p.size : Int) ≤ 60)

/-- The letters that a kind names. -/
def lettersL (k : Int) : Option (List UInt8) :=
  if k = 1 then some [110, 100] else if k = 2 then some [110] else if k = 3 then some [120] else if k = 4 then some [110] else if k = 5 then some [98] else if k = 6 then some [98] else if k = 7 then some [109] else if k = 8 then some [110] else if k = 9 then some [110, 116] else if k = 10 then some [110, 116] else if k = 11 then some [115, 99] else if k = 12 then some [] else none

/-- May that which a letter stands for be so? -/
def fitsA (a : Ax) (c : UInt8) : Bool :=
  if c = 110 then nameB (txt a.name) else if c = 100 then inB a.n 1 1000 else if c = 99 then inB a.n 1 200 else if c = 116 then decide (1 ≤ a.tag) else if c = 115 then inB a.to 1 8 else if c = 120 then goodX a.xn a.xk else if c = 98 then goodBd a.be a.bq a.bp else if c = 109 then goodM a.m else false

/-- One letter more of an act. -/
def onlyS (a z : Ax) (c : UInt8) : Ax :=
  if c = 110 then { z with name := a.name } else if c = 100 ∨ c = 99 then { z with n := a.n } else if c = 116 then { z with tag := a.tag } else if c = 115 then { z with to := a.to } else if c = 120 then { z with xn := a.xn, xk := a.xk, xf := a.xf } else if c = 98 then { z with be := a.be, bq := a.bq, bp := a.bp } else if c = 109 then { z with m := a.m } else z

def onlyL (a : Ax) (l : List UInt8) : Ax := l.foldl (onlyS a) (zA a.kind)

def goodA (a : Ax) : Bool := match lettersL a.kind with
  | none => false
  | some l => l.all (fitsA a) && decide (a = onlyL a l)

/-- A text's bytes. -/
def textL (s : ByteArray) : List UInt8 := putL 2 (min s.size 65535) ++ (txt s).take 65535

/-- A number as its 64 bits. -/
def u64 (n : Int) : Nat := (n % 18446744073709551616).toNat

def bytesM (m : Ms) : List UInt8 := putL 1 (u64 m.origin) ++ putL 8 m.seq.toNat ++ putL 1 (u64 m.hop) ++ textL m.ex ++ textL m.key ++ textL m.body

def exL (n : ByteArray) (k : Int) (f : Bool) : List UInt8 := textL n ++ putL 1 (u64 k) ++ putL 1 (if f then 1 else 0)

def bdL (e q p : ByteArray) : List UInt8 := textL e ++ textL q ++ textL p

/-- The bytes of that which a letter stands for. -/
def putS (a : Ax) (c : UInt8) : List UInt8 :=
  if c = 110 then textL a.name else if c = 100 ∨ c = 99 then putL 2 (u64 a.n) else if c = 116 then putL 8 a.tag.toNat else if c = 115 then putL 1 (u64 a.to) else if c = 120 then exL a.xn a.xk a.xf else if c = 98 then bdL a.be a.bq a.bp else if c = 109 then bytesM a.m else []

def bytesA (a : Ax) : List UInt8 := if goodA a then (match lettersL a.kind with
  | none => []
  | some l => putL 1 (u64 a.kind) ++ l.flatMap (putS a)) else []

end Go.Proofs.YtopacoghnofliaaDoor
