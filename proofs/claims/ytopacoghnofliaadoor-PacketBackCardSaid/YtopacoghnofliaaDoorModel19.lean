/-
  PACKETS, told plainly: which are good, their bytes, which bytes are a packet's. Of no program but for the words of layers 1, 3, 5 and 13.
-/
import Derived.Test.YtopacoghnofliaaDoorParse13
import Derived.Test.YtopacoghnofliaaDoorFacts
import Derived.Test.YtopacoghnofliaaDoorBurst
namespace Go.Proofs.YtopacoghnofliaaDoor
open Go.RowKit


/-- A packet. -/
structure Pk where
  kind : Int
  fr : Int
  dest : Int
  ep : Int
  num : Int
  mask : Int
  m : Ms
  deriving DecidableEq

def pcells (p : Pk) : List Value := [.int .i64 p.kind, .int .i64 p.fr, .int .i64 p.dest, .int .u64 p.ep, .int .u16 p.num, .int .u64 p.mask, .int .i64 p.m.origin, .int .u64 p.m.seq, .int .i64 p.m.hop, .string p.m.ex, .string p.m.key, .string p.m.body]

abbrev pv (p : Pk) : Value := .agg #[.int .i64 p.kind, .int .i64 p.fr, .int .i64 p.dest, .int .u64 p.ep, .int .u16 p.num, .int .u64 p.mask, .int .i64 p.m.origin, .int .u64 p.m.seq, .int .i64 p.m.hop, .string p.m.ex, .string p.m.key, .string p.m.body]

structure Pk.Fits (p : Pk) : Prop where
  k : -9223372036854775808 ≤ p.kind ∧ p.kind < 9223372036854775808
  f : -9223372036854775808 ≤ p.fr ∧ p.fr < 9223372036854775808
  d : -9223372036854775808 ≤ p.dest ∧ p.dest < 9223372036854775808
  e : 0 ≤ p.ep ∧ p.ep < 18446744073709551616
  n : 0 ≤ p.num ∧ p.num < 65536
  x : 0 ≤ p.mask ∧ p.mask < 18446744073709551616
  m : p.m.Fits

/-- A packet that names its kind, its sites and its epoch alone. -/
def zP (k f d e : Int) : Pk := ⟨k, f, d, e, 0, 0, zM⟩

def kindB (p : Pk) : Bool :=
  if p.kind = 1 then decide (1 ≤ p.ep) && decide (p.num = 0 ∧ p.mask = 0 ∧ p.m = zM)
  else if p.kind = 2 then decide (p.num = 0 ∧ p.mask = 0 ∧ p.m = zM)
  else if p.kind = 3 then decide (1 ≤ p.ep) && (goodM p.m && decide (p.mask = 0))
  else if p.kind = 4 then decide (1 ≤ p.ep) && decide (p.m = zM) else false

def goodP (p : Pk) : Bool := inB p.fr 1 8 && inB p.dest 1 8 && !decide (p.fr = p.dest) && kindB p

/-- A kind's name. -/
def nameP (k : Int) : ByteArray := if k = 1 then ⟨#[104, 101, 108, 108, 111]⟩ else if k = 2 then ⟨#[119, 101, 108, 99, 111, 109, 101]⟩ else if k = 3 then ⟨#[100, 97, 116, 97]⟩ else if k = 4 then ⟨#[97, 99, 107]⟩ else ⟨#[]⟩

def headB (p : Pk) : List UInt8 := putL 1 (u64 p.kind) ++ putL 1 (u64 p.fr) ++ putL 1 (u64 p.dest) ++ putL 8 p.ep.toNat

def tailB (p : Pk) : List UInt8 := if p.kind = 3 then putL 2 p.num.toNat ++ bytesM p.m else if p.kind = 4 then putL 2 p.num.toNat ++ putL 8 p.mask.toNat else []

/-- What is sealed. -/
def rawP (p : Pk) : List UInt8 := headB p ++ tailB p

def bytesP (p : Pk) : List UInt8 := if goodP p = true then sealL (rawP p) else []

/-- What stands behind the head. -/
def restP (k f d e : Nat) : Prs Pk :=
  if k = 3 then bindP (numP 2) fun n => bindP msgP fun m => pureP ⟨k, f, d, e, n, 0, m⟩
  else if k = 4 then bindP (numP 2) fun n => bindP (numP 8) fun x => pureP ⟨k, f, d, e, n, x, zM⟩
  else pureP (zP k f d e)

def pakP : Prs Pk := bindP (numP 1) fun k => bindP (numP 1) fun f => bindP (numP 1) fun d => bindP (numP 8) fun e => restP k f d e

/-- A packet of which this is the content. -/
def readC (c : List UInt8) : Option Pk := match pakP c with
  | some (p, []) => if goodP p = true then some p else none
  | _ => none

/-- A packet of which these are the bytes. -/
def readP (b : List UInt8) : Option Pk := if errO b = 0 ∧ sizeO b = b.length then readC (contO b) else none


theorem goodP_tells {p : Pk} (h : goodP p = true) : (1 ≤ p.fr ∧ p.fr ≤ 8) ∧ (1 ≤ p.dest ∧ p.dest ≤ 8) ∧ p.fr ≠ p.dest ∧ kindB p = true := by
  unfold goodP inB at h
  simp only [Bool.and_eq_true, decide_eq_true_eq, Bool.not_eq_true', decide_eq_false_iff_not] at h
  exact ⟨h.1.1.1, h.1.1.2, h.1.2, h.2⟩

theorem kindB_tells {p : Pk} (h : kindB p = true) : (1 ≤ p.kind ∧ p.kind ≤ 4) ∧ (p.kind ≠ 2 → 1 ≤ p.ep) ∧ (p.kind ≤ 2 → p.num = 0) ∧ (p.kind ≠ 4 → p.mask = 0) ∧ (p.kind ≠ 3 → p.m = zM) ∧ (p.kind = 3 → goodM p.m = true) := by
  unfold kindB at h
  split at h
  · simp only [Bool.and_eq_true, decide_eq_true_eq] at h
    exact ⟨by omega, fun _ => h.1, fun _ => h.2.1, fun _ => h.2.2.1, fun _ => h.2.2.2, fun h3 => by omega⟩
  split at h
  · simp only [decide_eq_true_eq] at h
    exact ⟨by omega, fun h2 => by omega, fun _ => h.1, fun _ => h.2.1, fun _ => h.2.2, fun h3 => by omega⟩
  split at h
  · simp only [Bool.and_eq_true, decide_eq_true_eq] at h
    exact ⟨by omega, fun _ => h.1, fun _ => by omega, fun _ => h.2.2, fun h3 => by omega, fun _ => h.2.1⟩
  split at h
  · simp only [Bool.and_eq_true, decide_eq_true_eq] at h
    exact ⟨by omega, fun _ => h.1, fun _ => by omega, fun h4 => by omega, fun _ => h.2, fun h3 => by omega⟩
  · exact absurd h (by simp)

theorem headB_length (p : Pk) : (headB p).length = 11 := by simp [headB, putL_length]

theorem rawP_len {p : Pk} (h : goodP p = true) : 11 ≤ (rawP p).length ∧ (rawP p).length ≤ 400 := by
  obtain ⟨_, _, _, h4⟩ := goodP_tells h
  obtain ⟨_, _, _, _, _, h5⟩ := kindB_tells h4
  unfold rawP
  rw [List.length_append, headB_length]
  unfold tailB
  split
  · have := bytesM_len (h5 (by assumption))
    rw [List.length_append, putL_length]
    omega
  split
  · rw [List.length_append, putL_length, putL_length]
    omega
  · simp

theorem bytesP_eq {p : Pk} (h : goodP p = true) : bytesP p = sealL (rawP p) := by unfold bytesP; rw [if_pos h]

theorem bytesP_none {p : Pk} (h : goodP p = false) : bytesP p = [] := by unfold bytesP; rw [h]; rfl

theorem bytesP_length {p : Pk} (h : goodP p = true) : (bytesP p).length = (rawP p).length + 8 := by
  have := rawP_len h
  rw [bytesP_eq h, sealL_length _ (by omega)]

theorem reads_pak (p : Pk) (h : goodP p = true) (hf : p.Fits) : Reads pakP (rawP p) p := by
  obtain ⟨h1, h2, _, h4⟩ := goodP_tells h
  obtain ⟨k1, _, k3, k4, k5, k6⟩ := kindB_tells h4
  have e1 : ((u64 p.kind : Nat) : Int) = p.kind := u64_of (by omega) (by omega)
  have e2 : ((u64 p.fr : Nat) : Int) = p.fr := u64_of (by omega) (by omega)
  have e3 : ((u64 p.dest : Nat) : Int) = p.dest := u64_of (by omega) (by omega)
  have e4 : ((p.ep.toNat : Nat) : Int) = p.ep := by have := hf.e; omega
  have e5 : ((p.num.toNat : Nat) : Int) = p.num := by have := hf.n; omega
  have e6 : ((p.mask.toNat : Nat) : Int) = p.mask := by have := hf.x; omega
  have hb : rawP p = putL 1 (u64 p.kind) ++ (putL 1 (u64 p.fr) ++ (putL 1 (u64 p.dest) ++ (putL 8 p.ep.toNat ++ tailB p))) := by simp [rawP, headB]
  have hek : p.ep.toNat < 18446744073709551616 := by have := hf.e; omega
  have hnk : p.num.toNat < 65536 := by have := hf.n; omega
  have hxk : p.mask.toNat < 18446744073709551616 := by have := hf.x; omega
  rw [hb]
  refine (reads_num 1 _ (by omega)).bind ?_
  refine (reads_num 1 _ (by omega)).bind ?_
  refine (reads_num 1 _ (by omega)).bind ?_
  refine (reads_num 8 _ (by omega)).bind ?_
  have hk : (u64 p.kind = 3) = (p.kind = 3) := propext ⟨fun e => by omega, fun e => by omega⟩
  have hk4 : (u64 p.kind = 4) = (p.kind = 4) := propext ⟨fun e => by omega, fun e => by omega⟩
  unfold restP tailB
  by_cases h3 : p.kind = 3
  · rw [if_pos h3, if_pos (hk ▸ h3)]
    refine (reads_num 2 _ (by omega)).bind ?_
    have := (reads_msg p.m (k6 h3) hf.m.s.2).out fun m => (⟨p.kind, p.fr, p.dest, p.ep, p.num, 0, m⟩ : Pk)
    rw [e1, e2, e3, e4, e5]
    have hx := k4 (by omega)
    have hp : (⟨p.kind, p.fr, p.dest, p.ep, p.num, 0, p.m⟩ : Pk) = p := by rw [← hx]
    rw [hp] at this
    exact this
  rw [if_neg h3, if_neg (hk ▸ h3)]
  by_cases h4 : p.kind = 4
  · rw [if_pos h4, if_pos (hk4 ▸ h4)]
    refine (reads_num 2 _ (by omega)).bind ?_
    have := (reads_num 8 p.mask.toNat (by omega)).out fun x : Nat => (⟨p.kind, p.fr, p.dest, p.ep, p.num, (x : Int), zM⟩ : Pk)
    rw [e1, e2, e3, e4, e5]
    have hm := k5 (by omega)
    have hp : (⟨p.kind, p.fr, p.dest, p.ep, p.num, ((p.mask.toNat : Nat) : Int), zM⟩ : Pk) = p := by rw [e6, ← hm]
    rw [hp] at this
    exact this
  rw [if_neg h4, if_neg (hk4 ▸ h4), e1, e2, e3, e4]
  have hn := k3 (by omega)
  have hx := k4 h4
  have hm := k5 h3
  have hp : zP p.kind p.fr p.dest p.ep = p := by unfold zP; rw [← hm]; obtain ⟨a, b, c, d, n, x, m⟩ := p; simp only at hn hx; rw [hn, hx]
  rw [hp]
  exact reads_pure p

theorem readC_back (p : Pk) (h : goodP p = true) (hf : p.Fits) : readC (rawP p) = some p := by
  have := reads_pak p h hf []
  rw [List.append_nil] at this
  unfold readC
  rw [this]
  simp [h]

/-- Good packets lead back. -/
theorem readP_back (p : Pk) (h : goodP p = true) (hf : p.Fits) : readP (bytesP p) = some p := by
  have hl := rawP_len h
  have h1 := open_seal (rawP p) [] (by omega)
  have h2 := cont_seal (rawP p) [] (by omega)
  have h3 := size_seal (rawP p) [] (by omega)
  rw [List.append_nil] at h1 h2 h3
  unfold readP
  rw [bytesP_eq h, h1, h2, h3, if_pos ⟨rfl, (sealL_length _ (by omega)).symm⟩]
  exact readC_back p h hf

/-- Cut, they are none. -/
theorem readP_cut (p : Pk) (h : goodP p = true) (k : Nat) (hk : k < (bytesP p).length) : readP ((bytesP p).take k) = none := by
  have hl := rawP_len h
  rw [bytesP_length h] at hk
  unfold readP
  rw [bytesP_eq h, open_cut (rawP p) (by omega) k hk, if_neg (by simp)]

/-- With more behind them they are none. -/
theorem readP_more (p : Pk) (h : goodP p = true) (x : UInt8) : readP (bytesP p ++ [x]) = none := by
  have hl := rawP_len h
  have h3 := size_seal (rawP p) [x] (by omega)
  unfold readP
  rw [bytesP_eq h, h3, List.length_append, sealL_length _ (by omega), if_neg (by simp)]

/-- With a burst of bits changed they are none. -/
theorem readP_burst (p : Pk) (h : goodP p = true) (k u n : Nat) (hu : u.testBit 0 = true) (hn1 : 1 ≤ n) (hn2 : n ≤ 32) (hn3 : k + n ≤ 8 * ((rawP p).length + 4)) : readP (burstB (bytesP p) (32 + k) u n) = none := by
  have hl := rawP_len h
  unfold readP
  rw [bytesP_eq h, burst_open (rawP p) k u (by omega) hu n hn1 hn2 hn3, if_neg (by simp)]

theorem bytesP_inj {p q : Pk} (hp : goodP p = true) (hq : goodP q = true) (fp : p.Fits) (fq : q.Fits) (h : bytesP p = bytesP q) : p = q := by
  have h1 := readP_back p hp fp
  rw [h, readP_back q hq fq] at h1
  exact (Option.some.inj h1).symm

theorem readC_good {c : List UInt8} {p : Pk} (h : readC c = some p) : goodP p = true := by
  unfold readC at h
  split at h
  · split at h
    · rename_i hg
      obtain rfl := Option.some.inj h
      exact hg
    · exact absurd h (by simp)
  · exact absurd h (by simp)

theorem nameP_some {k : Int} (h : 1 ≤ k ∧ k ≤ 4) : (nameP k).size ≠ 0 := by
  unfold nameP
  split
  · decide
  split
  · decide
  split
  · decide
  split
  · decide
  · omega

end Go.Proofs.YtopacoghnofliaaDoor
