/-
  PACKETS, told plainly: which are good, their bytes, which bytes are a packet's. Of no program but for the words of layers 1, 3, 5 and 13.
-/
import Derived.Test.YtdbgojmjjkidbaaGreatDoorJParse13
import Derived.Test.YtdbgojmjjkidbaaGreatDoorJGather
import Derived.Test.YtdbgojmjjkidbaaGreatDoorJGMap
import Derived.Test.YtdbgojmjjkidbaaGreatDoorJMoved
import Derived.Test.YtdbgojmjjkidbaaGreatDoorJWalks
import Derived.WalkSpells
import Derived.Deep.RegionHeld3
namespace Go.Proofs.YtdbgojmjjkidbaaGreatDoor
open Go.RowKit


/-- A packet. -/
structure Pk where
  kind : Int
  fr : Int
  dest : Int
  ep : Int
  num : Int
  mask : Int
  m : Ms
  deriving DecidableEq

def pcells (p : Pk) : List Value := [.int .i64 p.kind, .int .i64 p.fr, .int .i64 p.dest, .int .u64 p.ep, .int .u16 p.num, .int .u64 p.mask, .int .i64 p.m.origin, .int .u64 p.m.seq, .int .i64 p.m.hop, .string p.m.ex, .string p.m.key, .string p.m.body]

abbrev pv (p : Pk) : Value := .agg #[.int .i64 p.kind, .int .i64 p.fr, .int .i64 p.dest, .int .u64 p.ep, .int .u16 p.num, .int .u64 p.mask, .int .i64 p.m.origin, .int .u64 p.m.seq, .int .i64 p.m.hop, .string p.m.ex, .string p.m.key, .string p.m.body]

structure Pk.Fits (p : Pk) : Prop where
  k : -9223372036854775808 ≤ p.kind ∧ p.kind < 9223372036854775808
  f : -9223372036854775808 ≤ p.fr ∧ p.fr < 9223372036854775808
  d : -9223372036854775808 ≤ p.dest ∧ p.dest < 9223372036854775808
  e : 0 ≤ p.ep ∧ p.ep < 18446744073709551616
  n : 0 ≤ p.num ∧ p.num < 65536
  x : 0 ≤ p.mask ∧ p.mask < 18446744073709551616
  m : p.m.Fits

/-- A packet that names its kind, its sites and its epoch alone. -/
def zP (k f d e : Int) : Pk := ⟨k, f, d, e, 0, 0, zM⟩

def kindB (p : Pk) : Bool :=
  if p.kind = 1 then decide (1 ≤ p.ep) && decide (p.num = 0 ∧ p.mask = 0 ∧ p.m = zM)
  else if p.kind = 2 then decide (p.num = 0 ∧ p.mask = 0 ∧ p.m = zM)
  else if p.kind = 3 then decide (1 ≤ p.ep) && (goodM p.m && decide (p.mask = 0))
  else if p.kind = 4 then decide (1 ≤ p.ep) && decide (p.m = zM) else false

def goodP (p : Pk) : Bool := inB p.fr 1 8 && inB p.dest 1 8 && !decide (p.fr = p.dest) && kindB p

/-- A kind's name. -/
def nameP (k : Int) : ByteArray := if k = 1 then ⟨#[104, 101, 108, 108, 111]⟩ else if k = 2 then ⟨#[119, 101, 108, 99, 111, 109, 101]⟩ else if k = 3 then ⟨#[100, 97, 116, 97]⟩ else if k = 4 then ⟨#[97, 99, 107]⟩ else ⟨#[]⟩

def headB (p : Pk) : List UInt8 := putL 1 (u64 p.kind) ++ putL 1 (u64 p.fr) ++ putL 1 (u64 p.dest) ++ putL 8 p.ep.toNat

def tailB (p : Pk) : List UInt8 := if p.kind = 3 then putL 2 p.num.toNat ++ bytesM p.m else if p.kind = 4 then putL 2 p.num.toNat ++ putL 8 p.mask.toNat else []

/-- What is sealed. -/
def rawP (p : Pk) : List UInt8 := headB p ++ tailB p

def bytesP (p : Pk) : List UInt8 := if goodP p = true then sealL (rawP p) else []

/-- What stands behind the head. -/
def restP (k f d e : Nat) : Prs Pk :=
  if k = 3 then bindP (numP 2) fun n => bindP msgP fun m => pureP ⟨k, f, d, e, n, 0, m⟩
  else if k = 4 then bindP (numP 2) fun n => bindP (numP 8) fun x => pureP ⟨k, f, d, e, n, x, zM⟩
  else pureP (zP k f d e)

def pakP : Prs Pk := bindP (numP 1) fun k => bindP (numP 1) fun f => bindP (numP 1) fun d => bindP (numP 8) fun e => restP k f d e

/-- A packet of which this is the content. -/
def readC (c : List UInt8) : Option Pk := match pakP c with
  | some (p, []) => if goodP p = true then some p else none
  | _ => none

/-- A packet of which these are the bytes. -/
def readP (b : List UInt8) : Option Pk := if errO b = 0 ∧ sizeO b = b.length then readC (contO b) else none


theorem goodP_tells {p : Pk} (h : goodP p = true) : (1 ≤ p.fr ∧ p.fr ≤ 8) ∧ (1 ≤ p.dest ∧ p.dest ≤ 8) ∧ p.fr ≠ p.dest ∧ kindB p = true := by
  unfold goodP inB at h
  simp only [Bool.and_eq_true, decide_eq_true_eq, Bool.not_eq_true', decide_eq_false_iff_not] at h
  exact ⟨h.1.1.1, h.1.1.2, h.1.2, h.2⟩

theorem kindB_tells {p : Pk} (h : kindB p = true) : (1 ≤ p.kind ∧ p.kind ≤ 4) ∧ (p.kind ≠ 2 → 1 ≤ p.ep) ∧ (p.kind ≤ 2 → p.num = 0) ∧ (p.kind ≠ 4 → p.mask = 0) ∧ (p.kind ≠ 3 → p.m = zM) ∧ (p.kind = 3 → goodM p.m = true) := by
  unfold kindB at h
  split at h
  · simp only [Bool.and_eq_true, decide_eq_true_eq] at h
    exact ⟨by omega, fun _ => h.1, fun _ => h.2.1, fun _ => h.2.2.1, fun _ => h.2.2.2, fun h3 => by omega⟩
  split at h
  · simp only [decide_eq_true_eq] at h
    exact ⟨by omega, fun h2 => by omega, fun _ => h.1, fun _ => h.2.1, fun _ => h.2.2, fun h3 => by omega⟩
  split at h
  · simp only [Bool.and_eq_true, decide_eq_true_eq] at h
    exact ⟨by omega, fun _ => h.1, fun _ => by omega, fun _ => h.2.2, fun h3 => by omega, fun _ => h.2.1⟩
  split at h
  · simp only [Bool.and_eq_true, decide_eq_true_eq] at h
    exact ⟨by omega, fun _ => h.1, fun _ => by omega, fun h4 => by omega, fun _ => h.2, fun h3 => by omega⟩
  · exact absurd h (by simp)

theorem headB_length (p : Pk) : (headB p).length = 11 := by simp [headB, putL_length]

theorem rawP_len {p : Pk} (h : goodP p = true) : 11 ≤ (rawP p).length ∧ (rawP p).length ≤ 400 := by
  obtain ⟨_, _, _, h4⟩ := goodP_tells h
  obtain ⟨_, _, _, _, _, h5⟩ := kindB_tells h4
  unfold rawP
  rw [List.length_append, headB_length]
  unfold tailB
  split
  · have := bytesM_len (h5 (by assumption))
    rw [List.length_append, putL_length]
    omega
  split
  · rw [List.length_append, putL_length, putL_length]
    omega
  · simp

theorem bytesP_eq {p : Pk} (h : goodP p = true) : bytesP p = sealL (rawP p) := by unfold bytesP; rw [if_pos h]

theorem bytesP_none {p : Pk} (h : goodP p = false) : bytesP p = [] := by unfold bytesP; rw [h]; rfl

theorem bytesP_length {p : Pk} (h : goodP p = true) : (bytesP p).length = (rawP p).length + 8 := by
  have := rawP_len h
  rw [bytesP_eq h, sealL_length _ (by omega)]

theorem reads_pak (p : Pk) (h : goodP p = true) (hf : p.Fits) : Reads pakP (rawP p) p := by
  obtain ⟨h1, h2, _, h4⟩ := goodP_tells h
  obtain ⟨k1, _, k3, k4, k5, k6⟩ := kindB_tells h4
  have e1 : ((u64 p.kind : Nat) : Int) = p.kind := u64_of (by omega) (by omega)
  have e2 : ((u64 p.fr : Nat) : Int) = p.fr := u64_of (by omega) (by omega)
  have e3 : ((u64 p.dest : Nat) : Int) = p.dest := u64_of (by omega) (by omega)
  have e4 : ((p.ep.toNat : Nat) : Int) = p.ep := by have := hf.e; omega
  have e5 : ((p.num.toNat : Nat) : Int) = p.num := by have := hf.n; omega
  have e6 : ((p.mask.toNat : Nat) : Int) = p.mask := by have := hf.x; omega
  have hb : rawP p = putL 1 (u64 p.kind) ++ (putL 1 (u64 p.fr) ++ (putL 1 (u64 p.dest) ++ (putL 8 p.ep.toNat ++ tailB p))) := by simp [rawP, headB]
  have hek : p.ep.toNat < 18446744073709551616 := by have := hf.e; omega
  have hnk : p.num.toNat < 65536 := by have := hf.n; omega
  have hxk : p.mask.toNat < 18446744073709551616 := by have := hf.x; omega
  rw [hb]
  refine (reads_num 1 _ (by omega)).bind ?_
  refine (reads_num 1 _ (by omega)).bind ?_
  refine (reads_num 1 _ (by omega)).bind ?_
  refine (reads_num 8 _ (by omega)).bind ?_
  have hk : (u64 p.kind = 3) = (p.kind = 3) := propext ⟨fun e => by omega, fun e => by omega⟩
  have hk4 : (u64 p.kind = 4) = (p.kind = 4) := propext ⟨fun e => by omega, fun e => by omega⟩
  unfold restP tailB
  by_cases h3 : p.kind = 3
  · rw [if_pos h3, if_pos (hk ▸ h3)]
    refine (reads_num 2 _ (by omega)).bind ?_
    have := (reads_msg p.m (k6 h3) hf.m.s.2).out fun m => (⟨p.kind, p.fr, p.dest, p.ep, p.num, 0, m⟩ : Pk)
    rw [e1, e2, e3, e4, e5]
    have hx := k4 (by omega)
    have hp : (⟨p.kind, p.fr, p.dest, p.ep, p.num, 0, p.m⟩ : Pk) = p := by rw [← hx]
    rw [hp] at this
    exact this
  rw [if_neg h3, if_neg (hk ▸ h3)]
  by_cases h4 : p.kind = 4
  · rw [if_pos h4, if_pos (hk4 ▸ h4)]
    refine (reads_num 2 _ (by omega)).bind ?_
    have := (reads_num 8 p.mask.toNat (by omega)).out fun x : Nat => (⟨p.kind, p.fr, p.dest, p.ep, p.num, (x : Int), zM⟩ : Pk)
    rw [e1, e2, e3, e4, e5]
    have hm := k5 (by omega)
    have hp : (⟨p.kind, p.fr, p.dest, p.ep, p.num, ((p.mask.toNat : Nat) : Int), zM⟩ : Pk) = p := by rw [e6, ← hm]
    rw [hp] at this
    exact this
  rw [if_neg h4, if_neg (hk4 ▸ h4), e1, e2, e3, e4]
  have hn := k3 (by omega)
  have hx := k4 h4
  have hm := k5 h3
  have hp : zP p.kind p.fr p.dest p.ep = p := by unfold zP; rw [← hm]; obtain ⟨a, b, c, d, n, x, m⟩ := p; simp only at hn hx; rw [hn, hx]
  rw [hp]
  exact reads_pure p

theorem readC_back (p : Pk) (h : goodP p = true) (hf : p.Fits) : readC (rawP p) = some p := by
  have := reads_pak p h hf []
  rw [List.append_nil] at this
  unfold readC
  rw [this]
  simp [h]

/-- Good packets lead back. -/
theorem readP_back (p : Pk) (h : goodP p = true) (hf : p.Fits) : readP (bytesP p) = some p := by
  have hl := rawP_len h
  have h1 := open_seal (rawP p) [] (by omega)
  have h2 := cont_seal (rawP p) [] (by omega)
  have h3 := size_seal (rawP p) [] (by omega)
  rw [List.append_nil] at h1 h2 h3
  unfold readP
  rw [bytesP_eq h, h1, h2, h3, if_pos ⟨rfl, (sealL_length _ (by omega)).symm⟩]
  exact readC_back p h hf

/-- Cut, they are none. -/
theorem readP_cut (p : Pk) (h : goodP p = true) (k : Nat) (hk : k < (bytesP p).length) : readP ((bytesP p).take k) = none := by
  have hl := rawP_len h
  rw [bytesP_length h] at hk
  unfold readP
  rw [bytesP_eq h, open_cut (rawP p) (by omega) k hk, if_neg (by simp)]

/-- With more behind them they are none. -/
theorem readP_more (p : Pk) (h : goodP p = true) (x : UInt8) : readP (bytesP p ++ [x]) = none := by
  have hl := rawP_len h
  have h3 := size_seal (rawP p) [x] (by omega)
  unfold readP
  rw [bytesP_eq h, h3, List.length_append, sealL_length _ (by omega), if_neg (by simp)]

/-- With a burst of bits changed they are none. -/
theorem readP_burst (p : Pk) (h : goodP p = true) (k u n : Nat) (hu : u.testBit 0 = true) (hn1 : 1 ≤ n) (hn2 : n ≤ 32) (hn3 : k + n ≤ 8 * ((rawP p).length + 4)) : readP (burstB (bytesP p) (32 + k) u n) = none := by
  have hl := rawP_len h
  unfold readP
  rw [bytesP_eq h, burst_open (rawP p) k u (by omega) hu n hn1 hn2 hn3, if_neg (by simp)]

theorem bytesP_inj {p q : Pk} (hp : goodP p = true) (hq : goodP q = true) (fp : p.Fits) (fq : q.Fits) (h : bytesP p = bytesP q) : p = q := by
  have h1 := readP_back p hp fp
  rw [h, readP_back q hq fq] at h1
  exact (Option.some.inj h1).symm

theorem readC_good {c : List UInt8} {p : Pk} (h : readC c = some p) : goodP p = true := by
  unfold readC at h
  split at h
  · split at h
    · rename_i hg
      obtain rfl := Option.some.inj h
      exact hg
    · exact absurd h (by simp)
  · exact absurd h (by simp)

theorem nameP_some {k : Int} (h : 1 ≤ k ∧ k ≤ 4) : (nameP k).size ≠ 0 := by
  unfold nameP
  split
  · decide
  split
  · decide
  split
  · decide
  split
  · decide
  · omega

end Go.Proofs.YtdbgojmjjkidbaaGreatDoor

/-
  A WIRE: packets on their way, and ways that are severed; what each call does to it. Of no program. Then a wire in memory.
-/
namespace Go.Proofs.YtdbgojmjjkidbaaGreatDoor
open Go.RowKit Go.Maps Go.Sort K

/-- A packet on its way: its bytes, and whether a bit of them was turned. -/
abbrev Pc : Type := List UInt8 × Bool
structure Wr where
  most : Nat
  l : List Pc
  ways : List Ed
def wayB (e : Ed) : Bool := inB e.1 1 8 && inB e.2 1 8 && !decide (e.1 = e.2)
structure Wr.Ok (s : Wr) : Prop where
  m1 : 1 ≤ s.most
  m2 : s.most ≤ 2000
  len : s.l.length ≤ s.most
  ord : Ord cmpE s.ways
  good : ∀ e ∈ s.ways, wayB e = true
  short : ∀ x ∈ s.l, x.1.length ≤ 1000
/-- Is there a packet at a place? -/
def Wr.may (s : Wr) (i : Int) : Bool := decide (0 ≤ i ∧ i < (s.l.length : Int))
def Wr.at (s : Wr) (i : Int) : Pc := s.l.getD i.toNat ([], false)
def newW (n : Nat) : Wr := ⟨n, [], []⟩
def addW (s : Wr) (x : Pc) : Int × Wr := if s.most ≤ s.l.length then (6, s) else (0, { s with l := s.l ++ [x] })
def pway (p : Pk) : Ed := ⟨p.fr, p.dest⟩
def sendW (s : Wr) (p : Pk) : Int × Wr := if goodP p = true then (if pway p ∈ s.ways then (0, s) else addW s (bytesP p, false)) else (2, s)
def lookW (s : Wr) (i : Int) : Option Pk × Int := if s.may i = true then (readP (s.at i).1, if (readP (s.at i).1).isSome then 0 else 7) else (none, 3)
def dropW (s : Wr) (i : Int) : Int × Wr := if s.may i = true then (0, { s with l := s.l.eraseIdx i.toNat }) else (3, s)
def twiceW (s : Wr) (i : Int) : Int × Wr := if s.may i = true then addW s (s.at i) else (3, s)
/-- A bit of a byte is turned. -/
def flipB (b : List UInt8) (k j : Nat) : List UInt8 := flipAt b (8 * k + (7 - j))
def flipW (s : Wr) (i k j : Int) : Int × Wr := if s.may i = true then
    (if 0 ≤ k ∧ k < ((s.at i).1.length : Int) ∧ 0 ≤ j ∧ j ≤ 7 then
      (if (s.at i).2 = true then (4, s) else (0, { s with l := s.l.set i.toNat (flipB (s.at i).1 k.toNat j.toNat, true) }))
    else (2, s))
  else (3, s)
/-- Does a packet that is right go a way? -/
def goesB (e : Ed) (x : Pc) : Bool := match readP x.1 with
  | some p => decide (pway p = e)
  | none => false
def severW (s : Wr) (e : Ed) : Int × Wr := if wayB e = true then (if e ∈ s.ways then (4, s) else (0, { s with ways := insC cmpE e s.ways, l := s.l.filter fun x => !goesB e x })) else (2, s)
def mendW (s : Wr) (e : Ed) : Int × Wr := if e ∈ s.ways then (0, { s with ways := s.ways.filter fun y => decide (y ≠ e) }) else (3, s)

theorem wayB_tells {e : Ed} (h : wayB e = true) : (1 ≤ e.1 ∧ e.1 ≤ 8) ∧ (1 ≤ e.2 ∧ e.2 ≤ 8) ∧ e.1 ≠ e.2 := by
  simp [wayB, inB] at h
  exact ⟨h.1.1, h.1.2, h.2⟩
theorem wayB_fit {e : Ed} (h : wayB e = true) : EFit e := by
  obtain ⟨h1, h2, _⟩ := wayB_tells h
  unfold EFit Fit64; omega
theorem Wr.Ok.efit {s : Wr} (h : s.Ok) : ∀ e ∈ s.ways, EFit e := fun e he => wayB_fit (h.good e he)
theorem ways_len : ∀ (l : List Ed) (a : Int), Ord cmpE l → (∀ e ∈ l, wayB e = true) → (∀ e ∈ l, a ≤ e.1 * 8 + e.2) → a ≤ 73 → (l.length : Int) ≤ 73 - a
  | [], a, _, _, _, h => by simp; omega
  | e :: r, a, ho, hg, ha, h => by
    obtain ⟨h1, h2⟩ := List.pairwise_cons.1 ho
    obtain ⟨g1, g2, _⟩ := wayB_tells (hg e (by simp))
    have ha0 := ha e (by simp)
    have ih := ways_len r (e.1 * 8 + e.2 + 1) h2 (fun x hx => hg x (by simp [hx])) (fun x hx => by
      have hlt := cmpE_neg.1 (h1 x hx)
      obtain ⟨k1, k2, _⟩ := wayB_tells (hg x (by simp [hx]))
      omega) (by omega)
    rw [List.length_cons]
    omega
theorem Wr.Ok.nways {s : Wr} (h : s.Ok) : s.ways.length ≤ 64 := by
  have := ways_len s.ways 9 h.ord h.good (fun e he => by obtain ⟨g1, g2, _⟩ := wayB_tells (h.good e he); omega) (by omega)
  omega
theorem newW_ok {n : Nat} (h1 : 1 ≤ n) (h2 : n ≤ 2000) : (newW n).Ok := ⟨h1, h2, Nat.zero_le _, List.Pairwise.nil, by simp [newW], by simp [newW]⟩
theorem addW_ok {s : Wr} (h : s.Ok) {x : Pc} (hx : x.1.length ≤ 1000) : (addW s x).2.Ok := by
  unfold addW
  split
  · exact h
  · rename_i hn
    refine ⟨h.m1, h.m2, by simp; omega, h.ord, h.good, fun y hy => ?_⟩
    rcases List.mem_append.1 hy with hy | hy
    · exact h.short y hy
    · rw [List.mem_singleton.1 hy]; exact hx
theorem bytesP_short (p : Pk) : (bytesP p).length ≤ 1000 := by
  cases h : goodP p
  · rw [bytesP_none h]; simp
  · have := bytesP_length h; have := (rawP_len h).2; omega
theorem sendW_ok {s : Wr} (h : s.Ok) (p : Pk) : (sendW s p).2.Ok := by
  unfold sendW
  split
  · split
    · exact h
    · exact addW_ok h (bytesP_short p)
  · exact h
theorem dropW_ok {s : Wr} (h : s.Ok) (i : Int) : (dropW s i).2.Ok := by
  unfold dropW
  split
  · exact ⟨h.m1, h.m2, Nat.le_trans (List.length_eraseIdx_le _ _) h.len, h.ord, h.good, fun y hy => h.short y (List.mem_of_mem_eraseIdx hy)⟩
  · exact h
theorem at_mem {s : Wr} {i : Int} (h : s.may i = true) : s.at i ∈ s.l := by
  have := of_decide_eq_true h
  unfold Wr.at
  rw [List.getD_eq_getElem?_getD, List.getElem?_eq_getElem (by omega)]
  exact List.getElem_mem _
theorem twiceW_ok {s : Wr} (h : s.Ok) (i : Int) : (twiceW s i).2.Ok := by
  unfold twiceW
  split
  · rename_i hm
    exact addW_ok h (h.short _ (at_mem hm))
  · exact h
theorem flipB_length (b : List UInt8) (k j : Nat) : (flipB b k j).length = b.length := flipAt_length _ _
theorem flipW_ok {s : Wr} (h : s.Ok) (i k j : Int) : (flipW s i k j).2.Ok := by
  unfold flipW
  split
  · rename_i hm
    split
    · split
      · exact h
      · refine ⟨h.m1, h.m2, by simp; exact h.len, h.ord, h.good, fun y hy => ?_⟩
        rcases List.mem_or_eq_of_mem_set hy with hy | rfl
        · exact h.short y hy
        · simp only [flipB_length]; exact h.short _ (at_mem hm)
    · exact h
  · exact h
theorem severW_ok {s : Wr} (h : s.Ok) (e : Ed) : (severW s e).2.Ok := by
  unfold severW
  split
  · rename_i hw
    split
    · exact h
    · rename_i hn
      refine ⟨h.m1, h.m2, Nat.le_trans (List.length_filter_le _ _) h.len, insC_ord cmpE3 h.ord (fun y hy e2 => hn (by rw [← cmpE_eq.1 e2]; exact hy)), fun y hy => ?_, fun y hy => h.short y (List.mem_filter.1 hy).1⟩
      rcases List.mem_cons.1 ((insC_perm e s.ways).mem_iff.1 hy) with rfl | hy
      · exact hw
      · exact h.good y hy
  · exact h
theorem mendW_ok {s : Wr} (h : s.Ok) (e : Ed) : (mendW s e).2.Ok := by
  unfold mendW
  split
  · exact ⟨h.m1, h.m2, h.len, h.ord.filter _, fun y hy => h.good y (List.mem_filter.1 hy).1, h.short⟩
  · exact h

/-- A packet on its way, in memory: where its bytes lie, whether a bit was turned, and the bytes. -/
structure Px where
  a : Option Addr
  n : Nat
  c : Nat
  t : Bool
  b : List UInt8
abbrev Px.v (x : Px) : Value := .slice x.a x.n x.c
def pxcells (x : Px) : List Value := [.slice x.a x.n x.c, .bool x.t]
abbrev pxv (x : Px) : Value := .agg #[.slice x.a x.n x.c, .bool x.t]
def Px.pc (x : Px) : Pc := (x.b, x.t)
instance : Enc pxcells 2 := ⟨fun _ => rfl, fun m u hu => by simp [pxcells] at hu; rcases hu with rfl | rfl <;> rfl, by decide⟩
set_option maxRecDepth 20000 in
theorem pxInfo : ∃ i, Tryz.prog.info? 81 = some i ∧ i.zero = some (.agg #[.slice none 0 0, .bool false]) ∧ i.size = 2 ∧ i.bytes = 32 := by
  refine ⟨_, rfl, ?_, ?_, ?_⟩ <;> rfl
theorem pxInfo2 : (Tryz.prog.info? 81).map (·.size) = some 2 := by
  obtain ⟨i, h1, _, h2, _⟩ := pxInfo
  rw [h1]; simp [h2]
abbrev OwnP (w : World) (base : Nat) (v : Value) (l : List Px) : Prop := OwnOf pxcells 2 81 w base v l
abbrev OwnB (w : World) (v : Value) (b : List UInt8) : Prop := Owns w 0 5 v b
structure WAt (w : World) (p : Nat) (v : Value) (b : Nat) (L : List Px) (s : Wr) : Prop where
  blk : w.heap[p]? = some (.cells #[.int .i64 (s.most : Int), v, .map (some b)] 70 (0, 0))
  rows : OwnP w 0 v L
  ways : EAt w b s.ways
  all : ∀ x ∈ L, OwnB w x.v x.b
  eq : L.map Px.pc = s.l
/-- Its blocks. -/
def foot (p : Nat) (v : Value) (b : Nat) (L : List Px) (k : Nat) : Prop := k = p ∨ v.ownBlock = some k ∨ k = b ∨ ∃ x ∈ L, x.v.ownBlock = some k
def Wt (w : World) (p : Nat) (F : Nat → Prop) (s : Wr) : Prop := ∃ v b L, WAt w p v b L s ∧ ∀ k, F k ↔ foot p v b L k
theorem owns_lt {w : World} {v : Value} {b : List UInt8} (h : OwnB w v b) {g : Nat} (hg : v.ownBlock = some g) : g < w.heap.size := (World.ownsRow.lt h g hg).2
theorem owns_same {w w' : World} {v : Value} {b : List UInt8} (h : OwnB w v b) (hs : ∀ g, v.ownBlock = some g → w'.heap[g]? = w.heap[g]?) : OwnB w' v b := by
  obtain ⟨hl, h⟩ := h
  refine ⟨hl, ?_⟩
  rcases h with h | ⟨g, cap, cur, rfl, h1, hg, h2⟩
  · exact .inl h
  · exact .inr ⟨g, cap, cur, rfl, h1, by rw [hs g rfl]; exact hg, h2⟩
theorem owns_blk {w : World} {v : Value} {b : List UInt8} (h : OwnB w v b) {g : Nat} (hg : v.ownBlock = some g) : ∃ cur, w.heap[g]? = some (.cells cur 5 (0, 0)) := by
  rcases h.2 with ⟨rfl, _⟩ | ⟨g', cap, cur, rfl, _, hb, _⟩
  · simp [Value.ownBlock] at hg
  · simp only [Value.ownBlock, Option.some.injEq] at hg
    subst hg
    exact ⟨cur, hb⟩
theorem rows_blk {w : World} {v : Value} {L : List Px} (h : OwnP w 0 v L) {g : Nat} (hg : v.ownBlock = some g) : ∃ cur, w.heap[g]? = some (.cells cur 81 (0, 0)) := by
  rcases h.2 with ⟨rfl, _⟩ | ⟨g', cap, cur, rfl, _, hb, _⟩
  · simp [Value.ownBlock] at hg
  · simp only [Value.ownBlock, Option.some.injEq] at hg
    subst hg
    exact ⟨cur, hb⟩
section
variable {w : World} {p b : Nat} {v : Value} {L : List Px} {s : Wr}
theorem WAt.lt (h : WAt w p v b L s) : p < w.heap.size := (Array.getElem?_eq_some_iff.1 h.blk).1
theorem WAt.lts (h : WAt w p v b L s) : ∀ k, foot p v b L k → k < w.heap.size := by
  rintro k (rfl | hk | rfl | ⟨x, hx, hk⟩)
  · exact h.lt
  · exact (h.rows.lt hk).2
  · exact h.ways.lt
  · exact owns_lt (h.all x hx) hk
theorem WAt.same {w' : World} (h : WAt w p v b L s) (hs : ∀ k, foot p v b L k → w'.heap[k]? = w.heap[k]?) : WAt w' p v b L s :=
  ⟨by rw [hs p (.inl rfl)]; exact h.blk, h.rows.same fun g hg => hs g (.inr (.inl hg)), h.ways.same (hs b (.inr (.inr (.inl rfl)))), fun x hx => owns_same (h.all x hx) fun g hg => hs g (.inr (.inr (.inr ⟨x, hx, hg⟩))), h.eq⟩
theorem WAt.ne_row (h : WAt w p v b L s) : v.ownBlock ≠ some p := fun e => by
  obtain ⟨cur, hc⟩ := rows_blk h.rows e
  rw [h.blk] at hc
  simp at hc
theorem WAt.ne_map (h : WAt w p v b L s) : b ≠ p := fun e => by
  subst e
  exact h.ways.noCells h.blk
theorem WAt.row_map (h : WAt w p v b L s) : v.ownBlock ≠ some b := fun e => by
  obtain ⟨cur, hc⟩ := rows_blk h.rows e
  exact h.ways.noCells hc
theorem WAt.x_ne (h : WAt w p v b L s) {x : Px} (hx : x ∈ L) {g : Nat} (hg : x.v.ownBlock = some g) : g ≠ p ∧ v.ownBlock ≠ some g ∧ g ≠ b := by
  obtain ⟨cur, hc⟩ := owns_blk (h.all x hx) hg
  refine ⟨fun e => ?_, fun e => ?_, fun e => ?_⟩
  · subst e; rw [h.blk] at hc; simp at hc
  · obtain ⟨cur2, hc2⟩ := rows_blk h.rows e
    rw [hc] at hc2; simp at hc2
  · subst e; exact h.ways.noCells hc
theorem WAt.len (h : WAt w p v b L s) : L.length = s.l.length := by rw [← h.eq, List.length_map]
theorem WAt.cells (h : WAt w p v b L s) : w.cell? ⟨p, 0, none⟩ = some (.int .i64 (s.most : Int)) ∧ w.cell? ⟨p, 1, none⟩ = some v ∧ w.cell? ⟨p, 2, none⟩ = some (.map (some b)) := by
  simp [World.cell?, h.blk]
theorem WAt.free (h : WAt w p v b L s) (j : Nat) : w.frozen? ⟨p, j, none⟩ = false := by
  simp [World.frozen?, h.blk]
end
theorem Wt.lts {w : World} {p : Nat} {F : Nat → Prop} {s : Wr} (h : Wt w p F s) : ∀ k, F k → k < w.heap.size := by
  obtain ⟨v, b, L, hq, hF⟩ := h
  exact fun k hk => hq.lts k ((hF k).1 hk)
theorem Wt.same {w w' : World} {p : Nat} {F : Nat → Prop} {s : Wr} (h : Wt w p F s) (hs : ∀ k, F k → w'.heap[k]? = w.heap[k]?) : Wt w' p F s := by
  obtain ⟨v, b, L, hq, hF⟩ := h
  exact ⟨v, b, L, hq.same fun k hk => hs k ((hF k).2 hk), hF⟩
theorem Wt.kept {w w' : World} {p : Nat} {F : Nat → Prop} {s : Wr} (h : Wt w p F s) (hb : Below w.heap.size w w') : Wt w' p F s := h.same fun k hk => hb.block k (h.lts k hk)
theorem Wt.beside {w w' : World} {p : Nat} {F G G' : Nat → Prop} {s : Wr} (h : Wt w p F s) (m : Moved w w' G G') (ha : ∀ k, G k → ¬ F k) : Wt w' p F s := h.same fun k hk => m.block k (h.lts k hk) (fun hg => ha k hg hk)
theorem set3_1 {w : World} {b : Nat} {v0 v1 v2 : Value} {t : TypeId} (u : Value) (h : w.heap[b]? = some (.cells #[v0, v1, v2] t (0, 0))) : (w.setCell ⟨b, 1, none⟩ u).heap[b]? = some (.cells #[v0, u, v2] t (0, 0)) := by
  have h1 := heap_setCell_same w b 1 _ _ u h
  simpa using h1
/-- The row of packets is another one: written behind whatever has grown. -/
theorem row_set {w U w4 : World} {p b : Nat} {v v' : Value} {L L' : List Px} {s : Wr} {l : List Pc} (hq : WAt w p v b L s) (hU : Below w.heap.size w U) (own : OwnP w4 0 v' L') (gr : U.grownBy w4 v.ownBlock) (nw : NewOr w v v')
    (hall : ∀ x ∈ L', OwnB w4 x.v x.b) (hnew : ∀ x ∈ L', x ∈ L ∨ ∀ g, x.v.ownBlock = some g → w.heap.size ≤ g) (hl : L'.map Px.pc = l) :
    WAt (w4.setCell ⟨p, 1, none⟩ v') p v' b L' { s with l := l } ∧ Moved w (w4.setCell ⟨p, 1, none⟩ v') (foot p v b L) (foot p v' b L') := by
  have hqU := hq.same fun k hk => hU.block k (hq.lts k hk)
  have hlt := hqU.lt
  have hb := hqU.ways.lt
  have e1 : w4.heap[p]? = U.heap[p]? := gr.block p hlt (fun h => hqU.ne_row h.symm)
  have e2 : w4.heap[b]? = U.heap[b]? := gr.block b hb (fun h => hqU.row_map h.symm)
  have hp4 : w4.heap[p]? = some (.cells #[.int .i64 (s.most : Int), v, .map (some b)] 70 (0, 0)) := by rw [e1]; exact hqU.blk
  have hne : v'.ownBlock ≠ some p := fun e => by
    obtain ⟨cur, hc⟩ := rows_blk own e
    rw [hp4] at hc
    simp at hc
  have hnx : ∀ x ∈ L', ∀ g, x.v.ownBlock = some g → g ≠ p := fun x hx g hg e => by
    obtain ⟨cur, hc⟩ := owns_blk (hall x hx) hg
    rw [e, hp4] at hc
    simp at hc
  refine ⟨⟨set3_1 v' hp4, own.same fun g hg => heap_setCell_other _ _ _ _ (fun he => hne (by rw [hg, he])), (hqU.ways.same e2).same (heap_setCell_other _ _ _ _ hqU.ne_map), fun x hx => owns_same (hall x hx) fun g hg => heap_setCell_other _ _ _ _ (hnx x hx g hg), hl⟩, ?_⟩
  refine ⟨gr.os.trans hU.os, gr.tape.trans hU.tape, gr.output.trans hU.output, by rw [World.size_setCell]; exact Nat.le_trans hU.size gr.size, fun k hk hn => ?_, ?_⟩
  · have h1 : k ≠ p := fun h => hn (.inl h)
    have h2 : ¬ some k = v.ownBlock := fun h => hn (.inr (.inl h.symm))
    rw [heap_setCell_other _ _ _ _ h1, gr.block k (Nat.lt_of_lt_of_le hk hU.size) h2, hU.block k hk]
  · rintro k (rfl | hk | rfl | ⟨x, hx, hk⟩)
    · exact .inl (.inl rfl)
    · rcases nw with h | ⟨g, h, hg⟩
      · exact .inl (.inr (.inl (h ▸ hk)))
      · rw [h] at hk; injection hk with hk; subst hk; exact .inr hg
    · exact .inl (.inr (.inr (.inl rfl)))
    · rcases hnew x hx with hx | hx
      · exact .inl (.inr (.inr (.inr ⟨x, hx, hk⟩)))
      · exact .inr (hx k hk)
theorem Moved.toF {w w' : World} {p b : Nat} {v : Value} {L : List Px} {F F' : Nat → Prop} (h : Moved w w' (foot p v b L) F') (hF : ∀ k, F k ↔ foot p v b L k) : Moved w w' F F' := h.weak fun k hk => (hF k).2 hk
end Go.Proofs.YtdbgojmjjkidbaaGreatDoor

/-
  New, made, check, cut, isSite, Len, add, by their contracts.
-/
namespace Go.Proofs.YtdbgojmjjkidbaaGreatDoor
open Go.RowKit Go.Maps Go.Sort K
set_option maxRecDepth 20000

theorem box_belowW (w : World) (o : Obj) : Below w.heap.size w (w.alloc o) := (Below.refl _ _).alloc (Nat.le_refl _) _
theorem cell_allocK {w : World} {a : Addr} {v : Value} (o : Obj) (h : w.cell? a = some v) : (w.alloc o).cell? a = some v := by
  rw [World.cell?_alloc_old _ _ _ (Nat.ne_of_lt (World.block_lt_of_cell? _ _ h))]; exact h
theorem wsite_any (n : Int) (w : World) : Calls Tryz.prog 46 #[.int .i64 n] w fun e w' => e = .returned (.bool (inB n 1 8)) ∧ w' = w := by
  by_cases h1 : 1 ≤ n
  · have e : inB n 1 8 = decide (n ≤ 8) := by simp [inB, h1]
    rw [e]
    go_enter Tryz.func46, Tryz.ntmps46
    go_wp2
    go_ret
    exact ⟨rfl, rfl⟩
  · have e : inB n 1 8 = false := by simp [inB]; omega
    rw [e]
    go_enter Tryz.func46, Tryz.ntmps46
    go_wp2
    go_ret
    exact ⟨rfl, rfl⟩
theorem wnew_bad (n : Int) (w : World) (h : n < 1 ∨ 2000 < n) : Calls Tryz.prog 8 #[.int .i64 n] w fun e w' => e = .returned (.pointer none) ∧ w' = w := by
  by_cases h1 : n < 1
  · clear h
    go_enter Tryz.func8, Tryz.ntmps8
    go_wp2
    go_ret
    exact ⟨rfl, rfl⟩
  · have h2 : 2000 < n := by omega
    clear h
    go_enter Tryz.func8, Tryz.ntmps8
    go_wp2
    go_ret
    exact ⟨rfl, rfl⟩
theorem wnew_good (n : Nat) (w : World) (h1 : 1 ≤ n) (h2 : n ≤ 2000) :
    Calls Tryz.prog 8 #[.int .i64 (n : Int)] w fun e w' => ∃ p, e = .returned (.pointer (some ⟨p, 0, none⟩)) ∧ ∃ F, Wt w' p F (newW n) ∧ (∀ k, F k → w.heap.size ≤ k) ∧ Below w.heap.size w w' := by
  have hmm := @run_makeMap Tryz.prog
  have h1 : ¬ (n : Int) < 1 := by omega
  have h1' : ¬ n = 0 := by omega
  have h2 : ¬ 2000 < (n : Int) := by omega
  go_enter Tryz.func8, Tryz.ntmps8
  go_wp2
  go_ret
  refine ⟨w.heap.size + 1, rfl, foot (w.heap.size + 1) (.slice none 0 0) w.heap.size [], ⟨_, _, _, ⟨?_, ownOf_nil _ _, ?_, by simp, rfl⟩, fun _ => Iff.rfl⟩, ?_, ?_⟩
  · simp only [newW]
    rw [← World.size_alloc w (.map #[] 0)]
    exact heap_alloc_new _ _
  · exact (eAt_new w).same (Below.heap_alloc _ _ _ (by simp))
  · rintro k (rfl | hk | rfl | ⟨x, hx, _⟩)
    · omega
    · simp [Value.ownBlock] at hk
    · exact Nat.le_refl _
    · simp at hx
  · exact ((Below.refl _ w).alloc (Nat.le_refl _) _).alloc (by simp) _
section
variable {w : World} {p b : Nat} {v : Value} {L : List Px} {s : Wr}
theorem wmade_at (h : WAt w p v b L s) (ok : s.Ok) : Calls Tryz.prog 32 #[.pointer (some ⟨p, 0, none⟩)] w fun e w' => e = .returned (.bool true) ∧ w' = w := by
  obtain ⟨c0, _, _⟩ := h.cells
  have m1 := ok.m1
  have hm : (0 : Int) < (s.most : Int) := by omega
  generalize (s.most : Int) = m at *
  clear h m1
  go_enter Tryz.func32, Tryz.ntmps32
  go_wp2
  go_ret
  exact ⟨rfl, rfl⟩
theorem len_at (h : WAt w p v b L s) (ok : s.Ok) : Calls Tryz.prog 29 #[.pointer (some ⟨p, 0, none⟩)] w fun e w' => e = .returned (.int .i64 (s.l.length : Nat)) ∧ w' = w := by
  have hM := wmade_at h ok
  obtain ⟨_, c1, _⟩ := h.cells
  obtain ⟨va, vc, hv⟩ := h.rows.rng.slice
  rw [h.len] at hv
  subst hv
  generalize s.l.length = n at *
  clear h ok
  go_enter Tryz.func29, Tryz.ntmps29
  go_wp2_with (go_at_call 32; refine hM.mono ?_; rintro e w ⟨rfl, rfl⟩)
  go_ret
  exact ⟨rfl, rfl⟩
theorem check_at (h : WAt w p v b L s) (ok : s.Ok) (i : Int) : Calls Tryz.prog 40 #[.pointer (some ⟨p, 0, none⟩), .int .i64 i] w fun e w' => e = .returned (.int .i64 (if s.may i = true then 0 else 3)) ∧ w' = w := by
  have hM := wmade_at h ok
  obtain ⟨_, c1, _⟩ := h.cells
  obtain ⟨va, vc, hv⟩ := h.rows.rng.slice
  rw [h.len] at hv
  subst hv
  have em : s.may i = decide (0 ≤ i ∧ i < (s.l.length : Int)) := rfl
  rw [em]
  generalize s.l.length = n at *
  clear h ok em
  by_cases h1 : i < 0
  · have e : decide (0 ≤ i ∧ i < (n : Int)) = false := by simp; omega
    rw [e]
    go_enter Tryz.func40, Tryz.ntmps40
    go_wp2_with (go_at_call 32; refine hM.mono ?_; rintro e w ⟨rfl, rfl⟩)
    go_ret
    exact ⟨rfl, rfl⟩
  · by_cases h2 : (n : Int) ≤ i
    · have e : decide (0 ≤ i ∧ i < (n : Int)) = false := by simp; omega
      rw [e]
      go_enter Tryz.func40, Tryz.ntmps40
      go_wp2_with (go_at_call 32; refine hM.mono ?_; rintro e w ⟨rfl, rfl⟩)
      go_ret
      exact ⟨rfl, rfl⟩
    · have e : decide (0 ≤ i ∧ i < (n : Int)) = true := by simp; omega
      rw [e]
      go_enter Tryz.func40, Tryz.ntmps40
      go_wp2_with (go_at_call 32; refine hM.mono ?_; rintro e w ⟨rfl, rfl⟩)
      go_ret
      exact ⟨rfl, rfl⟩
theorem cut_at (h : WAt w p v b L s) (ok : s.Ok) {x : Ed} (hx : EFit x) :
    Calls Tryz.prog 34 #[.pointer (some ⟨p, 0, none⟩), ev x] w fun e w' => e = .returned (.bool (decide (x ∈ s.ways))) ∧ Below w.heap.size w w' := by
  obtain ⟨_, _, c2⟩ := h.cells
  obtain ⟨W, fold⟩ : ∃ W, w.alloc (.cells #[.int .i64 x.1, .int .i64 x.2] 37) = W := ⟨_, rfl⟩
  have bW : Below w.heap.size w W := by rw [← fold]; exact box_belowW _ _
  have x0 : W.cell? ⟨w.heap.size, 0, none⟩ = some (.int .i64 x.1) := by rw [← fold]; exact cell_of_list (C := ecells x) (heap_alloc_new w _) 0
  have x1 : W.cell? ⟨w.heap.size, 1, none⟩ = some (.int .i64 x.2) := by rw [← fold]; exact cell_of_list (C := ecells x) (heap_alloc_new w _) 1
  have c2' : W.cell? ⟨p, 2, none⟩ = some (.map (some b)) := (bW.cell (p := ⟨p, 2, none⟩) h.lt).trans c2
  have kl : ∀ W', W'.heap[b]? = w.heap[b]? → (Instr.lookup 68 (.map (some b)) (ev x) true).run Tryz.prog W' = .ok (.tuple #[.agg #[], .bool (decide (x ∈ s.ways))]) W' := fun W' e => (h.ways.same e).look (el_of ok.ord ok.efit) hx
  have hbb : b < w.heap.size := h.ways.lt
  have la := kl W.drew (bW.block b hbb)
  have lb : ∀ o, (Instr.lookup 68 (.map (some b)) (ev x) true).run Tryz.prog ((W.alloc o).drew) = _ := fun o => kl ((W.alloc o).drew) ((Below.heap_alloc W _ _ (Nat.lt_of_lt_of_le hbb bW.size)).trans (bW.block b hbb))
  have w0 := fun o => cell_allocK o x0
  have w1 := fun o => cell_allocK o x1
  have w3 := fun o => cell_allocK o c2'
  generalize decide (x ∈ s.ways) = r at *
  clear kl c2 h ok
  go_enter Tryz.func34, Tryz.ntmps34
  go_wp2
  go_region
  all_goals go_wp2
  all_goals go_ret
  all_goals exact ⟨rfl, bW.trans ((((Below.refl _ _).alloc (Nat.le_refl _) _).drew).mono bW.size)⟩
end
end Go.Proofs.YtdbgojmjjkidbaaGreatDoor

/-
  add: one more is the last one, if there is room.
-/
namespace Go.Proofs.YtdbgojmjjkidbaaGreatDoor
open Go.RowKit Go.Maps Go.Sort K
set_option maxRecDepth 20000

theorem cell_alloc_r {W : World} {c : Addr} {v : Value} (o : Obj) (h : W.cell? c = some v) : (W.alloc o).cell? c = some v := by
  rw [World.cell?_alloc_old _ _ _ (Nat.ne_of_lt (World.block_lt_of_cell? _ _ h))]; exact h
theorem addW_full {s : Wr} {x : Pc} (h : s.most ≤ s.l.length) : addW s x = (6, s) := by unfold addW; rw [if_pos h]
theorem addW_room {s : Wr} {x : Pc} (h : ¬ s.most ≤ s.l.length) : addW s x = (0, { s with l := s.l ++ [x] }) := by unfold addW; rw [if_neg h]
set_option maxHeartbeats 2000000 in
theorem add_at {w U : World} {p b : Nat} {v : Value} {L : List Px} {s : Wr} {F : Nat → Prop} (hq : WAt w p v b L s) (ok : s.Ok) (hF : ∀ k, F k ↔ foot p v b L k) (hU : Below w.heap.size w U) (x : Px) (hx : OwnB U x.v x.b) (hxn : x ∈ L ∨ ∀ g, x.v.ownBlock = some g → w.heap.size ≤ g) :
    Calls Tryz.prog 36 #[.pointer (some ⟨p, 0, none⟩), pxv x] U fun e w' => e = .returned (.int .i64 (addW s x.pc).1) ∧ ∃ F', Wt w' p F' (addW s x.pc).2 ∧ Moved w w' F F' := by
  obtain ⟨W, hW⟩ : ∃ W, W = U.alloc (.cells #[.slice x.a x.n x.c, .bool x.t] 81) := ⟨_, rfl⟩
  have bW : Below w.heap.size w W := by rw [hW]; exact hU.alloc hU.size _
  have hbox : W.cell? ⟨U.heap.size, 0, none⟩ = some (.slice x.a x.n x.c) ∧ W.cell? ⟨U.heap.size, 1, none⟩ = some (.bool x.t) := by
    rw [hW]; simp [World.cell?_alloc_at]
  obtain ⟨x0, x1⟩ := hbox
  have hqW := hq.same fun k hk => bW.block k (hq.lts k hk)
  obtain ⟨c0, c1, c2⟩ := hqW.cells
  have f1 := hqW.free 1
  obtain ⟨va, vc, hv⟩ := hq.rows.rng.slice
  rw [hq.len] at hv
  subst hv
  by_cases h1 : s.most ≤ s.l.length
  · rw [addW_full h1]
    have HE : Hid (∃ F', Wt W p F' s ∧ Moved w W F F') := ⟨F, ⟨_, _, _, hqW, hF⟩, .of_below bW⟩
    have HD : Hid (∀ n, ∃ F', Wt (W.drewN n) p F' s ∧ Moved w (W.drewN n) F F') := fun n => ⟨F, ⟨_, _, _, hqW.same fun _ _ => rfl, hF⟩, .of_below (bW.trans ⟨rfl, rfl, rfl, Nat.le_refl _, fun _ _ => rfl⟩)⟩
    have h2 : (s.most : Int) ≤ (s.l.length : Int) := by omega
    have hW' : Hid (U.alloc (.cells #[.slice x.a x.n x.c, .bool x.t] 81) = W) := hW.symm
    clear hq hqW hx hxn hF hU hW
    go_enter Tryz.func36, Tryz.ntmps36
    go_wp2_with fail
    try rw [hW'.out]
    go_quiet (fail)
    go_wp2
    go_ret
    exact ⟨rfl, HD.out _⟩
  · rw [addW_room h1]
    have hm2 := ok.m2
    have h2 : ¬ (s.most : Int) ≤ (s.l.length : Int) := by omega
    obtain ⟨i0, hi0, hz0, hzs, hzb⟩ := pxInfo
    have hll := hq.len
    have HO : Hid (∀ X : World, X.heap = W.heap → ∀ o, OwnP (X.alloc o) 0 (.slice va s.l.length vc) L) := fun X hX o => (hqW.rows.same (w' := X) fun g _ => by rw [hX]).alloc o
    have HN : Hid (∀ X : World, X.heap = W.heap → W.heap.size = X.heap.size) := fun X hX => by rw [hX]
    have HP : Hid (∀ X : World, X.heap = W.heap → ∀ o w', (X.alloc o).grownBy w' (Value.slice va s.l.length vc).ownBlock → w'.cell? ⟨p, 1, none⟩ = some (.slice va s.l.length vc) ∧ w'.frozen? ⟨p, 1, none⟩ = false) := fun X hX o w' gr => by
      have hlt := hqW.lt
      have hb : w'.heap[p]? = W.heap[p]? := by
        rw [gr.block p (by rw [World.size_alloc, hX]; omega) (fun h => hqW.ne_row h.symm), Below.heap_alloc _ _ _ (by rw [hX]; exact hlt), hX]
      have hb2 := hb.trans hqW.blk
      exact ⟨by simp [World.cell?, hb2], by simp [World.frozen?, hb2]⟩
    have HE : Hid (∀ X : World, X.heap = W.heap ∧ X.os = W.os ∧ X.tape = W.tape ∧ X.output = W.output → ∀ o w' v', OwnP w' 0 v' (L ++ [x]) → (X.alloc o).grownBy w' (Value.slice va s.l.length vc).ownBlock → NewOr (X.alloc o) (.slice va s.l.length vc) v' →
        ∃ F', Wt (w'.setCell ⟨p, 1, none⟩ v') p F' { s with l := s.l ++ [x.pc] } ∧ Moved w (w'.setCell ⟨p, 1, none⟩ v') F F') := fun X hX o w' v' own gr nw => by
      have bX : Below w.heap.size w (X.alloc o) := (bW.trans (show Below w.heap.size W X from ⟨hX.2.1, hX.2.2.1, hX.2.2.2, by rw [hX.1]; exact Nat.le_refl _, fun k _ => by rw [hX.1]⟩)).alloc (by rw [hX.1]; exact bW.size) o
      have bUW : ∀ k, k < U.heap.size → (X.alloc o).heap[k]? = U.heap[k]? := fun k hk => by
        have hk2 : k < X.heap.size := by rw [hX.1, hW, World.size_alloc]; omega
        rw [Below.heap_alloc _ _ _ hk2, hX.1, hW, Below.heap_alloc _ _ _ hk]
      have hall : ∀ y ∈ L ++ [x], OwnB w' y.v y.b := fun y hy => by
        have hy0 : OwnB (X.alloc o) y.v y.b := by
          rcases List.mem_append.1 hy with hy | hy
          · exact owns_same (hq.all y hy) fun g hg => bX.block g (owns_lt (hq.all y hy) hg)
          · rw [List.mem_singleton.1 hy]
            exact owns_same hx fun g hg => bUW g (owns_lt hx hg)
        refine owns_same hy0 fun g hg => gr.block g (owns_lt hy0 hg) (fun e => ?_)
        obtain ⟨cur, hc⟩ := owns_blk hy0 hg
        obtain ⟨cur2, hc2⟩ := rows_blk ((hqW.rows.same (w' := X) fun g _ => by rw [hX.1]).alloc o) e.symm
        rw [hc] at hc2; simp at hc2
      obtain ⟨q1, m1⟩ := row_set hq bX own gr (by
        rcases nw with h | ⟨g, h, hg⟩
        · exact .inl h
        · exact .inr ⟨g, h, Nat.le_trans bX.size hg⟩) hall (l := s.l ++ [x.pc]) (fun y hy => by
        rcases List.mem_append.1 hy with hy | hy
        · exact .inl hy
        · rw [List.mem_singleton.1 hy]; exact hxn) (by rw [List.map_append, hq.eq]; rfl)
      exact ⟨_, ⟨_, _, _, q1, fun _ => Iff.rfl⟩, m1.toF hF⟩
    have c1' : ∀ n o, ((W.drewN n).alloc o).cell? ⟨p, 1, none⟩ = some (.slice va s.l.length vc) := fun n o => cell_alloc_r (W := W.drewN n) o c1
    have x0' : ∀ n o, ((W.drewN n).alloc o).cell? ⟨U.heap.size, 0, none⟩ = some (.slice x.a x.n x.c) := fun n o => cell_alloc_r (W := W.drewN n) o x0
    have x1' : ∀ n o, ((W.drewN n).alloc o).cell? ⟨U.heap.size, 1, none⟩ = some (.bool x.t) := fun n o => cell_alloc_r (W := W.drewN n) o x1
    have hn : L.length ≤ 2000 := by have := ok.len; omega
    have hW' : Hid (U.alloc (.cells #[.slice x.a x.n x.c, .bool x.t] 81) = W) := hW.symm
    obtain ⟨mo, hmo⟩ : ∃ z : Int, (s.most : Int) = z := ⟨_, rfl⟩
    rw [hmo] at c0 h2
    clear hq hx hxn hF hU hW h1 bW hqW hmo
    go_enter Tryz.func36, Tryz.ntmps36
    go_wp2_with fail
    try rw [hW'.out]
    go_quiet (fail)
    go_wp2
    go_region_law (refine K.step_append_rows (enc := pxcells) rfl (.tmp 19) (.tmp 21) 67 rfl Tryz.underlying67 i0 _ 32 hi0 hz0 hzs hzb rfl 0 (.slice va s.l.length vc) (.slice (some ⟨W.heap.size, 0, none⟩) 1 1) L [x] (by simp [Act.eval]) (by simp [Act.eval]) (HO.out _ rfl _) (rowK_one _ _ _ (HN.out _ rfl)) (by unfold maxLen; simp; omega) (by simp; omega) (Nat.zero_le _) ?_; intro v' w' own' gr' nw'; obtain ⟨d1, d2⟩ := HP.out (W.drewN (nq + 1)) rfl _ _ gr'; have HE' : Hid _ := HE.out (W.drewN (nq + 1)) ⟨rfl, rfl, rfl, rfl⟩ _ _ _ own' gr' nw'; obtain ⟨va', vc', hv'⟩ := own'.rng.slice; rw [List.length_append, hll, List.length_singleton] at hv'; subst hv'; clear own' gr' nw')
    all_goals go_wp2
    all_goals go_ret
    all_goals exact ⟨rfl, HE'.out⟩
end Go.Proofs.YtdbgojmjjkidbaaGreatDoor
