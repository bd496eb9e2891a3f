/-
  THE ORDER of texts; lists in order. Of no program.
-/
import Derived.Test.YtjgdmbfkondakaaGreatDoorProg
import Derived.WalkKit
import Derived.Lib.Bytealg
import Derived.Sort.Statements
namespace Go.Proofs.YtjgdmbfkondakaaGreatDoor
open Go.RowKit Go.Sort

/-- What a three-way comparison keeps to. -/
structure Cmp3 {α : Type} (c : α → α → Int) : Prop where
  neg : ∀ a b, c b a = - c a b
  trans : ∀ a b d, c a b < 0 → c b d < 0 → c a d < 0
  sub : ∀ a b, c a b = 0 → ∀ d, c a d = c b d
theorem Cmp3.self {α : Type} {c : α → α → Int} (h : Cmp3 c) (a : α) : c a a = 0 := by have := h.neg a a; omega
theorem Cmp3.zero {α : Type} {c : α → α → Int} (h : Cmp3 c) {a b : α} (e : c a b = 0) : c b a = 0 := by have := h.neg a b; omega
theorem Cmp3.sub' {α : Type} {c : α → α → Int} (h : Cmp3 c) {a b : α} (e : c a b = 0) (d : α) : c d a = c d b := by
  have h1 := h.sub a b e d; have h2 := h.neg a d; have h3 := h.neg b d; omega
theorem Cmp3.swo {α : Type} {c : α → α → Int} (h : Cmp3 c) : SWO (fun x y => decide (c x y < 0)) where
  irrefl x := by have := h.self x; simp; omega
  trans x y z h1 h2 := by simp at *; exact h.trans x y z h1 h2
  ntrans x y z h1 h2 := by
    simp only [decide_eq_false_iff_not] at *
    intro h3
    have n1 := h.neg x y
    have n2 := h.neg y z
    by_cases e1 : c x y = 0
    · have := h.sub x y e1 z; omega
    · by_cases e2 : c y z = 0
      · have := h.sub' e2 x; omega
      · have h4 := h.trans z y x (by omega) (by omega)
        have n3 := h.neg x z; omega
/-- One comparison, and where it says nothing another one. -/
def cor {α : Type} (c1 c2 : α → α → Int) (a b : α) : Int := if c1 a b = 0 then c2 a b else c1 a b
theorem Cmp3.or {α : Type} {c1 c2 : α → α → Int} (h1 : Cmp3 c1) (h2 : Cmp3 c2) : Cmp3 (cor c1 c2) where
  neg a b := by
    unfold cor
    have n1 := h1.neg a b
    by_cases e : c1 a b = 0
    · rw [if_pos e, if_pos (by omega)]; exact h2.neg a b
    · rw [if_neg e, if_neg (by omega)]; exact n1
  trans a b d := by
    unfold cor
    intro k1 k2
    by_cases e1 : c1 a b = 0
    · rw [if_pos e1] at k1
      have s := h1.sub a b e1 d
      by_cases e2 : c1 b d = 0
      · rw [if_pos e2] at k2
        rw [if_pos (by omega)]
        exact h2.trans a b d k1 k2
      · rw [if_neg e2] at k2
        rw [if_neg (by omega)]; omega
    · rw [if_neg e1] at k1
      by_cases e2 : c1 b d = 0
      · have s := h1.sub' e2 a
        rw [if_neg (by omega)]; omega
      · rw [if_neg e2] at k2
        have := h1.trans a b d k1 k2
        rw [if_neg (by omega)]; exact this
  sub a b := by
    unfold cor
    intro k d
    by_cases e1 : c1 a b = 0
    · rw [if_pos e1] at k
      rw [h1.sub a b e1 d, h2.sub a b k d]
    · rw [if_neg e1] at k; exact absurd k e1
theorem Cmp3.on {α β : Type} {c : α → α → Int} (h : Cmp3 c) (f : β → α) : Cmp3 (fun a b => c (f a) (f b)) where
  neg _ _ := h.neg _ _
  trans _ _ _ := h.trans _ _ _
  sub _ _ e _ := h.sub _ _ e _

theorem cb_eq : ∀ (a b : List UInt8), Lib.compareBytes a b = 0 → a = b
  | [], [], _ => rfl
  | [], _ :: _, h => by simp [Lib.compareBytes] at h
  | _ :: _, [], h => by simp [Lib.compareBytes] at h
  | x :: a, y :: b, h => by
    unfold Lib.compareBytes at h
    by_cases h1 : x < y
    · rw [if_pos h1] at h; cases h
    · rw [if_neg h1] at h
      by_cases h2 : y < x
      · rw [if_pos h2] at h; cases h
      · rw [if_neg h2] at h
        have e : x = y := UInt8.toNat_inj.1 (by rw [UInt8.lt_iff_toNat_lt] at h1 h2; omega)
        rw [e, cb_eq a b h]
theorem cb_neg : ∀ (a b : List UInt8), Lib.compareBytes b a = - Lib.compareBytes a b
  | [], [] => rfl
  | [], _ :: _ => rfl
  | _ :: _, [] => rfl
  | x :: a, y :: b => by
    unfold Lib.compareBytes
    by_cases h1 : x < y
    · have h2 : ¬ y < x := by rw [UInt8.lt_iff_toNat_lt] at h1 ⊢; omega
      simp [h1, h2]
    · by_cases h2 : y < x
      · simp [h1, h2]
      · simp [h1, h2]; exact cb_neg a b
theorem cb_trans : ∀ (a b d : List UInt8), Lib.compareBytes a b < 0 → Lib.compareBytes b d < 0 → Lib.compareBytes a d < 0
  | [], [], d, h, _ => by simp [Lib.compareBytes] at h
  | [], _ :: _, [], _, h => by simp [Lib.compareBytes] at h
  | [], _ :: _, _ :: _, _, _ => by simp [Lib.compareBytes]
  | _ :: _, [], _, h, _ => by simp [Lib.compareBytes] at h
  | _ :: _, _ :: _, [], _, h => by simp [Lib.compareBytes] at h
  | x :: a, y :: b, z :: d, h1, h2 => by
    unfold Lib.compareBytes at h1 h2 ⊢
    simp only [UInt8.lt_iff_toNat_lt] at h1 h2 ⊢
    by_cases k1 : x.toNat < y.toNat
    · by_cases k3 : z.toNat < y.toNat
      · rw [if_neg (by omega), if_pos k3] at h2; simp at h2
      · rw [if_pos (by omega)]; decide
    · rw [if_neg k1] at h1
      by_cases k2 : y.toNat < x.toNat
      · rw [if_pos k2] at h1; simp at h1
      · rw [if_neg k2] at h1
        by_cases k3 : y.toNat < z.toNat
        · rw [if_pos (by omega)]; decide
        · rw [if_neg k3] at h2
          by_cases k4 : z.toNat < y.toNat
          · rw [if_pos k4] at h2; simp at h2
          · rw [if_neg k4] at h2
            rw [if_neg (by omega), if_neg (by omega)]
            exact cb_trans a b d h1 h2
/-- Texts, as strings.Compare has them. -/
def cmpS (a b : ByteArray) : Int := Lib.compareBytes a.data.toList b.data.toList
theorem arr_inj {a b : ByteArray} (h : a.data.toList = b.data.toList) : a = b := by
  cases a; cases b
  simpa using h
theorem cmpS_eq {a b : ByteArray} (h : cmpS a b = 0) : a = b := arr_inj (cb_eq _ _ h)
theorem cmpS3 : Cmp3 cmpS where
  neg _ _ := cb_neg _ _
  trans _ _ _ := cb_trans _ _ _
  sub _ _ h _ := by rw [cmpS_eq h]
section
variable {α : Type} {c : α → α → Int}
/-- In order, each once. -/
def Ord (c : α → α → Int) (l : List α) : Prop := l.Pairwise fun a b => c a b < 0
/-- One more, at its place. -/
def insC (c : α → α → Int) (x : α) : List α → List α
  | [] => [x]
  | y :: r => if c y x < 0 then y :: insC c x r else x :: y :: r
theorem insC_perm (x : α) : ∀ l : List α, (insC c x l).Perm (x :: l)
  | [] => List.Perm.refl _
  | y :: r => by
    unfold insC
    split
    · exact ((insC_perm x r).cons y).trans (List.Perm.swap x y r)
    · exact List.Perm.refl _
theorem insC_ord (h : Cmp3 c) {x : α} : ∀ {l : List α}, Ord c l → (∀ y ∈ l, c y x ≠ 0) → Ord c (insC c x l)
  | [], _, _ => List.pairwise_singleton _ _
  | y :: r, hl, hn => by
    obtain ⟨h1, h2⟩ := List.pairwise_cons.1 hl
    unfold insC
    split
    · rename_i hlt
      refine List.pairwise_cons.2 ⟨fun z hz => ?_, insC_ord h h2 (fun z hz => hn z (by simp [hz]))⟩
      rcases List.mem_cons.1 ((insC_perm x r).mem_iff.1 hz) with rfl | hz
      · exact hlt
      · exact h1 z hz
    · rename_i hge
      have hxy : c x y < 0 := by
        have := hn y (by simp); have := h.neg x y; omega
      refine List.pairwise_cons.2 ⟨fun z hz => ?_, hl⟩
      rcases List.mem_cons.1 hz with rfl | hz
      · exact hxy
      · exact h.trans x y z hxy (h1 z hz)
theorem Ord.uniq (h : Cmp3 c) {l l' : List α} (hl : Ord c l) (hp : l'.Perm l) (hs : l'.Pairwise fun a b => ¬ c b a < 0) : l' = l := by
  have hnd : ∀ a ∈ l, ∀ b ∈ l, c a b = 0 → a = b := by
    clear hp hs
    induction l with
    | nil => intro a ha; cases ha
    | cons x r ih =>
      obtain ⟨h1, h2⟩ := List.pairwise_cons.1 hl
      intro a ha b hb e
      rcases List.mem_cons.1 ha with rfl | ha' <;> rcases List.mem_cons.1 hb with rfl | hb'
      · rfl
      · have := h1 b hb'; omega
      · have := h1 a ha'; have := h.neg a b; omega
      · exact ih h2 a ha' b hb' e
  exact List.Perm.eq_of_pairwise (le := fun a b : α => ¬ c b a < 0) (fun a b ha hb h1 h2 => hnd a (hp.mem_iff.1 ha) b hb (by have := h.neg a b; omega)) hs (hl.imp (fun {a b} hlt => by have := h.neg a b; omega)) hp
theorem Ord.filter (p : α → Bool) {l : List α} (h : Ord c l) : Ord c (l.filter p) := List.Pairwise.filter p h
end
end Go.Proofs.YtjgdmbfkondakaaGreatDoor

/-
  A STORE, told plainly: files, a directory of them, what is sure. Of no program.
-/
namespace Go.Proofs.YtjgdmbfkondakaaGreatDoor
open Go.RowKit

/-- A file: its bytes, its sure ones. -/
structure Fl where
  now : List UInt8
  sure : List UInt8
  deriving DecidableEq
/-- A name of a directory, and which file it is. -/
structure En where
  name : ByteArray
  f : Nat
  deriving DecidableEq
def zeroFl : Fl := ⟨[], []⟩
structure M where
  room : Int
  all : List Fl
  dir : List En
  sur : List En
  dark : Bool
  count : Nat
  left : Int
  keep : Int

def letterB (c : UInt8) : Bool := decide (97 ≤ c.toNat ∧ c.toNat ≤ 122)
def digitB (c : UInt8) : Bool := decide (48 ≤ c.toNat ∧ c.toNat ≤ 57)
def signB (c : UInt8) : Bool := letterB c || digitB c || decide (c.toNat = 46)
/-- A text's bytes. -/
def txt (s : ByteArray) : List UInt8 := s.data.toList
/-- May it be a name? -/
def goodN (s : ByteArray) : Bool := decide (1 ≤ s.size ∧ s.size ≤ 30) && (txt s).all signB && letterB (s.data.getD 0 0)
theorem txt_length (s : ByteArray) : (txt s).length = s.size := by simp [txt]
theorem goodN_size {s : ByteArray} (h : goodN s = true) : s.size ≤ 30 := by
  unfold goodN at h
  rw [Bool.and_eq_true, Bool.and_eq_true, decide_eq_true_eq] at h
  exact h.1.1.2

def cmpE (a b : En) : Int := cmpS a.name b.name
theorem cmpE3 : Cmp3 cmpE := cmpS3.on En.name
def findE (l : List En) (n : ByteArray) : Option En := l.find? fun e => decide (e.name = n)
theorem getD_lt {α : Type} {l : List α} {i : Nat} (z : α) (h : i < l.length) : l.getD i z = l[i] := by simp [List.getD_eq_getElem?_getD, h]
theorem findE_some {l : List En} {n : ByteArray} {e : En} (h : findE l n = some e) : e ∈ l ∧ e.name = n := ⟨List.mem_of_find?_eq_some h, by simpa using List.find?_some h⟩
theorem findE_none {l : List En} {n : ByteArray} (h : findE l n = none) : ∀ e ∈ l, e.name ≠ n := fun e he => by simpa using List.find?_eq_none.1 h e he
/-- Without a name. -/
def cutE (l : List En) (n : ByteArray) : List En := l.filter fun e => !decide (e.name = n)
/-- A name is a file. -/
def putE (l : List En) (n : ByteArray) (f : Nat) : List En := insC cmpE ⟨n, f⟩ (cutE l n)
theorem mem_cutE {l : List En} {n : ByteArray} {e : En} : e ∈ cutE l n ↔ e ∈ l ∧ e.name ≠ n := by simp [cutE, List.mem_filter]
theorem mem_insC {α : Type} {c : α → α → Int} {x y : α} {l : List α} : y ∈ insC c x l ↔ y = x ∨ y ∈ l := by rw [(insC_perm x l).mem_iff, List.mem_cons]
theorem mem_putE {l : List En} {n : ByteArray} {f : Nat} {e : En} : e ∈ putE l n f ↔ e = ⟨n, f⟩ ∨ (e ∈ l ∧ e.name ≠ n) := by rw [putE, mem_insC, mem_cutE]
theorem cutE_ord {l : List En} (h : Ord cmpE l) (n : ByteArray) : Ord cmpE (cutE l n) := h.filter _
theorem putE_ord {l : List En} (h : Ord cmpE l) (n : ByteArray) (f : Nat) : Ord cmpE (putE l n f) :=
  insC_ord cmpE3 (cutE_ord h n) fun _ hy e => (mem_cutE.1 hy).2 (cmpS_eq e)
theorem putE_perm (l : List En) (n : ByteArray) (f : Nat) : (putE l n f).Perm (⟨n, f⟩ :: cutE l n) := insC_perm _ _
theorem cutE_length (l : List En) (n : ByteArray) : (cutE l n).length ≤ l.length := List.length_filter_le _ _
theorem putE_length (l : List En) (n : ByteArray) (f : Nat) : (putE l n f).length ≤ l.length + 1 := by
  have := (putE_perm l n f).length_eq
  have := cutE_length l n
  simp at *
  omega
theorem Ord.names {l : List En} (h : Ord cmpE l) {a b : En} (ha : a ∈ l) (hb : b ∈ l) (e : a.name = b.name) : a = b := by
  induction l with
  | nil => cases ha
  | cons x r ih =>
    obtain ⟨h1, h2⟩ := List.pairwise_cons.1 h
    have hz : ∀ p q : En, p.name = q.name → cmpE p q = 0 := fun p q e => by unfold cmpE; rw [e]; exact cmpS3.self _
    rcases List.mem_cons.1 ha with rfl | ha' <;> rcases List.mem_cons.1 hb with rfl | hb'
    · rfl
    · have := h1 b hb'; rw [hz _ _ e] at this; omega
    · have := h1 a ha'; rw [hz _ _ e.symm] at this; omega
    · exact ih h2 ha' hb'
theorem findE_mem {l : List En} (h : Ord cmpE l) {e : En} (he : e ∈ l) : findE l e.name = some e := by
  cases hf : findE l e.name with
  | none => exact absurd rfl (findE_none hf e he)
  | some x => obtain ⟨h1, h2⟩ := findE_some hf; rw [h.names h1 he h2]

/-- What a failure leaves of a file. -/
def leftF (k : Int) (x : Fl) : List UInt8 := if x.sure.isPrefixOf x.now = true then x.now.take (x.sure.length + min k.toNat (x.now.length - x.sure.length)) else x.sure
def failF (k : Int) (x : Fl) : Fl := ⟨leftF k x, leftF k x⟩
theorem isPrefixOf_self (l : List UInt8) : l.isPrefixOf l = true := by rw [List.isPrefixOf_iff_prefix]; exact List.prefix_refl _
theorem failF_sure (k : Int) {x : Fl} (h : x.now = x.sure) : failF k x = x := by
  cases x with
  | mk a b =>
    simp only at h
    subst h
    unfold failF leftF
    simp only [isPrefixOf_self, if_true, Nat.sub_self, Nat.min_zero, Nat.add_zero, List.take_length]
theorem failF_twice (k j : Int) (x : Fl) : failF j (failF k x) = failF k x := failF_sure j rfl
theorem leftF_length {k : Int} {x : Fl} {n : Nat} (h1 : x.now.length ≤ n) (h2 : x.sure.length ≤ n) : (leftF k x).length ≤ n := by
  unfold leftF
  split
  · rw [List.length_take]; omega
  · exact h2

namespace M
/-- The file at a place. -/
def fl (m : M) (i : Nat) : Fl := m.all.getD i zeroFl
/-- What files need. -/
def needL (m : M) (l : List En) : Nat := (l.map fun e => 16 + (m.fl e.f).now.length).sum
def need (m : M) : Nat := m.needL m.dir
def used (m : M) : Nat := if m.dark then 0 else m.need
def names (m : M) : List ByteArray := if m.dark then [] else m.dir.map En.name
/-- The power is off. -/
def fail (m : M) (k : Int) : M := { m with dark := true, dir := m.sur, all := m.all.map (failF k) }
def power (m : M) : M := { m with dark := false, left := 0, keep := 0 }
/-- What is left of the plan, behind one call. -/
def less (l : Int) : Int := if 0 < l then l - 1 else l
def tick (m : M) : M := { m with count := m.count + 1, left := less m.left }
/-- A call that is counted. -/
def step (m : M) (f : M → M) : Int × M := if m.left = 1 then (9, m.tick.fail m.keep) else (0, f m.tick)
/-- The errors that come first. -/
def first (m : M) (n : ByteArray) (there : Bool) : Int := if m.dark then 9 else if goodN n = false then 2 else if there && (findE m.dir n).isNone then 3 else 0
def add (n : ByteArray) (m : M) : M := { m with all := m.all ++ [zeroFl], dir := putE m.dir n m.all.length }
def make (m : M) (n : ByteArray) : Int × M :=
  if m.first n false ≠ 0 then (m.first n false, m) else if (findE m.dir n).isSome then (4, m) else if m.room - m.need < 16 then (6, m) else m.step (add n)
/-- The place of a name's file. -/
def place (m : M) (n : ByteArray) : Nat := ((findE m.dir n).map En.f).getD 0
def setF (i : Nat) (x : Fl) (m : M) : M := { m with all := m.all.set i x }
def write (m : M) (n : ByteArray) (b : List UInt8) : Int × M :=
  if m.first n true ≠ 0 then (m.first n true, m) else if m.room - m.need < b.length then (6, m) else m.step (setF (m.place n) { m.fl (m.place n) with now := (m.fl (m.place n)).now ++ b })
def cut (m : M) (n : ByteArray) (k : Int) : Int × M :=
  if m.first n true ≠ 0 then (m.first n true, m) else if k < 0 ∨ k > (m.fl (m.place n)).now.length then (2, m) else m.step (setF (m.place n) { m.fl (m.place n) with now := (m.fl (m.place n)).now.take k.toNat })
def sync (m : M) (n : ByteArray) : Int × M :=
  if m.first n true ≠ 0 then (m.first n true, m) else m.step (setF (m.place n) { m.fl (m.place n) with sure := (m.fl (m.place n)).now })
def shift (n : ByteArray) (t : ByteArray) (f : Nat) (m : M) : M := { m with dir := putE (cutE m.dir n) t f }
def move (m : M) (n t : ByteArray) : Int × M :=
  if m.dark then (9, m) else if goodN n = false ∨ goodN t = false then (2, m) else if (findE m.dir n).isNone then (3, m) else m.step (shift n t (m.place n))
def lose (n : ByteArray) (m : M) : M := { m with dir := cutE m.dir n }
def drop (m : M) (n : ByteArray) : Int × M := if m.first n true ≠ 0 then (m.first n true, m) else m.step (lose n)
def secure (m : M) : M := { m with sur := m.dir }
def commit (m : M) : Int × M := if m.dark then (9, m) else m.step secure
def read (m : M) (n : ByteArray) : List UInt8 × Int := if m.first n true ≠ 0 then ([], m.first n true) else ((m.fl (m.place n)).now, 0)
def plan (m : M) (n k : Int) : Int × M := if m.dark then (9, m) else if n < 0 then (2, m) else (0, { m with left := n, keep := k })

/-- What a store keeps to. -/
structure Ok (m : M) : Prop where
  room0 : 0 ≤ m.room
  room1 : m.room ≤ 1073741824
  od : Ord cmpE m.dir
  os : Ord cmpE m.sur
  gd : ∀ e ∈ m.dir, goodN e.name = true
  gs : ∀ e ∈ m.sur, goodN e.name = true
  fd : ∀ e ∈ m.dir, e.f < m.all.length
  fs : ∀ e ∈ m.sur, e.f < m.all.length
  nd : m.dir.Pairwise fun a b => a.f ≠ b.f
  ns : m.sur.Pairwise fun a b => a.f ≠ b.f
  small : ∀ x ∈ m.all, x.now.length ≤ 1073741824 ∧ x.sure.length ≤ 1073741824
  cnt : m.all.length ≤ m.count
  ld : m.dir.length ≤ m.count
  ls : m.sur.length ≤ m.count
  left0 : 0 ≤ m.left
  left1 : m.left < 9223372036854775808
  dk : m.dark = true → m.dir = m.sur ∧ ∀ x ∈ m.all, x.now = x.sure
  kp : -9223372036854775808 ≤ m.keep ∧ m.keep < 9223372036854775808

def new (room : Int) : M := ⟨room, [], [], [], false, 0, 0, 0⟩
theorem new_ok {room : Int} (h0 : 0 ≤ room) (h1 : room ≤ 1073741824) : (new room).Ok :=
  ⟨h0, h1, List.Pairwise.nil, List.Pairwise.nil, by simp [new], by simp [new], by simp [new], by simp [new], List.Pairwise.nil, List.Pairwise.nil, by simp [new], by simp [new], by simp [new], by simp [new], by simp [new], by simp [new], by simp [new], by simp [new]⟩

theorem Ok.fl {m : M} (h : m.Ok) (i : Nat) : (m.fl i).now.length ≤ 1073741824 ∧ (m.fl i).sure.length ≤ 1073741824 := by
  unfold M.fl
  by_cases hi : i < m.all.length
  · rw [getD_lt _ hi]; exact h.small _ (List.getElem_mem hi)
  · rw [List.getD_eq_getElem?_getD, List.getElem?_eq_none (by omega)]; simp [zeroFl]
theorem sum_le {l : List Nat} {b : Nat} (h : ∀ x ∈ l, x ≤ b) : l.sum ≤ l.length * b := by
  induction l with
  | nil => simp
  | cons x r ih =>
    have h1 := h x (by simp)
    have h2 := ih fun y hy => h y (by simp [hy])
    simp [Nat.succ_mul]
    omega
theorem Ok.needL {m : M} (h : m.Ok) (l : List En) : m.needL l ≤ l.length * 1073741840 := by
  have := sum_le (l := l.map fun e => 16 + (m.fl e.f).now.length) (b := 1073741840) (by
    intro x hx
    obtain ⟨e, _, rfl⟩ := List.mem_map.1 hx
    have := (h.fl e.f).1
    omega)
  simpa [M.needL] using this
theorem Ok.need {m : M} (h : m.Ok) (hc : m.count ≤ 1000000) : m.need ≤ 1073741840000000 := by
  have h1 := h.needL m.dir
  have h2 := h.ld
  have h3 : m.dir.length * 1073741840 ≤ 1000000 * 1073741840 := Nat.mul_le_mul_right _ (by omega)
  unfold M.need
  omega

theorem less_lt (l : Int) (h0 : 0 ≤ l) (h1 : l < 9223372036854775808) : 0 ≤ less l ∧ less l < 9223372036854775808 := by unfold less; split <;> omega
theorem Ok.tick {m : M} (h : m.Ok) : m.tick.Ok :=
  ⟨h.room0, h.room1, h.od, h.os, h.gd, h.gs, h.fd, h.fs, h.nd, h.ns, h.small, Nat.le_succ_of_le h.cnt, Nat.le_succ_of_le h.ld, Nat.le_succ_of_le h.ls, (less_lt _ h.left0 h.left1).1, (less_lt _ h.left0 h.left1).2, h.dk, h.kp⟩
theorem Ok.fail {m : M} (h : m.Ok) (k : Int) : (m.fail k).Ok := by
  refine ⟨h.room0, h.room1, h.os, h.os, h.gs, h.gs, ?_, ?_, h.ns, h.ns, ?_, ?_, h.ls, h.ls, h.left0, h.left1, fun _ => ⟨rfl, ?_⟩, h.kp⟩
  · intro e he; simpa [M.fail] using h.fs e he
  · intro e he; simpa [M.fail] using h.fs e he
  · intro x hx
    obtain ⟨y, hy, rfl⟩ := List.mem_map.1 hx
    obtain ⟨h1, h2⟩ := h.small y hy
    exact ⟨leftF_length h1 h2, leftF_length h1 h2⟩
  · simpa [M.fail] using h.cnt
  · intro x hx
    obtain ⟨y, hy, rfl⟩ := List.mem_map.1 hx
    rfl
theorem Ok.fail_dark {m : M} (h : m.Ok) (hd : m.dark = true) (k : Int) : m.fail k = m := by
  obtain ⟨h1, h2⟩ := h.dk hd
  cases m with
  | mk room all dir sur dark count left keep =>
    simp only at h1 h2 hd
    subst h1 hd
    simp only [M.fail, M.mk.injEq, true_and, and_true]
    conv => rhs; rw [← List.map_id all]
    exact List.map_congr_left fun x hx => failF_sure k (h2 x hx)
theorem Ok.power {m : M} (h : m.Ok) : m.power.Ok :=
  ⟨h.room0, h.room1, h.od, h.os, h.gd, h.gs, h.fd, h.fs, h.nd, h.ns, h.small, h.cnt, h.ld, h.ls, Int.le_refl _, by simp [M.power], fun e => by simp [M.power] at e, by simp [M.power]⟩

theorem pw_perm {l l' : List En} (h : l.Pairwise fun a b => a.f ≠ b.f) (hp : l'.Perm l) : l'.Pairwise fun a b => a.f ≠ b.f := (hp.pairwise_iff (fun {a b} (h : a.f ≠ b.f) => h.symm)).2 h
theorem pw_one {l : List En} (h : l.Pairwise fun a b => a.f ≠ b.f) {a b : En} (ha : a ∈ l) (hb : b ∈ l) (e : a.f = b.f) : a = b := by
  induction l with
  | nil => cases ha
  | cons x r ih =>
    obtain ⟨h1, h2⟩ := List.pairwise_cons.1 h
    rcases List.mem_cons.1 ha with rfl | ha' <;> rcases List.mem_cons.1 hb with rfl | hb'
    · rfl
    · exact absurd e (h1 b hb')
    · exact absurd e.symm (h1 a ha')
    · exact ih h2 ha' hb'
/-- A directory is one of its entries and the others. -/
theorem split_cut {l : List En} (h : Ord cmpE l) {n : ByteArray} {e : En} (hf : findE l n = some e) : l.Perm (e :: cutE l n) := by
  obtain ⟨he, hn⟩ := findE_some hf
  clear hf
  induction l with
  | nil => cases he
  | cons x r ih =>
    obtain ⟨h1, h2⟩ := List.pairwise_cons.1 h
    rcases List.mem_cons.1 he with rfl | he'
    · have hr : cutE r n = r := by
        unfold cutE
        rw [List.filter_eq_self]
        intro y hy
        have := h1 y hy
        have : y.name ≠ n := fun e => by
          unfold cmpE at this
          rw [hn, e, cmpS3.self] at this; omega
        simp [this]
      have : cutE (e :: r) n = r := by
        conv => rhs; rw [← hr]
        unfold cutE
        rw [List.filter_cons]
        simp [hn]
      rw [this]
    · have hx : x.name ≠ n := fun e2 => by
        have := h1 e he'
        unfold cmpE at this
        rw [hn, e2, cmpS3.self] at this; omega
      have : cutE (x :: r) n = x :: cutE r n := by
        unfold cutE
        rw [List.filter_cons]
        simp [hx]
      rw [this]
      exact ((ih h2 he').cons x).trans (List.Perm.swap e x _)
theorem cut_none {l : List En} {n : ByteArray} (hf : findE l n = none) : cutE l n = l := by
  unfold cutE
  rw [List.filter_eq_self]
  intro y hy
  simp [findE_none hf y hy]
theorem needL_perm (m : M) {l l' : List En} (h : l'.Perm l) : m.needL l' = m.needL l := (h.map _).sum_nat
theorem needL_cons (m : M) (e : En) (l : List En) : m.needL (e :: l) = 16 + (m.fl e.f).now.length + m.needL l := by simp [needL]
theorem needL_congr {m m' : M} {l : List En} (h : ∀ e ∈ l, (m'.fl e.f).now.length = (m.fl e.f).now.length) : m'.needL l = m.needL l := by
  unfold needL
  congr 1
  exact List.map_congr_left fun e he => by rw [h e he]
theorem at_set {m : M} {i j : Nat} (x : Fl) (hi : i < m.all.length) : (setF i x m).fl j = if j = i then x else m.fl j := by
  unfold M.fl setF
  simp only
  by_cases h : j = i
  · subst h; rw [if_pos rfl, getD_lt _ (by simpa using hi)]; simp
  · rw [if_neg h]
    simp only [List.getD_eq_getElem?_getD]
    rw [List.getElem?_set_ne (fun e => h e.symm)]
theorem at_add {m : M} {n : ByteArray} {j : Nat} : (add n m).fl j = m.fl j := by
  unfold M.fl add
  simp only [List.getD_eq_getElem?_getD]
  by_cases h : j < m.all.length
  · rw [List.getElem?_append_left h]
  · rw [List.getElem?_append_right (by omega), List.getElem?_eq_none (l := m.all) (by omega)]
    by_cases h2 : j - m.all.length = 0
    · rw [h2]; rfl
    · rw [List.getElem?_eq_none (by simp; omega)]
theorem at_fail {m : M} {k : Int} {j : Nat} (hj : j < m.all.length) : (m.fail k).fl j = failF k (m.fl j) := by
  unfold M.fl M.fail
  simp only
  rw [getD_lt _ (by simpa using hj), getD_lt _ hj]
  simp
theorem at_mem {m : M} {i : Nat} (hi : i < m.all.length) : m.fl i ∈ m.all := by
  unfold M.fl
  rw [getD_lt _ hi]
  exact List.getElem_mem hi

theorem place_of {m : M} {n : ByteArray} {e : En} (h : findE m.dir n = some e) : m.place n = e.f := by unfold M.place; rw [h]; rfl
theorem first_true {m : M} {n : ByteArray} (h : m.first n true = 0) : m.dark = false ∧ goodN n = true ∧ ∃ e, findE m.dir n = some e ∧ m.place n = e.f := by
  unfold M.first at h
  cases hd : m.dark with
  | true => rw [hd] at h; simp at h
  | false =>
    rw [hd] at h
    cases hg : goodN n with
    | false => rw [hg] at h; simp at h
    | true =>
      rw [hg] at h
      cases hf : findE m.dir n with
      | none => rw [hf] at h; simp at h
      | some e => exact ⟨rfl, rfl, e, rfl, place_of hf⟩
theorem first_false {m : M} {n : ByteArray} (h : m.first n false = 0) : m.dark = false ∧ goodN n = true := by
  unfold M.first at h
  cases hd : m.dark with
  | true => rw [hd] at h; simp at h
  | false =>
    rw [hd] at h
    cases hg : goodN n with
    | false => rw [hg] at h; simp at h
    | true => exact ⟨rfl, rfl⟩

theorem Ok.add {m : M} (h : m.Ok) (hd : m.dark = false) {n : ByteArray} (hg : goodN n = true) : (add n m.tick).Ok := by
  have hlt : ∀ e ∈ putE m.dir n m.all.length, e.f < (m.all ++ [zeroFl]).length := by
    intro e he
    rcases mem_putE.1 he with rfl | ⟨he, _⟩
    · simp
    · have := h.fd e he; simp; omega
  refine ⟨h.room0, h.room1, putE_ord h.od _ _, h.os, ?_, h.gs, hlt, ?_, ?_, h.ns, ?_, ?_, ?_, Nat.le_succ_of_le h.ls, (less_lt _ h.left0 h.left1).1, (less_lt _ h.left0 h.left1).2, ?_, h.kp⟩
  · intro e he
    rcases mem_putE.1 he with rfl | ⟨he, _⟩
    · exact hg
    · exact h.gd e he
  · intro e he
    have := h.fs e he
    show _ < (m.all ++ [zeroFl]).length
    simp; omega
  · refine pw_perm (List.pairwise_cons.2 ⟨fun b hb => ?_, h.nd.filter _⟩) (putE_perm m.dir n m.all.length)
    have := h.fd b (mem_cutE.1 hb).1
    show m.all.length ≠ b.f
    omega
  · intro x hx
    rcases List.mem_append.1 hx with hx | hx
    · exact h.small x hx
    · rw [List.mem_singleton.1 hx]; simp [zeroFl]
  · have := h.cnt
    show (m.all ++ [zeroFl]).length ≤ m.count + 1
    simp; omega
  · have := h.ld
    have := putE_length m.dir n m.all.length
    show (putE m.dir n m.all.length).length ≤ m.count + 1
    omega
  · intro e
    have : m.dark = true := e
    rw [hd] at this; cases this
theorem Ok.setF {m : M} (h : m.Ok) (hd : m.dark = false) {i : Nat} {x : Fl} (hx : x.now.length ≤ 1073741824 ∧ x.sure.length ≤ 1073741824) : (setF i x m.tick).Ok := by
  refine ⟨h.room0, h.room1, h.od, h.os, h.gd, h.gs, ?_, ?_, h.nd, h.ns, ?_, ?_, Nat.le_succ_of_le h.ld, Nat.le_succ_of_le h.ls, (less_lt _ h.left0 h.left1).1, (less_lt _ h.left0 h.left1).2, ?_, h.kp⟩
  · intro e he; have := h.fd e he; show _ < (m.all.set i x).length; simpa using this
  · intro e he; have := h.fs e he; show _ < (m.all.set i x).length; simpa using this
  · intro y hy
    rcases List.mem_or_eq_of_mem_set hy with hy | rfl
    · exact h.small y hy
    · exact hx
  · have := h.cnt
    show (m.all.set i x).length ≤ m.count + 1
    simp; omega
  · intro e
    have : m.dark = true := e
    rw [hd] at this; cases this
theorem Ok.dirTo {m : M} (h : m.Ok) (hd : m.dark = false) {l : List En} (ho : Ord cmpE l) (hg : ∀ e ∈ l, goodN e.name = true) (hf : ∀ e ∈ l, e.f < m.all.length) (hp : l.Pairwise fun a b => a.f ≠ b.f) (hl : l.length ≤ m.count + 1) : ({ m.tick with dir := l } : M).Ok :=
  ⟨h.room0, h.room1, ho, h.os, hg, h.gs, hf, h.fs, hp, h.ns, h.small, Nat.le_succ_of_le h.cnt, hl, Nat.le_succ_of_le h.ls, (less_lt _ h.left0 h.left1).1, (less_lt _ h.left0 h.left1).2, fun e => (by
    have : m.dark = true := e
    rw [hd] at this; cases this), h.kp⟩
theorem Ok.lose {m : M} (h : m.Ok) (hd : m.dark = false) (n : ByteArray) : (lose n m.tick).Ok :=
  h.dirTo hd (cutE_ord h.od n) (fun e he => h.gd e (mem_cutE.1 he).1) (fun e he => h.fd e (mem_cutE.1 he).1) (h.nd.filter _) (by have := cutE_length m.dir n; have := h.ld; show (cutE m.dir n).length ≤ _; omega)
theorem Ok.shift {m : M} (h : m.Ok) (hd : m.dark = false) {n t : ByteArray} (ht : goodN t = true) {e0 : En} (hf : findE m.dir n = some e0) : (shift n t e0.f m.tick).Ok := by
  obtain ⟨h0, hn⟩ := findE_some hf
  refine h.dirTo hd (putE_ord (cutE_ord h.od n) _ _) (fun e he => ?_) (fun e he => ?_) ?_ ?_
  · rcases mem_putE.1 he with rfl | ⟨he, _⟩
    · exact ht
    · exact h.gd e (mem_cutE.1 he).1
  · rcases mem_putE.1 he with rfl | ⟨he, _⟩
    · exact h.fd e0 h0
    · exact h.fd e (mem_cutE.1 he).1
  · refine pw_perm (List.pairwise_cons.2 ⟨fun b hb => ?_, (h.nd.filter _).filter _⟩) (putE_perm _ t e0.f)
    have hb1 := (mem_cutE.1 (mem_cutE.1 hb).1)
    intro e
    exact hb1.2 (by rw [← pw_one h.nd h0 hb1.1 e, hn])
  · have h1 := putE_length (cutE m.dir n) t e0.f
    have h2 := cutE_length m.dir n
    have := h.ld
    show (putE (cutE m.dir n) t e0.f).length ≤ _
    omega
theorem Ok.secure {m : M} (h : m.Ok) (hd : m.dark = false) : (secure m.tick).Ok :=
  ⟨h.room0, h.room1, h.od, h.od, h.gd, h.gd, h.fd, h.fd, h.nd, h.nd, h.small, Nat.le_succ_of_le h.cnt, Nat.le_succ_of_le h.ld, Nat.le_succ_of_le h.ld, (less_lt _ h.left0 h.left1).1, (less_lt _ h.left0 h.left1).2, fun e => (by
    have : m.dark = true := e
    rw [hd] at this; cases this), h.kp⟩
theorem Ok.step {m : M} (h : m.Ok) {f : M → M} (hf : (f m.tick).Ok) : (m.step f).2.Ok := by
  unfold M.step
  split
  · exact h.tick.fail _
  · exact hf
theorem need_mem {m : M} {e : En} (he : e ∈ m.dir) : 16 + (m.fl e.f).now.length ≤ m.need := by
  unfold M.need M.needL
  have : ∀ l : List Nat, ∀ x ∈ l, x ≤ l.sum := by
    intro l x hx
    induction l with
    | nil => cases hx
    | cons y r ih =>
      rcases List.mem_cons.1 hx with rfl | hx
      · simp
      · have := ih hx; simp; omega
  exact this _ _ (List.mem_map.2 ⟨e, he, rfl⟩)

theorem make_ok {m : M} (h : m.Ok) (n : ByteArray) : (m.make n).2.Ok := by
  unfold M.make
  by_cases h1 : m.first n false = 0
  · rw [if_neg (by simp [h1])]
    obtain ⟨hd, hg⟩ := first_false h1
    split
    · exact h
    · split
      · exact h
      · exact h.step (h.add hd hg)
  · rw [if_pos h1]; exact h
theorem write_ok {m : M} (h : m.Ok) (n : ByteArray) (b : List UInt8) : (m.write n b).2.Ok := by
  unfold M.write
  by_cases h1 : m.first n true = 0
  · rw [if_neg (by simp [h1])]
    obtain ⟨hd, hg, e, hf, hp⟩ := first_true h1
    split
    · exact h
    · rename_i hr
      refine h.step (h.setF hd ?_)
      rw [hp]
      have := need_mem (findE_some hf).1
      have := h.room1
      exact ⟨by simp; omega, (h.fl e.f).2⟩
  · rw [if_pos h1]; exact h
theorem cut_ok {m : M} (h : m.Ok) (n : ByteArray) (k : Int) : (m.cut n k).2.Ok := by
  unfold M.cut
  by_cases h1 : m.first n true = 0
  · rw [if_neg (by simp [h1])]
    obtain ⟨hd, hg, e, hf, hp⟩ := first_true h1
    split
    · exact h
    · refine h.step (h.setF hd ?_)
      have := h.fl (m.place n)
      exact ⟨by simp; omega, this.2⟩
  · rw [if_pos h1]; exact h
theorem sync_ok {m : M} (h : m.Ok) (n : ByteArray) : (m.sync n).2.Ok := by
  unfold M.sync
  by_cases h1 : m.first n true = 0
  · rw [if_neg (by simp [h1])]
    obtain ⟨hd, hg, e, hf, hp⟩ := first_true h1
    have := h.fl (m.place n)
    exact h.step (h.setF hd ⟨this.1, this.1⟩)
  · rw [if_pos h1]; exact h
theorem move_ok {m : M} (h : m.Ok) (n t : ByteArray) : (m.move n t).2.Ok := by
  unfold M.move
  cases hd : m.dark with
  | true => exact h
  | false =>
    simp only [Bool.false_eq_true, if_false]
    split
    · exact h
    · rename_i hg
      cases hf : findE m.dir n with
      | none => exact h
      | some e =>
        simp only [Option.isNone_some, Bool.false_eq_true, if_false]
        rw [place_of hf]
        exact h.step (h.shift hd (by simpa using fun e => hg (.inr e)) hf)
theorem drop_ok {m : M} (h : m.Ok) (n : ByteArray) : (m.drop n).2.Ok := by
  unfold M.drop
  by_cases h1 : m.first n true = 0
  · rw [if_neg (by simp [h1])]
    obtain ⟨hd, hg, e, hf, hp⟩ := first_true h1
    exact h.step (h.lose hd n)
  · rw [if_pos h1]; exact h
theorem commit_ok {m : M} (h : m.Ok) : m.commit.2.Ok := by
  unfold M.commit
  cases hd : m.dark with
  | true => exact h
  | false => exact h.step (h.secure hd)
theorem plan_ok {m : M} (h : m.Ok) (n k : Int) (hn : n < 9223372036854775808) (hk : -9223372036854775808 ≤ k ∧ k < 9223372036854775808) : (m.plan n k).2.Ok := by
  unfold M.plan
  split
  · exact h
  · split
    · exact h
    · exact ⟨h.room0, h.room1, h.od, h.os, h.gd, h.gs, h.fd, h.fs, h.nd, h.ns, h.small, h.cnt, h.ld, h.ls, by simp; omega, hn, h.dk, hk⟩
theorem step_count (m : M) (f : M → M) (hf : (f m.tick).count = m.tick.count) : (m.step f).2.count ≤ m.count + 1 := by
  unfold M.step
  split
  · exact Nat.le_refl _
  · rw [hf]; exact Nat.le_refl _
end M
end Go.Proofs.YtjgdmbfkondakaaGreatDoor
