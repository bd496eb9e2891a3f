/-
  EXCHANGES AND BINDINGS, as cells, as keys and as entries of a table's two maps.
-/
import Derived.Test.YtjagaankkcbjmaaGreatDoorJ1
import Derived.Test.YtjagaankkcbjmaaGreatDoorJ4
import Derived.DeepKeys4
import Derived.KernelRfl
import Derived.Lib.Bytealg
import Derived.Sort.Statements
import Derived.Test.YtjagaankkcbjmaaGreatDoorJ3
namespace Go.Proofs.YtjagaankkcbjmaaGreatDoor.K
end Go.Proofs.YtjagaankkcbjmaaGreatDoor.K
namespace Go.Proofs.YtjagaankkcbjmaaGreatDoor.B
open Go.Proofs.YtjagaankkcbjmaaGreatDoor.K
open Go.RowKit Go.Maps

/-- An exchange. -/
structure Ex where
  name : ByteArray
  kind : Int
  fed : Bool
  deriving DecidableEq
/-- A binding. -/
structure Bd where
  ex : ByteArray
  que : ByteArray
  pat : ByteArray
  deriving DecidableEq
def xcells (x : Ex) : List Value := [.string x.name, .int .i64 x.kind, .bool x.fed]
def bcells (b : Bd) : List Value := [.string b.ex, .string b.que, .string b.pat]
abbrev xv (x : Ex) : Value := .agg #[.string x.name, .int .i64 x.kind, .bool x.fed]
abbrev bv (b : Bd) : Value := .agg #[.string b.ex, .string b.que, .string b.pat]
instance : Enc xcells 3 := ⟨fun _ => rfl, fun m u hu => by simp [xcells] at hu; rcases hu with rfl | rfl | rfl <;> rfl, by decide⟩
instance : Enc bcells 3 := ⟨fun _ => rfl, fun m u hu => by simp [bcells] at hu; rcases hu with rfl | rfl | rfl <;> rfl, by decide⟩
def zeroEx : Ex := ⟨⟨#[]⟩, 0, false⟩
def zeroBd : Bd := ⟨⟨#[]⟩, ⟨#[]⟩, ⟨#[]⟩⟩
set_option maxRecDepth 20000 in
theorem xInfo : ∃ i, Tryz.prog.info? 34 = some i ∧ i.zero = some (xv zeroEx) ∧ i.size = 3 ∧ i.bytes = 32 := by
  refine ⟨_, rfl, ?_, ?_, ?_⟩ <;> rfl
set_option maxRecDepth 20000 in
theorem bInfo : ∃ i, Tryz.prog.info? 36 = some i ∧ i.zero = some (bv zeroBd) ∧ i.size = 3 ∧ i.bytes = 48 := by
  refine ⟨_, rfl, ?_, ?_, ?_⟩ <;> rfl
theorem xInfo3 : (Tryz.prog.info? 34).map (·.size) = some 3 := by
  obtain ⟨i, h1, _, h2, _⟩ := xInfo
  rw [h1]; simp [h2]

/-- What an exchange's value reads as. -/
def rdEx (v : Value) : Option (DataW Ex × List MemPlace) := match v with
  | .agg cs => match cs.toList with
    | [.string n, .int .i64 k, .bool f] => some (.held ⟨n, k, f⟩, [])
    | _ => none
  | _ => none
theorem rdEx_xv (x : Ex) : rdEx (xv x) = some (.held x, []) := by simp [rdEx]
theorem rdEx_inv {v : Value} {z : DataW Ex × List MemPlace} (h : rdEx v = some z) : ∃ x, v = xv x ∧ z = (.held x, []) := by
  unfold rdEx at h
  split at h
  · rename_i cs
    split at h
    · rename_i n k f hcs
      injection h with h
      refine ⟨⟨n, k, f⟩, ?_, h.symm⟩
      have : cs = #[.string n, .int .i64 k, .bool f] := by apply Array.ext'; simpa using hcs
      rw [this]
    · cases h
  · cases h

/-- An exchange's key: its name. -/
def xkl (x : Ex) : Lit := .string x.name.data.toList
theorem xKeyed : Keyed Tryz.prog 9 := string_keyed Tryz.underlying9
theorem keyOf_str {s : ByteArray} (h : s.size ≤ maxLen) : keyOf Tryz.prog 9 (.string s) = some (.string s.data.toList) := by
  have hu := Tryz.underlying9
  simp [keyOf, hu, mapKey, h]
theorem str_inj {a b : ByteArray} (h : Lit.string a.data.toList = .string b.data.toList) : a = b := by
  injection h with h
  cases a with
  | mk a => cases b with
    | mk b =>
      congr 1
      simp only at h
      rw [← Array.toList_inj]
      exact h
/-- A binding's key: all three. -/
def bkl (b : Bd) : Lit := .string (keyBytes [.string b.ex.data.toList, .string b.que.data.toList, .string b.pat.data.toList])
theorem laidOutQ : laidOutB Tryz.prog = true := by kernel_rfl
theorem bWide : (match Tryz.prog.underlying 36 with | some (.array _ _) | some (.struct _) => true | _ => false) = true := by kernel_rfl
theorem bRow : (36 : TypeId) < Tryz.prog.types.size := of_decide_eq_true (by kernel_rfl)
set_option maxRecDepth 20000 in
theorem bKeyed : Keyed Tryz.prog 36 := Keyed.of_law (deep_law_laid laidOutQ (m := 3) (by omega) bRow (by kernel_rfl) bWide)
/-- Its texts are no longer than a text can be. -/
def Bd.Fit (b : Bd) : Prop := b.ex.size ≤ maxLen ∧ b.que.size ≤ maxLen ∧ b.pat.size ≤ maxLen
theorem bCells : Tryz.prog.cellsOf 36 = 3 := by kernel_rfl
theorem sCells : Tryz.prog.cellsOf 9 = 1 := by kernel_rfl
theorem bKeyType : Tryz.prog.keyType 36 = true := by kernel_rfl
theorem bLits (n : Nat) (b : Bd) (h : b.Fit) : Tryz.prog.keyLits (n + 2) 36 [.string b.ex, .string b.que, .string b.pat] = some [.string b.ex.data.toList, .string b.que.data.toList, .string b.pat.data.toList] := by
  obtain ⟨h1, h2, h3⟩ := h
  have hu := Tryz.underlying36
  have hs := Tryz.underlying9
  simp [Program.keyLits, hu, hs, bCells, sCells, h1, h2, h3]
set_option maxRecDepth 20000 in
theorem keyOf_bd {b : Bd} (h : b.Fit) : keyOf Tryz.prog 36 (bv b) = some (bkl b) := by
  obtain ⟨n, hn⟩ : ∃ n, Tryz.prog.types.size + 1 = n + 2 := ⟨Tryz.prog.types.size - 1, by have h : (36 : Nat) < Tryz.prog.types.size := bRow; omega⟩
  have hu := Tryz.underlying36
  have hl := bLits n b h
  have hf : (bv b).formed Tryz.prog 36 = true := by simp [Value.formed, hu, bCells]
  unfold keyOf
  rw [hu]
  simp only [bKeyType, hf, Bool.and_self, if_true, hn]
  show Option.map _ (Tryz.prog.keyLits (n + 2) 36 [.string b.ex, .string b.que, .string b.pat]) = _
  rw [hl]
  rfl
theorem bkl_inj {a b : Bd} (ha : a.Fit) (hb : b.Fit) (h : bkl a = bkl b) : a = b := by
  have := bKeyed.inj (keyOf_bd ha) (by rw [h]; exact keyOf_bd hb)
  cases a; cases b
  simp at this
  simp [this]
set_option maxRecDepth 20000 in
theorem bLits_eq (n : Nat) (a b c : Value) : Tryz.prog.keyLits (n + 2) 36 [a, b, c] = ((Tryz.prog.keyLits (n + 1) 9 [a]).bind fun x => (Tryz.prog.keyLits (n + 1) 9 [b]).bind fun y => (Tryz.prog.keyLits (n + 1) 9 [c]).map fun z => x ++ (y ++ z)) := by
  have hu := Tryz.underlying36
  rw [show n + 2 = (n + 1) + 1 from rfl]
  conv => lhs; unfold Program.keyLits
  rw [hu]
  simp only [bCells, List.length_cons, List.length_nil]
  generalize hf : Tryz.prog.keyLits (n + 1) 9 = f
  simp [hf, sCells]
  cases f [a] <;> cases f [b] <;> cases f [c] <;> simp
set_option maxRecDepth 20000 in
theorem sLits_inv {n : Nat} {v : Value} {l : List Lit} (h : Tryz.prog.keyLits (n + 1) 9 [v] = some l) : ∃ s : ByteArray, s.size ≤ maxLen ∧ v = .string s ∧ l = [.string s.data.toList] := by
  have hs := Tryz.underlying9
  unfold Program.keyLits at h
  rw [hs] at h
  cases v with
  | string s =>
    simp only at h
    split at h
    · rename_i hl
      injection h with h
      exact ⟨s, hl, rfl, h.symm⟩
    · cases h
  | _ => cases h
set_option maxRecDepth 20000 in
theorem bkey_inv {key : Value} {z : Lit} (h : keyOf Tryz.prog 36 key = some z) : ∃ b : Bd, b.Fit ∧ key = bv b ∧ z = bkl b := by
  obtain ⟨n, hn⟩ : ∃ n, Tryz.prog.types.size + 1 = n + 2 := ⟨Tryz.prog.types.size - 1, by have h : (36 : Nat) < Tryz.prog.types.size := bRow; omega⟩
  have hu := Tryz.underlying36
  unfold keyOf at h
  rw [hu] at h
  simp only [bKeyType, hn, Bool.true_and] at h
  split at h
  · rename_i hf
    obtain ⟨cs, rfl, hsz⟩ : ∃ cs, key = .agg cs ∧ cs.size = 3 := by
      unfold Value.formed at hf
      rw [hu] at hf
      cases key with
      | agg cs => exact ⟨cs, rfl, by simpa [bCells] using hf⟩
      | _ => simp at hf
    obtain ⟨a, b, c, rfl⟩ : ∃ a b c, cs = #[a, b, c] := by
      cases cs with
      | mk l =>
        match l, hsz with
        | [a, b, c], _ => exact ⟨a, b, c, rfl⟩
    have hc : (Value.agg #[a, b, c]).cells.toList = [a, b, c] := rfl
    rw [hc, bLits_eq] at h
    cases h1 : Tryz.prog.keyLits (n + 1) 9 [a] with
    | none => rw [h1] at h; simp at h
    | some la =>
      cases h2 : Tryz.prog.keyLits (n + 1) 9 [b] with
      | none => rw [h1, h2] at h; simp at h
      | some lb =>
        cases h3 : Tryz.prog.keyLits (n + 1) 9 [c] with
        | none => rw [h1, h2, h3] at h; simp at h
        | some lc =>
          rw [h1, h2, h3] at h
          obtain ⟨s1, f1, rfl, rfl⟩ := sLits_inv h1
          obtain ⟨s2, f2, rfl, rfl⟩ := sLits_inv h2
          obtain ⟨s3, f3, rfl, rfl⟩ := sLits_inv h3
          simp at h
          exact ⟨⟨s1, s2, s3⟩, ⟨f1, f2, f3⟩, rfl, h.symm⟩
  · cases h
theorem xkey_inv {key : Value} {z : Lit} (h : keyOf Tryz.prog 9 key = some z) : ∃ s : ByteArray, key = .string s ∧ z = .string s.data.toList := by
  have hu := Tryz.underlying9
  simp only [keyOf, hu, mapKey] at h
  cases key <;> simp at h
  rename_i s
  exact ⟨s, rfl, h.2.symm⟩
end Go.Proofs.YtjagaankkcbjmaaGreatDoor.B

/-
  THE ORDER of exchanges (by names) and of bindings (by exchange, queue, pattern). Of no program.
-/
namespace Go.Proofs.YtjagaankkcbjmaaGreatDoor.K
end Go.Proofs.YtjagaankkcbjmaaGreatDoor.K
namespace Go.Proofs.YtjagaankkcbjmaaGreatDoor.B
open Go.Proofs.YtjagaankkcbjmaaGreatDoor.K
open Go.RowKit Go.Sort

/-- What a three-way comparison keeps to. -/
structure Cmp3 {α : Type} (c : α → α → Int) : Prop where
  neg : ∀ a b, c b a = - c a b
  trans : ∀ a b d, c a b < 0 → c b d < 0 → c a d < 0
  sub : ∀ a b, c a b = 0 → ∀ d, c a d = c b d
theorem Cmp3.self {α : Type} {c : α → α → Int} (h : Cmp3 c) (a : α) : c a a = 0 := by have := h.neg a a; omega
theorem Cmp3.zero {α : Type} {c : α → α → Int} (h : Cmp3 c) {a b : α} (e : c a b = 0) : c b a = 0 := by have := h.neg a b; omega
theorem Cmp3.sub' {α : Type} {c : α → α → Int} (h : Cmp3 c) {a b : α} (e : c a b = 0) (d : α) : c d a = c d b := by
  have h1 := h.sub a b e d; have h2 := h.neg a d; have h3 := h.neg b d; omega
theorem Cmp3.swo {α : Type} {c : α → α → Int} (h : Cmp3 c) : SWO (fun x y => decide (c x y < 0)) where
  irrefl x := by have := h.self x; simp; omega
  trans x y z h1 h2 := by simp at *; exact h.trans x y z h1 h2
  ntrans x y z h1 h2 := by
    simp only [decide_eq_false_iff_not] at *
    intro h3
    have n1 := h.neg x y
    have n2 := h.neg y z
    by_cases e1 : c x y = 0
    · have := h.sub x y e1 z; omega
    · by_cases e2 : c y z = 0
      · have := h.sub' e2 x; omega
      · have h4 := h.trans z y x (by omega) (by omega)
        have n3 := h.neg x z; omega
/-- One comparison, and where it says nothing another one. -/
def cor {α : Type} (c1 c2 : α → α → Int) (a b : α) : Int := if c1 a b = 0 then c2 a b else c1 a b
theorem Cmp3.or {α : Type} {c1 c2 : α → α → Int} (h1 : Cmp3 c1) (h2 : Cmp3 c2) : Cmp3 (cor c1 c2) where
  neg a b := by
    unfold cor
    have n1 := h1.neg a b
    by_cases e : c1 a b = 0
    · rw [if_pos e, if_pos (by omega)]; exact h2.neg a b
    · rw [if_neg e, if_neg (by omega)]; exact n1
  trans a b d := by
    unfold cor
    intro k1 k2
    by_cases e1 : c1 a b = 0
    · rw [if_pos e1] at k1
      have s := h1.sub a b e1 d
      by_cases e2 : c1 b d = 0
      · rw [if_pos e2] at k2
        rw [if_pos (by omega)]
        exact h2.trans a b d k1 k2
      · rw [if_neg e2] at k2
        rw [if_neg (by omega)]; omega
    · rw [if_neg e1] at k1
      by_cases e2 : c1 b d = 0
      · have s := h1.sub' e2 a
        rw [if_neg (by omega)]; omega
      · rw [if_neg e2] at k2
        have := h1.trans a b d k1 k2
        rw [if_neg (by omega)]; exact this
  sub a b := by
    unfold cor
    intro k d
    by_cases e1 : c1 a b = 0
    · rw [if_pos e1] at k
      rw [h1.sub a b e1 d, h2.sub a b k d]
    · rw [if_neg e1] at k; exact absurd k e1
theorem Cmp3.on {α β : Type} {c : α → α → Int} (h : Cmp3 c) (f : β → α) : Cmp3 (fun a b => c (f a) (f b)) where
  neg _ _ := h.neg _ _
  trans _ _ _ := h.trans _ _ _
  sub _ _ e _ := h.sub _ _ e _

theorem cb_eq : ∀ (a b : List UInt8), Lib.compareBytes a b = 0 → a = b
  | [], [], _ => rfl
  | [], _ :: _, h => by simp [Lib.compareBytes] at h
  | _ :: _, [], h => by simp [Lib.compareBytes] at h
  | x :: a, y :: b, h => by
    unfold Lib.compareBytes at h
    by_cases h1 : x < y
    · rw [if_pos h1] at h; cases h
    · rw [if_neg h1] at h
      by_cases h2 : y < x
      · rw [if_pos h2] at h; cases h
      · rw [if_neg h2] at h
        have e : x = y := UInt8.toNat_inj.1 (by rw [UInt8.lt_iff_toNat_lt] at h1 h2; omega)
        rw [e, cb_eq a b h]
theorem cb_neg : ∀ (a b : List UInt8), Lib.compareBytes b a = - Lib.compareBytes a b
  | [], [] => rfl
  | [], _ :: _ => rfl
  | _ :: _, [] => rfl
  | x :: a, y :: b => by
    unfold Lib.compareBytes
    by_cases h1 : x < y
    · have h2 : ¬ y < x := by rw [UInt8.lt_iff_toNat_lt] at h1 ⊢; omega
      simp [h1, h2]
    · by_cases h2 : y < x
      · simp [h1, h2]
      · simp [h1, h2]; exact cb_neg a b
theorem cb_trans : ∀ (a b d : List UInt8), Lib.compareBytes a b < 0 → Lib.compareBytes b d < 0 → Lib.compareBytes a d < 0
  | [], [], d, h, _ => by simp [Lib.compareBytes] at h
  | [], _ :: _, [], _, h => by simp [Lib.compareBytes] at h
  | [], _ :: _, _ :: _, _, _ => by simp [Lib.compareBytes]
  | _ :: _, [], _, h, _ => by simp [Lib.compareBytes] at h
  | _ :: _, _ :: _, [], _, h => by simp [Lib.compareBytes] at h
  | x :: a, y :: b, z :: d, h1, h2 => by
    unfold Lib.compareBytes at h1 h2 ⊢
    simp only [UInt8.lt_iff_toNat_lt] at h1 h2 ⊢
    by_cases k1 : x.toNat < y.toNat
    · by_cases k3 : z.toNat < y.toNat
      · rw [if_neg (by omega), if_pos k3] at h2; simp at h2
      · rw [if_pos (by omega)]; decide
    · rw [if_neg k1] at h1
      by_cases k2 : y.toNat < x.toNat
      · rw [if_pos k2] at h1; simp at h1
      · rw [if_neg k2] at h1
        by_cases k3 : y.toNat < z.toNat
        · rw [if_pos (by omega)]; decide
        · rw [if_neg k3] at h2
          by_cases k4 : z.toNat < y.toNat
          · rw [if_pos k4] at h2; simp at h2
          · rw [if_neg k4] at h2
            rw [if_neg (by omega), if_neg (by omega)]
            exact cb_trans a b d h1 h2
/-- Texts, as strings.Compare has them. -/
def cmpS (a b : ByteArray) : Int := Lib.compareBytes a.data.toList b.data.toList
theorem arr_inj {a b : ByteArray} (h : a.data.toList = b.data.toList) : a = b := str_inj (by rw [h])
theorem cmpS_eq {a b : ByteArray} (h : cmpS a b = 0) : a = b := arr_inj (cb_eq _ _ h)
theorem cmpS3 : Cmp3 cmpS where
  neg _ _ := cb_neg _ _
  trans _ _ _ := cb_trans _ _ _
  sub _ _ h _ := by rw [cmpS_eq h]
def cmpX (a b : Ex) : Int := cmpS a.name b.name
theorem cmpX3 : Cmp3 cmpX := cmpS3.on Ex.name
def cmpB : Bd → Bd → Int := cor (fun a b => cmpS a.ex b.ex) (cor (fun a b => cmpS a.que b.que) (fun a b => cmpS a.pat b.pat))
theorem cmpB3 : Cmp3 cmpB := (cmpS3.on Bd.ex).or ((cmpS3.on Bd.que).or (cmpS3.on Bd.pat))
theorem cmpB_eq {a b : Bd} (h : cmpB a b = 0) : a = b := by
  unfold cmpB cor at h
  simp only at h
  by_cases h1 : cmpS a.ex b.ex = 0
  · rw [if_pos h1] at h
    by_cases h2 : cmpS a.que b.que = 0
    · rw [if_pos h2] at h
      cases a; cases b
      simp only at h h1 h2
      rw [cmpS_eq h, cmpS_eq h1, cmpS_eq h2]
    · rw [if_neg h2] at h; exact absurd h h2
  · rw [if_neg h1] at h; exact absurd h h1

section
variable {α : Type} {c : α → α → Int}
/-- In order, each once. -/
def Ord (c : α → α → Int) (l : List α) : Prop := l.Pairwise fun a b => c a b < 0
/-- One more, at its place. -/
def insC (c : α → α → Int) (x : α) : List α → List α
  | [] => [x]
  | y :: r => if c y x < 0 then y :: insC c x r else x :: y :: r
theorem insC_perm (x : α) : ∀ l : List α, (insC c x l).Perm (x :: l)
  | [] => List.Perm.refl _
  | y :: r => by
    unfold insC
    split
    · exact ((insC_perm x r).cons y).trans (List.Perm.swap x y r)
    · exact List.Perm.refl _
theorem insC_ord (h : Cmp3 c) {x : α} : ∀ {l : List α}, Ord c l → (∀ y ∈ l, c y x ≠ 0) → Ord c (insC c x l)
  | [], _, _ => List.pairwise_singleton _ _
  | y :: r, hl, hn => by
    obtain ⟨h1, h2⟩ := List.pairwise_cons.1 hl
    unfold insC
    split
    · rename_i hlt
      refine List.pairwise_cons.2 ⟨fun z hz => ?_, insC_ord h h2 (fun z hz => hn z (by simp [hz]))⟩
      rcases List.mem_cons.1 ((insC_perm x r).mem_iff.1 hz) with rfl | hz
      · exact hlt
      · exact h1 z hz
    · rename_i hge
      have hxy : c x y < 0 := by
        have := hn y (by simp); have := h.neg x y; omega
      refine List.pairwise_cons.2 ⟨fun z hz => ?_, hl⟩
      rcases List.mem_cons.1 hz with rfl | hz
      · exact hxy
      · exact h.trans x y z hxy (h1 z hz)
theorem Ord.uniq (h : Cmp3 c) {l l' : List α} (hl : Ord c l) (hp : l'.Perm l) (hs : l'.Pairwise fun a b => ¬ c b a < 0) : l' = l := by
  have hnd : ∀ a ∈ l, ∀ b ∈ l, c a b = 0 → a = b := by
    clear hp hs
    induction l with
    | nil => intro a ha; cases ha
    | cons x r ih =>
      obtain ⟨h1, h2⟩ := List.pairwise_cons.1 hl
      intro a ha b hb e
      rcases List.mem_cons.1 ha with rfl | ha' <;> rcases List.mem_cons.1 hb with rfl | hb'
      · rfl
      · have := h1 b hb'; omega
      · have := h1 a ha'; have := h.neg a b; omega
      · exact ih h2 a ha' b hb' e
  exact List.Perm.eq_of_pairwise (le := fun a b : α => ¬ c b a < 0) (fun a b ha hb h1 h2 => hnd a (hp.mem_iff.1 ha) b hb (by have := h.neg a b; omega)) hs (hl.imp (fun {a b} hlt => by have := h.neg a b; omega)) hp
theorem Ord.filter (p : α → Bool) {l : List α} (h : Ord c l) : Ord c (l.filter p) := List.Pairwise.filter p h
end
end Go.Proofs.YtjagaankkcbjmaaGreatDoor.B

/-
  QUEUES by their names in memory: a map of names to blocks, told by a list, in whatever order.
-/
namespace Go.Proofs.YtjagaankkcbjmaaGreatDoor
open Go.RowKit Go.Maps

/-- A name, and the block of its queue. -/
abbrev Pe := ByteArray × Nat
def ptrO : Option Nat → Value
  | none => .pointer none
  | some b => .pointer (some ⟨b, 0, none⟩)
/-- What a pointer to a queue reads as. -/
def rdP (v : Value) : Option (DataW (Option Nat) × List MemPlace) := match v with
  | .pointer none => some (.held none, [])
  | .pointer (some a) => if a.off = 0 ∧ a.spot = none then some (.held (some a.block), []) else none
  | _ => none
theorem rdP_ptr (o : Option Nat) : rdP (ptrO o) = some (.held o, []) := by cases o <;> simp [rdP, ptrO]
theorem rdP_inv {v : Value} {z : DataW (Option Nat) × List MemPlace} (h : rdP v = some z) : ∃ o, v = ptrO o ∧ z = (.held o, []) := by
  unfold rdP at h
  split at h
  · injection h with h
    exact ⟨none, rfl, h.symm⟩
  · rename_i a
    split at h
    · rename_i ha
      injection h with h
      refine ⟨some a.block, ?_, h.symm⟩
      obtain ⟨b, o, s⟩ := a
      obtain ⟨h1, h2⟩ := ha
      simp only at h1 h2
      subst h1 h2
      rfl
    · cases h
  · cases h
def pkl (x : Pe) : Lit := .string x.1.data.toList
def pd (x : Pe) : DataW (Option Nat) := .held (some x.2)
theorem sKeyed : Keyed Tryz.prog 9 := string_keyed Tryz.underlying9
theorem keyOf_str {s : ByteArray} (h : s.size ≤ maxLen) : keyOf Tryz.prog 9 (.string s) = some (.string s.data.toList) := by
  have hu := Tryz.underlying9
  simp [keyOf, hu, mapKey, h]
theorem str_inj {a b : ByteArray} (h : Lit.string a.data.toList = .string b.data.toList) : a = b := by
  injection h with h
  exact B.arr_inj h
/-- Other names, none too long. -/
structure DL (l : List Pe) : Prop where
  diff : Diff pkl l
  fit : ∀ x ∈ l, x.1.size ≤ maxLen
theorem DL.keys {l : List Pe} (h : DL l) : ∀ x ∈ l, KeysOf Tryz.prog 9 (pkl x) := fun x hx => ⟨_, keyOf_str (h.fit x hx)⟩
theorem DL.perm {l l' : List Pe} (h : DL l) (hp : l'.Perm l) : DL l' := ⟨h.diff.perm hp, fun x hx => h.fit x (hp.mem_iff.1 hx)⟩
def DAt (w : World) (b : Nat) (l : List Pe) : Prop := w.ownsMap Tryz.prog 9 rdP b l.length (DofG pkl pd l)
theorem DAt.same {w w' : World} {b : Nat} {l : List Pe} (h : DAt w b l) (hs : w'.heap[b]? = w.heap[b]?) : DAt w' b l := by
  obtain ⟨es, clock, hb, r⟩ := h
  exact ⟨es, clock, by rw [hs]; exact hb, r⟩
theorem DAt.lt {w : World} {b : Nat} {l : List Pe} (h : DAt w b l) : b < w.heap.size := World.ownsMap.lt h
theorem dAt_new (w : World) : DAt (w.alloc (.map #[] 0)) w.heap.size [] := World.ownsMap_made w _ _ _
theorem DAt.perm {w : World} {b n : Nat} {l l' : List Pe} (h : w.ownsMap Tryz.prog 9 rdP b n (DofG pkl pd l')) (hl : DL l) (hp : l'.Perm l) : DAt w b l := by
  rw [DofG_perm sKeyed.one hl.keys hl.diff hp] at h
  exact ownsMapG_fit h
theorem DAt.permTo {w : World} {b : Nat} {l l' : List Pe} (h : DAt w b l') (hl : DL l) (hp : l'.Perm l) : DAt w b l := DAt.perm h hl hp
def findP (l : List Pe) (s : ByteArray) : Option Pe := l.find? fun x => decide (x.1 = s)
theorem findP_some {l : List Pe} {s : ByteArray} {x : Pe} (h : findP l s = some x) : x ∈ l ∧ x.1 = s := ⟨List.mem_of_find?_eq_some h, by simpa using List.find?_some h⟩
theorem findP_none {l : List Pe} {s : ByteArray} (h : findP l s = none) : ∀ x ∈ l, x.1 ≠ s := fun x hx => by simpa using List.find?_eq_none.1 h x hx
theorem DAt.len {w : World} {b : Nat} {l : List Pe} (h : DAt w b l) (ty : TypeId) : (Builtin.len_ #[92] ty #[.map (some b)]).run Tryz.prog w = .ok (.int .i64 (l.length : Nat)) w := by
  have := World.ownsMap.len h Tryz.underlying92 ty
  rw [size_DofG] at this
  exact this
theorem DAt.look {w : World} {b : Nat} {l : List Pe} (h : DAt w b l) (hl : DL l) {s : ByteArray} (hs : s.size ≤ maxLen) :
    (Instr.lookup 92 (.map (some b)) (.string s) false).run Tryz.prog w = .ok (ptrO ((findP l s).map Prod.snd)) w := by
  obtain ⟨v, ps, h1, h2⟩ := World.ownsMap.lookup h sKeyed Tryz.underlying92 (Tryz.zeroValue153 w) (zd := .held none) (zp := []) (rdP_ptr none) (keyOf_str hs)
  obtain ⟨o, rfl, hx⟩ := rdP_inv h2
  rw [h1]
  cases hf : findP l s with
  | none =>
    have hne : ∀ y ∈ l, pkl y ≠ .string s.data.toList := fun y hy e => findP_none hf y hy (str_inj e)
    rw [atKey_none hne] at hx
    simp at hx
    rw [← hx.1]
    rfl
  | some y =>
    obtain ⟨hy, rfl⟩ := findP_some hf
    rw [show Lit.string y.1.data.toList = pkl y from rfl, atKey_mem sKeyed.one hl.keys hl.diff hy] at hx
    simp [pd] at hx
    rw [← hx.1]
    rfl
theorem DAt.put {w : World} {b : Nat} {l : List Pe} (h : DAt w b l) (hl : DL l) {s : ByteArray} (hs : s.size ≤ maxLen) (q : Nat) (hn : ∀ y ∈ l, y.1 ≠ s) (hlen : l.length ≤ 1000000000) :
    ∃ w', (Instr.mapUpdate 92 (.map (some b)) (.string s) (.pointer (some ⟨q, 0, none⟩))).run Tryz.prog w = .ok () w' ∧ DAt w' b ((s, q) :: l) ∧ w.grownBy w' (some b) := by
  obtain ⟨w', h1, h2, h3⟩ := World.ownsMap.update h sKeyed Tryz.underlying92 (by unfold maxLen; omega) (keyOf_str hs) (rdP_ptr (some q))
  refine ⟨w', h1, ?_, h3⟩
  have e : (DofG pkl pd l).put (.string s.data.toList) (.held (some q)) = DofG pkl pd ((s, q) :: l) := put_new sKeyed.one hl.keys hl.diff (x := (s, q)) ⟨_, keyOf_str hs⟩ (fun y hy e => hn y hy (str_inj e))
  rw [e] at h2
  exact ownsMapG_fit h2
set_option maxRecDepth 20000 in
theorem DAt.del {w : World} {b : Nat} {l : List Pe} (h : DAt w b l) (hl : DL l) {s : ByteArray} (hs : s.size ≤ maxLen) :
    ∃ f : TypeId → World, ∀ ty, (Builtin.delete_ #[92, 9] ty #[.map (some b), .string s]).run Tryz.prog w = .ok (.tuple #[]) (f ty) ∧ DAt (f ty) b (l.filter fun y => !decide (y.1 = s)) ∧ w.grownBy (f ty) (some b) := by
  have each : ∀ ty : TypeId, ∃ w', (Builtin.delete_ #[92, 9] ty #[.map (some b), .string s]).run Tryz.prog w = .ok (.tuple #[]) w' ∧ DAt w' b (l.filter fun y => !decide (y.1 = s)) ∧ w.grownBy w' (some b) := fun ty => by
    obtain ⟨w', h1, h2, h3⟩ := World.ownsMap.drop h sKeyed Tryz.underlying92 (keyOf_str hs) ty
    refine ⟨w', h1, ?_, h3.grown⟩
    rw [del_DofG sKeyed.one hl.keys hl.diff] at h2
    have e : (l.filter fun y => !(pkl y).sameKey (.string s.data.toList)) = l.filter fun y => !decide (y.1 = s) := List.filter_congr fun y hy => by
      congr 1
      rw [Bool.eq_iff_iff, sameKey_iff sKeyed.one ⟨_, keyOf_str hs⟩, decide_eq_true_iff]
      exact ⟨fun e => str_inj e, fun e => by rw [← e]; rfl⟩
    rw [e] at h2
    exact ownsMapG_fit h2
  obtain ⟨f, hf⟩ := Classical.axiomOfChoice each
  exact ⟨f, hf⟩
end Go.Proofs.YtjagaankkcbjmaaGreatDoor

/-
  WHAT WAITS for sites, in memory: a map of numbers to slices, told by a list, in whatever order.
-/
namespace Go.Proofs.YtjagaankkcbjmaaGreatDoor
open Go.RowKit Go.Maps

/-- A site, and the slice of what waits for it. -/
abbrev Le := Int × Value
def rdS (v : Value) : Option (DataW Value × List MemPlace) := match v with
  | .slice a n c => some (.held (.slice a n c), [])
  | _ => none
theorem rdS_inv {v : Value} {z : DataW Value × List MemPlace} (h : rdS v = some z) : z = (.held v, []) := by
  unfold rdS at h
  split at h
  · injection h with h; exact h.symm
  · cases h
def lkl (x : Le) : Lit := .int .i64 x.1
def ld (x : Le) : DataW Value := .held x.2
/-- A number that an int may be. -/
def I64 (n : Int) : Prop := -9223372036854775808 ≤ n ∧ n ≤ 9223372036854775807
theorem iKeyed : Keyed Tryz.prog 3 := int_keyed Tryz.underlying3
theorem keyOf_int {n : Int} (h : I64 n) : keyOf Tryz.prog 3 (.int .i64 n) = some (.int .i64 n) := by
  refine keyOf_int_mk Tryz.underlying3 ?_
  unfold I64 at h
  simp [Lit.wf, IntKind.min, IntKind.max, IntKind.signed, IntKind.bits]
  omega
theorem int_inj {a b : Int} (h : Lit.int .i64 a = .int .i64 b) : a = b := by injection h
/-- Other sites, ints, slices. -/
structure LL (l : List Le) : Prop where
  diff : Diff lkl l
  fit : ∀ x ∈ l, I64 x.1
theorem LL.keys {l : List Le} (h : LL l) : ∀ x ∈ l, KeysOf Tryz.prog 3 (lkl x) := fun x hx => ⟨_, keyOf_int (h.fit x hx)⟩
theorem LL.perm {l l' : List Le} (h : LL l) (hp : l'.Perm l) : LL l' := ⟨h.diff.perm hp, fun x hx => h.fit x (hp.mem_iff.1 hx)⟩
def LAt (w : World) (b : Nat) (l : List Le) : Prop := w.ownsMap Tryz.prog 3 rdS b l.length (DofG lkl ld l)
theorem LAt.same {w w' : World} {b : Nat} {l : List Le} (h : LAt w b l) (hs : w'.heap[b]? = w.heap[b]?) : LAt w' b l := by
  obtain ⟨es, clock, hb, r⟩ := h
  exact ⟨es, clock, by rw [hs]; exact hb, r⟩
theorem LAt.lt {w : World} {b : Nat} {l : List Le} (h : LAt w b l) : b < w.heap.size := World.ownsMap.lt h
theorem lAt_new (w : World) : LAt (w.alloc (.map #[] 0)) w.heap.size [] := World.ownsMap_made w _ _ _
theorem LAt.perm {w : World} {b n : Nat} {l l' : List Le} (h : w.ownsMap Tryz.prog 3 rdS b n (DofG lkl ld l')) (hl : LL l) (hp : l'.Perm l) : LAt w b l := by
  rw [DofG_perm iKeyed.one hl.keys hl.diff hp] at h
  exact ownsMapG_fit h
theorem LAt.permTo {w : World} {b : Nat} {l l' : List Le} (h : LAt w b l') (hl : LL l) (hp : l'.Perm l) : LAt w b l := LAt.perm h hl hp
def findL (l : List Le) (n : Int) : Option Le := l.find? fun x => decide (x.1 = n)
theorem findL_some {l : List Le} {n : Int} {x : Le} (h : findL l n = some x) : x ∈ l ∧ x.1 = n := ⟨List.mem_of_find?_eq_some h, by simpa using List.find?_some h⟩
theorem findL_none {l : List Le} {n : Int} (h : findL l n = none) : ∀ x ∈ l, x.1 ≠ n := fun x hx => by simpa using List.find?_eq_none.1 h x hx
theorem LAt.look {w : World} {b : Nat} {l : List Le} (h : LAt w b l) (hl : LL l) {n : Int} (hn : I64 n) :
    (Instr.lookup 94 (.map (some b)) (.int .i64 n) false).run Tryz.prog w = .ok (((findL l n).map Prod.snd).getD (.slice none 0 0)) w := by
  obtain ⟨v, ps, h1, h2⟩ := World.ownsMap.lookup h iKeyed Tryz.underlying94 (Tryz.zeroValue67 w) (zd := .held (.slice none 0 0)) (zp := []) rfl (keyOf_int hn)
  have hx := rdS_inv h2
  rw [h1]
  cases hf : findL l n with
  | none =>
    have hne : ∀ y ∈ l, lkl y ≠ .int .i64 n := fun y hy e => findL_none hf y hy (int_inj e)
    rw [atKey_none hne] at hx
    simp at hx
    rw [← hx.1]
    rfl
  | some y =>
    obtain ⟨hy, rfl⟩ := findL_some hf
    rw [show Lit.int .i64 y.1 = lkl y from rfl, atKey_mem iKeyed.one hl.keys hl.diff hy] at hx
    simp [ld] at hx
    rw [← hx.1]
    rfl
set_option maxRecDepth 20000 in
theorem LAt.put {w : World} {b : Nat} {l : List Le} (h : LAt w b l) (hl : LL l) {n : Int} (hn : I64 n) (a : Option Addr) (m c : Nat) (hlen : l.length ≤ 1000000000) :
    ∃ w', (Instr.mapUpdate 94 (.map (some b)) (.int .i64 n) (.slice a m c)).run Tryz.prog w = .ok () w' ∧ LAt w' b ((n, .slice a m c) :: l.filter fun y => !decide (y.1 = n)) ∧ w.grownBy w' (some b) := by
  obtain ⟨w', h1, h2, h3⟩ := World.ownsMap.update h iKeyed Tryz.underlying94 (by unfold maxLen; omega) (keyOf_int hn) (show rdS (.slice a m c) = some (.held (.slice a m c), []) from rfl)
  refine ⟨w', h1, ?_, h3⟩
  have e : (DofG lkl ld l).put (.int .i64 n) (.held (.slice a m c)) = DofG lkl ld ((n, .slice a m c) :: l.filter fun y => !decide (y.1 = n)) := by
    rw [show Lit.int .i64 n = lkl (n, Value.slice a m c) from rfl, show DataW.held (Value.slice a m c) = ld (n, Value.slice a m c) from rfl, put_DofG iKeyed.one hl.keys hl.diff (x := (n, Value.slice a m c)) ⟨_, keyOf_int hn⟩]
    congr 2
    refine List.filter_congr fun y hy => ?_
    congr 1
    show (lkl y).sameKey (.int .i64 n) = decide (y.1 = n)
    rw [Bool.eq_iff_iff, sameKey_iff iKeyed.one ⟨_, keyOf_int hn⟩, decide_eq_true_iff]
    exact ⟨fun e => int_inj e, fun e => by rw [← e]; rfl⟩
  rw [e] at h2
  exact ownsMapG_fit h2
set_option maxRecDepth 20000 in
theorem LAt.del {w : World} {b : Nat} {l : List Le} (h : LAt w b l) (hl : LL l) {n : Int} (hn : I64 n) :
    ∃ f : TypeId → World, ∀ ty, (Builtin.delete_ #[94, 3] ty #[.map (some b), .int .i64 n]).run Tryz.prog w = .ok (.tuple #[]) (f ty) ∧ LAt (f ty) b (l.filter fun y => !decide (y.1 = n)) ∧ w.grownBy (f ty) (some b) := by
  have each : ∀ ty : TypeId, ∃ w', (Builtin.delete_ #[94, 3] ty #[.map (some b), .int .i64 n]).run Tryz.prog w = .ok (.tuple #[]) w' ∧ LAt w' b (l.filter fun y => !decide (y.1 = n)) ∧ w.grownBy w' (some b) := fun ty => by
    obtain ⟨w', h1, h2, h3⟩ := World.ownsMap.drop h iKeyed Tryz.underlying94 (keyOf_int hn) ty
    refine ⟨w', h1, ?_, h3.grown⟩
    rw [del_DofG iKeyed.one hl.keys hl.diff] at h2
    have e : (l.filter fun y => !(lkl y).sameKey (.int .i64 n)) = l.filter fun y => !decide (y.1 = n) := List.filter_congr fun y hy => by
      congr 1
      rw [Bool.eq_iff_iff, sameKey_iff iKeyed.one ⟨_, keyOf_int hn⟩, decide_eq_true_iff]
      exact ⟨fun e => int_inj e, fun e => by rw [← e]; rfl⟩
    rw [e] at h2
    exact ownsMapG_fit h2
  obtain ⟨f, hf⟩ := Classical.axiomOfChoice each
  exact ⟨f, hf⟩
end Go.Proofs.YtjagaankkcbjmaaGreatDoor
