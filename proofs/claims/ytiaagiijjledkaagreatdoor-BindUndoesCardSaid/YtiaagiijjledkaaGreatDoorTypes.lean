/-
  EXCHANGES AND BINDINGS, as cells, as keys and as entries of a table's two maps.
-/
import Derived.Test.YtiaagiijjledkaaGreatDoorGMap
import Derived.Test.YtiaagiijjledkaaGreatDoorCopyK
import Derived.DeepKeys4
import Derived.KernelRfl
namespace Go.Proofs.YtiaagiijjledkaaGreatDoor
open Go.RowKit Go.Maps

/-- An exchange. -/
structure Ex where
  name : ByteArray
  kind : Int
  fed : Bool
  deriving DecidableEq
/-- A binding. -/
structure Bd where
  ex : ByteArray
  que : ByteArray
  pat : ByteArray
  deriving DecidableEq
def xcells (x : Ex) : List Value := [.string x.name, .int .i64 x.kind, .bool x.fed]
def bcells (b : Bd) : List Value := [.string b.ex, .string b.que, .string b.pat]
abbrev xv (x : Ex) : Value := .agg #[.string x.name, .int .i64 x.kind, .bool x.fed]
abbrev bv (b : Bd) : Value := .agg #[.string b.ex, .string b.que, .string b.pat]
instance : Enc xcells 3 := ⟨fun _ => rfl, fun m u hu => by simp [xcells] at hu; rcases hu with rfl | rfl | rfl <;> rfl, by decide⟩
instance : Enc bcells 3 := ⟨fun _ => rfl, fun m u hu => by simp [bcells] at hu; rcases hu with rfl | rfl | rfl <;> rfl, by decide⟩
def zeroEx : Ex := ⟨⟨#[]⟩, 0, false⟩
def zeroBd : Bd := ⟨⟨#[]⟩, ⟨#[]⟩, ⟨#[]⟩⟩
set_option maxRecDepth 20000 in
theorem xInfo : ∃ i, Tryz.prog.info? 33 = some i ∧ i.zero = some (xv zeroEx) ∧ i.size = 3 ∧ i.bytes = 32 := by
  refine ⟨_, rfl, ?_, ?_, ?_⟩ <;> rfl
set_option maxRecDepth 20000 in
theorem bInfo : ∃ i, Tryz.prog.info? 35 = some i ∧ i.zero = some (bv zeroBd) ∧ i.size = 3 ∧ i.bytes = 48 := by
  refine ⟨_, rfl, ?_, ?_, ?_⟩ <;> rfl
theorem xInfo3 : (Tryz.prog.info? 33).map (·.size) = some 3 := by
  obtain ⟨i, h1, _, h2, _⟩ := xInfo
  rw [h1]; simp [h2]
theorem bInfo3 : (Tryz.prog.info? 35).map (·.size) = some 3 := by
  obtain ⟨i, h1, _, h2, _⟩ := bInfo
  rw [h1]; simp [h2]

/-- What an exchange's value reads as. -/
def rdEx (v : Value) : Option (DataW Ex × List MemPlace) := match v with
  | .agg cs => match cs.toList with
    | [.string n, .int .i64 k, .bool f] => some (.held ⟨n, k, f⟩, [])
    | _ => none
  | _ => none
theorem rdEx_xv (x : Ex) : rdEx (xv x) = some (.held x, []) := by simp [rdEx]
theorem rdEx_inv {v : Value} {z : DataW Ex × List MemPlace} (h : rdEx v = some z) : ∃ x, v = xv x ∧ z = (.held x, []) := by
  unfold rdEx at h
  split at h
  · rename_i cs
    split at h
    · rename_i n k f hcs
      injection h with h
      refine ⟨⟨n, k, f⟩, ?_, h.symm⟩
      have : cs = #[.string n, .int .i64 k, .bool f] := by apply Array.ext'; simpa using hcs
      rw [this]
    · cases h
  · cases h

/-- An exchange's key: its name. -/
def xkl (x : Ex) : Lit := .string x.name.data.toList
theorem xKeyed : Keyed Tryz.prog 9 := string_keyed Tryz.underlying9
theorem keyOf_str {s : ByteArray} (h : s.size ≤ maxLen) : keyOf Tryz.prog 9 (.string s) = some (.string s.data.toList) := by
  have hu := Tryz.underlying9
  simp [keyOf, hu, mapKey, h]
theorem str_inj {a b : ByteArray} (h : Lit.string a.data.toList = .string b.data.toList) : a = b := by
  injection h with h
  cases a with
  | mk a => cases b with
    | mk b =>
      congr 1
      simp only at h
      rw [← Array.toList_inj]
      exact h
/-- A binding's key: all three. -/
def bkl (b : Bd) : Lit := .string (keyBytes [.string b.ex.data.toList, .string b.que.data.toList, .string b.pat.data.toList])
theorem laidOutQ : laidOutB Tryz.prog = true := by kernel_rfl
theorem bWide : (match Tryz.prog.underlying 35 with | some (.array _ _) | some (.struct _) => true | _ => false) = true := by kernel_rfl
theorem bRow : (35 : TypeId) < Tryz.prog.types.size := of_decide_eq_true (by kernel_rfl)
set_option maxRecDepth 20000 in
theorem bKeyed : Keyed Tryz.prog 35 := Keyed.of_law (deep_law_laid laidOutQ (m := 3) (by omega) bRow (by kernel_rfl) bWide)
/-- Its texts are no longer than a text can be. -/
def Bd.Fit (b : Bd) : Prop := b.ex.size ≤ maxLen ∧ b.que.size ≤ maxLen ∧ b.pat.size ≤ maxLen
theorem bCells : Tryz.prog.cellsOf 35 = 3 := by kernel_rfl
theorem sCells : Tryz.prog.cellsOf 9 = 1 := by kernel_rfl
theorem bKeyType : Tryz.prog.keyType 35 = true := by kernel_rfl
theorem bLits (n : Nat) (b : Bd) (h : b.Fit) : Tryz.prog.keyLits (n + 2) 35 [.string b.ex, .string b.que, .string b.pat] = some [.string b.ex.data.toList, .string b.que.data.toList, .string b.pat.data.toList] := by
  obtain ⟨h1, h2, h3⟩ := h
  have hu := Tryz.underlying35
  have hs := Tryz.underlying9
  simp [Program.keyLits, hu, hs, bCells, sCells, h1, h2, h3]
set_option maxRecDepth 20000 in
theorem keyOf_bd {b : Bd} (h : b.Fit) : keyOf Tryz.prog 35 (bv b) = some (bkl b) := by
  obtain ⟨n, hn⟩ : ∃ n, Tryz.prog.types.size + 1 = n + 2 := ⟨Tryz.prog.types.size - 1, by have h : (35 : Nat) < Tryz.prog.types.size := bRow; omega⟩
  have hu := Tryz.underlying35
  have hl := bLits n b h
  have hf : (bv b).formed Tryz.prog 35 = true := by simp [Value.formed, hu, bCells]
  unfold keyOf
  rw [hu]
  simp only [bKeyType, hf, Bool.and_self, if_true, hn]
  show Option.map _ (Tryz.prog.keyLits (n + 2) 35 [.string b.ex, .string b.que, .string b.pat]) = _
  rw [hl]
  rfl
theorem bkl_inj {a b : Bd} (ha : a.Fit) (hb : b.Fit) (h : bkl a = bkl b) : a = b := by
  have := bKeyed.inj (keyOf_bd ha) (by rw [h]; exact keyOf_bd hb)
  cases a; cases b
  simp at this
  simp [this]
set_option maxRecDepth 20000 in
theorem bLits_eq (n : Nat) (a b c : Value) : Tryz.prog.keyLits (n + 2) 35 [a, b, c] = ((Tryz.prog.keyLits (n + 1) 9 [a]).bind fun x => (Tryz.prog.keyLits (n + 1) 9 [b]).bind fun y => (Tryz.prog.keyLits (n + 1) 9 [c]).map fun z => x ++ (y ++ z)) := by
  have hu := Tryz.underlying35
  rw [show n + 2 = (n + 1) + 1 from rfl]
  conv => lhs; unfold Program.keyLits
  rw [hu]
  simp only [bCells, List.length_cons, List.length_nil]
  generalize hf : Tryz.prog.keyLits (n + 1) 9 = f
  simp [hf, sCells]
  cases f [a] <;> cases f [b] <;> cases f [c] <;> simp
set_option maxRecDepth 20000 in
theorem sLits_inv {n : Nat} {v : Value} {l : List Lit} (h : Tryz.prog.keyLits (n + 1) 9 [v] = some l) : ∃ s : ByteArray, s.size ≤ maxLen ∧ v = .string s ∧ l = [.string s.data.toList] := by
  have hs := Tryz.underlying9
  unfold Program.keyLits at h
  rw [hs] at h
  cases v with
  | string s =>
    simp only at h
    split at h
    · rename_i hl
      injection h with h
      exact ⟨s, hl, rfl, h.symm⟩
    · cases h
  | _ => cases h
set_option maxRecDepth 20000 in
theorem bkey_inv {key : Value} {z : Lit} (h : keyOf Tryz.prog 35 key = some z) : ∃ b : Bd, b.Fit ∧ key = bv b ∧ z = bkl b := by
  obtain ⟨n, hn⟩ : ∃ n, Tryz.prog.types.size + 1 = n + 2 := ⟨Tryz.prog.types.size - 1, by have h : (35 : Nat) < Tryz.prog.types.size := bRow; omega⟩
  have hu := Tryz.underlying35
  unfold keyOf at h
  rw [hu] at h
  simp only [bKeyType, hn, Bool.true_and] at h
  split at h
  · rename_i hf
    obtain ⟨cs, rfl, hsz⟩ : ∃ cs, key = .agg cs ∧ cs.size = 3 := by
      unfold Value.formed at hf
      rw [hu] at hf
      cases key with
      | agg cs => exact ⟨cs, rfl, by simpa [bCells] using hf⟩
      | _ => simp at hf
    obtain ⟨a, b, c, rfl⟩ : ∃ a b c, cs = #[a, b, c] := by
      cases cs with
      | mk l =>
        match l, hsz with
        | [a, b, c], _ => exact ⟨a, b, c, rfl⟩
    have hc : (Value.agg #[a, b, c]).cells.toList = [a, b, c] := rfl
    rw [hc, bLits_eq] at h
    cases h1 : Tryz.prog.keyLits (n + 1) 9 [a] with
    | none => rw [h1] at h; simp at h
    | some la =>
      cases h2 : Tryz.prog.keyLits (n + 1) 9 [b] with
      | none => rw [h1, h2] at h; simp at h
      | some lb =>
        cases h3 : Tryz.prog.keyLits (n + 1) 9 [c] with
        | none => rw [h1, h2, h3] at h; simp at h
        | some lc =>
          rw [h1, h2, h3] at h
          obtain ⟨s1, f1, rfl, rfl⟩ := sLits_inv h1
          obtain ⟨s2, f2, rfl, rfl⟩ := sLits_inv h2
          obtain ⟨s3, f3, rfl, rfl⟩ := sLits_inv h3
          simp at h
          exact ⟨⟨s1, s2, s3⟩, ⟨f1, f2, f3⟩, rfl, h.symm⟩
  · cases h
theorem xkey_inv {key : Value} {z : Lit} (h : keyOf Tryz.prog 9 key = some z) : ∃ s : ByteArray, key = .string s ∧ z = .string s.data.toList := by
  have hu := Tryz.underlying9
  simp only [keyOf, hu, mapKey] at h
  cases key <;> simp at h
  rename_i s
  exact ⟨s, rfl, h.2.symm⟩
end Go.Proofs.YtiaagiijjledkaaGreatDoor
