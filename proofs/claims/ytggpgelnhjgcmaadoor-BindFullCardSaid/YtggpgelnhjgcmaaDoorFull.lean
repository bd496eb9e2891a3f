/-
  AS MANY EXCHANGES AND BINDINGS AS MAY BE: what the table is on the way. Of no program.
-/
import Derived.Test.YtggpgelnhjgcmaaDoorLives
namespace Go.Proofs.YtggpgelnhjgcmaaDoor
open Go.RowKit Go.Sort Go.Maps Go.Shelf

def let1 (i : Nat) : ByteArray := ⟨#[UInt8.ofNat (97 + i)]⟩
def mkx (k : Int) (i : Nat) : Ex := ⟨let1 i, k, false⟩
def mkq (i : Nat) : ByteArray := ⟨#[113, UInt8.ofNat (97 + i / 16), UInt8.ofNat (97 + i % 16)]⟩
def mkb (n i : Nat) : Bd := ⟨let1 (i % n), mkq i, ⟨#[]⟩⟩
theorem u8_inj {a b : Nat} (ha : a < 256) (hb : b < 256) (h : UInt8.ofNat a = UInt8.ofNat b) : a = b := by
  have := congrArg UInt8.toNat h
  simp only [UInt8.toNat_ofNat'] at this
  omega
theorem let1_inj {i j : Nat} (hi : i < 100) (hj : j < 100) (h : let1 i = let1 j) : i = j := by
  unfold let1 at h
  injection h with h
  have h2 : UInt8.ofNat (97 + i) = UInt8.ofNat (97 + j) := by simpa using h
  have := u8_inj (by omega) (by omega) h2
  omega
theorem mkq_inj {i j : Nat} (hi : i < 32) (hj : j < 32) (h : mkq i = mkq j) : i = j := by
  unfold mkq at h
  injection h with h
  have h2 : UInt8.ofNat (97 + i / 16) = UInt8.ofNat (97 + j / 16) ∧ UInt8.ofNat (97 + i % 16) = UInt8.ofNat (97 + j % 16) := by simpa using h
  have e1 := u8_inj (by omega) (by omega) h2.1
  have e2 := u8_inj (by omega) (by omega) h2.2
  omega
theorem name_let {i : Nat} (h : i < 26) : nameB (txt (let1 i)) = true := by
  have : ∀ i : Fin 26, nameB (txt (let1 i)) = true := by decide
  exact this ⟨i, h⟩
theorem name_q {i : Nat} (h : i < 32) : nameB (txt (mkq i)) = true := by
  have : ∀ i : Fin 32, nameB (txt (mkq i)) = true := by decide
  exact this ⟨i, h⟩
def Kd3 (k : Int) : Prop := k = 1 ∨ k = 2 ∨ k = 3
theorem good_mk {k : Int} (hk : Kd3 k) {i : Nat} (h : i < 26) : goodX (mkx k i) = true := by
  unfold goodX mkx
  simp only
  rw [name_let h]
  rcases hk with rfl | rfl | rfl <;> rfl
theorem may_nil {k : Int} (hk : Kd3 k) : mayP k ⟨#[]⟩ = true := by
  rcases hk with rfl | rfl | rfl
  · rfl
  · show ((⟨#[]⟩ : ByteArray).toList.isEmpty) = true
    rw [ByteArray.toList_eq]; rfl
  · rfl
theorem findX_of {l : List Ex} {n : ByteArray} {x : Ex} (hx : x ∈ l) (hn : x.name = n) (hu : ∀ y ∈ l, y.name = n → y = x) : findX l n = some x := by
  cases hf : findX l n with
  | none => exact absurd hn (findX_none hf x hx)
  | some y =>
    obtain ⟨h1, h2⟩ := findX_some hf
    rw [hu y h1 h2]
theorem findX_no {l : List Ex} {n : ByteArray} (h : ∀ y ∈ l, y.name ≠ n) : findX l n = none := by
  unfold findX
  rw [List.find?_eq_none]
  intro y hy
  simpa using h y hy

/-- i exchanges are there, no bindings. -/
structure L1 (s : Tb) (k : Int) (i : Nat) : Prop where
  ok : s.Ok
  bs : s.bs = []
  len : s.xs.length = i
  mem : ∀ x, x ∈ s.xs ↔ ∃ j, j < i ∧ x = mkx k j
theorem l1_new (k : Int) : L1 newT k 0 := ⟨newT_ok, rfl, rfl, fun x => by simp [newT]⟩
theorem L1.none {s : Tb} {k : Int} {i j : Nat} (h : L1 s k i) (_hi : i ≤ 8) (hj : i ≤ j) (hj2 : j < 26) : findX s.xs (mkx k j).name = Option.none := by
  refine findX_no fun y hy e => ?_
  obtain ⟨m, hm, rfl⟩ := (h.mem y).1 hy
  have := let1_inj (i := m) (j := j) (by omega) (by omega) e
  omega
theorem L1.step {s : Tb} {k : Int} {i : Nat} (h : L1 s k i) (hk : Kd3 k) (hi : i < 8) : s.declare (mkx k i) = (0, { s with xs := insC cmpX (mkx k i) s.xs }) ∧ L1 { s with xs := insC cmpX (mkx k i) s.xs } k (i + 1) := by
  have hd : s.declare (mkx k i) = (0, { s with xs := insC cmpX (mkx k i) s.xs }) := by
    unfold Tb.declare
    rw [if_neg (by rw [good_mk hk (by omega)]; decide), h.none (by omega) (Nat.le_refl _) (by omega)]
    simp only
    rw [if_neg (by rw [h.len]; omega)]
  refine ⟨hd, ?_, h.bs, ?_, fun x => ?_⟩
  · have := h.ok.declare (mkx k i)
    rwa [hd] at this
  · show (insC cmpX (mkx k i) s.xs).length = i + 1
    rw [(insC_perm _ _).length_eq, List.length_cons, h.len]
  · show x ∈ insC cmpX (mkx k i) s.xs ↔ _
    rw [mem_insC, h.mem]
    constructor
    · rintro (rfl | ⟨j, hj, rfl⟩)
      · exact ⟨i, by omega, rfl⟩
      · exact ⟨j, by omega, rfl⟩
    · rintro ⟨j, hj, rfl⟩
      by_cases e : j = i
      · exact .inl (by rw [e])
      · exact .inr ⟨j, by omega, rfl⟩
theorem L1.full {s : Tb} {k : Int} (h : L1 s k 8) (hk : Kd3 k) : s.declare (mkx k 25) = (5, s) := by
  unfold Tb.declare
  rw [if_neg (by rw [good_mk hk (by omega)]; decide), h.none (by omega) (by omega) (by omega)]
  simp only
  rw [if_pos (by rw [h.len]; omega)]
theorem mem_find {s : Tb} {k : Int} (hm : ∀ x, x ∈ s.xs ↔ ∃ j, j < 8 ∧ x = mkx k j) {j : Nat} (hj : j < 8) : findX s.xs (let1 j) = some (mkx k j) := by
  refine findX_of ((hm _).2 ⟨j, hj, rfl⟩) rfl fun y hy e => ?_
  obtain ⟨m, hm', rfl⟩ := (hm y).1 hy
  rw [let1_inj (i := m) (j := j) (by omega) (by omega) e]
theorem L1.again {s : Tb} {k : Int} (h : L1 s k 8) (hk : Kd3 k) : s.declare (mkx k 0) = (0, s) := by
  unfold Tb.declare
  rw [if_neg (by rw [good_mk hk (by omega)]; decide), show (mkx k 0).name = let1 0 from rfl, mem_find h.mem (by omega)]
  simp
theorem L1.other {s : Tb} {k k' : Int} (h : L1 s k 8) (hk' : Kd3 k') (hne : k ≠ k') : s.declare (mkx k' 0) = (12, s) := by
  unfold Tb.declare
  rw [if_neg (by rw [good_mk hk' (by omega)]; decide), show (mkx k' 0).name = let1 0 from rfl, mem_find h.mem (by omega)]
  simp only
  rw [if_neg (fun e => hne (by injection e))]

/-- Eight exchanges are there, and i bindings. -/
structure L2 (s : Tb) (k : Int) (n i : Nat) : Prop where
  ok : s.Ok
  xs : ∀ x, x ∈ s.xs ↔ ∃ j, j < 8 ∧ x = mkx k j
  xl : s.xs.length = 8
  len : s.bs.length = i
  mem : ∀ b, b ∈ s.bs ↔ ∃ j, j < i ∧ b = mkb n j
theorem L1.l2 {s : Tb} {k : Int} (h : L1 s k 8) (n : Nat) : L2 s k n 0 := ⟨h.ok, h.mem, h.len, by rw [h.bs]; rfl, fun b => by rw [h.bs]; simp⟩
theorem mkb_fit (n i : Nat) : (mkb n i).Fit := by
  refine ⟨?_, ?_, ?_⟩ <;> (show _ ≤ maxLen; unfold maxLen; simp [mkb, let1, mkq, ByteArray.size])
theorem bind_new {s : Tb} {k : Int} (hk : Kd3 k) {n i j : Nat} (h : L2 s k n i) (hj : j < 8) {q : ByteArray} (hq : nameB (txt q) = true) (hn : (⟨let1 j, q, ⟨#[]⟩⟩ : Bd) ∉ s.bs) (hi : i < 32) : s.bind ⟨let1 j, q, ⟨#[]⟩⟩ = (0, { s with bs := insC cmpB ⟨let1 j, q, ⟨#[]⟩⟩ s.bs }) := by
  unfold Tb.bind
  rw [if_neg (by rw [hq]; decide)]
  simp only
  rw [mem_find h.xs hj]
  simp only
  rw [if_neg (by rw [show (mkx k j).kind = k from rfl, may_nil hk]; decide), if_neg hn, if_neg (by rw [h.len]; omega)]
theorem bind_old {s : Tb} {k : Int} (hk : Kd3 k) (hx : ∀ x, x ∈ s.xs ↔ ∃ j, j < 8 ∧ x = mkx k j) {j : Nat} (hj : j < 8) {q : ByteArray} (hq : nameB (txt q) = true) (hn : (⟨let1 j, q, ⟨#[]⟩⟩ : Bd) ∈ s.bs) : s.bind ⟨let1 j, q, ⟨#[]⟩⟩ = (0, s) := by
  unfold Tb.bind
  rw [if_neg (by rw [hq]; decide)]
  simp only
  rw [mem_find hx hj]
  simp only
  rw [if_neg (by rw [show (mkx k j).kind = k from rfl, may_nil hk]; decide), if_pos hn]
theorem L2.step {s : Tb} {k : Int} (hk : Kd3 k) {n i : Nat} (h : L2 s k n i) (hn1 : 1 ≤ n) (hn8 : n ≤ 8) (hi : i < 32) :
    s.bind (mkb n i) = (0, { s with bs := insC cmpB (mkb n i) s.bs }) ∧ ({ s with bs := insC cmpB (mkb n i) s.bs } : Tb).bind (mkb n i) = (0, { s with bs := insC cmpB (mkb n i) s.bs }) ∧ L2 { s with bs := insC cmpB (mkb n i) s.bs } k n (i + 1) := by
  have hm : i % n < 8 := Nat.lt_of_lt_of_le (Nat.mod_lt _ hn1) hn8
  have hnin : mkb n i ∉ s.bs := fun hin => by
    obtain ⟨j, hj, e⟩ := (h.mem _).1 hin
    have e2 : mkq i = mkq j := congrArg Bd.que e
    have := mkq_inj hi (by omega) e2
    omega
  have h1 := bind_new hk h hm (name_q hi) hnin hi
  have h2 := bind_old (s := { s with bs := insC cmpB (mkb n i) s.bs }) hk h.xs hm (name_q hi) (mem_insC.2 (.inl rfl))
  refine ⟨h1, h2, ?_, h.xs, h.xl, ?_, fun b => ?_⟩
  · have := h.ok.bind (mkb_fit n i)
    rwa [show s.bind (mkb n i) = _ from h1] at this
  · show (insC cmpB (mkb n i) s.bs).length = i + 1
    rw [(insC_perm _ _).length_eq, List.length_cons, h.len]
  · show b ∈ insC cmpB (mkb n i) s.bs ↔ _
    rw [mem_insC, h.mem]
    constructor
    · rintro (rfl | ⟨j, hj, rfl⟩)
      · exact ⟨i, by omega, rfl⟩
      · exact ⟨j, by omega, rfl⟩
    · rintro ⟨j, hj, rfl⟩
      by_cases e : j = i
      · exact .inl (by rw [e])
      · exact .inr ⟨j, by omega, rfl⟩
/-- One of a list is struck. -/
theorem filter_one_less {α : Type} {l : List α} (hn : l.Nodup) {x : α} (hx : x ∈ l) {p : α → Bool} (hp : ∀ y ∈ l, p y = true ↔ y = x) : (l.filter fun y => !p y).length + 1 = l.length := by
  induction l with
  | nil => cases hx
  | cons y r ih =>
    obtain ⟨h1, h2⟩ := List.nodup_cons.1 hn
    by_cases e : y = x
    · have hr : r.filter (fun y => !p y) = r := List.filter_eq_self.2 fun z hz => by
        have : ¬ p z = true := fun h => h1 (by rw [e, ← (hp z (by simp [hz])).1 h]; exact hz)
        simpa using this
      rw [List.filter_cons, if_neg (by rw [(hp y (by simp)).2 e]; decide), hr]; simp
    · have hpy : p y = false := by
        have : ¬ p y = true := fun h => e ((hp y (by simp)).1 h)
        simpa using this
      have hxr : x ∈ r := by
        rcases List.mem_cons.1 hx with h | h
        · exact absurd h.symm e
        · exact h
      rw [List.filter_cons, if_pos (by rw [hpy]; rfl), List.length_cons, ih h2 hxr (fun z hz => hp z (by simp [hz])), List.length_cons]
theorem Ord.nodup {α : Type} {c : α → α → Int} (h3 : Cmp3 c) {l : List α} (h : Ord c l) : l.Nodup := h.imp fun {a b} hlt e => by rw [e, h3.self] at hlt; exact absurd hlt (by decide)
end Go.Proofs.YtggpgelnhjgcmaaDoor
