/-
  AN INBOX, of no program: what is held, by places from the next number on; what is done to it.
-/
import Derived.Test.YtkdjpleedaldcaaFar
import Derived.Test.YtkdjpleedaldcaaSets2
import Derived.Test.YtkdjpleedaldcaaGMap
namespace Go.Proofs.Ytkdjpleedaldcaa
open Go.RowKit Go.Maps

/-- A message. -/
structure Ms where
  origin : Int
  seq : Int
  hop : Int
  ex : ByteArray
  key : ByteArray
  body : ByteArray
  deriving DecidableEq
def mcells (m : Ms) : List Value := [.int .i64 m.origin, .int .u64 m.seq, .int .i64 m.hop, .string m.ex, .string m.key, .string m.body]
abbrev mv (m : Ms) : Value := .agg #[.int .i64 m.origin, .int .u64 m.seq, .int .i64 m.hop, .string m.ex, .string m.key, .string m.body]
def zM : Ms := ⟨0, 0, 0, ⟨#[]⟩, ⟨#[]⟩, ⟨#[]⟩⟩

/-- An inbox: its size, the next number, and what is held at each place from that on. -/
structure Ib where
  s : Nat
  n : Nat
  h : Nat → Option Ms
structure Ib.Ok (m : Ib) : Prop where
  s1 : 1 ≤ m.s
  s2 : m.s ≤ 32
  n2 : m.n < 65536
  near : ∀ i, m.s ≤ i → m.h i = none

def keyI (m : Ib) (i : Nat) : Nat := (m.n + i) % 65536
/-- A number and what is held for it. -/
abbrev Me := Nat × Ms
def entI (m : Ib) (i : Nat) : Option Me := (m.h i).map fun x => (keyI m i, x)
def heldL (m : Ib) : List Me := (List.range m.s).filterMap (entI m)
/-- The places that hold something. -/
def liveI (m : Ib) : List Nat := (List.range m.s).filter fun i => (m.h i).isSome
def setI (l : List Nat) : Nat := l.foldl (fun a (k : Nat) => withS a ((k : Int) - 1)) 0
def ackS (m : Ib) : Nat := setI (liveI m)
def lookI (m : Ib) (num : Nat) : Option Ms := if 0 ≤ farI m.n num ∧ farI m.n num < m.s then m.h (farI m.n num).toNat else none
def newI (s : Nat) : Ib := ⟨s, 0, fun _ => none⟩
def nearI (m : Ib) (num : Nat) : Bool := decide (0 ≤ farI m.n num ∧ farI m.n num < m.s)
def mayT (m : Ib) (num : Nat) : Bool := nearI m num && (lookI m num).isNone
def putI (m : Ib) (j : Nat) (x : Ms) : Ib := ⟨m.s, m.n, fun i => if i = j then some x else m.h i⟩
def takeM (m : Ib) (num : Nat) (x : Ms) : Ib := if mayT m num then putI m (farI m.n num).toNat x else m
def popM (m : Ib) : Ib := if (m.h 0).isSome then ⟨m.s, (m.n + 1) % 65536, fun i => m.h (i + 1)⟩ else m

theorem newI_ok {s : Nat} (h1 : 1 ≤ s) (h2 : s ≤ 32) : (newI s).Ok := ⟨h1, h2, by show 0 < _; omega, fun _ _ => rfl⟩
theorem putI_ok {m : Ib} (h : m.Ok) {j : Nat} (hj : j < m.s) (x : Ms) : (putI m j x).Ok := ⟨h.s1, h.s2, h.n2, fun i hi => by
  show (if i = j then some x else m.h i) = none
  have : m.s ≤ i := hi
  rw [if_neg (by omega)]
  exact h.near i this⟩
theorem mayT_in {m : Ib} {num : Nat} (h : mayT m num = true) : 0 ≤ farI m.n num ∧ farI m.n num < m.s ∧ m.h (farI m.n num).toNat = none := by
  unfold mayT nearI lookI at h
  simp only [Bool.and_eq_true, decide_eq_true_eq] at h
  obtain ⟨h1, h2⟩ := h
  rw [if_pos h1] at h2
  exact ⟨h1.1, h1.2, by simpa using h2⟩
theorem takeM_ok {m : Ib} (h : m.Ok) (num : Nat) (x : Ms) : (takeM m num x).Ok := by
  unfold takeM
  split
  · rename_i hm
    have := mayT_in hm
    exact putI_ok h (by omega) x
  · exact h
theorem popM_ok {m : Ib} (h : m.Ok) : (popM m).Ok := by
  unfold popM
  split
  · exact ⟨h.s1, h.s2, Nat.mod_lt _ (by decide), fun i hi => h.near (i + 1) (by have : m.s ≤ i := hi; omega)⟩
  · exact h
theorem takeM_s (m : Ib) (num : Nat) (x : Ms) : (takeM m num x).s = m.s ∧ (takeM m num x).n = m.n := by unfold takeM; split <;> exact ⟨rfl, rfl⟩
theorem popM_s (m : Ib) : (popM m).s = m.s := by unfold popM; split <;> rfl

theorem mem_held {m : Ib} {e : Me} : e ∈ heldL m ↔ ∃ i, i < m.s ∧ m.h i = some e.2 ∧ e.1 = keyI m i := by
  unfold heldL entI
  simp only [List.mem_filterMap, List.mem_range, Option.map_eq_some_iff]
  constructor
  · rintro ⟨i, hi, x, hx, rfl⟩
    exact ⟨i, hi, hx, rfl⟩
  · rintro ⟨i, hi, hx, hk⟩
    exact ⟨i, hi, e.2, hx, by rw [← hk]⟩
theorem key_inj {m : Ib} (h : m.Ok) {i j : Nat} (hi : i < m.s) (hj : j < m.s) (e : keyI m i = keyI m j) : i = j := by
  unfold keyI at e
  have := h.s2
  omega
theorem far_key {m : Ib} (h : m.Ok) {i : Nat} (hi : i < m.s) : farI m.n (keyI m i) = i := by
  have := h.s2
  have := h.n2
  unfold farI keyI
  omega
theorem key_far {m : Ib} (h : m.Ok) {num : Nat} (hn : num < 65536) (h0 : 0 ≤ farI m.n num) : keyI m (farI m.n num).toNat = num := by
  have := h.n2
  unfold farI at h0 ⊢
  unfold keyI
  omega
theorem look_key {m : Ib} (h : m.Ok) {i : Nat} (hi : i < m.s) : lookI m (keyI m i) = m.h i := by
  unfold lookI
  rw [far_key h hi, if_pos ⟨by omega, by omega⟩, Int.toNat_natCast]
theorem look_next {m : Ib} (h : m.Ok) : lookI m m.n = m.h 0 := by
  have := look_key h (i := 0) h.s1
  unfold keyI at this
  rw [Nat.add_zero, Nat.mod_eq_of_lt h.n2] at this
  exact this
theorem look_mem {m : Ib} (h : m.Ok) {num : Nat} (hn : num < 65536) {x : Ms} : lookI m num = some x ↔ (num, x) ∈ heldL m := by
  rw [mem_held]
  constructor
  · intro hl
    unfold lookI at hl
    split at hl
    · rename_i hr
      exact ⟨_, by omega, hl, (key_far h hn hr.1).symm⟩
    · cases hl
  · rintro ⟨i, hi, hx, hk⟩
    rw [show num = keyI m i from hk, look_key h hi]
    exact hx

def mkl (x : Me) : Lit := .int .u16 x.1
def md (x : Me) : DataW Ms := .held x.2
theorem mkl_inj {a b : Nat} (h : Lit.int .u16 (a : Int) = .int .u16 (b : Int)) : a = b := by
  injection h with _ h
  omega
theorem held_diff {m : Ib} (h : m.Ok) : Diff mkl (heldL m) := by
  unfold Diff heldL
  rw [List.pairwise_filterMap]
  refine List.Pairwise.imp_of_mem ?_ List.pairwise_lt_range
  intro i j hi hj hij a ha b hb e
  rw [List.mem_range] at hi hj
  unfold entI at ha hb
  obtain ⟨x, _, rfl⟩ := Option.map_eq_some_iff.1 ha
  obtain ⟨y, _, rfl⟩ := Option.map_eq_some_iff.1 hb
  have := key_inj h hi hj (mkl_inj e)
  omega
theorem held_lt {m : Ib} : ∀ x ∈ heldL m, x.1 < 65536 := by
  intro x hx
  obtain ⟨i, _, _, hk⟩ := mem_held.1 hx
  rw [hk]
  exact Nat.mod_lt _ (by decide)
theorem held_len (m : Ib) : (heldL m).length = (liveI m).length := by
  unfold heldL liveI
  induction List.range m.s with
  | nil => rfl
  | cons i l ih =>
    unfold entI at ih ⊢
    cases hb : m.h i with
    | none => simp [hb, ih]
    | some x => simp [hb, ih]
theorem live_le (m : Ib) : (liveI m).length ≤ m.s := by
  have := List.length_filter_le (fun i => (m.h i).isSome) (List.range m.s)
  simpa [liveI] using this
theorem held_le (m : Ib) : (heldL m).length ≤ m.s := by rw [held_len]; exact live_le m
theorem held_new (s : Nat) : heldL (newI s) = [] := by
  unfold heldL entI newI
  simp
/-- What is put in. -/
theorem held_put {m : Ib} (h : m.Ok) {num : Nat} (hn : num < 65536) (x : Ms) (hm : mayT m num = true) : ((num, x) :: heldL m).Perm (heldL (takeM m num x)) ∧ ∀ y ∈ heldL m, y.1 ≠ num := by
  have hk := takeM_ok h num x
  obtain ⟨h0, h1, h2⟩ := mayT_in hm
  have hkey := key_far h hn h0
  have hne : ∀ y ∈ heldL m, y.1 ≠ num := fun y hy e => by
    have : lookI m num = some y.2 := (look_mem h hn).2 (by rw [← e]; exact hy)
    unfold lookI at this
    rw [if_pos ⟨h0, h1⟩, h2] at this
    cases this
  refine ⟨?_, hne⟩
  have hnd : ((num, x) :: heldL m).Nodup := List.nodup_cons.2 ⟨fun hx => hne _ hx rfl, (held_diff h).nodup⟩
  rw [List.perm_ext_iff_of_nodup hnd (held_diff hk).nodup]
  intro e
  unfold takeM
  rw [if_pos hm, List.mem_cons, mem_held, mem_held]
  generalize hj : (farI m.n num).toNat = j at *
  constructor
  · rintro (rfl | ⟨i, hi, hx, he⟩)
    · exact ⟨j, by show j < m.s; omega, by show (if j = j then some x else m.h j) = _; rw [if_pos rfl], hkey.symm⟩
    · refine ⟨i, hi, ?_, he⟩
      show (if i = j then some x else m.h i) = _
      rw [if_neg (fun hij => by rw [hij, h2] at hx; cases hx)]
      exact hx
  · rintro ⟨i, hi, hx, he⟩
    have hx' : (if i = j then some x else m.h i) = some e.2 := hx
    have he' : e.1 = keyI m i := he
    by_cases hij : i = j
    · rw [if_pos hij] at hx'
      injection hx' with hx'
      left
      rw [hij, hkey] at he'
      rw [← he', hx']
    · rw [if_neg hij] at hx'
      exact .inr ⟨i, hi, hx', he'⟩
/-- What goes out. -/
theorem held_pop {m : Ib} (h : m.Ok) (hm : (m.h 0).isSome = true) : ((heldL m).filter fun y => !decide (y.1 = m.n)).Perm (heldL (popM m)) := by
  have hk := popM_ok h
  rw [List.perm_ext_iff_of_nodup ((held_diff h).nodup.filter _) (held_diff hk).nodup]
  intro e
  unfold popM
  rw [if_pos hm, List.mem_filter, mem_held, mem_held]
  have hs2 := h.s2
  have hn2 := h.n2
  constructor
  · rintro ⟨⟨i, hi, hx, he⟩, hne⟩
    have hne' : e.1 ≠ m.n := by simpa using hne
    rcases i with _ | i
    · exact absurd he (by unfold keyI; rw [Nat.add_zero, Nat.mod_eq_of_lt hn2]; exact hne')
    · refine ⟨i, by show i < m.s; omega, hx, ?_⟩
      rw [he]
      unfold keyI
      show _ = ((m.n + 1) % 65536 + i) % 65536
      omega
  · rintro ⟨i, hi, hx, he⟩
    have hx' : m.h (i + 1) = some e.2 := hx
    have he' : e.1 = ((m.n + 1) % 65536 + i) % 65536 := he
    have hi' : i + 1 < m.s := by
      rcases Nat.lt_or_ge (i + 1) m.s with hh | hh
      · exact hh
      · rw [h.near _ hh] at hx'; cases hx'
    refine ⟨⟨i + 1, hi', hx', by rw [he']; unfold keyI; omega⟩, ?_⟩
    have : e.1 ≠ m.n := by omega
    simpa using this

theorem setI_snoc (l : List Nat) (k : Nat) : setI (l ++ [k]) = withS (setI l) ((k : Int) - 1) := by simp [setI]
theorem setI_test (l : List Nat) (i : Nat) : (setI l).testBit i = decide (i + 1 ∈ l ∧ i < 64) := by
  have : ∀ (l : List Nat) (a : Nat), (l.foldl (fun a (k : Nat) => withS a ((k : Int) - 1)) a).testBit i = (a.testBit i || decide (i + 1 ∈ l ∧ i < 64)) := by
    intro l
    induction l with
    | nil => intro a; simp
    | cons k l ih =>
      intro a
      rw [List.foldl_cons, ih, withS_test, Bool.or_assoc]
      congr 1
      rw [Bool.eq_iff_iff]
      simp only [Bool.or_eq_true, decide_eq_true_eq, List.mem_cons]
      constructor
      · rintro (h | h)
        · exact ⟨.inl (by omega), h.2⟩
        · exact ⟨.inr h.1, h.2⟩
      · rintro ⟨h | h, h2⟩
        · exact .inl ⟨by omega, h2⟩
        · exact .inr ⟨h, h2⟩
  unfold setI
  rw [this]
  simp
theorem setI_set (l : List Nat) : IsSet (setI l) := set_lt fun i hi => by rw [setI_test]; exact decide_eq_false (by omega)
theorem mem_live {m : Ib} {i : Nat} : i ∈ liveI m ↔ i < m.s ∧ (m.h i).isSome = true := by unfold liveI; rw [List.mem_filter, List.mem_range]
theorem ackS_test {m : Ib} (h : m.Ok) (i : Nat) : (ackS m).testBit i = (m.h (i + 1)).isSome := by
  unfold ackS
  have := h.s2
  rw [setI_test, Bool.eq_iff_iff, decide_eq_true_eq, mem_live]
  constructor
  · exact fun h => h.1.2
  · intro hi
    have h1 : i + 1 < m.s := by
      rcases Nat.lt_or_ge (i + 1) m.s with hh | hh
      · exact hh
      · rw [h.near _ hh] at hi; cases hi
    exact ⟨⟨h1, hi⟩, by omega⟩
theorem ackS_set (m : Ib) : IsSet (ackS m) := setI_set _
end Go.Proofs.Ytkdjpleedaldcaa
