/-
  READING BYTES, told plainly: what bytes begin with; reading undoes writing. Of no program.
-/
import Derived.Test.YtdbgojmjjkidbaaGreatDoorJModel13
import Derived.Test.YtdbgojmjjkidbaaGreatDoorJLives
namespace Go.Proofs.YtdbgojmjjkidbaaGreatDoor
open Go.RowKit


/-- What reads: bytes lead to a thing and the bytes behind it, or to nothing. -/
abbrev Prs (α : Type) := List UInt8 → Option (α × List UInt8)

def bindP {α β : Type} (P : Prs α) (Q : α → Prs β) : Prs β := fun l => (P l).bind fun r => Q r.1 r.2

def pureP {α : Type} (x : α) : Prs α := fun l => some (x, l)

def noneP {α : Type} : Prs α := fun _ => none

def numP (k : Nat) : Prs Nat := fun l => if k ≤ l.length then some (getN (l.take k), l.drop k) else none

def headP (n : Nat) : Prs (List UInt8) := fun l => if n ≤ l.length then some (l.take n, l.drop n) else none

def pieceP : Prs (List UInt8) := bindP (numP 2) headP

def textP : Prs ByteArray := bindP pieceP fun p => pureP (str p)

def oneP (n : Nat) : Prs Bool := if n ≤ 1 then pureP (decide (n = 1)) else noneP

def yesP : Prs Bool := bindP (numP 1) oneP

def msgP : Prs Ms := bindP (numP 1) fun o => bindP (numP 8) fun s => bindP (numP 1) fun h => bindP textP fun e => bindP textP fun k => bindP textP fun b => pureP ⟨o, s, h, e, k, b⟩

def exP : Prs (ByteArray × Int × Bool) := bindP textP fun n => bindP (numP 1) fun k => bindP yesP fun f => pureP (n, (k : Int), f)

def bdP : Prs (ByteArray × ByteArray × ByteArray) := bindP textP fun e => bindP textP fun q => bindP textP fun p => pureP (e, q, p)

/-- That which a letter stands for. -/
def takeP (z : Ax) (c : UInt8) : Prs Ax :=
  if c = 110 then bindP textP fun s => pureP { z with name := s } else if c = 100 ∨ c = 99 then bindP (numP 2) fun n => pureP { z with n := n } else if c = 116 then bindP (numP 8) fun n => pureP { z with tag := n } else if c = 115 then bindP (numP 1) fun n => pureP { z with to := n } else if c = 120 then bindP exP fun x => pureP { z with xn := x.1, xk := x.2.1, xf := x.2.2 } else if c = 98 then bindP bdP fun b => pureP { z with be := b.1, bq := b.2.1, bp := b.2.2 } else bindP msgP fun m => pureP { z with m := m }

def takesP : List UInt8 → Ax → Prs Ax
  | [], z => pureP z
  | c :: cs, z => bindP (takeP z c) fun z => takesP cs z

def actP : Prs Ax := bindP (numP 1) fun k => takesP ((lettersL k).getD []) (zA k)

/-- An act of which these are the bytes. -/
def readA (b : List UInt8) : Option Ax := match actP b with
  | some (a, []) => if goodA a then some a else none
  | _ => none

def readM (b : List UInt8) : Option (Ms × Nat) := match msgP b with
  | some (m, l) => if goodM m then some (m, b.length - l.length) else none
  | none => none

def ofP {α : Type} (o : Option α) : Prs α := match o with
  | some x => pureP x
  | none => noneP

def itemP : Prs Ax := bindP pieceP fun p => ofP (readA p)

def itemsP : Nat → Prs (List Ax)
  | 0 => pureP []
  | n + 1 => bindP (itemsP n) fun l => bindP itemP fun a => pureP (l ++ [a])

def manyP : Prs (List Ax) := bindP (numP 2) itemsP

def readL (b : List UInt8) : Option (List Ax) := match manyP b with
  | some (l, []) => if l.length ≤ 60000 then some l else none
  | _ => none

def itemL (a : Ax) : List UInt8 := putL 2 (bytesA a).length ++ bytesA a

def manyL (l : List Ax) : List UInt8 := if l.length ≤ 60000 ∧ l.all goodA = true then putL 2 l.length ++ l.flatMap itemL else []


/-- What stands there is read, whatever is behind it. -/
def Reads {α : Type} (P : Prs α) (e : List UInt8) (x : α) : Prop := ∀ t, P (e ++ t) = some (x, t)

theorem Reads.bind {α β : Type} {P : Prs α} {Q : α → Prs β} {e f : List UInt8} {x : α} {y : β} (h : Reads P e x) (k : Reads (Q x) f y) : Reads (bindP P Q) (e ++ f) y := by
  intro t
  unfold bindP
  rw [List.append_assoc, h]
  exact k t

theorem reads_pure {α : Type} (x : α) : Reads (pureP x) [] x := fun _ => rfl

theorem Reads.out {α β : Type} {P : Prs α} {e : List UInt8} {x : α} (g : α → β) (h : Reads P e x) : Reads (bindP P fun z => pureP (g z)) e (g x) := by
  have := h.bind (Q := fun z => pureP (g z)) (reads_pure (g x))
  rwa [List.append_nil] at this

theorem reads_num (k n : Nat) (h : n < 256 ^ k) : Reads (numP k) (putL k n) n := by
  intro t
  unfold numP
  rw [if_pos (by rw [List.length_append, putL_length]; omega), List.take_left' (putL_length k n), List.drop_left' (putL_length k n), getN_putL, Nat.mod_eq_of_lt h]

theorem reads_cut (l : List UInt8) : Reads (headP l.length) l l := by
  intro t
  unfold headP
  rw [if_pos (by simp), List.take_left' rfl, List.drop_left' rfl]

theorem reads_piece (l : List UInt8) (h : l.length < 65536) : Reads pieceP (putL 2 l.length ++ l) l := (reads_num 2 _ (by omega)).bind (reads_cut l)

theorem textL_small {s : ByteArray} (h : s.size ≤ 65535) : textL s = putL 2 (txt s).length ++ txt s := by
  unfold textL
  rw [Nat.min_eq_left h, txt_length, List.take_of_length_le (by rw [txt_length]; exact h)]

theorem reads_text (s : ByteArray) (h : s.size ≤ 65535) : Reads textP (textL s) s := by
  rw [textL_small h]
  have := (reads_piece (txt s) (by rw [txt_length]; omega)).out str
  rw [str_txt] at this
  exact this

theorem reads_yes (f : Bool) : Reads yesP (putL 1 (if f then 1 else 0)) f := by
  cases f
  · have := (reads_num 1 0 (by omega)).bind (Q := oneP) (f := []) (y := false) (fun _ => rfl)
    rwa [List.append_nil] at this
  · have := (reads_num 1 1 (by omega)).bind (Q := oneP) (f := []) (y := true) (fun _ => rfl)
    rwa [List.append_nil] at this

theorem name_short {s : ByteArray} (h : nameB (txt s) = true) : s.size ≤ 20 := by
  unfold nameB at h
  rw [txt_length] at h
  simp at h
  exact h.1

theorem key_short {s : ByteArray} (h : keyB (txt s) = true) : s.size ≤ 60 := by
  unfold keyB ofB at h
  rw [txt_length] at h
  simp only [Bool.and_eq_true, decide_eq_true_eq] at h
  exact h.1.1

theorem u64_of {n : Int} (h : 0 ≤ n) (h2 : n < 18446744073709551616) : ((u64 n : Nat) : Int) = n := by unfold u64; omega

theorem goodM_tells {m : Ms} (h : goodM m = true) : (1 ≤ m.origin ∧ m.origin ≤ 8) ∧ 1 ≤ m.seq ∧ (0 ≤ m.hop ∧ m.hop ≤ 8) ∧ m.ex.size ≤ 20 ∧ m.key.size ≤ 60 ∧ m.body.size ≤ 200 := by
  unfold goodM inB at h
  simp only [Bool.and_eq_true, decide_eq_true_eq] at h
  obtain ⟨⟨⟨⟨⟨h1, h2⟩, h3⟩, h4⟩, h5⟩, h6⟩ := h
  exact ⟨h1, h2, h3, name_short h4, key_short h5, by omega⟩

theorem reads_msg (m : Ms) (h : goodM m = true) (hs : m.seq < 18446744073709551616) : Reads msgP (bytesM m) m := by
  obtain ⟨h1, h2, h3, h4, h5, h6⟩ := goodM_tells h
  have e1 : ((u64 m.origin : Nat) : Int) = m.origin := u64_of (by omega) (by omega)
  have e3 : ((u64 m.hop : Nat) : Int) = m.hop := u64_of (by omega) (by omega)
  have e2 : ((m.seq.toNat : Nat) : Int) = m.seq := by omega
  have hb : bytesM m = putL 1 (u64 m.origin) ++ (putL 8 m.seq.toNat ++ (putL 1 (u64 m.hop) ++ (textL m.ex ++ (textL m.key ++ textL m.body)))) := by simp [bytesM]
  rw [hb]
  refine (reads_num 1 _ (by omega)).bind ?_
  refine (reads_num 8 _ (by omega)).bind ?_
  refine (reads_num 1 _ (by omega)).bind ?_
  refine (reads_text m.ex (by omega)).bind ?_
  refine (reads_text m.key (by omega)).bind ?_
  have := (reads_text m.body (by omega)).out fun b => (⟨m.origin, m.seq, m.hop, m.ex, m.key, b⟩ : Ms)
  rw [e1, e2, e3]
  exact this

/-- What a letter stands for is read again. -/
theorem reads_take (a z : Ax) (c : UInt8) (h : fitsA a c = true) (ht : 0 ≤ a.tag ∧ a.tag < 18446744073709551616) (hm : a.m.seq < 18446744073709551616) : Reads (takeP z c) (putS a c) (onlyS a z c) := by
  unfold fitsA at h
  unfold takeP putS onlyS
  by_cases h110 : c = 110
  · rw [if_pos h110] at h
    rw [if_pos h110, if_pos h110, if_pos h110]
    have := name_short h
    exact (reads_text a.name (by omega)).out fun s => { z with name := s }
  rw [if_neg h110] at h
  rw [if_neg h110, if_neg h110, if_neg h110]
  by_cases hdc : c = 100 ∨ c = 99
  · rw [if_pos hdc, if_pos hdc, if_pos hdc]
    have hn : 1 ≤ a.n ∧ a.n ≤ 1000 := by
      rcases hdc with rfl | rfl
      · simp [inB] at h; omega
      · simp [inB] at h; omega
    have e := u64_of (n := a.n) (by omega) (by omega)
    have := (reads_num 2 (u64 a.n) (by omega)).out fun n : Nat => { z with n := (n : Int) }
    rw [e] at this
    exact this
  rw [if_neg (fun e => hdc (.inl e)), if_neg (fun e => hdc (.inr e))] at h
  rw [if_neg hdc, if_neg hdc, if_neg hdc]
  by_cases h116 : c = 116
  · rw [if_pos h116, if_pos h116, if_pos h116]
    have e : ((a.tag.toNat : Nat) : Int) = a.tag := by omega
    have := (reads_num 8 a.tag.toNat (by omega)).out fun n : Nat => { z with tag := (n : Int) }
    rw [e] at this
    exact this
  rw [if_neg h116] at h
  rw [if_neg h116, if_neg h116, if_neg h116]
  by_cases h115 : c = 115
  · rw [if_pos h115] at h
    rw [if_pos h115, if_pos h115, if_pos h115]
    simp [inB] at h
    have e := u64_of (n := a.to) (by omega) (by omega)
    have := (reads_num 1 (u64 a.to) (by omega)).out fun n : Nat => { z with to := (n : Int) }
    rw [e] at this
    exact this
  rw [if_neg h115] at h
  rw [if_neg h115, if_neg h115, if_neg h115]
  by_cases h120 : c = 120
  · rw [if_pos h120] at h
    rw [if_pos h120, if_pos h120, if_pos h120]
    simp only [goodX, inB, Bool.and_eq_true, decide_eq_true_eq] at h
    have hs := name_short h.2
    have e := u64_of (n := a.xk) (by omega) (by omega)
    have hx : Reads exP (exL a.xn a.xk a.xf) (a.xn, a.xk, a.xf) := by
      unfold exL
      rw [List.append_assoc]
      refine (reads_text a.xn (by omega)).bind ?_
      refine (reads_num 1 _ (by omega)).bind ?_
      have := (reads_yes a.xf).out fun f => (a.xn, ((u64 a.xk : Nat) : Int), f)
      rw [e] at this ⊢
      exact this
    exact hx.out fun x => { z with xn := x.1, xk := x.2.1, xf := x.2.2 }
  rw [if_neg h120] at h
  rw [if_neg h120, if_neg h120, if_neg h120]
  by_cases h98 : c = 98
  · rw [if_pos h98] at h
    rw [if_pos h98, if_pos h98, if_pos h98]
    simp only [goodBd, Bool.and_eq_true, decide_eq_true_eq] at h
    have s1 := name_short h.1.1
    have s2 := name_short h.1.2
    have hx : Reads bdP (bdL a.be a.bq a.bp) (a.be, a.bq, a.bp) := by
      unfold bdL
      rw [List.append_assoc]
      refine (reads_text a.be (by omega)).bind ?_
      refine (reads_text a.bq (by omega)).bind ?_
      exact (reads_text a.bp (by omega)).out fun p => (a.be, a.bq, p)
    exact hx.out fun x => { z with be := x.1, bq := x.2.1, bp := x.2.2 }
  rw [if_neg h98] at h
  rw [if_neg h98, if_neg h98, if_neg h98]
  by_cases h109 : c = 109
  · rw [if_pos h109] at h
    rw [if_pos h109, if_pos h109]
    exact (reads_msg a.m h hm).out fun m => { z with m := m }
  rw [if_neg h109] at h
  exact absurd h (by decide)

theorem reads_takes (a : Ax) (ht : 0 ≤ a.tag ∧ a.tag < 18446744073709551616) (hm : a.m.seq < 18446744073709551616) : ∀ (cs : List UInt8) (z : Ax), cs.all (fitsA a) = true → Reads (takesP cs z) (cs.flatMap (putS a)) (cs.foldl (onlyS a) z)
  | [], z, _ => fun _ => rfl
  | c :: cs, z, h => by
    simp only [List.all_cons, Bool.and_eq_true] at h
    have h1 := reads_take a z c h.1 ht hm
    have h2 := reads_takes a ht hm cs (onlyS a z c) h.2
    exact h1.bind h2

theorem lettersL_kind {k : Int} {l : List UInt8} (h : lettersL k = some l) : (1 ≤ k ∧ k ≤ 12) ∧ l.length ≤ 2 := by
  unfold lettersL at h
  have st : ∀ (i : Int) (x : List UInt8) (o : Option (List UInt8)), (1 ≤ i ∧ i ≤ 12) → x.length ≤ 2 → (if k = i then some x else o) = some l → ((1 ≤ k ∧ k ≤ 12) ∧ l.length ≤ 2) ∨ o = some l := by
    intro i x o hi hx he
    by_cases hk : k = i
    · rw [if_pos hk] at he
      obtain rfl := Option.some.inj he
      exact .inl ⟨by omega, hx⟩
    · rw [if_neg hk] at he
      exact .inr he
  rcases st _ _ _ (by omega) (by simp) h with h | h
  · exact h
  rcases st _ _ _ (by omega) (by simp) h with h | h
  · exact h
  rcases st _ _ _ (by omega) (by simp) h with h | h
  · exact h
  rcases st _ _ _ (by omega) (by simp) h with h | h
  · exact h
  rcases st _ _ _ (by omega) (by simp) h with h | h
  · exact h
  rcases st _ _ _ (by omega) (by simp) h with h | h
  · exact h
  rcases st _ _ _ (by omega) (by simp) h with h | h
  · exact h
  rcases st _ _ _ (by omega) (by simp) h with h | h
  · exact h
  rcases st _ _ _ (by omega) (by simp) h with h | h
  · exact h
  rcases st _ _ _ (by omega) (by simp) h with h | h
  · exact h
  rcases st _ _ _ (by omega) (by simp) h with h | h
  · exact h
  rcases st _ _ _ (by omega) (by simp) h with h | h
  · exact h
  exact absurd h (by simp)

theorem goodA_tells {a : Ax} (h : goodA a = true) : ∃ l, lettersL a.kind = some l ∧ l.all (fitsA a) = true ∧ a = onlyL a l ∧ bytesA a = putL 1 (u64 a.kind) ++ l.flatMap (putS a) := by
  have h0 := h
  unfold goodA at h
  cases hl : lettersL a.kind with
  | none => rw [hl] at h; exact absurd h (by simp)
  | some l =>
    rw [hl] at h
    simp only [Bool.and_eq_true, decide_eq_true_eq] at h
    refine ⟨l, rfl, h.1, h.2, ?_⟩
    unfold bytesA
    rw [if_pos h0, hl]

theorem reads_act (a : Ax) (h : goodA a = true) (ht : 0 ≤ a.tag ∧ a.tag < 18446744073709551616) (hm : a.m.seq < 18446744073709551616) : Reads actP (bytesA a) a := by
  obtain ⟨l, hl, hf, ho, hb⟩ := goodA_tells h
  have hk := (lettersL_kind hl).1
  have e := u64_of (n := a.kind) (by omega) (by omega)
  rw [hb]
  have h1 := reads_takes a ht hm l (zA a.kind) hf
  refine (reads_num 1 (u64 a.kind) (by omega)).bind ?_
  rw [e, hl]
  have h2 : l.foldl (onlyS a) (zA a.kind) = a := ho.symm
  rw [h2] at h1
  exact h1

/-- More bytes behind change nothing of what was read. -/
def Mono {α : Type} (P : Prs α) : Prop := ∀ l t x r, P l = some (x, r) → P (l ++ t) = some (x, r ++ t)

theorem Mono.bind {α β : Type} {P : Prs α} {Q : α → Prs β} (h : Mono P) (k : ∀ x, Mono (Q x)) : Mono (bindP P Q) := by
  intro l t y r hr
  unfold bindP at hr ⊢
  cases hp : P l with
  | none => rw [hp] at hr; exact absurd hr (by simp)
  | some p =>
    obtain ⟨x, s⟩ := p
    rw [hp] at hr
    rw [h l t x s hp]
    exact k x s t y r hr

theorem mono_pure {α : Type} (x : α) : Mono (pureP x) := fun l t y r h => by
  unfold pureP at h ⊢
  simp only [Option.some.injEq, Prod.mk.injEq] at h
  rw [h.1, h.2]

theorem mono_none {α : Type} : Mono (noneP : Prs α) := fun _ _ _ _ h => absurd h (by simp [noneP])

theorem mono_num (k : Nat) : Mono (numP k) := fun l t y r h => by
  unfold numP at h ⊢
  split at h
  · rename_i hk
    simp only [Option.some.injEq, Prod.mk.injEq] at h
    rw [if_pos (by rw [List.length_append]; omega), List.take_append_of_le_length hk, List.drop_append_of_le_length hk, h.1, h.2]
  · exact absurd h (by simp)

theorem mono_cut (k : Nat) : Mono (headP k) := fun l t y r h => by
  unfold headP at h ⊢
  split at h
  · rename_i hk
    simp only [Option.some.injEq, Prod.mk.injEq] at h
    rw [if_pos (by rw [List.length_append]; omega), List.take_append_of_le_length hk, List.drop_append_of_le_length hk, h.1, h.2]
  · exact absurd h (by simp)

theorem mono_piece : Mono pieceP := (mono_num 2).bind mono_cut

theorem mono_text : Mono textP := mono_piece.bind fun _ => mono_pure _

theorem mono_yes : Mono yesP := (mono_num 1).bind fun n => by
  unfold oneP
  split
  · exact mono_pure _
  · exact mono_none

theorem mono_msg : Mono msgP := (mono_num 1).bind fun _ => (mono_num 8).bind fun _ => (mono_num 1).bind fun _ => mono_text.bind fun _ => mono_text.bind fun _ => mono_text.bind fun _ => mono_pure _

theorem mono_ex : Mono exP := mono_text.bind fun _ => (mono_num 1).bind fun _ => mono_yes.bind fun _ => mono_pure _

theorem mono_bd : Mono bdP := mono_text.bind fun _ => mono_text.bind fun _ => mono_text.bind fun _ => mono_pure _

theorem mono_take (z : Ax) (c : UInt8) : Mono (takeP z c) := by
  unfold takeP
  repeat' split
  · exact mono_text.bind fun _ => mono_pure _
  · exact (mono_num 2).bind fun _ => mono_pure _
  · exact (mono_num 8).bind fun _ => mono_pure _
  · exact (mono_num 1).bind fun _ => mono_pure _
  · exact mono_ex.bind fun _ => mono_pure _
  · exact mono_bd.bind fun _ => mono_pure _
  · exact mono_msg.bind fun _ => mono_pure _

theorem mono_takes : ∀ (cs : List UInt8) (z : Ax), Mono (takesP cs z)
  | [], z => mono_pure z
  | c :: cs, z => (mono_take z c).bind fun z => mono_takes cs z

theorem mono_act : Mono actP := (mono_num 1).bind fun _ => mono_takes _ _

/-- Good acts lead back; cut, or with more behind them, they are none. -/
theorem readA_back (a : Ax) (h : goodA a = true) (ht : 0 ≤ a.tag ∧ a.tag < 18446744073709551616) (hm : a.m.seq < 18446744073709551616) : readA (bytesA a) = some a := by
  have := reads_act a h ht hm []
  rw [List.append_nil] at this
  unfold readA
  rw [this]
  simp [h]

theorem readA_more (a : Ax) (h : goodA a = true) (ht : 0 ≤ a.tag ∧ a.tag < 18446744073709551616) (hm : a.m.seq < 18446744073709551616) (x : UInt8) (t : List UInt8) : readA (bytesA a ++ x :: t) = none := by
  have := reads_act a h ht hm (x :: t)
  unfold readA
  rw [this]

theorem readA_cut (a : Ax) (h : goodA a = true) (ht : 0 ≤ a.tag ∧ a.tag < 18446744073709551616) (hm : a.m.seq < 18446744073709551616) (k : Nat) (hk : k < (bytesA a).length) : readA ((bytesA a).take k) = none := by
  have h1 := reads_act a h ht hm []
  rw [List.append_nil] at h1
  unfold readA
  cases hp : actP ((bytesA a).take k) with
  | none => rfl
  | some p =>
    obtain ⟨b, r⟩ := p
    have h2 := mono_act _ ((bytesA a).drop k) _ _ hp
    rw [List.take_append_drop, h1] at h2
    simp only [Option.some.injEq, Prod.mk.injEq] at h2
    have h3 : r ++ (bytesA a).drop k = [] := h2.2.symm
    have h4 := congrArg List.length h3
    rw [List.length_append, List.length_drop] at h4
    simp at h4
    omega

theorem readM_back (m : Ms) (h : goodM m = true) (hs : m.seq < 18446744073709551616) (t : List UInt8) : readM (bytesM m ++ t) = some (m, (bytesM m).length) := by
  unfold readM
  rw [reads_msg m h hs t]
  simp [h]

theorem readM_cut (m : Ms) (h : goodM m = true) (hs : m.seq < 18446744073709551616) (k : Nat) (hk : k < (bytesM m).length) : readM ((bytesM m).take k) = none := by
  have h1 := reads_msg m h hs []
  rw [List.append_nil] at h1
  unfold readM
  cases hp : msgP ((bytesM m).take k) with
  | none => rfl
  | some p =>
    obtain ⟨b, r⟩ := p
    have h2 := mono_msg _ ((bytesM m).drop k) _ _ hp
    rw [List.take_append_drop, h1] at h2
    simp only [Option.some.injEq, Prod.mk.injEq] at h2
    have h3 : r ++ (bytesM m).drop k = [] := h2.2.symm
    have h4 := congrArg List.length h3
    rw [List.length_append, List.length_drop] at h4
    simp at h4
    omega

theorem bytesA_inj {a b : Ax} (ha : goodA a = true) (hb : goodA b = true) (ta : 0 ≤ a.tag ∧ a.tag < 18446744073709551616) (ma : a.m.seq < 18446744073709551616) (tb : 0 ≤ b.tag ∧ b.tag < 18446744073709551616) (mb : b.m.seq < 18446744073709551616) (h : bytesA a = bytesA b) : a = b := by
  have h1 := readA_back a ha ta ma
  rw [h, readA_back b hb tb mb] at h1
  exact (Option.some.inj h1).symm

theorem bytesM_inj {a b : Ms} (ha : goodM a = true) (hb : goodM b = true) (ma : a.seq < 18446744073709551616) (mb : b.seq < 18446744073709551616) (h : bytesM a = bytesM b) : a = b := by
  have h1 := reads_msg a ha ma []
  rw [h, reads_msg b hb mb []] at h1
  simp only [Option.some.injEq, Prod.mk.injEq, and_true] at h1
  exact h1.symm

theorem textL_len {s : ByteArray} : (textL s).length ≤ s.size + 2 := by
  unfold textL
  rw [List.length_append, putL_length, List.length_take, txt_length]
  omega

theorem bytesM_len {m : Ms} (h : goodM m = true) : 16 ≤ (bytesM m).length ∧ (bytesM m).length ≤ 296 := by
  obtain ⟨h1, h2, h3, h4, h5, h6⟩ := goodM_tells h
  have t1 := textL_len (s := m.ex)
  have t2 := textL_len (s := m.key)
  have t3 := textL_len (s := m.body)
  have g1 : 2 ≤ (textL m.ex).length := by unfold textL; rw [List.length_append, putL_length]; omega
  have g2 : 2 ≤ (textL m.key).length := by unfold textL; rw [List.length_append, putL_length]; omega
  have g3 : 2 ≤ (textL m.body).length := by unfold textL; rw [List.length_append, putL_length]; omega
  unfold bytesM
  simp only [List.length_append, putL_length]
  omega

theorem putS_len {a : Ax} {c : UInt8} (h : fitsA a c = true) : (putS a c).length ≤ 296 := by
  unfold fitsA at h
  unfold putS
  have tn := textL_len (s := a.name)
  have tx := textL_len (s := a.xn)
  have te := textL_len (s := a.be)
  have tq := textL_len (s := a.bq)
  have tp := textL_len (s := a.bp)
  by_cases h110 : c = 110
  · rw [if_pos h110] at h ⊢
    have := name_short h
    omega
  rw [if_neg h110] at h ⊢
  by_cases hdc : c = 100 ∨ c = 99
  · rw [if_pos hdc, putL_length]; omega
  rw [if_neg (fun e => hdc (.inl e)), if_neg (fun e => hdc (.inr e))] at h
  rw [if_neg hdc]
  by_cases h116 : c = 116
  · rw [if_pos h116, putL_length]; omega
  rw [if_neg h116] at h ⊢
  by_cases h115 : c = 115
  · rw [if_pos h115, putL_length]; omega
  rw [if_neg h115] at h ⊢
  by_cases h120 : c = 120
  · rw [if_pos h120] at h ⊢
    simp only [goodX, Bool.and_eq_true] at h
    have := name_short h.2
    unfold exL
    simp only [List.length_append, putL_length]
    omega
  rw [if_neg h120] at h ⊢
  by_cases h98 : c = 98
  · rw [if_pos h98] at h ⊢
    simp only [goodBd, Bool.and_eq_true, decide_eq_true_eq] at h
    have s1 := name_short h.1.1
    have s2 := name_short h.1.2
    unfold bdL
    simp only [List.length_append]
    omega
  rw [if_neg h98] at h ⊢
  by_cases h109 : c = 109
  · rw [if_pos h109] at h ⊢
    exact (bytesM_len h).2
  rw [if_neg h109]
  simp

theorem flat_len {a : Ax} : ∀ {l : List UInt8}, l.all (fitsA a) = true → (l.flatMap (putS a)).length ≤ l.length * 296
  | [], _ => by simp
  | c :: l, h => by
    simp only [List.all_cons, Bool.and_eq_true] at h
    have h1 := putS_len h.1
    have h2 := flat_len h.2
    rw [List.flatMap_cons, List.length_append, List.length_cons]
    omega

theorem bytesA_len {a : Ax} (h : goodA a = true) : 1 ≤ (bytesA a).length ∧ (bytesA a).length ≤ 600 := by
  obtain ⟨l, hl, hf, ho, hb⟩ := goodA_tells h
  have h1 := flat_len hf
  have h2 := (lettersL_kind hl).2
  rw [hb, List.length_append, putL_length]
  omega

theorem bytesA_none {a : Ax} (h : goodA a = false) : bytesA a = [] := by unfold bytesA; rw [h]; rfl

/-- The limits of an act's numbers, as far as reading asks. -/
def Ax.Fine (a : Ax) : Prop := (0 ≤ a.tag ∧ a.tag < 18446744073709551616) ∧ a.m.seq < 18446744073709551616

theorem reads_item (a : Ax) (h : goodA a = true) (hf : a.Fine) : Reads itemP (itemL a) a := by
  have hb := bytesA_len h
  have := (reads_piece (bytesA a) (by omega)).bind (Q := fun p => ofP (readA p)) (f := []) (y := a) (by rw [readA_back a h hf.1 hf.2]; exact reads_pure a)
  rw [List.append_nil] at this
  exact this

theorem reads_items : ∀ (n : Nat) (l : List Ax), l.length = n → l.all goodA = true → (∀ a ∈ l, a.Fine) → Reads (itemsP n) (l.flatMap itemL) l
  | 0, l, hl, _, _ => by
    obtain rfl := List.length_eq_zero_iff.1 hl
    exact fun _ => rfl
  | n + 1, l, hl, hg, hf => by
    obtain ⟨i, a, rfl⟩ : ∃ i a, l = i ++ [a] := ⟨l.dropLast, l.getLast (by intro e; rw [e] at hl; simp at hl), (List.dropLast_concat_getLast _).symm⟩
    simp only [List.all_append, List.all_cons, List.all_nil, Bool.and_true, Bool.and_eq_true] at hg
    have h1 := reads_items n i (by simpa using hl) hg.1 (fun x hx => hf x (List.mem_append_left _ hx))
    have h2 := (reads_item a hg.2 (hf a (by simp))).out fun x => i ++ [x]
    rw [List.flatMap_append, List.flatMap_cons, List.flatMap_nil, List.append_nil]
    exact h1.bind h2

theorem readL_back (l : List Ax) (hl : l.length ≤ 60000) (hg : l.all goodA = true) (hf : ∀ a ∈ l, a.Fine) : readL (manyL l) = some l := by
  unfold manyL
  rw [if_pos ⟨hl, hg⟩]
  have := ((reads_num 2 l.length (by omega)).bind (reads_items l.length l rfl hg hf)) []
  rw [List.append_nil] at this
  unfold readL manyP
  rw [this]
  simp [hl]

theorem readL_nil : readL [] = none := by
  unfold readL manyP bindP numP
  simp

/-- What was read is good. -/
theorem readA_good {b : List UInt8} {a : Ax} (h : readA b = some a) : goodA a = true := by
  unfold readA at h
  split at h
  · split at h
    · rename_i hg
      obtain rfl := Option.some.inj h
      exact hg
    · exact absurd h (by simp)
  · exact absurd h (by simp)


/-- How a reader stands behind bytes read by P: it has told x, and has what is left; or it is torn. -/
def Aft {α : Type} (s : Option (List UInt8)) (P : Prs α) (x : α) (s' : Option (List UInt8)) : Prop := match s.bind P with
  | some r => x = r.1 ∧ s' = some r.2
  | none => s' = none

theorem Aft.bind {α β : Type} {s s1 s2 : Option (List UInt8)} {P : Prs α} {Q : α → Prs β} {x : α} {y : β} (h : Aft s P x s1) (k : Aft s1 (Q x) y s2) : Aft s (bindP P Q) y s2 := by
  unfold Aft at h k ⊢
  cases s with
  | none =>
    simp only [Option.bind_none] at h ⊢
    subst h
    simpa using k
  | some l =>
    simp only [Option.bind_some] at h ⊢
    unfold bindP
    cases hp : P l with
    | none =>
      rw [hp] at h
      simp only at h
      subst h
      simpa using k
    | some r =>
      rw [hp] at h
      obtain ⟨rfl, rfl⟩ := h
      simpa using k

theorem aft_pure {α : Type} (s : Option (List UInt8)) (x : α) : Aft s (pureP x) x s := by
  unfold Aft
  cases s with
  | none => rfl
  | some l => exact ⟨rfl, rfl⟩

theorem Aft.out {α β : Type} {s s1 : Option (List UInt8)} {P : Prs α} {x : α} (g : α → β) (h : Aft s P x s1) : Aft s (bindP P fun z => pureP (g z)) (g x) s1 := h.bind (aft_pure s1 (g x))

theorem aft_none {α : Type} (P : Prs α) (x : α) : Aft none P x none := rfl

/-- Read to its end. -/
theorem readA_aft {b : List UInt8} {x : Ax} {s : Option (List UInt8)} (h : Aft (some b) actP x s) : readA b = if s = some [] ∧ goodA x = true then some x else none := by
  unfold Aft at h
  rw [Option.bind_some] at h
  unfold readA
  cases hp : actP b with
  | none =>
    rw [hp] at h
    simp only at h
    subst h
    rw [if_neg (by simp)]
  | some r =>
    obtain ⟨y, l⟩ := r
    rw [hp] at h
    obtain ⟨rfl, rfl⟩ := h
    cases l with
    | nil => simp
    | cons c l => simp

theorem readM_aft {b : List UInt8} {x : Ms} {s : Option (List UInt8)} (h : Aft (some b) msgP x s) : readM b = match s with
    | some l => if goodM x = true then some (x, b.length - l.length) else none
    | none => none := by
  unfold Aft at h
  rw [Option.bind_some] at h
  unfold readM
  cases hp : msgP b with
  | none =>
    rw [hp] at h
    simp only at h
    subst h
    rfl
  | some r =>
    obtain ⟨y, l⟩ := r
    rw [hp] at h
    obtain ⟨rfl, rfl⟩ := h
    rfl

theorem readL_aft {b : List UInt8} {n : Nat} {l : List Ax} {s0 s : Option (List UInt8)} (h0 : Aft (some b) (numP 2) n s0) (h : Aft s0 (itemsP n) l s) : readL b = if s = some [] ∧ l.length ≤ 60000 then some l else none := by
  have h := h0.bind h
  unfold Aft at h
  rw [Option.bind_some] at h
  unfold readL manyP
  cases hp : bindP (numP 2) itemsP b with
  | none =>
    rw [hp] at h
    simp only at h
    subst h
    rw [if_neg (by simp)]
  | some r =>
    obtain ⟨y, l'⟩ := r
    rw [hp] at h
    obtain ⟨rfl, rfl⟩ := h
    cases l' with
    | nil => simp
    | cons c l => simp

/-- As many items as are wanted. -/
theorem itemsP_len : ∀ (n : Nat) (b : List UInt8) (l : List Ax) (r : List UInt8), itemsP n b = some (l, r) → l.length = n
  | 0, b, l, r, h => by
    simp only [itemsP, pureP, Option.some.injEq, Prod.mk.injEq] at h
    rw [← h.1]; rfl
  | n + 1, b, l, r, h => by
    unfold itemsP bindP at h
    cases hp : itemsP n b with
    | none => rw [hp] at h; exact absurd h (by simp)
    | some p =>
      obtain ⟨i, s⟩ := p
      have ih := itemsP_len n b i s hp
      rw [hp] at h
      simp only [Option.bind_some] at h
      cases hq : itemP s with
      | none => rw [hq] at h; exact absurd h (by simp)
      | some q =>
        rw [hq] at h
        simp only [Option.bind_some, pureP, Option.some.injEq, Prod.mk.injEq] at h
        rw [← h.1, List.length_append, ih]; rfl

/-- A torn item, and all is. -/
theorem itemsP_torn (n : Nat) (s : Option (List UInt8)) (h : s.bind (itemsP n) = none) : ∀ k, s.bind (itemsP (n + k)) = none
  | 0 => h
  | k + 1 => by
    have ih := itemsP_torn n s h k
    cases s with
    | none => rfl
    | some b =>
      simp only [Option.bind_some] at ih ⊢
      show bindP (itemsP (n + k)) _ b = none
      unfold bindP
      rw [ih]
      rfl

end Go.Proofs.YtdbgojmjjkidbaaGreatDoor
