/-
  WHAT IS OF NO PROGRAM: words between dots, what a name, a key and a pattern are, and what words stand for.
-/
import Derived.WalkKit
import Derived.Test.YtdbgojmjjkidbaaGreatDoorProg
import Derived.Test.YtdbgojmjjkidbaaGreatDoorJRow
import Derived.Laws.RangeAny
import Derived.Deep.Light
namespace Go.Proofs.YtdbgojmjjkidbaaGreatDoor


abbrev Txt := List UInt8


/-- The signs of a name. -/
def signB (b : UInt8) : Bool := (97 ≤ b.toNat && b.toNat ≤ 122) || (48 ≤ b.toNat && b.toNat ≤ 57) || b.toNat == 45 || b.toNat == 95

def lettersB (l : Txt) : Bool := l.all signB && !l.isEmpty


/-- What stands between dots: at least one piece. -/
def pieces : Txt → List Txt
  | [] => [[]]
  | b :: l => if b = 46 then [] :: pieces l else
    match pieces l with
    | [] => [[b]]
    | p :: ps => (b :: p) :: ps


def wordsL (l : Txt) : List Txt := if l.isEmpty then [] else pieces l


theorem pieces_ne (l : Txt) : pieces l ≠ [] := by
  cases l with
  | nil => simp [pieces]
  | cons b l =>
    unfold pieces
    split
    · simp
    · split <;> simp


/-- With dots between. -/
def dotted : List Txt → Txt
  | [] => []
  | [p] => p
  | p :: q :: ps => p ++ 46 :: dotted (q :: ps)


theorem dotted_pieces (l : Txt) : dotted (pieces l) = l := by
  induction l with
  | nil => rfl
  | cons b l ih =>
    unfold pieces
    obtain ⟨p, ps, e⟩ : ∃ p ps, pieces l = p :: ps := by
      cases h : pieces l with
      | nil => exact absurd h (pieces_ne l)
      | cons p ps => exact ⟨p, ps, rfl⟩
    rw [e] at ih ⊢
    split
    · rename_i hb
      subst hb
      show dotted ([] :: p :: ps) = _
      simp [dotted, ih]
    · cases ps with
      | nil => simpa [dotted] using ih
      | cons q qs => simpa [dotted] using ih


theorem wordsL_inj {a b : Txt} (h : wordsL a = wordsL b) : a = b := by
  unfold wordsL at h
  cases a with
  | nil =>
    cases b with
    | nil => rfl
    | cons y b => simp only [List.isEmpty_nil, if_true, List.isEmpty_cons, Bool.false_eq_true, if_false] at h; exact absurd h.symm (pieces_ne _)
  | cons x a =>
    cases b with
    | nil => simp at h; exact absurd h (pieces_ne _)
    | cons y b =>
      simp at h
      rw [← dotted_pieces (x :: a), h, dotted_pieces]


/-- A piece without a dot, and what stands behind it. -/
theorem pieces_dot (p l : Txt) (hp : ∀ b ∈ p, b ≠ 46) : pieces (p ++ 46 :: l) = p :: pieces l := by
  induction p with
  | nil => simp [pieces]
  | cons b p ih =>
    have hb : b ≠ 46 := hp b (by simp)
    have h := ih (fun c hc => hp c (by simp [hc]))
    rw [List.cons_append, pieces, if_neg hb, h]

theorem pieces_none (p : Txt) (hp : ∀ b ∈ p, b ≠ 46) : pieces p = [p] := by
  induction p with
  | nil => rfl
  | cons b p ih =>
    have hb : b ≠ 46 := hp b (by simp)
    rw [pieces, if_neg hb, ih (fun c hc => hp c (by simp [hc]))]


theorem pieces_append (a b : Txt) : pieces (a ++ 46 :: b) = pieces a ++ pieces b := by
  induction a with
  | nil => simp [pieces]
  | cons c a ih =>
    rw [List.cons_append, pieces, pieces, ih]
    split
    · simp
    · obtain ⟨p, ps, e⟩ : ∃ p ps, pieces a = p :: ps := by
        cases h : pieces a with
        | nil => exact absurd h (pieces_ne a)
        | cons p ps => exact ⟨p, ps, rfl⟩
      rw [e]
      rfl


theorem wordsL_append (a b : Txt) (ha : a ≠ []) (hb : b ≠ []) : wordsL (a ++ 46 :: b) = wordsL a ++ wordsL b := by
  unfold wordsL
  rw [if_neg (by simp), if_neg (by simpa using ha), if_neg (by simpa using hb), pieces_append]


/-- Its pieces are as many as its dots, and one. -/
theorem pieces_count (l : Txt) : (pieces l).length = l.count 46 + 1 := by
  induction l with
  | nil => rfl
  | cons b l ih =>
    obtain ⟨p, ps, e⟩ : ∃ p ps, pieces l = p :: ps := by
      cases h : pieces l with
      | nil => exact absurd h (pieces_ne l)
      | cons p ps => exact ⟨p, ps, rfl⟩
    rw [e] at ih
    unfold pieces
    rw [e]
    split
    · rename_i hb
      subst hb
      simp at ih ⊢
      omega
    · rename_i hb
      rw [List.count_cons_of_ne hb]
      simpa using ih


theorem wordsL_le (l : Txt) : (wordsL l).length ≤ l.length + 1 := by
  unfold wordsL
  split
  · simp
  · rw [pieces_count]
    have := List.count_le_length (a := (46 : UInt8)) (l := l)
    omega


theorem pieces_len (l : Txt) : ∀ p ∈ pieces l, p.length ≤ l.length := by
  induction l with
  | nil => simp [pieces]
  | cons b l ih =>
    obtain ⟨q, qs, e⟩ : ∃ p ps, pieces l = p :: ps := by
      cases h : pieces l with
      | nil => exact absurd h (pieces_ne l)
      | cons p ps => exact ⟨p, ps, rfl⟩
    unfold pieces
    rw [e] at ih ⊢
    intro p hp
    split at hp
    · rcases List.mem_cons.1 hp with rfl | hp
      · simp
      · have := ih p hp; simp; omega
    · rcases List.mem_cons.1 hp with rfl | hp
      · have := ih q (by simp); simp; omega
      · have := ih p (by simp [hp]); simp; omega

theorem wordsL_len (l : Txt) : ∀ p ∈ wordsL l, p.length ≤ l.length := by
  unfold wordsL
  split
  · simp
  · exact pieces_len l


/-- Is a text not too long, of words that may be, and not too many? -/
def ofB (may : Txt → Bool) (s : Txt) : Bool := decide (s.length ≤ 60) && (wordsL s).all may && decide ((wordsL s).length ≤ 12)

def wildB (w : Txt) : Bool := w == [42] || w == [35]

def keyB (s : Txt) : Bool := ofB lettersB s

def patB (s : Txt) : Bool := ofB (fun w => lettersB w || wildB w) s

def nameB (s : Txt) : Bool := decide (s.length ≤ 20) && lettersB s


theorem keyB_pat {s : Txt} (h : keyB s = true) : patB s = true := by
  unfold keyB patB ofB at *
  simp only [Bool.and_eq_true, List.all_eq_true] at h ⊢
  exact ⟨⟨h.1.1, fun w hw => by simp [h.1.2 w hw]⟩, h.2⟩


/-- Does a word stand for one of a pattern that is not #? -/
def sfB (w p : Txt) : Bool := w == p || (p == [42] && w != [35])


/-- Do words stand for a pattern's? -/
def fitsL : List Txt → List Txt → Bool
  | [], k => k.isEmpty
  | p :: ps, k => if p = [35] then (List.range (k.length + 1)).any fun i => fitsL ps (k.drop i) else
    match k with
    | [] => false
    | w :: k' => sfB w p && fitsL ps k'


theorem fits_many (ps k : List Txt) : fitsL ([35] :: ps) k = true ↔ ∃ i, i ≤ k.length ∧ fitsL ps (k.drop i) = true := by
  rw [show fitsL ([35] :: ps) k = (List.range (k.length + 1)).any fun i => fitsL ps (k.drop i) from by rw [fitsL.eq_def]; exact if_pos rfl, List.any_eq_true]
  constructor
  · rintro ⟨i, hi, h⟩
    exact ⟨i, by have := List.mem_range.1 hi; omega, h⟩
  · rintro ⟨i, hi, h⟩
    exact ⟨i, List.mem_range.2 (by omega), h⟩

theorem fits_one {p : Txt} (hp : p ≠ [35]) (ps : List Txt) (w : Txt) (k : List Txt) : fitsL (p :: ps) (w :: k) = (sfB w p && fitsL ps k) := by
  rw [fitsL, if_neg hp]

theorem fits_none {p : Txt} (hp : p ≠ [35]) (ps : List Txt) : fitsL (p :: ps) [] = false := by
  rw [fitsL, if_neg hp]


/-- A pattern behind another. -/
theorem fits_append (ps qs k : List Txt) : fitsL (ps ++ qs) k = true ↔ ∃ m, m ≤ k.length ∧ fitsL ps (k.take m) = true ∧ fitsL qs (k.drop m) = true := by
  induction ps generalizing k with
  | nil =>
    constructor
    · intro h
      exact ⟨0, Nat.zero_le _, rfl, by simpa using h⟩
    · rintro ⟨m, hm, h1, h2⟩
      have : m = 0 := by
        simp only [fitsL, List.isEmpty_iff, List.take_eq_nil_iff] at h1
        rcases h1 with h1 | h1
        · exact h1
        · subst h1; simpa using hm
      subst this
      simpa using h2
  | cons p ps ih =>
    by_cases hp : p = [35]
    · subst hp
      rw [List.cons_append, fits_many]
      constructor
      · rintro ⟨i, hi, h⟩
        obtain ⟨m, hm, h1, h2⟩ := (ih _).1 h
        rw [List.length_drop] at hm
        refine ⟨i + m, by omega, (fits_many _ _).2 ⟨i, by rw [List.length_take]; omega, ?_⟩, by rw [List.drop_drop] at h2; exact h2⟩
        rw [List.take_drop] at h1
        exact h1
      · rintro ⟨M, hM, h1, h2⟩
        obtain ⟨i, hi, h⟩ := (fits_many _ _).1 h1
        rw [List.length_take] at hi
        refine ⟨i, by omega, (ih _).2 ⟨M - i, by rw [List.length_drop]; omega, ?_, ?_⟩⟩
        · rw [List.take_drop, show i + (M - i) = M by omega]; exact h
        · rw [List.drop_drop, show i + (M - i) = M by omega]; exact h2
    · cases k with
      | nil =>
        rw [List.cons_append, fits_none hp]
        constructor
        · intro h; cases h
        · rintro ⟨m, hm, h1, _⟩
          rw [List.take_nil, fits_none hp] at h1
          exact h1
      | cons w k =>
        rw [List.cons_append, fits_one hp, Bool.and_eq_true, ih]
        constructor
        · rintro ⟨hs, m, hm, h1, h2⟩
          exact ⟨m + 1, by simp; omega, by rw [List.take_succ_cons, fits_one hp, hs, h1]; rfl, h2⟩
        · rintro ⟨m, hm, h1, h2⟩
          cases m with
          | zero => rw [List.take_zero, fits_none hp] at h1; cases h1
          | succ m =>
            rw [List.take_succ_cons, fits_one hp, Bool.and_eq_true] at h1
            exact ⟨h1.1, m, by simpa using hm, h1.2, h2⟩


/-- Who stands for what stands for another stands for that one. -/
theorem fits_trans (A B S : List Txt) (h1 : fitsL A B = true) (h2 : fitsL B S = true) : fitsL A S = true := by
  induction A generalizing B S with
  | nil =>
    have : B = [] := by simpa [fitsL] using h1
    subst this
    exact h2
  | cons p A ih =>
    by_cases hp : p = [35]
    · subst hp
      obtain ⟨i, hi, h⟩ := (fits_many _ _).1 h1
      rw [← List.take_append_drop i B] at h2
      obtain ⟨m, hm, _, h3⟩ := (fits_append _ _ _).1 h2
      exact (fits_many _ _).2 ⟨m, hm, ih _ _ h h3⟩
    · cases B with
      | nil => rw [fits_none hp] at h1; cases h1
      | cons w B =>
        rw [fits_one hp, Bool.and_eq_true] at h1
        have hw : w ≠ [35] := by
          intro e
          subst e
          have := h1.1
          simp [sfB] at this
          exact hp this.symm
        cases S with
        | nil => rw [fits_none hw] at h2; cases h2
        | cons v S =>
          rw [fits_one hw, Bool.and_eq_true] at h2
          rw [fits_one hp, Bool.and_eq_true]
          refine ⟨?_, ih _ _ h1.2 h2.2⟩
          have a := h1.1
          have b := h2.1
          simp only [sfB, Bool.or_eq_true, Bool.and_eq_true, beq_iff_eq, bne_iff_ne] at a b ⊢
          rcases a with rfl | ⟨rfl, _⟩
          · exact b
          · rcases b with rfl | ⟨_, hv⟩
            · exact .inr ⟨rfl, hw⟩
            · exact .inr ⟨rfl, hv⟩


/-- What may stand for a pattern with one word more, up to each count of words. -/
theorem fits_snoc_many (ps K : List Txt) (n : Nat) (hn : n ≤ K.length) :
    fitsL (ps ++ [[35]]) (K.take n) = (fitsL ps (K.take n) || (decide (0 < n) && fitsL (ps ++ [[35]]) (K.take (n - 1)))) := by
  rw [Bool.eq_iff_iff, Bool.or_eq_true, Bool.and_eq_true, fits_append, fits_append, decide_eq_true_eq]
  have hall : ∀ l : List Txt, fitsL [[35]] l = true := fun l => (fits_many _ _).2 ⟨l.length, Nat.le_refl _, by simp [fitsL]⟩
  simp only [hall, and_true, List.take_take, List.length_take]
  constructor
  · rintro ⟨m, hm, h⟩
    by_cases e : m = n
    · left; subst e; simpa using h
    · right
      exact ⟨by omega, m, by omega, by rw [Nat.min_eq_left (by omega)] at h ⊢; exact h⟩
  · rintro (h | ⟨h0, m, hm, h⟩)
    · exact ⟨n, by omega, by simpa using h⟩
    · exact ⟨m, by omega, by rw [Nat.min_eq_left (by omega)] at h ⊢; exact h⟩

theorem fits_snoc_one (ps K : List Txt) (p : Txt) (hp : p ≠ [35]) (n : Nat) (hn : n ≤ K.length) :
    fitsL (ps ++ [p]) (K.take n) = (decide (0 < n) && fitsL ps (K.take (n - 1)) && sfB (K.getD (n - 1) []) p) := by
  rw [Bool.eq_iff_iff, Bool.and_eq_true, Bool.and_eq_true, fits_append, decide_eq_true_eq]
  simp only [List.take_take, List.length_take]
  constructor
  · rintro ⟨m, hm, h1, h2⟩
    have hl : ((K.take n).drop m).length = n - m := by simp; omega
    cases hd : (K.take n).drop m with
    | nil => rw [hd, fits_none hp] at h2; cases h2
    | cons w r =>
      rw [hd, fits_one hp, Bool.and_eq_true] at h2
      have hr : r = [] := by simpa [fitsL] using h2.2
      subst hr
      rw [hd] at hl
      have hmn : m = n - 1 := by simp at hl; omega
      have h0 : 0 < n := by simp at hl; omega
      subst hmn
      refine ⟨⟨h0, by rw [Nat.min_eq_left (by omega)] at h1; exact h1⟩, ?_⟩
      have hw : K.getD (n - 1) [] = w := by
        have := congrArg (fun l : List Txt => l[0]?) hd
        simp only [List.getElem?_drop, List.getElem?_take, List.getElem?_cons_zero, Nat.add_zero] at this
        rw [if_pos (by omega)] at this
        simp [List.getD, this]
      rw [hw]
      exact h2.1
  · rintro ⟨⟨h0, h1⟩, h2⟩
    refine ⟨n - 1, by omega, by rw [Nat.min_eq_left (by omega)]; exact h1, ?_⟩
    have hd : (K.take n).drop (n - 1) = [K.getD (n - 1) []] := by
      rw [List.drop_take, show n - (n - 1) = 1 by omega, List.drop_eq_getElem_cons (show n - 1 < K.length by omega), List.take_succ_cons, List.take_zero]
      simp [List.getD, List.getElem?_eq_getElem (show n - 1 < K.length by omega)]
    rw [hd, fits_one hp, h2]
    rfl


def matchB (p k : Txt) : Bool := patB p && keyB k && fitsL (wordsL p) (wordsL k)

def overB (a b : Txt) : Bool := patB a && patB b && fitsL (wordsL a) (wordsL b)


/-- The document's answer: recursion from the first word on. -/
def rfits (over : Bool) : List Txt → List Txt → Bool
  | [], k => k.isEmpty
  | p :: ps, k => if p = [35] then (List.range (k.length + 1)).any fun i => rfits over ps (k.drop i) else
    match k with
    | [] => false
    | w :: k' => if (over && w == [35]) = true then false else (p == [42] || p == w) && rfits over ps k'


theorem rfits_over (ps k : List Txt) : rfits true ps k = fitsL ps k := by
  induction ps generalizing k with
  | nil => rfl
  | cons p ps ih =>
    unfold rfits fitsL
    split
    · simp [ih]
    · rename_i hp
      cases k with
      | nil => rfl
      | cons w k =>
        simp only [ih, Bool.true_and]
        split
        · rename_i hw
          have hw' : w = [35] := by simpa using hw
          subst hw'
          have : sfB [35] p = false := by simp [sfB]; exact fun e => hp e.symm
          rw [this]; rfl
        · rename_i hw
          have hw' : w ≠ [35] := by simpa using hw
          congr 1
          rw [Bool.eq_iff_iff]
          simp only [sfB, Bool.or_eq_true, Bool.and_eq_true, beq_iff_eq, bne_iff_ne]
          constructor
          · rintro (h | h)
            · exact .inr ⟨h, hw'⟩
            · exact .inl h.symm
          · rintro (h | h)
            · exact .inr h.symm
            · exact .inl h.1

theorem rfits_not (ps k : List Txt) (hk : ∀ w ∈ k, w ≠ [35]) : rfits false ps k = fitsL ps k := by
  induction ps generalizing k with
  | nil => rfl
  | cons p ps ih =>
    unfold rfits fitsL
    split
    · congr 1
      funext i
      exact ih _ (fun w hw => hk w (List.mem_of_mem_drop hw))
    · cases k with
      | nil => rfl
      | cons w k =>
        have hw' : w ≠ [35] := hk w (by simp)
        simp only [ih k (fun v hv => hk v (by simp [hv])), Bool.false_and, Bool.false_eq_true, if_false]
        congr 1
        rw [Bool.eq_iff_iff]
        simp only [sfB, Bool.or_eq_true, Bool.and_eq_true, beq_iff_eq, bne_iff_ne]
        constructor
        · rintro (h | h)
          · exact .inr ⟨h, hw'⟩
          · exact .inl h.symm
        · rintro (h | h)
          · exact .inr h.symm
          · exact .inl h.1


theorem letters_ne {w : Txt} (h : lettersB w = true) : w ≠ [35] ∧ w ≠ [42] := by
  constructor <;> (rintro rfl; revert h; decide)

theorem key_words {k : Txt} (h : keyB k = true) : ∀ w ∈ wordsL k, w ≠ [35] ∧ w ≠ [42] := by
  intro w hw
  unfold keyB ofB at h
  simp only [Bool.and_eq_true, List.all_eq_true] at h
  exact letters_ne (h.1.2 w hw)


/-- Words without * and # stand for themselves alone. -/
theorem fits_self_only (a b : List Txt) (ha : ∀ w ∈ a, w ≠ [35] ∧ w ≠ [42]) : fitsL a b = true ↔ a = b := by
  induction a generalizing b with
  | nil => cases b <;> simp [fitsL]
  | cons p a ih =>
    have hp := ha p (by simp)
    cases b with
    | nil => simp [fits_none hp.1]
    | cons w b =>
      rw [fits_one hp.1, Bool.and_eq_true, ih b (fun v hv => ha v (by simp [hv]))]
      have : sfB w p = true ↔ w = p := by
        simp only [sfB, Bool.or_eq_true, Bool.and_eq_true, beq_iff_eq, bne_iff_ne]
        constructor
        · rintro (h | h)
          · exact h
          · exact absurd h.1 hp.2
        · exact .inl
      rw [this, List.cons.injEq, eq_comm (a := w)]

theorem fits_refl (a : List Txt) : fitsL a a = true := by
  induction a with
  | nil => rfl
  | cons p a ih =>
    by_cases hp : p = [35]
    · subst hp
      exact (fits_many _ _).2 ⟨1, by simp, by simpa using ih⟩
    · rw [fits_one hp, ih]
      simp [sfB]

theorem fits_all (k : List Txt) : fitsL [[35]] k = true := (fits_many _ _).2 ⟨k.length, Nat.le_refl _, by simp [fitsL]⟩


/-- So many *. -/
theorem fits_stars (n : Nat) (k : List Txt) (hk : ∀ w ∈ k, w ≠ [35]) : fitsL (List.replicate n [42]) k = decide (k.length = n) := by
  induction n generalizing k with
  | zero => cases k <;> simp [fitsL]
  | succ n ih =>
    rw [List.replicate_succ]
    cases k with
    | nil => rw [fits_none (by decide)]; simp
    | cons w k =>
      rw [fits_one (by decide), ih k (fun v hv => hk v (by simp [hv]))]
      have : sfB w [42] = true := by simp [sfB]; exact .inr (hk w (by simp))
      rw [this]
      simp

theorem fits_stars_many (n : Nat) (k : List Txt) (hk : ∀ w ∈ k, w ≠ [35]) : fitsL (List.replicate n [42] ++ [[35]]) k = decide (n ≤ k.length) := by
  rw [Bool.eq_iff_iff, fits_append, decide_eq_true_eq]
  constructor
  · rintro ⟨m, hm, h1, _⟩
    rw [fits_stars n _ (fun w hw => hk w (List.mem_of_mem_take hw)), decide_eq_true_eq, List.length_take] at h1
    omega
  · intro h
    exact ⟨n, h, by rw [fits_stars n _ (fun w hw => hk w (List.mem_of_mem_take hw)), decide_eq_true_eq, List.length_take]; omega, fits_all _⟩

theorem fits_many_stars (n : Nat) (k : List Txt) (hk : ∀ w ∈ k, w ≠ [35]) : fitsL ([35] :: List.replicate n [42]) k = decide (n ≤ k.length) := by
  rw [Bool.eq_iff_iff, fits_many, decide_eq_true_eq]
  constructor
  · rintro ⟨i, hi, h⟩
    rw [fits_stars n _ (fun w hw => hk w (List.mem_of_mem_drop hw)), decide_eq_true_eq, List.length_drop] at h
    omega
  · intro h
    exact ⟨k.length - n, by omega, by rw [fits_stars n _ (fun w hw => hk w (List.mem_of_mem_drop hw)), decide_eq_true_eq, List.length_drop]; omega⟩

end Go.Proofs.YtdbgojmjjkidbaaGreatDoor

/-
  THE WALKS of the signs of a name: the program's range over a string, the document's loop.
-/
namespace Go.Proofs.YtdbgojmjjkidbaaGreatDoor
open Go.RowKit


/-- A text's bytes. -/
def txt (s : ByteArray) : Txt := s.data.toList

theorem txt_length (s : ByteArray) : (txt s).length = s.size := by simp [txt]

theorem txt_inj {s t : ByteArray} (h : txt s = txt t) : s = t := by
  cases s; cases t
  simpa [txt] using h

theorem txt_eq (s t : ByteArray) : (s == t) = (txt s == txt t) := by
  show (s.data == t.data) = (s.data.toList == t.data.toList)
  rw [Bool.eq_iff_iff, beq_iff_eq, beq_iff_eq]
  exact ⟨fun h => by rw [h], fun h => Array.toList_inj.1 h⟩

theorem txt_snoc (s : ByteArray) (k : Nat) (h : k < s.size) : (txt s).take (k + 1) = (txt s).take k ++ [s[k]] := by
  unfold txt
  rw [List.take_succ_eq_append_getElem (by simpa using h)]; rfl

theorem txt_mem (s : ByteArray) (k : Nat) (h : k < s.size) : s[k] ∈ txt s := by
  have : (txt s)[k]'(by rw [txt_length]; exact h) = s[k] := rfl
  rw [← this]
  exact List.getElem_mem _


/-- A rune that is a sign. -/
def signI (r : Int) : Bool := decide (97 ≤ r ∧ r ≤ 122) || decide (48 ≤ r ∧ r ≤ 57) || r == 45 || r == 95

theorem signI_byte (b : UInt8) : signI (b.toNat : Int) = signB b := by
  unfold signI signB
  rw [Bool.eq_iff_iff]
  simp
  omega

theorem signI_high {r : Int} (h : 128 ≤ r) : signI r = false := by
  unfold signI
  rw [Bool.eq_false_iff]
  simp
  omega


theorem sign_any (r : Int) (w : World) :
    Calls Tryz.prog 113 #[.int .i32 r] w fun e w' => e = .returned (.bool (signI r)) ∧ w' = w := by
  go_enter Tryz.func113, Tryz.ntmps113
  go_wp2
  all_goals go_ret
  all_goals refine ⟨ret_bool ?_, rfl⟩
  all_goals go_light
  all_goals unfold signI
  all_goals rw [Bool.eq_iff_iff]
  all_goals simp only [Bool.or_eq_true, decide_eq_true_eq, beq_iff_eq, true_iff]
  all_goals first | omega | simp


theorem letters_take (s : ByteArray) (k : Nat) (h : k < s.size) : ((txt s).take (k + 1)).all signB = (((txt s).take k).all signB && signB s[k]) := by
  rw [txt_snoc s k h, List.all_append]
  simp

theorem letters_bad (s : ByteArray) (k : Nat) (h : k < s.size) (hb : signB s[k] = false) : lettersB (txt s) = false := by
  unfold lettersB
  have : (txt s).all signB = false := by
    rw [Bool.eq_false_iff]
    intro ha
    rw [List.all_eq_true] at ha
    rw [ha _ (txt_mem s k h)] at hb
    cases hb
  rw [this]; rfl

theorem letters_good (s : ByteArray) (k : Nat) (h : ¬ k < s.size) (ha : ((txt s).take k).all signB = true) : lettersB (txt s) = !(txt s).isEmpty := by
  rw [List.take_of_length_le (by rw [txt_length]; omega)] at ha
  unfold lettersB
  rw [ha]; rfl

theorem txt_empty (s : ByteArray) : (txt s).isEmpty = (s == ⟨#[]⟩) := by
  rw [txt_eq]
  show _ = (txt s == [])
  cases txt s <;> rfl


/-- plain: every byte is a sign, and there is one. -/
theorem plain_any (s : ByteArray) (w : World) :
    Calls Tryz.prog 98 #[.string s] w fun e w' => e = .returned (.bool (lettersB (txt s))) ∧ Below w.heap.size w w' := by
  go_enter Tryz.func98, Tryz.ntmps98
  go_wp2
  go_loopw [] (fun w' => ∃ pos : Nat, w' = w.iter s pos ∧ ((txt s).take pos).all signB = true) (fun w' => s.size - w'.iterPos w.heap.size)
  case atStart => exact ⟨0, rfl, rfl⟩
  case round =>
    obtain ⟨pos, rfl, ha⟩ := hrel
    have hbel : Below w.heap.size w (w.iter s pos) := (Below.refl _ w).alloc (Nat.le_refl _) _
    have HA : Hid _ := ha
    clear ha
    by_cases hp : pos < s.size
    · by_cases hr : signB s[pos] = true
      · have h128 : (s[pos]'hp).toNat < 128 := by
          unfold signB at hr
          simp at hr
          omega
        have hsg : signI ((s[pos]'hp).toNat : Int) = true := by rw [signI_byte]; exact hr
        have hnx : ∀ ty, (Instr.next (.pointer (some ⟨w.heap.size, 0, none⟩)) true ty).run Tryz.prog (w.iter s pos) = _ := fun ty => run_next_ascii w s pos ty hp h128
        go_wp2_with (go_at_call 113; refine (sign_any _ _).mono ?_; rintro e w' ⟨rfl, rfl⟩)
        go_roundw
        case rel => exact ⟨pos + 1, rfl, by rw [letters_take s pos hp, HA.out, hr]; rfl⟩
        case measure => simp; omega
      · have hr' : signB s[pos] = false := by simpa using hr
        have hbad := letters_bad s pos hp hr'
        have hdec : signI ((Utf8.decode s pos).1 : Int) = false := by
          by_cases h128 : (s[pos]'hp).toNat < 128
          · rw [decode_ascii s pos hp h128, signI_byte]; exact hr'
          · exact signI_high (by have := (decode_high s pos hp (by omega)).1; omega)
        have hnx : ∀ ty, (Instr.next (.pointer (some ⟨w.heap.size, 0, none⟩)) true ty).run Tryz.prog (w.iter s pos) = _ := fun ty => run_next_any w s pos ty hp
        go_wp2_with (go_at_call 113; refine (sign_any _ _).mono ?_; rintro e w' ⟨rfl, rfl⟩)
        go_ret
        exact ⟨ret_bool hbad.symm, (Below.refl _ w).alloc (Nat.le_refl _) _⟩
    · have hnx : ∀ ty, (Instr.next (.pointer (some ⟨w.heap.size, 0, none⟩)) true ty).run Tryz.prog (w.iter s pos) = _ := fun ty => run_next_end w s pos ty hp
      go_wp2
      go_ret
      refine ⟨ret_bool ?_, hbel⟩
      rw [letters_good s pos hp HA.out, ByteArray.toList_eq]
      rfl


/-- The document's letters. -/
theorem letters_any (s : ByteArray) (w : World) (hs : s.size ≤ maxLen) :
    Calls Tryz.prog 96 #[.string s] w fun e w' => e = .returned (.bool (lettersB (txt s))) ∧ w' = w := by
  unfold maxLen at hs
  go_enter Tryz.func96, Tryz.ntmps96
  go_wp2
  go_loop [3] (fun i => ∃ k : Nat, k ≤ s.size ∧ i = .int .i64 k ∧ ((txt s).take k).all signB = true) (fun i => s.size - (intOf i).toNat)
  case atStart => exact ⟨0, Nat.zero_le _, rfl, rfl⟩
  case round =>
    obtain ⟨k, hk, rfl, ha⟩ := hrel
    have HA : Hid _ := ha
    clear ha
    by_cases hlt : k < s.size
    · have HB : Hid (signB s[k] = signI (s[k].toNat : Int)) := (signI_byte _).symm
      go_wp2
      all_goals first
        | (go_round
           case rel =>
             refine ⟨k + 1, by omega, by go_num, ?_⟩
             rw [letters_take s k hlt, HA.out, HB.out]
             go_light
             simp only [Bool.not_eq_false', decide_eq_true_eq, beq_iff_eq] at *
             simp only [signI, Bool.true_and, Bool.or_eq_true, decide_eq_true_eq, beq_iff_eq]
             omega
           case measure => simp [intOf]; omega)
        | (go_ret
           refine ⟨ret_bool (letters_bad s k hlt ?_).symm, rfl⟩
           rw [HB.out]
           go_light
           simp only [Bool.not_eq_true', decide_eq_false_iff_not, beq_eq_false_iff_ne, ne_eq] at *
           rw [Bool.eq_false_iff]
           simp only [signI, ne_eq, Bool.or_eq_true, decide_eq_true_eq, beq_iff_eq]
           omega)
    · go_wp2
      all_goals go_ret
      all_goals refine ⟨ret_bool ?_, rfl⟩
      all_goals rw [letters_good s k hlt HA.out]
      all_goals rw [show (txt s).isEmpty = decide (s.size = 0) from by rw [← txt_length]; cases txt s <;> simp]
      all_goals go_light
      all_goals rw [Bool.eq_iff_iff]
      all_goals simp only [decide_eq_true_eq, Bool.not_eq_true', decide_eq_false_iff_not]
      all_goals omega


theorem name_any (s : ByteArray) (w : World) (hs : s.size ≤ maxLen) :
    Calls Tryz.prog 79 #[.string s] w fun e w' => e = .returned (.bool (nameB (txt s))) ∧ Below w.heap.size w w' := by
  unfold maxLen at hs
  have hn : nameB (txt s) = (decide (s.size ≤ 20) && lettersB (txt s)) := by unfold nameB; rw [txt_length]
  rw [hn]
  by_cases h20 : s.size ≤ 20
  all_goals go_enter Tryz.func79, Tryz.ntmps79
  all_goals go_wp2_with (go_at_call 98; refine (plain_any s _).mono ?_; rintro e w' ⟨rfl, hb⟩)
  all_goals go_ret
  · exact ⟨ret_bool (by rw [decide_eq_true h20]; rfl), by assumption⟩
  · exact ⟨rfl, Below.refl _ _⟩


theorem rname_any (s : ByteArray) (w : World) (hs : s.size ≤ maxLen) :
    Calls Tryz.prog 76 #[.string s] w fun e w' => e = .returned (.bool (nameB (txt s))) ∧ w' = w := by
  have hs' := hs
  unfold maxLen at hs
  have hn : nameB (txt s) = (decide (s.size ≤ 20) && lettersB (txt s)) := by unfold nameB; rw [txt_length]
  rw [hn]
  by_cases h20 : s.size ≤ 20
  all_goals go_enter Tryz.func76, Tryz.ntmps76
  all_goals go_wp2_with (go_at_call 96; refine (letters_any s _ hs').mono ?_; rintro e w' ⟨rfl, rfl⟩)
  all_goals go_ret
  all_goals exact ⟨ret_bool (by simp [h20]), rfl⟩

end Go.Proofs.YtdbgojmjjkidbaaGreatDoor
