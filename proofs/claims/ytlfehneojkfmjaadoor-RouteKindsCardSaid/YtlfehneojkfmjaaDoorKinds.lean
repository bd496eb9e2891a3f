/-
  THREE EXCHANGES, one of each kind, and the same queues bound to each. Of no program.
-/
import Derived.Test.YtlfehneojkfmjaaDoorGrows
namespace Go.Proofs.YtlfehneojkfmjaaDoor
open Go.RowKit Go.Sort

def tF : ByteArray := ⟨#[102]⟩
def tT : ByteArray := ⟨#[116]⟩
def tD : ByteArray := ⟨#[100]⟩
def tM : ByteArray := ⟨#[35]⟩
def t0 : ByteArray := ⟨#[]⟩
def exF : Ex := ⟨⟨#[102]⟩, 2, false⟩
def exT : Ex := ⟨⟨#[116]⟩, 3, false⟩
def exD : Ex := ⟨⟨#[100]⟩, 1, false⟩
theorem many_match {k : Txt} (h : keyB k = true) : matchB (txt tM) k = true := by
  have e : txt tM = [35] := rfl
  rw [e]
  unfold matchB
  have h1 : patB [35] = true := by decide
  have h2 : wordsL [35] = [[35]] := by decide
  rw [h1, h, h2]
  simp only [Bool.true_and]
  rw [fits_many]
  exact ⟨(wordsL k).length, Nat.le_refl _, by simp [fitsL]⟩
/-- What Bind leaves. -/
theorem bind_mem {s : Tb} {b : Bd} {x : Ex} (hx : findX s.xs b.ex = some x) (hl : s.bs.length < 32) (c : Bd) : c ∈ (s.bind b).2.bs ↔ c ∈ s.bs ∨ (c = b ∧ nameB (txt b.que) = true ∧ mayP x.kind b.pat = true) := by
  unfold Tb.bind
  by_cases h1 : nameB (txt b.que) = false
  · rw [if_pos h1]; simp [h1]
  · rw [if_neg h1, hx]
    have h1' : nameB (txt b.que) = true := by simpa using h1
    simp only
    by_cases h2 : mayP x.kind b.pat = false
    · rw [if_pos h2]; simp [h2]
    · rw [if_neg h2]
      have h2' : mayP x.kind b.pat = true := by simpa using h2
      by_cases h3 : b ∈ s.bs
      · rw [if_pos h3]
        constructor
        · exact .inl
        · rintro (h | ⟨rfl, _⟩) <;> assumption
      · rw [if_neg h3, if_neg (by omega)]
        show c ∈ insC cmpB b s.bs ↔ _
        rw [mem_insC]
        constructor
        · rintro (rfl | h)
          · exact .inr ⟨rfl, h1', h2'⟩
          · exact .inl h
        · rintro (h | ⟨rfl, _⟩)
          · exact .inr h
          · exact .inl rfl
theorem bind_len (s : Tb) (b : Bd) : (s.bind b).2.bs.length ≤ s.bs.length + 1 := by
  rcases bind_snd s b with h | ⟨h, _⟩
  · rw [h]; omega
  · rw [h]
    show (insC cmpB b s.bs).length ≤ _
    rw [(insC_perm b s.bs).length_eq]
    simp
structure KT (s : Tb) (a : ByteArray) (qs : List ByteArray) : Prop where
  xs : s.xs = [exD, exF, exT]
  ok : s.Ok
  len : s.bs.length ≤ 3 * qs.length
  mem : ∀ b, b ∈ s.bs ↔ ∃ q ∈ qs, nameB (txt q) = true ∧ (b = ⟨tF, q, t0⟩ ∨ b = ⟨tT, q, tM⟩ ∨ (keyB (txt a) = true ∧ b = ⟨tD, q, a⟩))
theorem fF : findX [exD, exF, exT] tF = some exF := by rfl
theorem fT : findX [exD, exF, exT] tT = some exT := by rfl
theorem fD : findX [exD, exF, exT] tD = some exD := by rfl
theorem KT.step {s : Tb} {a : ByteArray} {qs : List ByteArray} (h : KT s a qs) (hl : qs.length < 10) (q : ByteArray) (hq : q.size ≤ maxLen) (ha : a.size ≤ maxLen) :
    KT ((((s.bind ⟨tF, q, t0⟩).2).bind ⟨tT, q, tM⟩).2.bind ⟨tD, q, a⟩).2 a (qs ++ [q]) := by
  have zF : tF.size ≤ maxLen := by unfold maxLen; decide
  have zT : tT.size ≤ maxLen := by unfold maxLen; decide
  have zD : tD.size ≤ maxLen := by unfold maxLen; decide
  have zM : tM.size ≤ maxLen := by unfold maxLen; decide
  have z0 : t0.size ≤ maxLen := by unfold maxLen; decide
  have o1 := h.ok.bind (b := ⟨tF, q, t0⟩) ⟨zF, hq, z0⟩
  have o2 := o1.bind (b := ⟨tT, q, tM⟩) ⟨zT, hq, zM⟩
  have o3 := o2.bind (b := ⟨tD, q, a⟩) ⟨zD, hq, ha⟩
  have l0 := h.len
  have l1 := bind_len s ⟨tF, q, t0⟩
  have l2 := bind_len (s.bind ⟨tF, q, t0⟩).2 ⟨tT, q, tM⟩
  have l3 := bind_len (((s.bind ⟨tF, q, t0⟩).2).bind ⟨tT, q, tM⟩).2 ⟨tD, q, a⟩
  have x1 : (s.bind ⟨tF, q, t0⟩).2.xs = [exD, exF, exT] := (bind_xs _ _).trans h.xs
  have x2 : (((s.bind ⟨tF, q, t0⟩).2).bind ⟨tT, q, tM⟩).2.xs = [exD, exF, exT] := (bind_xs _ _).trans x1
  refine ⟨(bind_xs _ _).trans x2, o3, by rw [List.length_append]; simp; omega, fun b => ?_⟩
  have m1 := bind_mem (s := s) (b := ⟨tF, q, t0⟩) (x := exF) (by rw [h.xs]; exact fF) (by omega)
  have m2 := bind_mem (s := (s.bind ⟨tF, q, t0⟩).2) (b := ⟨tT, q, tM⟩) (x := exT) (by rw [x1]; exact fT) (by omega)
  have m3 := bind_mem (s := (((s.bind ⟨tF, q, t0⟩).2).bind ⟨tT, q, tM⟩).2) (b := ⟨tD, q, a⟩) (x := exD) (by rw [x2]; exact fD) (by omega)
  have y1 : mayP exF.kind t0 = true := by
    show mayP 2 t0 = true
    unfold mayP
    rw [if_neg (by decide), if_pos rfl, ByteArray.toList_eq]
    rfl
  have y2 : mayP exT.kind tM = true := by
    show mayP 3 tM = true
    unfold mayP
    rw [if_neg (by decide), if_neg (by decide)]
    show patB [35] = true
    decide
  have y3 : mayP exD.kind a = keyB (txt a) := by unfold mayP; rw [if_pos (show exD.kind = 1 from rfl)]
  simp only [y1, y2, y3] at m1 m2 m3
  rw [m3, m2, m1, h.mem]
  constructor
  · rintro (((⟨q', hq', h1⟩ | ⟨h1, h2, _⟩) | ⟨h1, h2, _⟩) | ⟨h1, h2, h3⟩)
    · exact ⟨q', by simp [hq'], h1⟩
    · exact ⟨q, by simp, h2, .inl h1⟩
    · exact ⟨q, by simp, h2, .inr (.inl h1)⟩
    · exact ⟨q, by simp, h2, .inr (.inr ⟨h3, h1⟩)⟩
  · rintro ⟨q', hq', h1, h2⟩
    rcases List.mem_append.1 hq' with hq' | hq'
    · exact .inl (.inl (.inl ⟨q', hq', h1, h2⟩))
    · obtain rfl : q' = q := by simpa using hq'
      rcases h2 with h2 | h2 | ⟨h2, h3⟩
      · exact .inl (.inl (.inr ⟨h2, h1, trivial⟩))
      · exact .inl (.inr ⟨h2, h1, trivial⟩)
      · exact .inr ⟨h3, h1, h2⟩
/-- The names among them, each once. -/
def goodQ (qs : List ByteArray) : List ByteArray := mkS (qs.filter fun q => nameB (txt q))
theorem mem_goodQ {qs : List ByteArray} {q : ByteArray} : q ∈ goodQ qs ↔ q ∈ qs ∧ nameB (txt q) = true := by
  unfold goodQ
  rw [mem_mkS, List.mem_filter]
theorem KT.qf {s : Tb} {a : ByteArray} {qs : List ByteArray} (h : KT s a qs) (k : ByteArray) : queuesT s tF k = if keyB (txt k) = true then goodQ qs else [] := by
  refine Ord.ext cmpS3 ?_ (queuesT_ord _ _ _) (fun q => ?_)
  · split
    · exact mkS_ord _
    · exact List.Pairwise.nil
  · rw [mem_queuesT, h.xs, fF]
    split
    · rename_i hk
      rw [mem_goodQ]
      constructor
      · rintro ⟨x, hx, b, hb, h1, h2, rfl⟩
        obtain ⟨q', hq', hn, h3⟩ := (h.mem b).1 hb
        have : b.que = q' := by rcases h3 with rfl | rfl | ⟨_, rfl⟩ <;> rfl
        rw [this]; exact ⟨hq', hn⟩
      · rintro ⟨hq, hn⟩
        refine ⟨exF, rfl, ⟨tF, q, t0⟩, (h.mem _).2 ⟨q, hq, hn, .inl rfl⟩, rfl, ?_, rfl⟩
        unfold fitsX
        have hg : goodX exF = true := by decide
        rw [hk, hg, if_neg (show ¬ exF.kind = 1 by decide), if_pos (show exF.kind = 2 from rfl), ByteArray.toList_eq]
        rfl
    · rename_i hk
      have hk' : keyB (txt k) = false := by simpa using hk
      constructor
      · rintro ⟨x, hx, b, hb, h1, h2, rfl⟩
        unfold fitsX at h2
        rw [hk'] at h2
        simp at h2
      · intro h; cases h
theorem KT.qt {s : Tb} {a : ByteArray} {qs : List ByteArray} (h : KT s a qs) (k : ByteArray) : queuesT s tT k = if keyB (txt k) = true then goodQ qs else [] := by
  refine Ord.ext cmpS3 ?_ (queuesT_ord _ _ _) (fun q => ?_)
  · split
    · exact mkS_ord _
    · exact List.Pairwise.nil
  · rw [mem_queuesT, h.xs, fT]
    split
    · rename_i hk
      rw [mem_goodQ]
      constructor
      · rintro ⟨x, hx, b, hb, h1, h2, rfl⟩
        obtain ⟨q', hq', hn, h3⟩ := (h.mem b).1 hb
        have : b.que = q' := by rcases h3 with rfl | rfl | ⟨_, rfl⟩ <;> rfl
        rw [this]; exact ⟨hq', hn⟩
      · rintro ⟨hq, hn⟩
        refine ⟨exT, rfl, ⟨tT, q, tM⟩, (h.mem _).2 ⟨q, hq, hn, .inr (.inl rfl)⟩, rfl, ?_, rfl⟩
        unfold fitsX
        have hg : goodX exT = true := by decide
        rw [hk, hg, if_neg (by decide), if_neg (by decide)]
        exact many_match hk
    · rename_i hk
      have hk' : keyB (txt k) = false := by simpa using hk
      constructor
      · rintro ⟨x, hx, b, hb, h1, h2, rfl⟩
        unfold fitsX at h2
        rw [hk'] at h2
        simp at h2
      · intro h; cases h
theorem KT.qd {s : Tb} {a : ByteArray} {qs : List ByteArray} (h : KT s a qs) (k : ByteArray) : queuesT s tD k = if keyB (txt k) = true ∧ a = k then goodQ qs else [] := by
  refine Ord.ext cmpS3 ?_ (queuesT_ord _ _ _) (fun q => ?_)
  · split
    · exact mkS_ord _
    · exact List.Pairwise.nil
  · rw [mem_queuesT, h.xs, fD]
    split
    · rename_i hk
      obtain ⟨hk, rfl⟩ := hk
      rw [mem_goodQ]
      constructor
      · rintro ⟨x, hx, b, hb, h1, h2, rfl⟩
        obtain ⟨q', hq', hn, h3⟩ := (h.mem b).1 hb
        have : b.que = q' := by rcases h3 with rfl | rfl | ⟨_, rfl⟩ <;> rfl
        rw [this]; exact ⟨hq', hn⟩
      · rintro ⟨hq, hn⟩
        refine ⟨exD, rfl, ⟨tD, q, a⟩, (h.mem _).2 ⟨q, hq, hn, .inr (.inr ⟨hk, rfl⟩)⟩, rfl, ?_, rfl⟩
        unfold fitsX
        have hg : goodX exD = true := by decide
        rw [hk, hg, if_pos (show exD.kind = 1 from rfl)]
        simp
    · rename_i hk
      constructor
      · rintro ⟨x, hx, b, hb, h1, h2, rfl⟩
        obtain rfl : exD = x := by injection hx
        unfold fitsX at h2
        rw [if_pos (show exD.kind = 1 from rfl)] at h2
        simp only [Bool.and_eq_true, beq_iff_eq] at h2
        have he : b.pat = k := arr_inj (by have := h2.2; rwa [ByteArray.toList_eq, ByteArray.toList_eq] at this)
        obtain ⟨q', hq', hn, h3⟩ := (h.mem b).1 hb
        rcases h3 with rfl | rfl | ⟨_, rfl⟩
        · exact absurd (show tF = tD from h1) (by decide)
        · exact absurd (show tT = tD from h1) (by decide)
        · exact absurd ⟨h2.1.2, he⟩ hk
      · intro h; cases h
theorem kt_new (a : ByteArray) : KT ⟨[exD, exF, exT], []⟩ a [] :=
  ⟨rfl, ⟨by unfold Ord; decide, List.Pairwise.nil, by decide, by simp, by simp, by simp, by simp⟩, by simp, fun b => by simp⟩
theorem kt1 : newT.declare exF = (0, ⟨[exF], []⟩) := by rfl
theorem kt2 : (⟨[exF], []⟩ : Tb).declare exT = (0, ⟨[exF, exT], []⟩) := by rfl
theorem kt3 : (⟨[exF, exT], []⟩ : Tb).declare exD = (0, ⟨[exD, exF, exT], []⟩) := by rfl
end Go.Proofs.YtlfehneojkfmjaaDoor
