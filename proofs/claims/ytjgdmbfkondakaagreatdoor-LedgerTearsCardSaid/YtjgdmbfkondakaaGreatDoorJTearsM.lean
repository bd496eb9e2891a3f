/-
  WHAT LedgerTears SAYS OF A LOG, told plainly: all records in one part, cut anywhere; Open mends it. Of no program.
-/
import Derived.Test.YtjgdmbfkondakaaGreatDoorJLives12
namespace Go.Proofs.YtjgdmbfkondakaaGreatDoor
open Go.RowKit

section
variable {m : M}
/-- A flush of a log of one part that has room stays in that part. -/
theorem flush_stay {R : Int} {N C : Nat} {l : Lg} {part : Int} {ws : List (List UInt8)} (t : Tk false part [] [] ws R N C l m 1 [] []) (hN : (N : Int) + 16 ≤ R) (hC : C ≤ 700000) (hp : ((catL ws).length : Int) ≤ part) : ∃ m', flushL l m = (0, ⟨part, 1, [], 0, false⟩, m') ∧ Log m' true [] 1 [] ws [] ∧ To m m' ((catL ws).length + 16) 4 := by
  have h := t.lg
  have hd := t.lit
  have hs := t.small
  have h0 := t.nl rfl
  have hc := t.cnt
  have hn := t.need
  have hr := t.room
  rw [t.le]
  have ho : offE ⟨part, 1 + (([] : List (List (List UInt8))).length : Int), catL ws, ws.length, false⟩ m = 0 := by unfold offE; rw [hd]; rfl
  have e1 : (1 : Int) + (([] : List (List (List UInt8))).length : Int) = 1 := by simp
  rw [e1] at ho ⊢
  unfold flushL
  rw [ho, if_neg (by simp)]
  simp only
  by_cases hz : ws.length = 0
  · rw [if_pos hz]
    obtain rfl := List.length_eq_zero_iff.1 hz
    exact ⟨m, rfl, h, (To.refl m).mono (by omega) (by omega)⟩
  · rw [if_neg hz]
    have hpp := h.p
    rw [List.append_nil] at hpp
    unfold flush1
    simp only
    have hw := hpp.write hd (by omega) (catL ws) (by omega)
    rw [e1] at hw
    rcases hw with ⟨m1, e, p1, t1⟩ | ⟨m1, _, _, t1⟩
    · rw [e, if_neg (by simp)]
      unfold flush2
      simp only
      have hd1 := t1.lit.trans hd
      have c1 := t1.count
      have hw := p1.sync hd1 (by omega)
      rw [e1] at hw
      rcases hw with ⟨m2, e, p2, t2⟩ | ⟨m2, _, _, t2⟩
      · rw [e, if_neg (by simp)]
        have hd2 := t2.lit.trans hd1
        have e3 : (dup (catL [])).now ++ catL ws = catL ws := rfl
        have L2 : Log m2 true [] 1 [] ws [] := by
          refine ⟨?_, hs, by rw [List.append_nil]; exact whole_cat _ hs⟩
          rw [List.append_nil, ← e3]
          exact p2
        simp only
        have hread := M.read_go hd2 (p2.name (by have := t2.count; omega)) L2.p.v.pb
        rw [List.append_nil, e1] at hread
        have hT : turnL ⟨part, 1, [], 0, false⟩ m2 = (0, ⟨part, 1, [], 0, false⟩, m2) := by
          unfold turnL
          simp only
          rw [hread]
          simp only
          exact if_pos (.inr hp)
        rw [flush3_of (l := ⟨part, 1, catL ws, ws.length, false⟩) hT]
        exact ⟨m2, rfl, L2, (t1.trans t2).mono (by omega) (by omega)⟩
      · exact absurd (t1.left h0) t2.left
    · exact absurd h0 t1.left
variable {cl : Bool} {chk : List UInt8} {first : Int} {fr : List (List (List UInt8))} {bk : List (List UInt8)} {tear : List UInt8} {Y : Fl}
/-- Open where the last part's bytes are some records and bytes that are no whole one, and nothing is planned. -/
theorem open_pre (h : Pre m cl chk first fr Y) (hY : Y.now = catL bk ++ tear) (sb : Small bk) (tr : wholeC (catL bk ++ tear) = bk ∧ wholeS (catL bk ++ tear) = (catL bk).length) (hl : m.left = 0) (hd : m.dark = false) (hc : m.count ≤ 800000) (part : Int) (hp : 1 ≤ part ∧ part ≤ 1048576) :
    ∃ l' m', openL m part = (0, l', m', chk, fr.flatten ++ bk) ∧ Log m' cl chk first fr bk [] ∧ To m m' 0 2 := by
  have hhi := h.hi
  have hlo := h.v.lo
  have hw := whole_cat bk sb
  have hch : (m.read checkB).2 = 0 ∨ (m.read checkB).2 = 3 := by
    rcases h.v.c with ⟨e, _⟩ | e
    · rw [show checkB = tCheck from rfl, M.read_no hd check_good e]; exact .inr rfl
    · rw [show checkB = tCheck from rfl, M.read_go hd check_good e]; exact .inl rfl
  have hun : (if (m.read checkB).2 = 0 then unsealL (m.read checkB).1 else some (1, [])) = some (first, chk) := by
    rcases h.v.c with ⟨e, e1, e2⟩ | e
    · rw [show checkB = tCheck from rfl, M.read_no hd check_good e, if_neg (by simp), e1, e2]
    · rw [show checkB = tCheck from rfl, M.read_go hd check_good e, if_pos rfl]
      exact unseal_sealed first chk hlo (by omega) h.v.sc
  have hol : openL m part = ((loadL ⟨part, 0, [], 0, false⟩ m first).1, (loadL ⟨part, 0, [], 0, false⟩ m first).2.1, (loadL ⟨part, 0, [], 0, false⟩ m first).2.2.1, chk, (loadL ⟨part, 0, [], 0, false⟩ m first).2.2.2) := by
    unfold openL
    rw [if_neg (by omega), if_neg (by omega), hun]
  have hpa := h.parts hd (by omega)
  have hra : readAll m (upL first (fr.length + 1)) 0 0 [] = .inr (((catL bk).length : Int), (tear.length : Int), [] ++ (fr.flatten ++ bk)) := by
    have hpb := h.v.pb
    have key : ∀ (fs : List (List (List UInt8))) (start size : Int) (rs : List (List UInt8)), 1 ≤ start → start + fs.length ≤ 999999999 → (∀ r ∈ fs, Small r) → (∀ j (h : j < fs.length), m.look (nameB (start + j)) = some (dup (catL fs[j]))) → m.look (nameB (start + fs.length)) = some Y → readAll m (upL start (fs.length + 1)) size 0 rs = .inr (((catL bk).length : Int), (tear.length : Int), rs ++ (fs.flatten ++ bk)) := by
      intro fs
      induction fs with
      | nil =>
        intro start size rs h1 h2 _ _ hb
        have hb : m.look (nameB start) = some Y := by simpa using hb
        have hr := M.read_go hd (nameB_good ⟨h1, by simp at h2; exact h2⟩) hb
        show readAll m [start] size 0 rs = _
        rw [readAll, hr, if_neg (by decide), if_neg (by simp), readAll]
        show Sum.inr ((wholeS Y.now : Int), (Y.now.length : Int) - wholeS Y.now, rs ++ wholeC Y.now) = _
        rw [hY, tr.1, tr.2, List.length_append]
        have : (((catL bk).length + tear.length : Nat) : Int) - ((catL bk).length : Int) = tear.length := by omega
        rw [this]
        rfl
      | cons f fs ih =>
        intro start size rs h1 h2 hs hf hb
        have h2' : start + fs.length + 1 ≤ 999999999 := by simp at h2; omega
        have h0 := hf 0 (by simp)
        have h0 : m.look (nameB start) = some (dup (catL f)) := by simpa using h0
        have hr := M.read_go hd (nameB_good ⟨h1, by omega⟩) h0
        have hw := whole_cat f (hs f (by simp))
        show readAll m (start :: upL (start + 1) (fs.length + 1)) size 0 rs = _
        rw [readAll, hr, if_neg (by decide), if_neg (by simp)]
        show readAll m (upL (start + 1) (fs.length + 1)) (wholeS (catL f)) (((catL f).length : Int) - wholeS (catL f)) (rs ++ wholeC (catL f)) = _
        rw [hw.1, hw.2, Int.sub_self]
        rw [ih (start + 1) _ _ (by omega) (by omega) (fun r hr => hs r (by simp [hr])) (fun j hj => by
          have := hf (j + 1) (by simp; omega)
          have e : start + ((j + 1 : Nat) : Int) = start + 1 + j := by omega
          rw [e] at this
          simpa using this) (by
          have e : start + ((f :: fs).length : Int) = start + 1 + fs.length := by simp; omega
          rw [e] at hb
          exact hb)]
        simp
    exact key fr first 0 [] hlo (by omega) h.v.sf h.v.pf hpb
  have hload : loadL ⟨part, 0, [], 0, false⟩ m first = ((trimL (catL bk).length tear.length ⟨part, first + fr.length, [], 0, false⟩ m).1, (trimL (catL bk).length tear.length ⟨part, first + fr.length, [], 0, false⟩ m).2.1, (trimL (catL bk).length tear.length ⟨part, first + fr.length, [], 0, false⟩ m).2.2, fr.flatten ++ bk) := by
    unfold loadL
    rw [hpa, if_neg (by simp [upL]), upL_length, upL_last, if_neg (by omega), hra]
    rfl
  rw [hol, hload]
  have hu : ∀ s more (l : Lg), l.last = first + fr.length → trimL s more l m = (if (cutL (nameB (first + fr.length)) s more m).1 ≠ 0 then ((cutL (nameB (first + fr.length)) s more m).1, l.die (cutL (nameB (first + fr.length)) s more m).1, (cutL (nameB (first + fr.length)) s more m).2) else if ((cutL (nameB (first + fr.length)) s more m).2.sync (nameB (first + fr.length))).1 ≠ 0 then (((cutL (nameB (first + fr.length)) s more m).2.sync (nameB (first + fr.length))).1, l.die ((cutL (nameB (first + fr.length)) s more m).2.sync (nameB (first + fr.length))).1, ((cutL (nameB (first + fr.length)) s more m).2.sync (nameB (first + fr.length))).2) else (0, l, ((cutL (nameB (first + fr.length)) s more m).2.sync (nameB (first + fr.length))).2)) := fun s more l hl => by
    unfold trimL
    rw [hl]
    rfl
  rw [hu _ _ _ rfl]
  have fin : ∀ m1 Z, Pre m1 cl chk first fr ⟨catL bk, Z⟩ → To m m1 0 1 → m1.dark = false → m1.count ≤ 900000 → ∃ m', m1.sync (nameB (first + fr.length)) = (0, m') ∧ Log m' cl chk first fr bk [] ∧ To m m' 0 2 := by
    intro m1 Z hp ht h1 h2
    rcases hp.sync h1 h2 with ⟨m', e, p, t⟩ | ⟨m', e, p, t⟩
    · exact ⟨m', e, ⟨by rw [List.append_nil]; exact p, sb, by rw [List.append_nil]; exact hw⟩, ht.trans t⟩
    · exact absurd (ht.left hl) t.left
  obtain ⟨yn, ys⟩ := Y
  simp only at hY
  subst hY
  by_cases hb : tear = []
  · subst hb
    have e1 : cutL (nameB (first + fr.length)) (catL bk).length (([] : List UInt8).length : Int) m = (0, m) := rfl
    rw [e1]
    have h := h
    rw [List.append_nil] at h
    obtain ⟨m', e, p, t⟩ := fin m ys h ((To.refl m).mono (Nat.le_refl _) (by omega)) hd (by omega)
    simp only [ne_eq, not_true_eq_false, if_false]
    rw [e]
    exact ⟨_, m', rfl, p, t⟩
  · have hpos : 0 < tear.length := List.length_pos_iff.2 hb
    have e1 : cutL (nameB (first + fr.length)) (catL bk).length (tear.length : Int) m = m.cut (nameB (first + fr.length)) (catL bk).length := by unfold cutL; rw [if_neg (by omega)]
    rw [e1]
    rcases h.cut hd (by omega) (catL bk).length (by simp) with ⟨m1, e, p, t⟩ | ⟨m1, e, p, t⟩
    · rw [e]
      have hYY : (⟨(catL bk ++ tear).take (catL bk).length, ys⟩ : Fl) = ⟨catL bk, ys⟩ := by rw [List.take_left' rfl]
      rw [hYY] at p
      have := t.count
      obtain ⟨m', e, p, t⟩ := fin m1 ys p t (t.lit.trans hd) (by omega)
      simp only [ne_eq, not_true_eq_false, if_false]
      rw [e]
      exact ⟨_, m', rfl, p, t⟩
    · exact absurd hl t.left
end
end Go.Proofs.YtjgdmbfkondakaaGreatDoor
